/- Sums, as facts: a move adds a charge, or takes it away; conditions: none. -/
import Derived.Test.YtdakeicfhbggeaaGreatLcm
import Derived.Test.YtdakeicfhbggeaaGreatOmor
import Derived.Test.YtdakeicfhbggeaaGreatCsx
/- Lcs: Sums, as facts: a move adds a charge, or takes it away; conditions: none. -/
namespace Go.Proofs.YtdakeicfhbggeaaGreat
namespace Lct
open Go Go.RowKit Sx Vec Ojt Scp
abbrev Tx := List UInt8
def inB (scs : List (List Trm)) (b : Bk) (o : Ob) : Bool := decide (o.s = b.1) && (decide (0 ≤ b.2) && (match scs[b.2.toNat]? with | some sc => matchS sc o.c o.tm o.bs | none => false))
def chN (o : Ob) (n : Tx) : Int := getV (chargeO o).1 n
def cnt (scs : List (List Trm)) (b : Bk) (n : Tx) : List Ob → Int
  | [] => 0
  | o :: os => (if inB scs b o = true then chN o n else 0) + cnt scs b n os
theorem cnt_app (scs : List (List Trm)) (b : Bk) (n : Tx) : ∀ (l m : List Ob), cnt scs b n (l ++ m) = cnt scs b n l + cnt scs b n m
  | [], m => by simp [cnt]
  | o :: l, m => by rw [List.cons_append, cnt, cnt, cnt_app scs b n l m]; omega
theorem charge_r {o : Ob} (hw : wfO o) (h : rightO o = true) : (chargeO o).2 = 0 ∧ rightV (chargeO o).1 = true ∧ wfV (chargeO o).1 ∧ (chargeO o).1.length ≤ 17 ∧ ∀ n, 0 ≤ chN o n ∧ chN o n ≤ 295147905179352825856 := by
  obtain ⟨x, h1, h2, h3, h4, h5⟩ := more hw h
  obtain ⟨h16, -, hall⟩ := res_all (right_res h)
  have hc : chargeO o = (x, 0) := by unfold chargeO; rw [if_pos h]; exact h1
  unfold chN
  rw [hc]
  refine ⟨rfl, h2, h3, by simp only; omega, fun n => ?_⟩
  obtain ⟨s1, s2⟩ := sum_rng n (fun r hr => ⟨(hall r hr).2, (hw.2.2.2.2.2 r hr).2.2⟩)
  have s3 : (o.rs.length : Int) * 9223372036854775807 ≤ 16 * 9223372036854775807 := Int.mul_le_mul_of_nonneg_right (by omega) (by decide)
  rw [h5 n]
  split <;> omega
theorem getS_put (L : List Su) (b : Bk) (v : List Ent) (c : Bk) : getS (putS L b v) c = if c = b then v else getS L c := by
  unfold getS putS
  by_cases h : c = b
  · subst h
    rw [if_pos rfl, List.find?_append, List.find?_eq_none.2 fun x hx => by simpa using (List.mem_filter.1 hx).2]
    simp
  · rw [if_neg h, List.find?_append, List.find?_filter]
    have e : (L.find? fun a => decide (decide (a.1 ≠ b) = true ∧ decide (a.1 = c) = true)) = L.find? fun a => decide (a.1 = c) := by
      congr 1
      funext a
      by_cases ha : a.1 = c
      · rw [decide_eq_true ha, ha]; simp [h]
      · rw [decide_eq_false ha]; simp
    rw [e]
    cases L.find? fun a => decide (a.1 = c) with
    | some x => rfl
    | none => simp [show ¬ b = c from fun e => h e.symm]
structure SemS (sp : List Tx) (L : List Su) (f : Bk → Tx → Int) : Prop where
  rt : ∀ b, rightV (getS L b) = true
  get : ∀ b n, getV (getS L b) n = f b n
  nd : (L.map (·.1)).Nodup
  ks : ∀ e ∈ L, e.1.1 ∈ sp ∧ 0 ≤ e.1.2 ∧ e.1.2 < 8
theorem vec_few {v : List Ent} (h : rightV v = true) {Ns : List Tx} (hs : ∀ n, getV v n ≠ 0 → n ∈ Ns) (hi : ∀ n, inR (getV v n) = true) (hl : Ns.length ≤ 17000) : wfV v ∧ v.length ≤ 17000 := by
  have hr := Vec.right_rise h
  have hnd : (v.map (·.1)).Nodup := List.pairwise_map.2 (hr.imp fun hab => Vec.lt_ne hab)
  have hlen : v.length ≤ Ns.length := by
    have := Mkt.nodup_le (m := Ns) hnd fun x hx => by
      obtain ⟨e, he, rfl⟩ := List.mem_map.1 hx
      exact hs _ (by rw [get_mem hr he]; exact (Vec.right_ok h he).2)
    rwa [List.length_map] at this
  refine ⟨⟨by omega, fun e he => ⟨by have := Lab.right_len (Vec.right_ok h he).1; omega, inW_of ?_⟩⟩, by omega⟩
  have := hi e.1
  rwa [get_mem hr he] at this
theorem comb_some {less : Bool} {es fs : List Ent} (hw : wfV es) (h1 : rightV es = true) (h2 : rightV fs = true) (h : ∀ m, inR (opI less (getV es m) (getV fs m)) = true) : ∃ o, combV less es fs = (o, 0) ∧ rightV o = true ∧ ∀ m, getV o m = opI less (getV es m) (getV fs m) := by
  obtain ⟨o, ho⟩ := (both_ex hw h2).2 h
  obtain ⟨q1, -, q3⟩ := both_right h1 h2 ho
  refine ⟨o, ?_, q1, q3⟩
  unfold combV
  rw [h1, h2, ho]
  rfl
theorem inB_iff {scs : List (List Trm)} {b : Bk} {o : Ob} : inB scs b o = true ↔ o.s = b.1 ∧ 0 ≤ b.2 ∧ ∃ sc, scs[b.2.toNat]? = some sc ∧ matchS sc o.c o.tm o.bs = true := by
  unfold inB
  rw [Bool.and_eq_true, Bool.and_eq_true, decide_eq_true_eq, decide_eq_true_eq]
  cases scs[b.2.toNat]? with
  | none => simp
  | some sc => simp
theorem moveS_sem {scs : List (List Trm)} (h8 : scs.length ≤ 8) {o : Ob} (hw : wfO o) (hr : rightO o = true) (less : Bool) {sp : List Tx} {L : List Su} {f : Bk → Tx → Int} {Ns : List Tx} (hS : SemS sp L f) (hsp : o.s ∈ sp) (hNs : Ns.length ≤ 17000)
    (hf : ∀ b n, f b n ≠ 0 → n ∈ Ns) (hi : ∀ b n, inR (f b n) = true) (hi2 : ∀ b n, inB scs b o = true → inR (opI less (f b n) (chN o n)) = true) :
    ∃ L', moveS scs L o less = (L', 0) ∧ SemS sp L' (fun b n => if inB scs b o = true then opI less (f b n) (chN o n) else f b n) := by
  obtain ⟨c1, c2, c3, -, -⟩ := charge_r hw hr
  have key : ∀ k i L, i + k = scs.length → SemS sp L (fun b n => if (inB scs b o && decide (b.2 < (i : Int))) = true then opI less (f b n) (chN o n) else f b n) →
      ∃ L', moveG o (chargeO o).1 less i (scs.drop i) L = (L', 0) ∧ SemS sp L' (fun b n => if (inB scs b o && decide (b.2 < (scs.length : Int))) = true then opI less (f b n) (chN o n) else f b n) := by
    intro k
    induction k with
    | zero =>
      intro i L hik hL
      obtain rfl : i = scs.length := by omega
      rw [List.drop_length]
      exact ⟨L, rfl, hL⟩
    | succ k ih =>
      intro i L hik hL
      obtain ⟨sc, hsc⟩ := getP (show i < scs.length by omega)
      have hdr : scs.drop i = sc :: scs.drop (i + 1) := by
        have := List.getElem?_eq_some_iff.1 hsc
        rw [List.drop_eq_getElem_cons this.1, this.2]
      rw [hdr]
      unfold moveG
      cases hm : matchS sc o.c o.tm o.bs
      · rw [if_pos rfl]
        refine ih (i + 1) L (by omega) ?_
        refine ⟨hL.rt, fun b n => ?_, hL.nd, hL.ks⟩
        rw [hL.get]
        have e : (inB scs b o && decide (b.2 < (i : Int))) = (inB scs b o && decide (b.2 < ((i + 1 : Nat) : Int))) := by
          cases hb : inB scs b o
          · rfl
          · obtain ⟨-, q2, sc2, q3, q4⟩ := inB_iff.1 hb
            have hne : b.2 ≠ (i : Int) := fun e => by
              rw [e, Int.toNat_natCast, hsc] at q3
              cases q3
              rw [hm] at q4
              cases q4
            rw [Bool.true_and, Bool.true_and]
            by_cases hlt : b.2 < (i : Int)
            · rw [decide_eq_true hlt, decide_eq_true (by omega)]
            · rw [decide_eq_false hlt, decide_eq_false (by omega)]
        rw [e]
      · rw [if_neg (by decide)]
        have hg := hL.get (o.s, (i : Int))
        have hIn : inB scs (o.s, (i : Int)) o = true := inB_iff.2 ⟨rfl, Int.natCast_nonneg i, sc, by rw [Int.toNat_natCast]; exact hsc, hm⟩
        have hfi : ∀ n, getV (getS L (o.s, (i : Int))) n = f (o.s, (i : Int)) n := fun n => by
          rw [hg, if_neg]
          rw [decide_eq_false (show ¬ (i : Int) < i from Int.lt_irrefl _), Bool.and_false]
          decide
        obtain ⟨wv, -⟩ := vec_few (hL.rt (o.s, (i : Int))) (Ns := Ns) (fun n hn => hf _ n (by rw [← hfi]; exact hn)) (fun n => by rw [hfi]; exact hi _ n) hNs
        obtain ⟨v, v1, v2, v3⟩ := comb_some (less := less) wv (hL.rt _) c2 (fun n => by rw [hfi]; exact hi2 _ n hIn)
        rw [v1, if_neg (fun h => h rfl)]
        refine ih (i + 1) _ (by omega) ⟨fun b => ?_, fun b n => ?_, ?_, fun e he => ?_⟩
        · rw [getS_put]
          split
          · exact v2
          · exact hL.rt b
        · rw [getS_put]
          by_cases hb : b = (o.s, (i : Int))
          · subst hb
            rw [if_pos rfl, v3, hfi, hIn, Bool.true_and, if_pos (decide_eq_true (by simp only; omega))]
            rfl
          · rw [if_neg hb, hL.get]
            have e : (inB scs b o && decide (b.2 < (i : Int))) = (inB scs b o && decide (b.2 < ((i + 1 : Nat) : Int))) := by
              cases hb2 : inB scs b o
              · rfl
              · obtain ⟨q1, q2, -⟩ := inB_iff.1 hb2
                have hne : b.2 ≠ (i : Int) := fun e => hb (by rw [q1, ← e])
                rw [Bool.true_and, Bool.true_and]
                by_cases hlt : b.2 < (i : Int)
                · rw [decide_eq_true hlt, decide_eq_true (by omega)]
                · rw [decide_eq_false hlt, decide_eq_false (by omega)]
            rw [e]
        · unfold putS
          rw [List.map_append]
          refine List.nodup_append.2 ⟨hL.nd.sublist (List.filter_sublist.map _), by simp, fun x hx y hy hxy => ?_⟩
          obtain ⟨z, hz, rfl⟩ := List.mem_map.1 hx
          rw [List.map_singleton, List.mem_singleton] at hy
          have := (List.mem_filter.1 hz).2
          rw [decide_eq_true_eq] at this
          exact this (hxy.trans hy)
        · rcases List.mem_append.1 he with he | he
          · exact hL.ks e (List.mem_filter.1 he).1
          · rw [List.mem_singleton.1 he]
            exact ⟨hsp, by simp only; omega, by simp only; omega⟩
  obtain ⟨L', h1, h2⟩ := key scs.length 0 L (by omega) ⟨hS.rt, fun b n => by
    rw [hS.get, if_neg]
    intro h
    rw [Bool.and_eq_true, decide_eq_true_eq] at h
    have := (inB_iff.1 h.1).2.1
    have h2 := h.2
    omega, hS.nd, hS.ks⟩
  rw [List.drop_zero] at h1
  refine ⟨L', ?_, h2.rt, fun b n => ?_, h2.nd, h2.ks⟩
  · unfold moveS
    rw [c1, if_neg (fun h => h rfl), h1]
    simp
  · rw [h2.get]
    have e : (inB scs b o && decide (b.2 < (scs.length : Int))) = inB scs b o := by
      cases hb : inB scs b o
      · rfl
      · obtain ⟨-, q2, sc, q3, -⟩ := inB_iff.1 hb
        have := (List.getElem?_eq_some_iff.1 q3).1
        rw [Bool.true_and, decide_eq_true (by omega)]
    rw [e]
end Lct
end Go.Proofs.YtdakeicfhbggeaaGreat
/- Lct: Sums, as facts: the deltas of a cache make of its old sums its new ones; conditions: none. -/
namespace Go.Proofs.YtdakeicfhbggeaaGreat
namespace Lct
open Go Go.RowKit Sx Vec Ojt Scp
def addB (scs : List (List Trm)) (b : Bk) (n : Tx) (o : Ob) : Int := if inB scs b o = true then chN o n else 0
theorem cnt_cons (scs : List (List Trm)) (b : Bk) (n : Tx) (o : Ob) (os : List Ob) : cnt scs b n (o :: os) = addB scs b n o + cnt scs b n os := rfl
structure FewF (Ns : List Tx) (f : Bk → Tx → Int) : Prop where
  sup : ∀ b n, f b n ≠ 0 → n ∈ Ns
  rng : ∀ b n, inR (f b n) = true
theorem SemS.congr {sp : List Tx} {L : List Su} {f g : Bk → Tx → Int} (h : SemS sp L f) (e : ∀ b n, f b n = g b n) : SemS sp L g := ⟨h.rt, fun b n => by rw [h.get, e], h.nd, h.ks⟩
theorem getS_mem {L : List Su} (hn : (L.map (·.1)).Nodup) {e : Su} (he : e ∈ L) : getS L e.1 = e.2 := by
  unfold getS
  cases hf : L.find? fun x => decide (x.1 = e.1) with
  | none =>
    rw [List.find?_eq_none] at hf
    exact absurd (decide_eq_true rfl) (hf e he)
  | some x =>
    have h1 := List.mem_of_find?_eq_some hf
    have h2 := List.find?_some hf
    rw [decide_eq_true_eq] at h2
    obtain ⟨i, hi⟩ := List.getElem?_of_mem h1
    obtain ⟨j, hj⟩ := List.getElem?_of_mem he
    have e1 : (L.map (·.1))[i]? = some e.1 := by rw [List.getElem?_map, hi]; simp [h2]
    have e2 : (L.map (·.1))[j]? = some e.1 := by rw [List.getElem?_map, hj]; rfl
    have := (List.getElem?_inj (List.getElem?_eq_some_iff.1 e1).1 hn).1 (e1.trans e2.symm)
    rw [this, hj] at hi
    cases hi
    rfl
theorem bk_len : ∀ sp : List Tx, (sp.flatMap fun s => (List.range 8).map fun i : Nat => ((s, (i : Int)) : Bk)).length = 8 * sp.length
  | [] => rfl
  | s :: sp => by rw [List.flatMap_cons, List.length_append, bk_len sp, List.length_map, List.length_range, List.length_cons]; omega
theorem nodup_leG {α : Type} [DecidableEq α] : ∀ {l m : List α}, l.Nodup → (∀ x ∈ l, x ∈ m) → l.length ≤ m.length
  | [], m, _, _ => Nat.zero_le _
  | a :: l, m, h, hs => by
    rw [List.nodup_cons] at h
    have ha := hs a List.mem_cons_self
    have h1 := nodup_leG (m := m.erase a) h.2 fun x hx => (List.mem_erase_of_ne fun e : x = a => h.1 (by rw [← e]; exact hx)).2 (hs x (List.mem_cons_of_mem _ hx))
    rw [List.length_erase_of_mem ha] at h1
    have := List.length_pos_of_mem ha
    rw [List.length_cons]
    omega
theorem SemS.small {sp : List Tx} {L : List Su} {f : Bk → Tx → Int} {Ns : List Tx} (h : SemS sp L f) (hF : FewF Ns f) (hNs : Ns.length ≤ 17000) (hsp : sp.length ≤ 5000) (hsl : ∀ s ∈ sp, s.length ≤ 100000) : Small L := by
  refine ⟨?_, fun e he => hsl _ (h.ks e he).1, fun e he => ?_⟩
  · have := nodup_leG (m := sp.flatMap fun s => (List.range 8).map fun i : Nat => ((s, (i : Int)) : Bk)) h.nd fun x hx => by
      obtain ⟨e, he, rfl⟩ := List.mem_map.1 hx
      obtain ⟨k1, k2, k3⟩ := h.ks e he
      refine List.mem_flatMap.2 ⟨e.1.1, k1, List.mem_map.2 ⟨e.1.2.toNat, List.mem_range.2 (by omega), ?_⟩⟩
      rw [Int.toNat_of_nonneg k2]
    rw [bk_len, List.length_map] at this
    omega
  · have h1 := getS_mem h.nd he
    have := vec_few (h.rt e.1) (Ns := Ns) (fun n hn => hF.sup e.1 n (by rw [← h.get]; exact hn)) (fun n => by rw [h.get]; exact hF.rng _ n) hNs
    rw [h1] at this
    exact this
structure GoodO (sp Ns : List Tx) (o : Ob) : Prop where
  wf : wfO o
  rt : rightO o = true
  sp : o.s ∈ sp
  ns : ∀ n, chN o n ≠ 0 → n ∈ Ns
theorem GoodO.add {sp Ns : List Tx} {o : Ob} (h : GoodO sp Ns o) (scs : List (List Trm)) (b : Bk) (n : Tx) : (0 ≤ addB scs b n o ∧ addB scs b n o ≤ 295147905179352825856) ∧ (addB scs b n o ≠ 0 → n ∈ Ns) := by
  obtain ⟨-, -, -, -, h5⟩ := charge_r h.wf h.rt
  unfold addB
  split
  · exact ⟨h5 n, h.ns n⟩
  · exact ⟨⟨by omega, by omega⟩, fun h => absurd rfl h⟩
theorem cnt_few {sp Ns : List Tx} (scs : List (List Trm)) (b : Bk) (n : Tx) : ∀ {os : List Ob}, (∀ o ∈ os, GoodO sp Ns o) → (0 ≤ cnt scs b n os ∧ cnt scs b n os ≤ (os.length : Int) * 295147905179352825856) ∧ (cnt scs b n os ≠ 0 → n ∈ Ns)
  | [], _ => ⟨⟨Int.le_refl _, by simp [cnt]⟩, fun h => absurd rfl h⟩
  | o :: os, h => by
    obtain ⟨⟨i1, i2⟩, i3⟩ := cnt_few scs b n (os := os) fun x hx => h x (List.mem_cons_of_mem _ hx)
    obtain ⟨⟨j1, j2⟩, j3⟩ := (h o List.mem_cons_self).add scs b n
    rw [cnt_cons, List.length_cons]
    refine ⟨⟨by omega, by rw [Int.natCast_succ, Int.add_mul]; omega⟩, fun hn => ?_⟩
    by_cases h0 : addB scs b n o = 0
    · exact i3 (by omega)
    · exact j3 h0
theorem step_sem {scs : List (List Trm)} (h8 : scs.length ≤ 8) {sp Ns : List Tx} (hNs : Ns.length ≤ 17000) (hsp : sp.length ≤ 5000) (hsl : ∀ s ∈ sp, s.length ≤ 100000) {d : Chm.PD} {L : List Su} {f f1 f2 : Bk → Tx → Int} (hS : SemS sp L f) (hold : d.had = true → GoodO sp Ns d.old.2) (hnew : d.has = true → GoodO sp Ns d.new.2)
    (hF : FewF Ns f) (hF1 : FewF Ns f1) (hF2 : FewF Ns f2) (e1 : ∀ b n, f1 b n = f b n - (if d.had = true then addB scs b n d.old.2 else 0)) (e2 : ∀ b n, f2 b n = f1 b n + (if d.has = true then addB scs b n d.new.2 else 0)) :
    ∃ L', stepP scs L d = (L', 0) ∧ SemS sp L' f2 ∧ (d.had = true → Small (moveS scs L d.old.2 true).1) := by
  have h1 : ∃ L1, (if d.had = true then moveS scs L d.old.2 true else (L, 0)) = (L1, 0) ∧ SemS sp L1 f1 := by
    by_cases hh : d.had = true
    · rw [if_pos hh]
      have ho := hold hh
      obtain ⟨L1, q1, q2⟩ := moveS_sem h8 ho.wf ho.rt true hS ho.sp hNs hF.sup hF.rng (fun b n hb => by
        have := hF1.rng b n
        rw [e1, if_pos hh] at this
        unfold addB at this
        rw [if_pos hb] at this
        exact this)
      refine ⟨L1, q1, q2.congr fun b n => ?_⟩
      rw [e1, if_pos hh]
      unfold addB
      split
      · rfl
      · omega
    · rw [if_neg hh]
      exact ⟨L, rfl, hS.congr fun b n => by rw [e1, if_neg hh]; omega⟩
  obtain ⟨L1, q1, q2⟩ := h1
  have h2 : ∃ L2, (if d.has = true then moveS scs L1 d.new.2 false else (L1, 0)) = (L2, 0) ∧ SemS sp L2 f2 := by
    by_cases hh : d.has = true
    · rw [if_pos hh]
      have ho := hnew hh
      obtain ⟨L2, r1, r2⟩ := moveS_sem h8 ho.wf ho.rt false q2 ho.sp hNs hF1.sup hF1.rng (fun b n hb => by
        have := hF2.rng b n
        rw [e2, if_pos hh] at this
        unfold addB at this
        rw [if_pos hb] at this
        exact this)
      refine ⟨L2, r1, r2.congr fun b n => ?_⟩
      rw [e2, if_pos hh]
      unfold addB
      split
      · rfl
      · omega
    · rw [if_neg hh]
      exact ⟨L1, rfl, q2.congr fun b n => by rw [e2, if_neg hh]; omega⟩
  obtain ⟨L2, r1, r2⟩ := h2
  refine ⟨L2, ?_, r2, fun hh => ?_⟩
  · unfold stepP
    rw [q1]
    simp only
    rw [if_neg (fun h => h rfl)]
    exact r1
  · rw [if_pos hh] at q1
    rw [q1]
    exact q2.small hF1 hNs hsp hsl
end Lct
end Go.Proofs.YtdakeicfhbggeaaGreat
/- Lcu: Sums, as facts: all deltas from one list of objects to another; what a load makes; conditions: none. -/
namespace Go.Proofs.YtdakeicfhbggeaaGreat
namespace Lct
open Go Go.RowKit Sx Vec Ojt Scp
structure BaseF (Ns : List Tx) (K : Nat) (f : Bk → Tx → Int) : Prop where
  sup : ∀ b n, f b n ≠ 0 → n ∈ Ns
  lo : ∀ b n, -((K : Int) * 295147905179352825856) ≤ f b n
  hi : ∀ b n, f b n ≤ (K : Int) * 295147905179352825856
theorem BaseF.zero {Ns : List Tx} : BaseF Ns 0 (fun _ _ => 0) := ⟨fun _ _ h => absurd rfl h, fun _ _ => by omega, fun _ _ => by omega⟩
theorem BaseF.few {Ns sp : List Tx} {K : Nat} {f g : Bk → Tx → Int} (h : BaseF Ns K f) (scs : List (List Trm)) {os : List Ob} (ho : ∀ o ∈ os, GoodO sp Ns o) (hl : K + os.length ≤ 200000) (hg : ∀ b n, g b n = f b n + cnt scs b n os) : FewF Ns g := by
  refine ⟨fun b n hn => ?_, fun b n => ?_⟩
  · rw [hg] at hn
    by_cases h0 : f b n = 0
    · exact (cnt_few scs b n ho).2 (by omega)
    · exact h.sup b n h0
  · obtain ⟨⟨i1, i2⟩, -⟩ := cnt_few scs b n ho
    have l1 := h.lo b n
    have l2 := h.hi b n
    rw [hg]
    unfold inR
    rw [Bool.and_eq_true, decide_eq_true_eq, decide_eq_true_eq]
    omega
theorem BaseF.more {Ns sp : List Tx} {K : Nat} {f : Bk → Tx → Int} (h : BaseF Ns K f) (scs : List (List Trm)) {o : Ob} (ho : GoodO sp Ns o) : BaseF Ns (K + 1) (fun b n => f b n + addB scs b n o) := by
  refine ⟨fun b n hn => ?_, fun b n => ?_, fun b n => ?_⟩
  · by_cases h0 : f b n = 0
    · exact (ho.add scs b n).2 (by omega)
    · exact h.sup b n h0
  · have := h.lo b n
    have := (ho.add scs b n).1
    omega
  · have := h.hi b n
    have := (ho.add scs b n).1
    omega
theorem okP_of {d : Chm.PD} (h1 : d.had = true → rightO d.old.2 = true ∧ keyB3 d.old.2 = d.key) (h2 : d.has = true → rightO d.new.2 = true ∧ keyB3 d.new.2 = d.key) : okP d = true := by
  unfold okP
  cases hh : d.had
  · cases hn : d.has
    · rfl
    · obtain ⟨q1, q2⟩ := h2 hn
      rw [q1, q2]
      simp
  · obtain ⟨q1, q2⟩ := h1 hh
    cases hn : d.has
    · rw [q1, q2]
      simp
    · obtain ⟨r1, r2⟩ := h2 hn
      rw [q1, q2, r1, r2]
      simp
theorem deltas_sem {scs : List (List Trm)} (h8 : scs.length ≤ 8) {sp Ns : List Tx} (hNs : Ns.length ≤ 17000) (hsp : sp.length ≤ 5000) (hsl : ∀ s ∈ sp, s.length ≤ 100000) :
    ∀ (m : Nat) (a b : List Ob) (ds : List Chm.PD) (L : List Su) (base : Bk → Tx → Int) (K : Nat), a.length + b.length ≤ m → ds.map Chm.deD = Chm.dlO a b → (∀ o ∈ a, GoodO sp Ns o) → (∀ o ∈ b, GoodO sp Ns o) → BaseF Ns K base → K + a.length + b.length ≤ 100000 →
      SemS sp L (fun bk n => base bk n + cnt scs bk n a) →
      ∃ L', applyG scs ds L = (L', 0) ∧ SemS sp L' (fun bk n => base bk n + cnt scs bk n b) ∧ SmallA scs ds L ∧ ds.all okP = true := by
  have one : ∀ {d : Chm.PD} {ds : List Chm.PD} {L : List Su} {f f1 f2 g : Bk → Tx → Int}, SemS sp L f → (d.had = true → GoodO sp Ns d.old.2) → (d.has = true → GoodO sp Ns d.new.2) → FewF Ns f → FewF Ns f1 → FewF Ns f2 →
      (∀ b n, f1 b n = f b n - (if d.had = true then addB scs b n d.old.2 else 0)) → (∀ b n, f2 b n = f1 b n + (if d.has = true then addB scs b n d.new.2 else 0)) → okP d = true →
      (∀ L1, SemS sp L1 f2 → ∃ L', applyG scs ds L1 = (L', 0) ∧ SemS sp L' g ∧ SmallA scs ds L1 ∧ ds.all okP = true) →
      ∃ L', applyG scs (d :: ds) L = (L', 0) ∧ SemS sp L' g ∧ SmallA scs (d :: ds) L ∧ (d :: ds).all okP = true := by
    intro d ds L f f1 f2 g hS ho hn hF hF1 hF2 e1 e2 hok next
    obtain ⟨L1, q1, q2, q3⟩ := step_sem h8 hNs hsp hsl hS ho hn hF hF1 hF2 e1 e2
    obtain ⟨L', r1, r2, r3, r4⟩ := next L1 q2
    refine ⟨L', ?_, r2, ⟨hS.small hF hNs hsp hsl, q3, by rw [q1]; exact q2.small hF2 hNs hsp hsl, by rw [q1]; exact r3⟩, by rw [List.all_cons, hok, r4]; rfl⟩
    unfold applyG
    rw [q1, if_neg (fun h => h rfl)]
    exact r1
  intro m
  induction m with
  | zero =>
    intro a b ds L base K hm hds ha hb hB hK hS
    obtain rfl : a = [] := List.eq_nil_of_length_eq_zero (by omega)
    obtain rfl : b = [] := List.eq_nil_of_length_eq_zero (by omega)
    rw [Chm.dlO, List.map_eq_nil_iff] at hds
    subst hds
    exact ⟨L, rfl, hS, hS.small (hB.few scs ha (by simp; omega) fun _ _ => rfl) hNs hsp hsl, rfl⟩
  | succ m ih =>
    intro a b ds L base K hm hds ha hb hB hK hS
    have gone : ∀ (x : Ob) (a' : List Ob), a = x :: a' → (∃ (d : Chm.PD) (ds' : List Chm.PD), ds = d :: ds' ∧ Chm.deD d = ⟨Chm.keyO x, true, false, x, Chm.zO⟩ ∧ ds'.map Chm.deD = Chm.dlO a' b) → ∃ L', applyG scs ds L = (L', 0) ∧ SemS sp L' (fun bk n => base bk n + cnt scs bk n b) ∧ SmallA scs ds L ∧ ds.all okP = true := by
      rintro x a' rfl ⟨d, ds', rfl, hd, hds'⟩
      rw [List.length_cons] at hm hK
      have hx := ha x List.mem_cons_self
      have ha' := fun o ho => ha o (List.mem_cons_of_mem x ho)
      obtain ⟨key, had, has, ⟨vo, old⟩, ⟨vn, new⟩⟩ := d
      simp only [Chm.deD, Chm.De.mk.injEq] at hd
      obtain ⟨rfl, rfl, rfl, rfl, -⟩ := hd
      refine one (f1 := fun bk n => base bk n + cnt scs bk n a') (f2 := fun bk n => base bk n + cnt scs bk n a') hS (fun _ => hx) (fun h => by cases h) (hB.few scs ha (by rw [List.length_cons]; omega) fun _ _ => rfl) (hB.few scs ha' (by omega) fun _ _ => rfl) (hB.few scs ha' (by omega) fun _ _ => rfl) (fun bk n => by show base bk n + cnt scs bk n a' = base bk n + cnt scs bk n (old :: a') - addB scs bk n old; rw [cnt_cons]; omega) (fun bk n => by show base bk n + cnt scs bk n a' = base bk n + cnt scs bk n a' + 0; omega) (okP_of (fun _ => ⟨hx.rt, rfl⟩) fun h => by cases h) fun L1 h1 => ih a' b ds' L1 base K (by omega) hds' ha' hb hB (by omega) h1
    have came : ∀ (y : Ob) (b' : List Ob), b = y :: b' → (∃ (d : Chm.PD) (ds' : List Chm.PD), ds = d :: ds' ∧ Chm.deD d = ⟨Chm.keyO y, false, true, Chm.zO, y⟩ ∧ ds'.map Chm.deD = Chm.dlO a b') → ∃ L', applyG scs ds L = (L', 0) ∧ SemS sp L' (fun bk n => base bk n + cnt scs bk n b) ∧ SmallA scs ds L ∧ ds.all okP = true := by
      rintro y b' rfl ⟨d, ds', rfl, hd, hds'⟩
      rw [List.length_cons] at hm hK
      have hy := hb y List.mem_cons_self
      have hb' := fun o ho => hb o (List.mem_cons_of_mem y ho)
      obtain ⟨key, had, has, ⟨vo, old⟩, ⟨vn, new⟩⟩ := d
      simp only [Chm.deD, Chm.De.mk.injEq] at hd
      obtain ⟨rfl, rfl, rfl, -, rfl⟩ := hd
      have hBm := hB.more scs hy
      refine one (f1 := fun bk n => base bk n + cnt scs bk n a) (f2 := fun bk n => (base bk n + addB scs bk n new) + cnt scs bk n a) hS (fun h => by cases h) (fun _ => hy) (hB.few scs ha (by omega) fun _ _ => rfl) (hB.few scs ha (by omega) fun _ _ => rfl) (hBm.few scs ha (by omega) fun _ _ => rfl) (fun bk n => by show base bk n + cnt scs bk n a = base bk n + cnt scs bk n a - 0; omega) (fun bk n => by show base bk n + addB scs bk n new + cnt scs bk n a = base bk n + cnt scs bk n a + addB scs bk n new; omega) (okP_of (fun h => by cases h) fun _ => ⟨hy.rt, rfl⟩) fun L1 h1 => ?_
      obtain ⟨L', r1, r2, r3⟩ := ih a b' ds' L1 _ (K + 1) (by omega) hds' ha hb' hBm (by omega) h1
      exact ⟨L', r1, r2.congr fun bk n => by rw [cnt_cons]; omega, r3⟩
    match a, b, hds, hm, hK, ha, hb, hS, gone, came with
    | [], [], hds, hm, hK, ha, hb, hS, _, _ =>
      rw [Chm.dlO, List.map_eq_nil_iff] at hds
      subst hds
      exact ⟨L, rfl, hS, hS.small (hB.few scs ha (by simp; omega) fun _ _ => rfl) hNs hsp hsl, rfl⟩
    | x :: a', [], hds, _, _, _, _, _, gone, _ =>
      rw [Chm.dlO] at hds
      obtain ⟨d, ds', h1, h2, h3⟩ := List.map_eq_cons_iff.1 hds
      exact gone _ _ rfl ⟨d, ds', h1, h2, h3⟩
    | [], y :: b', hds, _, _, _, _, _, _, came =>
      rw [Chm.dlO] at hds
      obtain ⟨d, ds', h1, h2, h3⟩ := List.map_eq_cons_iff.1 hds
      exact came _ _ rfl ⟨d, ds', h1, h2, h3⟩
    | x :: a', y :: b', hds, hm, hK, ha, hb, hS, gone, came =>
      rw [Chm.dlO] at hds
      by_cases c1 : Evt.lessO x y = true
      · rw [if_pos c1] at hds
        obtain ⟨d, ds', h1, h2, h3⟩ := List.map_eq_cons_iff.1 hds
        exact gone _ _ rfl ⟨d, ds', h1, h2, h3⟩
      rw [if_neg c1] at hds
      by_cases c2 : Evt.lessO y x = true
      · rw [if_pos c2] at hds
        obtain ⟨d, ds', h1, h2, h3⟩ := List.map_eq_cons_iff.1 hds
        exact came _ _ rfl ⟨d, ds', h1, h2, h3⟩
      rw [if_neg c2] at hds
      rw [List.length_cons, List.length_cons] at hm hK
      have hx := ha x List.mem_cons_self
      have hy := hb y List.mem_cons_self
      have ha' := fun o ho => ha o (List.mem_cons_of_mem x ho)
      have hb' := fun o ho => hb o (List.mem_cons_of_mem y ho)
      have hBm := hB.more scs hy
      by_cases c3 : x = y
      · rw [if_pos c3] at hds
        subst c3
        obtain ⟨L', r1, r2, r3⟩ := ih a' b' ds L _ (K + 1) (by omega) hds ha' hb' hBm (by omega) (hS.congr fun bk n => by rw [cnt_cons]; omega)
        exact ⟨L', r1, r2.congr fun bk n => by rw [cnt_cons]; omega, r3⟩
      · rw [if_neg c3] at hds
        obtain ⟨d, ds', rfl, hd, hds'⟩ := List.map_eq_cons_iff.1 hds
        have hkey : Chm.keyO x = Chm.keyO y := Chm.lessK_total (Chm.right_keyR hx.rt) (Chm.right_keyR hy.rt) ((Bool.not_eq_true _).mp c1) ((Bool.not_eq_true _).mp c2)
        obtain ⟨key, had, has, ⟨vo, old⟩, ⟨vn, new⟩⟩ := d
        simp only [Chm.deD, Chm.De.mk.injEq] at hd
        obtain ⟨rfl, rfl, rfl, rfl, rfl⟩ := hd
        refine one (f1 := fun bk n => base bk n + cnt scs bk n a') (f2 := fun bk n => (base bk n + addB scs bk n new) + cnt scs bk n a') hS (fun _ => hx) (fun _ => hy) (hB.few scs ha (by rw [List.length_cons]; omega) fun _ _ => rfl) (hB.few scs ha' (by omega) fun _ _ => rfl) (hBm.few scs ha' (by omega) fun _ _ => rfl) (fun bk n => by show base bk n + cnt scs bk n a' = base bk n + cnt scs bk n (old :: a') - addB scs bk n old; rw [cnt_cons]; omega) (fun bk n => by show base bk n + addB scs bk n new + cnt scs bk n a' = base bk n + cnt scs bk n a' + addB scs bk n new; omega) (okP_of (fun _ => ⟨hx.rt, rfl⟩) fun _ => ⟨hy.rt, hkey.symm⟩) fun L1 h1 => ?_
        obtain ⟨L', r1, r2, r3⟩ := ih a' b' ds' L1 _ (K + 1) (by omega) hds' ha' hb' hBm (by omega) h1
        exact ⟨L', r1, r2.congr fun bk n => by rw [cnt_cons]; omega, r3⟩
theorem load_sem {scs : List (List Trm)} (h8 : scs.length ≤ 8) {sp Ns : List Tx} (hNs : Ns.length ≤ 17000) (hsp : sp.length ≤ 5000) (hsl : ∀ s ∈ sp, s.length ≤ 100000) :
    ∀ (os : List Ob) (L : List Su) (base : Bk → Tx → Int) (K : Nat), (∀ o ∈ os, GoodO sp Ns o) → BaseF Ns K base → K + os.length ≤ 100000 → SemS sp L base → ∃ L', loadG scs os L = (L', 0) ∧ SemS sp L' (fun bk n => base bk n + cnt scs bk n os) ∧ SmallL scs os L
  | [], L, base, K, ho, hB, hK, hS => ⟨L, rfl, hS.congr fun bk n => by simp [cnt], hS.small (hB.few scs (sp := sp) (os := []) (fun o h => by cases h) (by simp; simp at hK; omega) fun bk n => by simp [cnt]) hNs hsp hsl⟩
  | o :: os, L, base, K, ho, hB, hK, hS => by
    rw [List.length_cons] at hK
    have hx := ho o List.mem_cons_self
    have ho' := fun q hq => ho q (List.mem_cons_of_mem o hq)
    have hBm := hB.more scs hx
    have hF := hB.few scs (sp := sp) (os := []) (fun o h => by cases h) (by simp; omega) (g := base) fun bk n => by simp [cnt]
    have hF1 := hBm.few scs (sp := sp) (os := []) (fun o h => by cases h) (by simp; omega) (g := fun b n => base b n + addB scs b n o) fun bk n => by simp [cnt]
    obtain ⟨L1, q1, q2⟩ := moveS_sem h8 hx.wf hx.rt false hS hx.sp hNs hF.sup hF.rng (fun b n hb => by
      have := hF1.rng b n
      unfold addB at this
      simp only [if_pos hb] at this
      exact this)
    have q3 : SemS sp L1 (fun b n => base b n + addB scs b n o) := q2.congr fun b n => by
      unfold addB
      split
      · rfl
      · omega
    obtain ⟨L', r1, r2, r3⟩ := load_sem h8 hNs hsp hsl os L1 _ (K + 1) ho' hBm (by omega) q3
    refine ⟨L', ?_, r2.congr fun bk n => by rw [cnt_cons]; omega, hS.small hF hNs hsp hsl, by rw [q1]; exact r3⟩
    unfold loadG
    rw [q1, if_neg (fun h => h rfl)]
    exact r1
end Lct
end Go.Proofs.YtdakeicfhbggeaaGreat
/- Lcv: Sums, as facts: the same sums, the same spaces; a sum that is made one by one; conditions: none. -/
namespace Go.Proofs.YtdakeicfhbggeaaGreat
namespace Lct
open Go Go.RowKit Sx Vec Ojt Scp
theorem vec_ext {u v : List Ent} (hu : rightV u = true) (hv : rightV v = true) (h : ∀ n, getV u n = getV v n) : u = v :=
  rise_ext (Vec.right_rise hu) (Vec.right_rise hv) (fun _ he => (Vec.right_ok hu he).2) (fun _ he => (Vec.right_ok hv he).2) h
theorem spaces_fold : ∀ (L : List Su) (out : List Tx) (s : Tx), s ∈ L.foldl (fun out e => if 0 < e.2.length then Mkt.markL out e.1.1 else out) out ↔ s ∈ out ∨ ∃ e ∈ L, e.1.1 = s ∧ 0 < e.2.length
  | [], out, s => by simp
  | e :: L, out, s => by
    rw [List.foldl_cons, spaces_fold L]
    by_cases h : 0 < e.2.length
    · rw [if_pos h, Mkt.mark_mem]
      constructor
      · rintro ((rfl | h1) | ⟨x, hx, h2⟩)
        · exact .inr ⟨e, List.mem_cons_self, rfl, h⟩
        · exact .inl h1
        · exact .inr ⟨x, List.mem_cons_of_mem _ hx, h2⟩
      · rintro (h1 | ⟨x, hx, h2, h3⟩)
        · exact .inl (.inr h1)
        · rcases List.mem_cons.1 hx with rfl | hx
          · exact .inl (.inl h2.symm)
          · exact .inr ⟨x, hx, h2, h3⟩
    · rw [if_neg h]
      constructor
      · rintro (h1 | ⟨x, hx, h2⟩)
        · exact .inl h1
        · exact .inr ⟨x, List.mem_cons_of_mem _ hx, h2⟩
      · rintro (h1 | ⟨x, hx, h2, h3⟩)
        · exact .inl h1
        · rcases List.mem_cons.1 hx with rfl | hx
          · exact absurd h3 h
          · exact .inr ⟨x, hx, h2, h3⟩
theorem spaces_rise : ∀ (L : List Su) {out : List Tx}, Mkt.RiseN out → Mkt.RiseN (L.foldl (fun out e => if 0 < e.2.length then Mkt.markL out e.1.1 else out) out)
  | [], _, h => h
  | e :: L, out, h => by
    rw [List.foldl_cons]
    refine spaces_rise L ?_
    split
    · exact Mkt.mark_rise h _
    · exact h
theorem riseN_ext : ∀ {l m : List Tx}, Mkt.RiseN l → Mkt.RiseN m → (∀ s, s ∈ l ↔ s ∈ m) → l = m
  | [], [], _, _, _ => rfl
  | [], b :: m, _, _, h => absurd ((h b).2 List.mem_cons_self) (by simp)
  | a :: l, [], _, _, h => absurd ((h a).1 List.mem_cons_self) (by simp)
  | a :: l, b :: m, hl, hm, h => by
    have hl2 := List.pairwise_cons.1 hl
    have hm2 := List.pairwise_cons.1 hm
    have hab : a = b := by
      rcases List.mem_cons.1 ((h a).1 List.mem_cons_self) with e | h1
      · exact e
      · rcases List.mem_cons.1 ((h b).2 List.mem_cons_self) with e | h2
        · exact e.symm
        · have q1 := hm2.1 a h1
          have q2 := hl2.1 b h2
          rw [Bord.bl_asymm _ _ q1] at q2
          cases q2
    subst hab
    have na : a ∉ l := fun ha => by have := hl2.1 a ha; rw [Bord.bl_irrefl] at this; cases this
    have nb : a ∉ m := fun ha => by have := hm2.1 a ha; rw [Bord.bl_irrefl] at this; cases this
    rw [riseN_ext hl2.2 hm2.2 fun s => ⟨fun hs => by
      rcases List.mem_cons.1 ((h s).1 (List.mem_cons_of_mem _ hs)) with rfl | h1
      · exact absurd hs na
      · exact h1, fun hs => by
      rcases List.mem_cons.1 ((h s).2 (List.mem_cons_of_mem _ hs)) with rfl | h1
      · exact absurd hs nb
      · exact h1⟩]
theorem SemS.spaces_iff {sp : List Tx} {L : List Su} {f : Bk → Tx → Int} (h : SemS sp L f) (s : Tx) : s ∈ spacesS L ↔ ∃ i n, f (s, i) n ≠ 0 := by
  unfold spacesS
  rw [spaces_fold]
  constructor
  · rintro (h1 | ⟨e, he, rfl, hl⟩)
    · cases h1
    · obtain ⟨x, hx⟩ := List.exists_mem_of_length_pos hl
      have hg := getS_mem h.nd he
      have hr := h.rt e.1
      rw [hg] at hr
      refine ⟨e.1.2, x.1, ?_⟩
      have h2 := h.get e.1 x.1
      rw [hg, get_mem (Vec.right_rise hr) hx] at h2
      rw [← h2]
      exact (Vec.right_ok hr hx).2
  · rintro ⟨i, n, hn⟩
    rw [← h.get] at hn
    obtain ⟨x, hx, -, -⟩ := get_some hn
    refine .inr ?_
    unfold getS at hx
    cases hf : L.find? fun e => decide (e.1 = (s, i)) with
    | none => rw [hf] at hx; cases hx
    | some e =>
      rw [hf] at hx
      have h2 := List.find?_some hf
      rw [decide_eq_true_eq] at h2
      exact ⟨e, List.mem_of_find?_eq_some hf, by rw [h2], List.length_pos_of_mem hx⟩
theorem SemS.spaces {sp sp' : List Tx} {L M : List Su} {f : Bk → Tx → Int} (h : SemS sp L f) (g : SemS sp' M f) : spacesS L = spacesS M := by
  refine riseN_ext (spaces_rise L List.Pairwise.nil) (spaces_rise M List.Pairwise.nil) fun s => ?_
  have h1 := h.spaces_iff s
  have h2 := g.spaces_iff s
  exact h1.trans h2.symm
theorem cnt_some {scs : List (List Trm)} {b : Bk} {n : Tx} : ∀ {os : List Ob}, cnt scs b n os ≠ 0 → ∃ o ∈ os, o.s = b.1
  | [], h => absurd rfl h
  | o :: os, h => by
    rw [cnt_cons] at h
    by_cases h0 : addB scs b n o = 0
    · obtain ⟨x, hx, e⟩ := cnt_some (os := os) (by omega : cnt scs b n os ≠ 0)
      exact ⟨x, List.mem_cons_of_mem _ hx, e⟩
    · unfold addB at h0
      split at h0
      · rename_i hb
        exact ⟨o, List.mem_cons_self, (inB_iff.1 hb).1⟩
      · exact absurd rfl h0
theorem SemS.spaces_le {sp : List Tx} {scs : List (List Trm)} {L : List Su} {os : List Ob} (h : SemS sp L (fun b n => cnt scs b n os)) : (spacesS L).length ≤ os.length := by
  have := Mkt.nodup_le (m := os.map (·.s)) (Mkt.rise_nodup (spaces_rise L List.Pairwise.nil)) fun s hs => by
    obtain ⟨i, n, hn⟩ := (h.spaces_iff s).1 hs
    obtain ⟨o, ho, e⟩ := cnt_some hn
    exact List.mem_map.2 ⟨o, ho, e⟩
  rwa [List.length_map] at this
structure PartV (scs : List (List Trm)) (b : Bk) (os : List Ob) (v : List Ent) : Prop where
  rt : rightV v = true
  get : ∀ n, getV v n = cnt scs b n os
theorem PartV.nil {scs : List (List Trm)} {b : Bk} : PartV scs b [] [] := ⟨rfl, fun _ => rfl⟩
theorem PartV.wf {scs : List (List Trm)} {b : Bk} {sp Ns : List Tx} {os : List Ob} {v : List Ent} (h : PartV scs b os v) (ho : ∀ o ∈ os, GoodO sp Ns o) (hl : os.length ≤ 100000) (hNs : Ns.length ≤ 17000) : wfV v ∧ v.length ≤ 17000 := by
  have hF := (BaseF.zero (Ns := Ns)).few scs ho (by omega) (g := fun b n => cnt scs b n os) fun b n => by omega
  exact vec_few h.rt (Ns := Ns) (fun n hn => hF.sup b n (by rw [← h.get]; exact hn)) (fun n => by rw [h.get]; exact hF.rng b n) hNs
theorem PartV.skip {scs : List (List Trm)} {b : Bk} {os : List Ob} {v : List Ent} {o : Ob} (h : PartV scs b os v) (hb : inB scs b o = false) : PartV scs b (os ++ [o]) v := ⟨h.rt, fun n => by
  rw [h.get, cnt_app, cnt_cons]
  unfold addB
  rw [if_neg (by rw [hb]; decide)]
  simp [cnt]⟩
theorem PartV.add {scs : List (List Trm)} {b : Bk} {sp Ns : List Tx} {os : List Ob} {v : List Ent} {o : Ob} (h : PartV scs b os v) (ho : ∀ o ∈ os, GoodO sp Ns o) (hx : GoodO sp Ns o) (hl : os.length + 1 ≤ 100000) (hNs : Ns.length ≤ 17000) (hb : inB scs b o = true) :
    ∃ v', combV false v (chargeO o).1 = (v', 0) ∧ PartV scs b (os ++ [o]) v' := by
  obtain ⟨-, c2, c3, -, -⟩ := charge_r hx.wf hx.rt
  have hw := (h.wf ho (by omega) hNs).1
  have hF := (BaseF.zero (Ns := Ns)).few scs (os := os ++ [o]) (fun q hq => by
    rcases List.mem_append.1 hq with hq | hq
    · exact ho q hq
    · rw [List.mem_singleton.1 hq]; exact hx) (by rw [List.length_append, List.length_singleton]; omega) (g := fun b n => cnt scs b n (os ++ [o])) fun b n => by omega
  have e : ∀ n, cnt scs b n (os ++ [o]) = opI false (getV v n) (getV (chargeO o).1 n) := fun n => by
    rw [cnt_app, cnt_cons, h.get]
    unfold addB
    rw [if_pos hb]
    show _ = _ + chN o n
    simp [cnt]
  obtain ⟨v', q1, q2, q3⟩ := comb_some (less := false) hw h.rt c2 fun m => by rw [← e]; exact hF.rng b m
  exact ⟨v', q1, q2, fun n => by rw [q3, ← e]⟩
theorem PartV.is {scs : List (List Trm)} {b : Bk} {sp : List Tx} {L : List Su} {os : List Ob} {v : List Ent} (h : PartV scs b os v) (g : SemS sp L (fun b n => cnt scs b n os)) : getS L b = v := vec_ext (g.rt b) h.rt fun n => by rw [g.get, h.get]
end Lct
end Go.Proofs.YtdakeicfhbggeaaGreat
/- Lcx: How many objects a cache has behind so many events; whose charges they are; conditions: none. -/
namespace Go.Proofs.YtdakeicfhbggeaaGreat
namespace Lct
open Go Go.RowKit Sx Vec Ojt Scp
theorem own_le {l m ex : List Ob} (hl : Chm.Own l) (h : ∀ o ∈ l, o ∈ m ∨ Chm.keyO o ∈ ex.map Chm.keyO) : l.length ≤ m.length + ex.length := by
  have := nodup_leG (l := l.map Chm.keyO) (m := m.map Chm.keyO ++ ex.map Chm.keyO) (List.pairwise_map.2 hl) fun k hk => by
    obtain ⟨o, ho, rfl⟩ := List.mem_map.1 hk
    rcases h o ho with h1 | h1
    · exact List.mem_append_left _ (List.mem_map.2 ⟨o, h1, rfl⟩)
    · exact List.mem_append_right _ h1
  rwa [List.length_append, List.length_map, List.length_map, List.length_map] at this
structure BndC (k : Nat) (st : Chm.St) : Prop where
  os : st.os.length ≤ 60 + k
  up : (st.os.filter fun o => decide (st.fl < o.ver)).length ≤ k
theorem BndC.new : BndC 0 .new := ⟨Nat.zero_le _, Nat.le_refl _⟩
theorem rlO_mem {st : Chm.St} {o : Ob} : ∀ {qs out : List Ob}, o ∈ qs.foldl (Chm.rlStep st) out → o ∈ qs ∨ o ∈ out
  | [], out, h => .inr h
  | q :: qs, out, h => by
    rw [List.foldl_cons] at h
    rcases rlO_mem (qs := qs) h with h1 | h1
    · exact .inl (List.mem_cons_of_mem _ h1)
    · unfold Chm.rlStep at h1
      split at h1
      · rcases Chm.wiO_mem.1 h1 with h2 | h2
        · exact .inr h2.1
        · exact .inl (by rw [h2]; exact List.mem_cons_self)
      · exact .inr h1
theorem nx_mem {st : Chm.St} {kind : Int} {o : Ob} {ver : Int} {qs : List Ob} {x : Ob} (h : x ∈ (Chm.nxO st kind o ver qs).os) : x ∈ st.os ∨ x = o ∨ x ∈ qs := by
  unfold Chm.nxO at h
  split at h
  · rcases Chm.wiO_mem.1 h with h1 | h1
    · exact .inl h1.1
    · exact .inr (.inl h1)
  · split at h
    · exact .inl (Chm.woO_mem.1 h).1
    · split at h
      · rcases rlO_mem h with h1 | h1
        · exact .inr (.inr h1)
        · exact .inl (List.mem_filter.1 h1).1
      · exact .inl h
theorem BndC.next {k : Nat} {st : Chm.St} (hB : BndC k st) (hf : Chm.Fine st) {kind : Int} {o : Ob} {ver : Int} {qs : List Ob} (hq : qs.length ≤ 60) : BndC (k + 1) (Chm.apO st kind o ver qs).2.2 := by
  have hup := hB.up
  have hos := hB.os
  rcases Chm.ap_cases st kind o ver qs with ⟨-, -, h3⟩ | ⟨-, hr, hlow, -, h5⟩
  · rw [h3]
    exact ⟨by omega, by omega⟩
  rw [h5]
  have hfn := (Chm.nxO_fine hf hr).os.own
  have hf0 := hf.os.own
  have h0 := Chm.vers_is hr
  have hlo : Chm.lowO st kind o = if kind = 0 ∨ kind = 1 then Chm.knO st (Chm.keyO o) else st.fl := rfl
  have hk := Chm.right_kind hr
  unfold Chm.nxO at hfn ⊢
  by_cases k0 : kind = 0
  · rw [if_pos k0] at hfn ⊢
    have q1 := own_le (m := st.os) (ex := [o]) hfn fun x hx => by
      rcases Chm.wiO_mem.1 hx with h1 | h1
      · exact .inl h1.1
      · exact .inr (by rw [h1]; exact List.mem_cons_self)
    have q2 := own_le (m := st.os.filter fun o => decide (st.fl < o.ver)) (ex := [o]) (hfn.filter (p := fun o => decide (st.fl < o.ver))) fun x hx => by
      obtain ⟨h1, h2⟩ := List.mem_filter.1 hx
      rcases Chm.wiO_mem.1 h1 with h1 | h1
      · exact .inl (List.mem_filter.2 ⟨h1.1, h2⟩)
      · exact .inr (by rw [h1]; exact List.mem_cons_self)
    rw [List.length_singleton] at q1 q2
    exact ⟨by simp only at q1 ⊢; omega, by simp only at q2 ⊢; omega⟩
  rw [if_neg k0] at hfn ⊢
  by_cases k1 : kind = 1
  · rw [if_pos k1] at hfn ⊢
    have q1 := own_le (m := st.os) (ex := []) hfn fun x hx => .inl (Chm.woO_mem.1 hx).1
    have q2 := own_le (m := st.os.filter fun o => decide (st.fl < o.ver)) (ex := []) (hfn.filter (p := fun o => decide (st.fl < o.ver))) fun x hx => by
      obtain ⟨h1, h2⟩ := List.mem_filter.1 hx
      exact .inl (List.mem_filter.2 ⟨(Chm.woO_mem.1 h1).1, h2⟩)
    rw [List.length_nil] at q1 q2
    exact ⟨by simp only at q1 ⊢; omega, by simp only at q2 ⊢; omega⟩
  rw [if_neg k1] at hfn ⊢
  rw [hlo, if_neg (by omega), h0, if_neg (by omega)] at hlow
  by_cases k2 : kind = 2
  · rw [if_pos k2] at hfn ⊢
    subst k2
    obtain ⟨-, hv, -⟩ := Chm.right_rel hr
    have q1 := own_le (m := st.os.filter fun o => decide (st.fl < o.ver)) (ex := qs) hfn fun x hx => by
      rcases rlO_mem hx with h1 | h1
      · exact .inr (List.mem_map.2 ⟨x, h1, rfl⟩)
      · obtain ⟨h1, h2⟩ := List.mem_filter.1 h1
        rw [Bool.or_eq_true, decide_eq_true_eq] at h2
        rcases h2 with h2 | h2
        · obtain ⟨y, hy, e⟩ := Chm.hasO_iff.1 h2
          exact .inr (List.mem_map.2 ⟨y, hy, e⟩)
        · exact .inl (List.mem_filter.2 ⟨h1, decide_eq_true (by omega)⟩)
    have q2 := own_le (m := st.os.filter fun o => decide (st.fl < o.ver)) (ex := []) (hfn.filter (p := fun o => decide (ver < o.ver))) fun x hx => by
      obtain ⟨h1, h2⟩ := List.mem_filter.1 hx
      rw [decide_eq_true_eq] at h2
      rcases rlO_mem h1 with h3 | h3
      · have := hv x h3
        omega
      · exact .inl (List.mem_filter.2 ⟨(List.mem_filter.1 h3).1, decide_eq_true (by omega)⟩)
    rw [List.length_nil] at q2
    exact ⟨by simp only at q1 ⊢; omega, by simp only at q2 ⊢; omega⟩
  · rw [if_neg k2] at hfn ⊢
    have q2 := own_le (m := st.os.filter fun o => decide (st.fl < o.ver)) (ex := []) (hf0.filter (p := fun o => decide (ver < o.ver))) fun x hx => by
      obtain ⟨h1, h2⟩ := List.mem_filter.1 hx
      rw [decide_eq_true_eq] at h2
      exact .inl (List.mem_filter.2 ⟨h1, decide_eq_true (by omega)⟩)
    rw [List.length_nil] at q2
    exact ⟨by simp only; omega, by simp only at q2 ⊢; omega⟩
def namesO (os : List Ob) : List Tx := os.flatMap fun o => (chargeO o).1.map (·.1)
theorem names_len : ∀ {os : List Ob}, (∀ o ∈ os, wfO o) → (namesO os).length ≤ 17 * os.length
  | [], _ => Nat.le_refl _
  | o :: os, h => by
    have h1 := names_len (os := os) fun x hx => h x (List.mem_cons_of_mem _ hx)
    have h2 := (charge_wf (h o List.mem_cons_self)).2
    unfold namesO at h1 ⊢
    rw [List.flatMap_cons, List.length_append, List.length_map, List.length_cons]
    omega
theorem good_of {sp : List Tx} {os ps : List Ob} (hs : ∀ o ∈ os, o ∈ ps) (hw : ∀ o ∈ os, wfO o) (hr : ∀ o ∈ os, rightO o = true) (hsp : ∀ o ∈ os, o.s ∈ sp) : ∀ o ∈ os, GoodO sp (namesO ps) o := fun o ho =>
  ⟨hw o ho, hr o ho, hsp o ho, fun n hn => by
    obtain ⟨e, he, h1, -⟩ := get_some hn
    exact List.mem_flatMap.2 ⟨o, hs o ho, List.mem_map.2 ⟨e, he, h1⟩⟩⟩
end Lct
end Go.Proofs.YtdakeicfhbggeaaGreat
/- Lcy: An event, its deltas, and the sums behind them, as facts; conditions: none. -/
namespace Go.Proofs.YtdakeicfhbggeaaGreat
namespace Lct
open Go Go.RowKit Sx Vec Ojt Scp
theorem dlO_el (a b : List Ob) : ∀ d ∈ Chm.dlO a b, (d.old ∈ a ∨ d.old = Chm.zO) ∧ (d.new ∈ b ∨ d.new = Chm.zO) := by
  induction a, b using Chm.dlO.induct with
  | case1 => intro d hd; rw [Chm.dlO] at hd; cases hd
  | case2 x a ih =>
    intro d hd
    rw [Chm.dlO] at hd
    rcases List.mem_cons.1 hd with rfl | hd
    · exact ⟨.inl List.mem_cons_self, .inr rfl⟩
    · exact ⟨(ih d hd).1.imp_left (List.mem_cons_of_mem _), (ih d hd).2⟩
  | case3 y b ih =>
    intro d hd
    rw [Chm.dlO] at hd
    rcases List.mem_cons.1 hd with rfl | hd
    · exact ⟨.inr rfl, .inl List.mem_cons_self⟩
    · exact ⟨(ih d hd).1, (ih d hd).2.imp_left (List.mem_cons_of_mem _)⟩
  | case4 x a y b h ih =>
    intro d hd
    rw [Chm.dlO, if_pos h] at hd
    rcases List.mem_cons.1 hd with rfl | hd
    · exact ⟨.inl List.mem_cons_self, .inr rfl⟩
    · exact ⟨(ih d hd).1.imp_left (List.mem_cons_of_mem _), (ih d hd).2⟩
  | case5 x a y b h h2 ih =>
    intro d hd
    rw [Chm.dlO, if_neg h, if_pos h2] at hd
    rcases List.mem_cons.1 hd with rfl | hd
    · exact ⟨.inr rfl, .inl List.mem_cons_self⟩
    · exact ⟨(ih d hd).1, (ih d hd).2.imp_left (List.mem_cons_of_mem _)⟩
  | case6 a y b h h2 ih =>
    intro d hd
    rw [Chm.dlO, if_neg h, if_neg h2, if_pos rfl] at hd
    exact ⟨(ih d hd).1.imp_left (List.mem_cons_of_mem _), (ih d hd).2.imp_left (List.mem_cons_of_mem _)⟩
  | case7 x a y b h h2 h3 ih =>
    intro d hd
    rw [Chm.dlO, if_neg h, if_neg h2, if_neg h3] at hd
    rcases List.mem_cons.1 hd with rfl | hd
    · exact ⟨.inl List.mem_cons_self, .inl List.mem_cons_self⟩
    · exact ⟨(ih d hd).1.imp_left (List.mem_cons_of_mem _), (ih d hd).2.imp_left (List.mem_cons_of_mem _)⟩
theorem dlO_le (a b : List Ob) : (Chm.dlO a b).length ≤ a.length + b.length := by
  induction a, b using Chm.dlO.induct with
  | case1 => rw [Chm.dlO]; exact Nat.le_refl _
  | case2 x a ih => rw [Chm.dlO]; simp only [List.length_cons] at *; omega
  | case3 y b ih => rw [Chm.dlO]; simp only [List.length_cons] at *; omega
  | case4 x a y b h ih => rw [Chm.dlO, if_pos h]; simp only [List.length_cons] at *; omega
  | case5 x a y b h h2 ih => rw [Chm.dlO, if_neg h, if_pos h2]; simp only [List.length_cons] at *; omega
  | case6 a y b h h2 ih => rw [Chm.dlO, if_neg h, if_neg h2, if_pos rfl]; simp only [List.length_cons] at *; omega
  | case7 x a y b h h2 h3 ih => rw [Chm.dlO, if_neg h, if_neg h2, if_neg h3]; simp only [List.length_cons] at *; omega
theorem wf_zO : wfO Chm.zO := ⟨Nat.zero_le _, Nat.zero_le _, Nat.zero_le _, Nat.zero_le _, Nat.zero_le _, fun r hr => by cases hr⟩
def InS (sp : List Tx) (o : Ob) : Prop := wfO o ∧ o.s ∈ sp
theorem ev_sem {scs : List (List Trm)} (h8 : scs.length ≤ 8) {sp : List Tx} (hsp : sp.length ≤ 5000) (hsl : ∀ s ∈ sp, s.length ≤ 100000) {st : Chm.St} (hf : Chm.Fine st) {k : Nat} (hB : BndC k st) (hk : k < 60) (hos : ∀ o ∈ st.os, InS sp o)
    {kind : Int} {o : Ob} {ver : Int} {qs : List Ob} (hq : qs.length ≤ 60) (ho : InS sp o) (hqs : ∀ q ∈ qs, InS sp q) {L : List Su} (hS : SemS sp L (fun b n => cnt scs b n st.os)) {ps : List Chm.PD} (hps : ps.map Chm.deD = (Chm.apO st kind o ver qs).2.1) :
    ∃ L', applyS scs L ps = (L', diffS L L', 0) ∧ SemS sp L' (fun b n => cnt scs b n (Chm.apO st kind o ver qs).2.2.os) ∧ SmallA scs ps L ∧ (∀ d ∈ ps, wfO d.old.2 ∧ wfO d.new.2) ∧ (∀ x ∈ (Chm.apO st kind o ver qs).2.2.os, InS sp x) ∧ ps.length ≤ 1000 := by
  have hB2 := hB.next hf (kind := kind) (o := o) (ver := ver) hq
  have hf2 := Chm.ap_fine (kind := kind) (o := o) (ver := ver) (qs := qs) hf
  have hall : ∀ {Ns : List Tx} {L' : List Su}, applyG scs ps L = (L', 0) → ps.all okP = true → applyS scs L ps = (L', diffS L L', 0) := fun h1 h2 => by
    unfold applyS
    rw [if_pos h2, h1]
    simp
  rcases Chm.ap_cases st kind o ver qs with ⟨-, h2, h3⟩ | ⟨-, hr, -, h4, h5⟩
  · rw [h2] at hps
    have e := List.map_eq_nil_iff.1 hps
    subst e
    rw [h3]
    have g0 := good_of (sp := sp) (os := st.os) (ps := st.os) (fun _ h => h) (fun o h => (hos o h).1) hf.os.2 fun o h => (hos o h).2
    have hN := names_len (os := st.os) fun o h => (hos o h).1
    have hl := hB.os
    exact ⟨L, hall (Ns := []) rfl rfl, hS, hS.small ((BaseF.zero (Ns := namesO st.os)).few scs g0 (by omega) fun b n => by omega) (by omega) hsp hsl, (fun d h => by cases h), hos, Nat.zero_le _⟩
  · rw [h4] at hps
    rw [h5] at hB2 hf2 ⊢
    have hos2 : ∀ x ∈ (Chm.nxO st kind o ver qs).os, InS sp x := fun x hx => by
      rcases nx_mem hx with h | rfl | h
      · exact hos x h
      · exact ho
      · exact hqs x h
    have hl1 := hB.os
    have hl2 := hB2.os
    generalize hA : st.os = A at *
    generalize hC : (Chm.nxO st kind o ver qs).os = C at *
    have hN := names_len (os := A ++ C) fun o h => by
      rcases List.mem_append.1 h with h | h
      · exact (hos o h).1
      · exact (hos2 o h).1
    rw [List.length_append] at hN
    have hra : ∀ o ∈ A, rightO o = true := by rw [← hA]; exact hf.os.2
    have hrc : ∀ o ∈ C, rightO o = true := by rw [← hC]; exact hf2.os.2
    have gA := good_of (sp := sp) (os := A) (ps := A ++ C) (fun _ h => List.mem_append_left _ h) (fun o h => (hos o h).1) hra fun o h => (hos o h).2
    have gC := good_of (sp := sp) (os := C) (ps := A ++ C) (fun _ h => List.mem_append_right _ h) (fun o h => (hos2 o h).1) hrc fun o h => (hos2 o h).2
    obtain ⟨L', q1, q2, q3, q4⟩ := deltas_sem h8 (Ns := namesO (A ++ C)) (by omega) hsp hsl _ A C ps L (fun _ _ => 0) 0 (Nat.le_refl _) hps gA gC BaseF.zero (by omega) (hS.congr fun b n => by omega)
    have hln : ps.length ≤ 1000 := by
      have h1 := congrArg List.length hps
      have h2 := dlO_le A C
      rw [List.length_map] at h1
      omega
    refine ⟨L', hall (Ns := []) q1 q4, q2.congr fun b n => by omega, q3, fun d hd => ?_, hos2, hln⟩
    obtain ⟨e1, e2⟩ := dlO_el A C (Chm.deD d) (by rw [← hps]; exact List.mem_map.2 ⟨d, hd, rfl⟩)
    constructor
    · rcases e1 with e | e
      · exact (hos _ e).1
      · rw [show d.old.2 = Chm.zO from e]; exact wf_zO
    · rcases e2 with e | e
      · exact (hos2 _ e).1
      · rw [show d.new.2 = Chm.zO from e]; exact wf_zO
end Lct
end Go.Proofs.YtdakeicfhbggeaaGreat
