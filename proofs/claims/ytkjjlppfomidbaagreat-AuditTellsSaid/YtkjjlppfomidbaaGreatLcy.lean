/- Sums, as facts: a move adds a charge, or takes it away; conditions: none. -/
import Derived.Test.YtkjjlppfomidbaaGreatLcm
import Derived.Test.YtkjjlppfomidbaaGreatOmor
import Derived.Test.YtkjjlppfomidbaaGreatCsv
/- Lcs: Sums, as facts: a move adds a charge, or takes it away; conditions: none. -/
namespace Go.Proofs.YtkjjlppfomidbaaGreat
namespace Lct
open Go Go.RowKit Sx Vec Ojt Scp
abbrev Tx := List UInt8
def inB (scs : List (List Trm)) (b : Bk) (o : Ob) : Bool := decide (o.s = b.1) && (decide (0 ≤ b.2) && (match scs[b.2.toNat]? with | some sc => matchS sc o.c o.tm o.bs | none => false))
def chN (o : Ob) (n : Tx) : Int := getV (chargeO o).1 n
def cnt (scs : List (List Trm)) (b : Bk) (n : Tx) : List Ob → Int
  | [] => 0
  | o :: os => (if inB scs b o = true then chN o n else 0) + cnt scs b n os
theorem charge_r {o : Ob} (hw : wfO o) (h : rightO o = true) : (chargeO o).2 = 0 ∧ rightV (chargeO o).1 = true ∧ wfV (chargeO o).1 ∧ (chargeO o).1.length ≤ 17 ∧ ∀ n, 0 ≤ chN o n ∧ chN o n ≤ 295147905179352825856 := by
  obtain ⟨x, h1, h2, h3, h4, h5⟩ := more hw h
  obtain ⟨h16, -, hall⟩ := res_all (right_res h)
  have hc : chargeO o = (x, 0) := by unfold chargeO; rw [if_pos h]; exact h1
  unfold chN
  rw [hc]
  refine ⟨rfl, h2, h3, by simp only; omega, fun n => ?_⟩
  obtain ⟨s1, s2⟩ := sum_rng n (fun r hr => ⟨(hall r hr).2, (hw.2.2.2.2.2 r hr).2.2⟩)
  have s3 : (o.rs.length : Int) * 9223372036854775807 ≤ 16 * 9223372036854775807 := Int.mul_le_mul_of_nonneg_right (by omega) (by decide)
  rw [h5 n]
  split <;> omega
theorem getS_put (L : List Su) (b : Bk) (v : List Ent) (c : Bk) : getS (putS L b v) c = if c = b then v else getS L c := by
  unfold getS putS
  by_cases h : c = b
  · subst h
    rw [if_pos rfl, List.find?_append, List.find?_eq_none.2 fun x hx => by simpa using (List.mem_filter.1 hx).2]
    simp
  · rw [if_neg h, List.find?_append, List.find?_filter]
    have e : (L.find? fun a => decide (decide (a.1 ≠ b) = true ∧ decide (a.1 = c) = true)) = L.find? fun a => decide (a.1 = c) := by
      congr 1
      funext a
      by_cases ha : a.1 = c
      · rw [decide_eq_true ha, ha]; simp [h]
      · rw [decide_eq_false ha]; simp
    rw [e]
    cases L.find? fun a => decide (a.1 = c) with
    | some x => rfl
    | none => simp [show ¬ b = c from fun e => h e.symm]
structure SemS (sp : List Tx) (L : List Su) (f : Bk → Tx → Int) : Prop where
  rt : ∀ b, rightV (getS L b) = true
  get : ∀ b n, getV (getS L b) n = f b n
  nd : (L.map (·.1)).Nodup
  ks : ∀ e ∈ L, e.1.1 ∈ sp ∧ 0 ≤ e.1.2 ∧ e.1.2 < 8
theorem vec_few {v : List Ent} (h : rightV v = true) {Ns : List Tx} (hs : ∀ n, getV v n ≠ 0 → n ∈ Ns) (hi : ∀ n, inR (getV v n) = true) (hl : Ns.length ≤ 17000) : wfV v ∧ v.length ≤ 17000 := by
  have hr := Vec.right_rise h
  have hnd : (v.map (·.1)).Nodup := List.pairwise_map.2 (hr.imp fun hab => Vec.lt_ne hab)
  have hlen : v.length ≤ Ns.length := by
    have := Mkt.nodup_le (m := Ns) hnd fun x hx => by
      obtain ⟨e, he, rfl⟩ := List.mem_map.1 hx
      exact hs _ (by rw [get_mem hr he]; exact (Vec.right_ok h he).2)
    rwa [List.length_map] at this
  refine ⟨⟨by omega, fun e he => ⟨by have := Lab.right_len (Vec.right_ok h he).1; omega, inW_of ?_⟩⟩, by omega⟩
  have := hi e.1
  rwa [get_mem hr he] at this
theorem comb_some {less : Bool} {es fs : List Ent} (hw : wfV es) (h1 : rightV es = true) (h2 : rightV fs = true) (h : ∀ m, inR (opI less (getV es m) (getV fs m)) = true) : ∃ o, combV less es fs = (o, 0) ∧ rightV o = true ∧ ∀ m, getV o m = opI less (getV es m) (getV fs m) := by
  obtain ⟨o, ho⟩ := (both_ex hw h2).2 h
  obtain ⟨q1, -, q3⟩ := both_right h1 h2 ho
  refine ⟨o, ?_, q1, q3⟩
  unfold combV
  rw [h1, h2, ho]
  rfl
theorem inB_iff {scs : List (List Trm)} {b : Bk} {o : Ob} : inB scs b o = true ↔ o.s = b.1 ∧ 0 ≤ b.2 ∧ ∃ sc, scs[b.2.toNat]? = some sc ∧ matchS sc o.c o.tm o.bs = true := by
  unfold inB
  rw [Bool.and_eq_true, Bool.and_eq_true, decide_eq_true_eq, decide_eq_true_eq]
  cases scs[b.2.toNat]? with
  | none => simp
  | some sc => simp
theorem moveS_sem {scs : List (List Trm)} (h8 : scs.length ≤ 8) {o : Ob} (hw : wfO o) (hr : rightO o = true) (less : Bool) {sp : List Tx} {L : List Su} {f : Bk → Tx → Int} {Ns : List Tx} (hS : SemS sp L f) (hsp : o.s ∈ sp) (hNs : Ns.length ≤ 17000)
    (hf : ∀ b n, f b n ≠ 0 → n ∈ Ns) (hi : ∀ b n, inR (f b n) = true) (hi2 : ∀ b n, inB scs b o = true → inR (opI less (f b n) (chN o n)) = true) :
    ∃ L', moveS scs L o less = (L', 0) ∧ SemS sp L' (fun b n => if inB scs b o = true then opI less (f b n) (chN o n) else f b n) := by
  obtain ⟨c1, c2, c3, -, -⟩ := charge_r hw hr
  have key : ∀ k i L, i + k = scs.length → SemS sp L (fun b n => if (inB scs b o && decide (b.2 < (i : Int))) = true then opI less (f b n) (chN o n) else f b n) →
      ∃ L', moveG o (chargeO o).1 less i (scs.drop i) L = (L', 0) ∧ SemS sp L' (fun b n => if (inB scs b o && decide (b.2 < (scs.length : Int))) = true then opI less (f b n) (chN o n) else f b n) := by
    intro k
    induction k with
    | zero =>
      intro i L hik hL
      obtain rfl : i = scs.length := by omega
      rw [List.drop_length]
      exact ⟨L, rfl, hL⟩
    | succ k ih =>
      intro i L hik hL
      obtain ⟨sc, hsc⟩ := getP (show i < scs.length by omega)
      have hdr : scs.drop i = sc :: scs.drop (i + 1) := by
        have := List.getElem?_eq_some_iff.1 hsc
        rw [List.drop_eq_getElem_cons this.1, this.2]
      rw [hdr]
      unfold moveG
      cases hm : matchS sc o.c o.tm o.bs
      · rw [if_pos rfl]
        refine ih (i + 1) L (by omega) ?_
        refine ⟨hL.rt, fun b n => ?_, hL.nd, hL.ks⟩
        rw [hL.get]
        have e : (inB scs b o && decide (b.2 < (i : Int))) = (inB scs b o && decide (b.2 < ((i + 1 : Nat) : Int))) := by
          cases hb : inB scs b o
          · rfl
          · obtain ⟨-, q2, sc2, q3, q4⟩ := inB_iff.1 hb
            have hne : b.2 ≠ (i : Int) := fun e => by
              rw [e, Int.toNat_natCast, hsc] at q3
              cases q3
              rw [hm] at q4
              cases q4
            rw [Bool.true_and, Bool.true_and]
            by_cases hlt : b.2 < (i : Int)
            · rw [decide_eq_true hlt, decide_eq_true (by omega)]
            · rw [decide_eq_false hlt, decide_eq_false (by omega)]
        rw [e]
      · rw [if_neg (by decide)]
        have hg := hL.get (o.s, (i : Int))
        have hIn : inB scs (o.s, (i : Int)) o = true := inB_iff.2 ⟨rfl, Int.natCast_nonneg i, sc, by rw [Int.toNat_natCast]; exact hsc, hm⟩
        have hfi : ∀ n, getV (getS L (o.s, (i : Int))) n = f (o.s, (i : Int)) n := fun n => by
          rw [hg, if_neg]
          rw [decide_eq_false (show ¬ (i : Int) < i from Int.lt_irrefl _), Bool.and_false]
          decide
        obtain ⟨wv, -⟩ := vec_few (hL.rt (o.s, (i : Int))) (Ns := Ns) (fun n hn => hf _ n (by rw [← hfi]; exact hn)) (fun n => by rw [hfi]; exact hi _ n) hNs
        obtain ⟨v, v1, v2, v3⟩ := comb_some (less := less) wv (hL.rt _) c2 (fun n => by rw [hfi]; exact hi2 _ n hIn)
        rw [v1, if_neg (fun h => h rfl)]
        refine ih (i + 1) _ (by omega) ⟨fun b => ?_, fun b n => ?_, ?_, fun e he => ?_⟩
        · rw [getS_put]
          split
          · exact v2
          · exact hL.rt b
        · rw [getS_put]
          by_cases hb : b = (o.s, (i : Int))
          · subst hb
            rw [if_pos rfl, v3, hfi, hIn, Bool.true_and, if_pos (decide_eq_true (by simp only; omega))]
            rfl
          · rw [if_neg hb, hL.get]
            have e : (inB scs b o && decide (b.2 < (i : Int))) = (inB scs b o && decide (b.2 < ((i + 1 : Nat) : Int))) := by
              cases hb2 : inB scs b o
              · rfl
              · obtain ⟨q1, q2, -⟩ := inB_iff.1 hb2
                have hne : b.2 ≠ (i : Int) := fun e => hb (by rw [q1, ← e])
                rw [Bool.true_and, Bool.true_and]
                by_cases hlt : b.2 < (i : Int)
                · rw [decide_eq_true hlt, decide_eq_true (by omega)]
                · rw [decide_eq_false hlt, decide_eq_false (by omega)]
            rw [e]
        · unfold putS
          rw [List.map_append]
          refine List.nodup_append.2 ⟨hL.nd.sublist (List.filter_sublist.map _), by simp, fun x hx y hy hxy => ?_⟩
          obtain ⟨z, hz, rfl⟩ := List.mem_map.1 hx
          rw [List.map_singleton, List.mem_singleton] at hy
          have := (List.mem_filter.1 hz).2
          rw [decide_eq_true_eq] at this
          exact this (hxy.trans hy)
        · rcases List.mem_append.1 he with he | he
          · exact hL.ks e (List.mem_filter.1 he).1
          · rw [List.mem_singleton.1 he]
            exact ⟨hsp, by simp only; omega, by simp only; omega⟩
  obtain ⟨L', h1, h2⟩ := key scs.length 0 L (by omega) ⟨hS.rt, fun b n => by
    rw [hS.get, if_neg]
    intro h
    rw [Bool.and_eq_true, decide_eq_true_eq] at h
    have := (inB_iff.1 h.1).2.1
    have h2 := h.2
    omega, hS.nd, hS.ks⟩
  rw [List.drop_zero] at h1
  refine ⟨L', ?_, h2.rt, fun b n => ?_, h2.nd, h2.ks⟩
  · unfold moveS
    rw [c1, if_neg (fun h => h rfl), h1]
    simp
  · rw [h2.get]
    have e : (inB scs b o && decide (b.2 < (scs.length : Int))) = inB scs b o := by
      cases hb : inB scs b o
      · rfl
      · obtain ⟨-, q2, sc, q3, -⟩ := inB_iff.1 hb
        have := (List.getElem?_eq_some_iff.1 q3).1
        rw [Bool.true_and, decide_eq_true (by omega)]
    rw [e]
end Lct
end Go.Proofs.YtkjjlppfomidbaaGreat
/- Lct: Sums, as facts: the deltas of a cache make of its old sums its new ones; conditions: none. -/
namespace Go.Proofs.YtkjjlppfomidbaaGreat
namespace Lct
open Go Go.RowKit Sx Vec Ojt Scp
def addB (scs : List (List Trm)) (b : Bk) (n : Tx) (o : Ob) : Int := if inB scs b o = true then chN o n else 0
theorem cnt_cons (scs : List (List Trm)) (b : Bk) (n : Tx) (o : Ob) (os : List Ob) : cnt scs b n (o :: os) = addB scs b n o + cnt scs b n os := rfl
structure FewF (Ns : List Tx) (f : Bk → Tx → Int) : Prop where
  sup : ∀ b n, f b n ≠ 0 → n ∈ Ns
  rng : ∀ b n, inR (f b n) = true
theorem SemS.congr {sp : List Tx} {L : List Su} {f g : Bk → Tx → Int} (h : SemS sp L f) (e : ∀ b n, f b n = g b n) : SemS sp L g := ⟨h.rt, fun b n => by rw [h.get, e], h.nd, h.ks⟩
theorem getS_mem {L : List Su} (hn : (L.map (·.1)).Nodup) {e : Su} (he : e ∈ L) : getS L e.1 = e.2 := by
  unfold getS
  cases hf : L.find? fun x => decide (x.1 = e.1) with
  | none =>
    rw [List.find?_eq_none] at hf
    exact absurd (decide_eq_true rfl) (hf e he)
  | some x =>
    have h1 := List.mem_of_find?_eq_some hf
    have h2 := List.find?_some hf
    rw [decide_eq_true_eq] at h2
    obtain ⟨i, hi⟩ := List.getElem?_of_mem h1
    obtain ⟨j, hj⟩ := List.getElem?_of_mem he
    have e1 : (L.map (·.1))[i]? = some e.1 := by rw [List.getElem?_map, hi]; simp [h2]
    have e2 : (L.map (·.1))[j]? = some e.1 := by rw [List.getElem?_map, hj]; rfl
    have := (List.getElem?_inj (List.getElem?_eq_some_iff.1 e1).1 hn).1 (e1.trans e2.symm)
    rw [this, hj] at hi
    cases hi
    rfl
theorem bk_len : ∀ sp : List Tx, (sp.flatMap fun s => (List.range 8).map fun i : Nat => ((s, (i : Int)) : Bk)).length = 8 * sp.length
  | [] => rfl
  | s :: sp => by rw [List.flatMap_cons, List.length_append, bk_len sp, List.length_map, List.length_range, List.length_cons]; omega
theorem nodup_leG {α : Type} [DecidableEq α] : ∀ {l m : List α}, l.Nodup → (∀ x ∈ l, x ∈ m) → l.length ≤ m.length
  | [], m, _, _ => Nat.zero_le _
  | a :: l, m, h, hs => by
    rw [List.nodup_cons] at h
    have ha := hs a List.mem_cons_self
    have h1 := nodup_leG (m := m.erase a) h.2 fun x hx => (List.mem_erase_of_ne fun e : x = a => h.1 (by rw [← e]; exact hx)).2 (hs x (List.mem_cons_of_mem _ hx))
    rw [List.length_erase_of_mem ha] at h1
    have := List.length_pos_of_mem ha
    rw [List.length_cons]
    omega
theorem SemS.small {sp : List Tx} {L : List Su} {f : Bk → Tx → Int} {Ns : List Tx} (h : SemS sp L f) (hF : FewF Ns f) (hNs : Ns.length ≤ 17000) (hsp : sp.length ≤ 5000) (hsl : ∀ s ∈ sp, s.length ≤ 100000) : Small L := by
  refine ⟨?_, fun e he => hsl _ (h.ks e he).1, fun e he => ?_⟩
  · have := nodup_leG (m := sp.flatMap fun s => (List.range 8).map fun i : Nat => ((s, (i : Int)) : Bk)) h.nd fun x hx => by
      obtain ⟨e, he, rfl⟩ := List.mem_map.1 hx
      obtain ⟨k1, k2, k3⟩ := h.ks e he
      refine List.mem_flatMap.2 ⟨e.1.1, k1, List.mem_map.2 ⟨e.1.2.toNat, List.mem_range.2 (by omega), ?_⟩⟩
      rw [Int.toNat_of_nonneg k2]
    rw [bk_len, List.length_map] at this
    omega
  · have h1 := getS_mem h.nd he
    have := vec_few (h.rt e.1) (Ns := Ns) (fun n hn => hF.sup e.1 n (by rw [← h.get]; exact hn)) (fun n => by rw [h.get]; exact hF.rng _ n) hNs
    rw [h1] at this
    exact this
structure GoodO (sp Ns : List Tx) (o : Ob) : Prop where
  wf : wfO o
  rt : rightO o = true
  sp : o.s ∈ sp
  ns : ∀ n, chN o n ≠ 0 → n ∈ Ns
theorem GoodO.add {sp Ns : List Tx} {o : Ob} (h : GoodO sp Ns o) (scs : List (List Trm)) (b : Bk) (n : Tx) : (0 ≤ addB scs b n o ∧ addB scs b n o ≤ 295147905179352825856) ∧ (addB scs b n o ≠ 0 → n ∈ Ns) := by
  obtain ⟨-, -, -, -, h5⟩ := charge_r h.wf h.rt
  unfold addB
  split
  · exact ⟨h5 n, h.ns n⟩
  · exact ⟨⟨by omega, by omega⟩, fun h => absurd rfl h⟩
theorem cnt_few {sp Ns : List Tx} (scs : List (List Trm)) (b : Bk) (n : Tx) : ∀ {os : List Ob}, (∀ o ∈ os, GoodO sp Ns o) → (0 ≤ cnt scs b n os ∧ cnt scs b n os ≤ (os.length : Int) * 295147905179352825856) ∧ (cnt scs b n os ≠ 0 → n ∈ Ns)
  | [], _ => ⟨⟨Int.le_refl _, by simp [cnt]⟩, fun h => absurd rfl h⟩
  | o :: os, h => by
    obtain ⟨⟨i1, i2⟩, i3⟩ := cnt_few scs b n (os := os) fun x hx => h x (List.mem_cons_of_mem _ hx)
    obtain ⟨⟨j1, j2⟩, j3⟩ := (h o List.mem_cons_self).add scs b n
    rw [cnt_cons, List.length_cons]
    refine ⟨⟨by omega, by rw [Int.natCast_succ, Int.add_mul]; omega⟩, fun hn => ?_⟩
    by_cases h0 : addB scs b n o = 0
    · exact i3 (by omega)
    · exact j3 h0
end Lct
end Go.Proofs.YtkjjlppfomidbaaGreat
/- Lcu: Sums, as facts: all deltas from one list of objects to another; what a load makes; conditions: none. -/
namespace Go.Proofs.YtkjjlppfomidbaaGreat
namespace Lct
open Go Go.RowKit Sx Vec Ojt Scp
structure BaseF (Ns : List Tx) (K : Nat) (f : Bk → Tx → Int) : Prop where
  sup : ∀ b n, f b n ≠ 0 → n ∈ Ns
  lo : ∀ b n, -((K : Int) * 295147905179352825856) ≤ f b n
  hi : ∀ b n, f b n ≤ (K : Int) * 295147905179352825856
theorem BaseF.zero {Ns : List Tx} : BaseF Ns 0 (fun _ _ => 0) := ⟨fun _ _ h => absurd rfl h, fun _ _ => by omega, fun _ _ => by omega⟩
theorem BaseF.few {Ns sp : List Tx} {K : Nat} {f g : Bk → Tx → Int} (h : BaseF Ns K f) (scs : List (List Trm)) {os : List Ob} (ho : ∀ o ∈ os, GoodO sp Ns o) (hl : K + os.length ≤ 200000) (hg : ∀ b n, g b n = f b n + cnt scs b n os) : FewF Ns g := by
  refine ⟨fun b n hn => ?_, fun b n => ?_⟩
  · rw [hg] at hn
    by_cases h0 : f b n = 0
    · exact (cnt_few scs b n ho).2 (by omega)
    · exact h.sup b n h0
  · obtain ⟨⟨i1, i2⟩, -⟩ := cnt_few scs b n ho
    have l1 := h.lo b n
    have l2 := h.hi b n
    rw [hg]
    unfold inR
    rw [Bool.and_eq_true, decide_eq_true_eq, decide_eq_true_eq]
    omega
theorem BaseF.more {Ns sp : List Tx} {K : Nat} {f : Bk → Tx → Int} (h : BaseF Ns K f) (scs : List (List Trm)) {o : Ob} (ho : GoodO sp Ns o) : BaseF Ns (K + 1) (fun b n => f b n + addB scs b n o) := by
  refine ⟨fun b n hn => ?_, fun b n => ?_, fun b n => ?_⟩
  · by_cases h0 : f b n = 0
    · exact (ho.add scs b n).2 (by omega)
    · exact h.sup b n h0
  · have := h.lo b n
    have := (ho.add scs b n).1
    omega
  · have := h.hi b n
    have := (ho.add scs b n).1
    omega
theorem load_sem {scs : List (List Trm)} (h8 : scs.length ≤ 8) {sp Ns : List Tx} (hNs : Ns.length ≤ 17000) (hsp : sp.length ≤ 5000) (hsl : ∀ s ∈ sp, s.length ≤ 100000) :
    ∀ (os : List Ob) (L : List Su) (base : Bk → Tx → Int) (K : Nat), (∀ o ∈ os, GoodO sp Ns o) → BaseF Ns K base → K + os.length ≤ 100000 → SemS sp L base → ∃ L', loadG scs os L = (L', 0) ∧ SemS sp L' (fun bk n => base bk n + cnt scs bk n os) ∧ SmallL scs os L
  | [], L, base, K, ho, hB, hK, hS => ⟨L, rfl, hS.congr fun bk n => by simp [cnt], hS.small (hB.few scs (sp := sp) (os := []) (fun o h => by cases h) (by simp; simp at hK; omega) fun bk n => by simp [cnt]) hNs hsp hsl⟩
  | o :: os, L, base, K, ho, hB, hK, hS => by
    rw [List.length_cons] at hK
    have hx := ho o List.mem_cons_self
    have ho' := fun q hq => ho q (List.mem_cons_of_mem o hq)
    have hBm := hB.more scs hx
    have hF := hB.few scs (sp := sp) (os := []) (fun o h => by cases h) (by simp; omega) (g := base) fun bk n => by simp [cnt]
    have hF1 := hBm.few scs (sp := sp) (os := []) (fun o h => by cases h) (by simp; omega) (g := fun b n => base b n + addB scs b n o) fun bk n => by simp [cnt]
    obtain ⟨L1, q1, q2⟩ := moveS_sem h8 hx.wf hx.rt false hS hx.sp hNs hF.sup hF.rng (fun b n hb => by
      have := hF1.rng b n
      unfold addB at this
      simp only [if_pos hb] at this
      exact this)
    have q3 : SemS sp L1 (fun b n => base b n + addB scs b n o) := q2.congr fun b n => by
      unfold addB
      split
      · rfl
      · omega
    obtain ⟨L', r1, r2, r3⟩ := load_sem h8 hNs hsp hsl os L1 _ (K + 1) ho' hBm (by omega) q3
    refine ⟨L', ?_, r2.congr fun bk n => by rw [cnt_cons]; omega, hS.small hF hNs hsp hsl, by rw [q1]; exact r3⟩
    unfold loadG
    rw [q1, if_neg (fun h => h rfl)]
    exact r1
end Lct
end Go.Proofs.YtkjjlppfomidbaaGreat
/- Lcv: Sums, as facts: the same sums, the same spaces; a sum that is made one by one; conditions: none. -/
namespace Go.Proofs.YtkjjlppfomidbaaGreat
namespace Lct
open Go Go.RowKit Sx Vec Ojt Scp
theorem vec_ext {u v : List Ent} (hu : rightV u = true) (hv : rightV v = true) (h : ∀ n, getV u n = getV v n) : u = v :=
  rise_ext (Vec.right_rise hu) (Vec.right_rise hv) (fun _ he => (Vec.right_ok hu he).2) (fun _ he => (Vec.right_ok hv he).2) h
end Lct
end Go.Proofs.YtkjjlppfomidbaaGreat
/- Lcx: How many objects a cache has behind so many events; whose charges they are; conditions: none. -/
namespace Go.Proofs.YtkjjlppfomidbaaGreat
namespace Lct
open Go Go.RowKit Sx Vec Ojt Scp
def namesO (os : List Ob) : List Tx := os.flatMap fun o => (chargeO o).1.map (·.1)
theorem names_len : ∀ {os : List Ob}, (∀ o ∈ os, wfO o) → (namesO os).length ≤ 17 * os.length
  | [], _ => Nat.le_refl _
  | o :: os, h => by
    have h1 := names_len (os := os) fun x hx => h x (List.mem_cons_of_mem _ hx)
    have h2 := (charge_wf (h o List.mem_cons_self)).2
    unfold namesO at h1 ⊢
    rw [List.flatMap_cons, List.length_append, List.length_map, List.length_cons]
    omega
theorem good_of {sp : List Tx} {os ps : List Ob} (hs : ∀ o ∈ os, o ∈ ps) (hw : ∀ o ∈ os, wfO o) (hr : ∀ o ∈ os, rightO o = true) (hsp : ∀ o ∈ os, o.s ∈ sp) : ∀ o ∈ os, GoodO sp (namesO ps) o := fun o ho =>
  ⟨hw o ho, hr o ho, hsp o ho, fun n hn => by
    obtain ⟨e, he, h1, -⟩ := get_some hn
    exact List.mem_flatMap.2 ⟨o, hs o ho, List.mem_map.2 ⟨e, he, h1⟩⟩⟩
end Lct
end Go.Proofs.YtkjjlppfomidbaaGreat
/- Lcy: An event, its deltas, and the sums behind them, as facts; conditions: none. -/
namespace Go.Proofs.YtkjjlppfomidbaaGreat
namespace Lct
open Go Go.RowKit Sx Vec Ojt Scp
theorem wf_zO : wfO Chm.zO := ⟨Nat.zero_le _, Nat.zero_le _, Nat.zero_le _, Nat.zero_le _, Nat.zero_le _, fun r hr => by cases hr⟩
end Lct
end Go.Proofs.YtkjjlppfomidbaaGreat
