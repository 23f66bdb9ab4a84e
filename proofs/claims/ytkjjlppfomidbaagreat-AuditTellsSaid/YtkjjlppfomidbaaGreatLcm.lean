/- The document's answer for layer 13: Load; conditions: at most 900 objects. -/
import Derived.Test.YtkjjlppfomidbaaGreatLcd
import Derived.Test.YtkjjlppfomidbaaGreatEvs
import Derived.Test.YtkjjlppfomidbaaGreatChd
/- Lce: The document's answer for layer 13: Load; conditions: at most 900 objects. -/
namespace Go.Proofs.YtkjjlppfomidbaaGreat
namespace Lct
open Go Go.RowKit Sx Vec Ojt Scp
attribute [local irreducible] Go.Calls
def loadG (scs : List (List Trm)) : List Ob → List Su → List Su × Int
  | [], out => (out, 0)
  | o :: os, out => if (moveS scs out o false).2 ≠ 0 then ([], (moveS scs out o false).2) else loadG scs os (moveS scs out o false).1
def loadS (scs : List (List Trm)) (os : List Ob) : List Su × Int := if os.all rightO = true then loadG scs os [] else ([], 1)
theorem moveG_bnd {o : Ob} {c : List Ent} {less : Bool} (hs : o.s.length ≤ 100000) (hc : wfV c) (hc17 : c.length ≤ 17) : ∀ (scs : List (List Trm)) (k i : Nat) (L : List Su), k ≤ 1000 → i + scs.length ≤ 20 → BndI k i L → BndI k (i + scs.length) (moveG o c less i scs L).1
  | [], k, i, L, _, _, h => h
  | sc :: rest, k, i, L, hk, hi, h => by
    rw [List.length_cons] at hi ⊢
    unfold moveG
    have e : i + (rest.length + 1) = (i + 1) + rest.length := by omega
    have up : ∀ {j m : Nat} {M : List Su}, BndI k j M → BndI k (j + m) M := fun {j m M} hM => by
      induction m with
      | zero => exact hM
      | succ m ih => exact ih.skip
    split
    · rw [e]; exact moveG_bnd hs hc hc17 rest k (i + 1) L hk (by omega) h.skip
    · split
      · exact up h
      · rw [e]
        have w5 := h.get o.s
        obtain ⟨xw, xl⟩ := wf_comb (less := less) w5.1 hc (by omega) (by omega)
        exact moveG_bnd hs hc hc17 rest k (i + 1) _ hk (by omega) (h.put hs xw (by omega))
theorem moveS_bnd {scs : List (List Trm)} {L : List Su} {o : Ob} {less : Bool} {k : Nat} (ho : wfO o) (hk : k ≤ 1000) (hs : scs.length ≤ 20) (h : BndU k L) : BndU (k + 1) (moveS scs L o less).1 := by
  have hid : BndU (k + 1) L := ⟨by have := h.len; omega, h.sp, fun e he => ⟨(h.vs e he).1, by have := (h.vs e he).2; omega⟩⟩
  obtain ⟨cw, cl⟩ := charge_wf ho
  unfold moveS
  split
  · exact hid
  · split
    · exact hid
    · exact (moveG_bnd ho.2.1 cw cl scs k 0 L hk (by omega) h.start).fin (by omega)
set_option maxHeartbeats 16000000 in
theorem rload_ok {w : World} {vs v : Value} {ss : List Sc} {os : List Evt.PO} (hs : ScsAt w vs ss) (hws : ∀ s ∈ ss, wfP s.2) (hsl : ss.length ≤ 20) (ho : Evt.ObjsAt w v os) (hol : os.length ≤ 900) (hwo : ∀ p ∈ os, wfO p.2) :
    Calls Tryz.prog 9 #[vs, v] w fun e w' => ∃ r, e = .returned (.tuple #[r, I (loadS (scT ss) (Evt.obs os)).2]) ∧ NewD (fun r l => ∃ ps', sums ps' = (loadS (scT ss) (Evt.obs os)).1 ∧ ∀ w'', Lies w'' l → SumAt w'' r ps') w w' r := by
  obtain ⟨a, cp, rfl, hat⟩ := OldRow.cells Evt.cellsO_len ho.1
  have nil : ∀ w'' : World, SumAt w'' (.slice none 0 0) [] := fun w'' => ⟨⟨rfl, none, 0, rfl, fun h => by simp at h⟩, fun p hp => by cases hp⟩
  refine calls2 (args := [vs, .slice a os.length cp]) Tryz.func9 rfl rfl rfl rfl ?_
  repeat' (first | refine aw_seq ?_ | refine zz ?_ | refine zon fun _ => ?_ | refine zoa fun vr lr hr => ?_ | refine zoS (fun _ => ?_) (fun _ => ?_) | refine zqS (fun _ => ?_) (fun _ => ?_) | refine zwS (fun _ => ?_) (fun _ => ?_))
  refine aw_for (t0 := [(0, vs), (1, .slice a os.length cp), (6, I (0 : Nat))]) (fun q t H => ∃ i : Nat, q = os.length - i ∧ i ≤ os.length ∧ (∀ (j : Nat) (p : Evt.PO), j < i → os[j]? = some p → rightO p.2 = true) ∧ t = [(0, vs), (1, .slice a os.length cp), (6, I i)] ∧ H = []) ⟨0, rfl, by omega, fun j p hj => by omega, rfl, rfl⟩ (by repeat (first | exact sub_nil | refine sub_cons rfl ?_)) ?_
  rintro q t H ⟨i, rfl, hi, hall, rfl, rfl⟩
  by_cases hlt : i < os.length
  · obtain ⟨⟨u, o⟩, he⟩ := getP hlt
    have hmo := List.mem_of_getElem? he
    obtain ⟨g, o1, rfl, hg, hc⟩ := hat i _ (i : Int) he rfl
    obtain ⟨k1, s1, n1, ver, c1, tm, bs, rs⟩ := o
    have cA : ∀ (j : Nat) z, [S k1, S s1, S n1, I ver, S c1, .bool tm, .bool bs, u][j]? = some z → w.cell? ⟨g, o1 + (i : Int).toNat * 8 + j, none⟩ = some z := hc
    have hrt := fun w' (hb : Below w.heap.size w w') => Ojt.rright_ok ⟨k1, s1, n1, ver, c1, tm, bs, rs⟩ u (hwo _ hmo) w' ((ho.2 _ hmo).below hb)
    cases hr : rightO ⟨k1, s1, n1, ver, c1, tm, bs, rs⟩
    · rw [hr] at hrt
      have hL : loadS (scT ss) (Evt.obs os) = ([], 1) := by
        unfold loadS
        rw [if_neg]
        rw [List.all_eq_true]
        exact fun h => by
          have := h _ (List.mem_map.2 ⟨_, hmo, rfl⟩)
          simp only at this
          rw [hr] at this
          cases this
      rw [hL]
      repeat' (first | refine aw_seq ?_ | ((first | apply ao_val | apply aq_val); exact wants_a; (first | exact ov_load_oa rfl hg cA rfl | exact ov_a); (exact rfl)) | refine zy ?_ | refine zon fun _ => ?_ | refine zoa fun vr lr hr => ?_ | ((first | apply ao_call | apply aq_call); exact wants_a; (first | exact oc_func rfl | exact oc_clos rfl rfl | exact oc_bnd rfl rfl); (exact rfl); (first | exact fun w hw => hrt w hw.below)) | refine zoS (fun _ => ?_) (fun _ => ?_) | refine zqS (fun _ => ?_) (fun _ => ?_) | refine zwS (fun _ => ?_) (fun _ => ?_))
      exact fun w' hw => ⟨_, rfl, hw.toD rfl (l := []) (R := _) (List.Perm.refl _) ⟨[], rfl, fun w'' _ => nil w''⟩⟩
    · rw [hr] at hrt
      repeat' (first | refine aw_seq ?_ | ((first | apply ao_val | apply aq_val); exact wants_a; (first | exact ov_load_oa rfl hg cA rfl | exact ov_a); (exact rfl)) | refine zy ?_ | refine zon fun _ => ?_ | refine zoa fun vr lr hr => ?_ | ((first | apply ao_call | apply aq_call); exact wants_a; (first | exact oc_func rfl | exact oc_clos rfl rfl | exact oc_bnd rfl rfl); (exact rfl); (first | exact fun w hw => hrt w hw.below)) | refine zoS (fun _ => ?_) (fun _ => ?_) | refine zqS (fun _ => ?_) (fun _ => ?_) | refine zwS (fun _ => ?_) (fun _ => ?_))
      exact lq_normal' ⟨i + 1, rfl, by omega, fun j p hj hp => by
        by_cases e1 : j = i
        · subst e1; rw [he] at hp; cases hp; exact hr
        · exact hall j p (by omega) hp, rfl, rfl⟩ (by omega) (by repeat (first | exact sub_nil | refine sub_cons rfl ?_)) hsub_a
  obtain rfl : i = os.length := by omega
  clear hlt hi
  obtain ⟨G, hG⟩ : ∃ G, loadS (scT ss) (Evt.obs os) = G := ⟨_, rfl⟩
  rw [hG]
  unfold loadS at hG
  rw [if_pos (by
    rw [List.all_eq_true]
    intro x hx
    obtain ⟨p, hp, rfl⟩ := List.mem_map.1 hx
    obtain ⟨j, hj⟩ := List.getElem?_of_mem hp
    exact hall j p (List.getElem?_eq_some_iff.1 hj).1 hj)] at hG
  repeat' (first | refine aw_seq ?_ | refine zz ?_ | refine zon fun _ => ?_ | refine zoa fun vr lr hr => ?_ | refine zoS (fun _ => ?_) (fun _ => ?_) | refine zqS (fun _ => ?_) (fun _ => ?_) | refine zwS (fun _ => ?_) (fun _ => ?_))
  refine aw_for (t0 := [(0, vs), (1, .slice a os.length cp), (8, .slice none 0 0), (9, I (0 : Nat))]) (fun q t H => ∃ (i : Nat) (v5 : Value) (ps5 : List Pu) (l5 : Hp), q = os.length - i ∧ i ≤ os.length ∧ loadG (scT ss) (Evt.obs (os.drop i)) (sums ps5) = G ∧ BndU i (sums ps5) ∧ (∀ w'', Lies w'' l5 → SumAt w'' v5 ps5) ∧
      t = [(0, vs), (1, .slice a os.length cp), (8, v5), (9, I i)] ∧ H = l5 ++ []) ⟨0, _, [], [], rfl, by omega, hG, BndU.nil, fun w'' _ => nil w'', rfl, rfl⟩ (by repeat (first | exact sub_nil | refine sub_cons rfl ?_)) ?_
  clear hG
  rintro q t H ⟨i, v5, ps5, l5, rfl, hi, hG, hB, hF, rfl, rfl⟩
  by_cases hlt : i < os.length
  · obtain ⟨⟨u, o⟩, he⟩ := getP hlt
    have hmo := List.mem_of_getElem? he
    obtain ⟨g, o1, rfl, hg, hc⟩ := hat i _ (i : Int) he rfl
    have hdr : os.drop i = (u, o) :: os.drop (i + 1) := by
      have := List.getElem?_eq_some_iff.1 he
      rw [List.drop_eq_getElem_cons hlt, this.2]
    rw [hdr, Evt.obs, List.map_cons] at hG
    have hbn := moveS_bnd (scs := scT ss) (less := false) (hwo _ hmo) (by omega : i ≤ 1000) (by rw [List.length_map]; exact hsl) hB
    simp only at hbn
    have hmv := fun w' (hb : Below w.heap.size w w') (h : SumAt w' v5 ps5) => rmoveS_ok (hs.below hb) hws hsl h hB (by omega) (hwo _ hmo) ((ho.2 _ hmo).below hb) false
    simp only at hmv
    obtain ⟨k1, s1, n1, ver, c1, tm, bs, rs⟩ := o
    have cA : ∀ (j : Nat) z, [S k1, S s1, S n1, I ver, S c1, .bool tm, .bool bs, u][j]? = some z → w.cell? ⟨g, o1 + (i : Int).toNat * 8 + j, none⟩ = some z := hc
    unfold loadG at hG
    generalize moveS (scT ss) (sums ps5) ⟨k1, s1, n1, ver, c1, tm, bs, rs⟩ false = X at hmv hG hbn
    obtain ⟨L2, er⟩ := X
    simp only at hmv hG hbn
    by_cases h0 : er ≠ 0
    · rw [if_pos h0] at hG
      subst hG
      have b1 : (er != 0) = true := bne_iff_ne.2 h0
      repeat' (first | refine aw_seq ?_ | ((first | apply ao_val | apply aq_val); exact wants_a; (first | exact ov_load_oa rfl hg cA rfl | exact ov_a); (exact rfl)) | refine zy ?_ | refine zon fun _ => ?_ | refine zoa fun vr lr hr => ?_ | (apply ao_callD; exact wants_a; (exact oc_func rfl); (exact rfl); (first | exact fun w hw => hmv w hw.below (hF _ (lies_of hw (l := l5) cut_a))); intro vr lr hr) | refine zoS (fun _ => ?_) (fun _ => ?_) | refine zqS (fun _ => ?_) (fun _ => ?_) | refine zwS (fun _ => ?_) (fun _ => ?_))
      exact fun w' hw => ⟨_, rfl, hw.toD rfl (l := []) (R := _) (List.Perm.refl _) ⟨[], rfl, fun w'' _ => nil w''⟩⟩
    · rw [if_neg h0] at hG
      have h0 : er = 0 := Classical.not_not.1 h0
      subst h0
      repeat' (first | refine aw_seq ?_ | ((first | apply ao_val | apply aq_val); exact wants_a; (first | exact ov_load_oa rfl hg cA rfl | exact ov_a); (exact rfl)) | refine zy ?_ | refine zon fun _ => ?_ | refine zoa fun vr lr hr => ?_ | (apply ao_callD; exact wants_a; (exact oc_func rfl); (exact rfl); (first | exact fun w hw => hmv w hw.below (hF _ (lies_of hw (l := l5) cut_a))); intro vr lr hr) | refine zoS (fun _ => ?_) (fun _ => ?_) | refine zqS (fun _ => ?_) (fun _ => ?_) | refine zwS (fun _ => ?_) (fun _ => ?_))
      obtain ⟨ps6, e6, hF6⟩ := hr
      exact lq_normal' (H' := (lr ++ l5) ++ []) ⟨i + 1, vr, ps6, lr ++ l5, rfl, by omega, by rw [e6]; exact hG, by rw [e6]; exact hbn, fun w'' hl => hF6 w'' (hF w'' (hl.sub fun x hx => List.mem_append_right _ hx)) (hl.sub fun x hx => List.mem_append_left _ hx), rfl, rfl⟩ (by omega) (by repeat (first | exact sub_nil | refine sub_cons rfl ?_)) (by rw [List.append_assoc]; exact hsub_a)
  · obtain rfl : i = os.length := by omega
    rw [List.drop_length] at hG
    simp only [Evt.obs, List.map_nil, loadG] at hG
    subst hG
    repeat' (first | refine aw_seq ?_ | refine zz ?_ | refine zon fun _ => ?_ | refine zoa fun vr lr hr => ?_ | refine zoS (fun _ => ?_) (fun _ => ?_) | refine zqS (fun _ => ?_) (fun _ => ?_) | refine zwS (fun _ => ?_) (fun _ => ?_))
    exact fun w' hw => ⟨_, rfl, hw.toD rfl (l := l5) (R := _) (List.Perm.refl _) ⟨ps5, rfl, hF⟩⟩
end Lct
end Go.Proofs.YtkjjlppfomidbaaGreat
/- Lcf: The document's answer for layer 13: Apply; conditions: at most 400 deltas. -/
namespace Go.Proofs.YtkjjlppfomidbaaGreat
namespace Lct
open Go Go.RowKit Sx Vec Ojt Scp
attribute [local irreducible] Go.Calls
abbrev keyB3 (o : Ob) : Chm.Kt := (o.k, o.s, o.n)
def okP (d : Chm.PD) : Bool := !((d.had && (!(rightO d.old.2) || !(decide (keyB3 d.old.2 = d.key)))) || (d.has && (!(rightO d.new.2) || !(decide (keyB3 d.new.2 = d.key)))))
def stepP (scs : List (List Trm)) (L : List Su) (d : Chm.PD) : List Su × Int :=
  let a := if d.had = true then moveS scs L d.old.2 true else (L, 0)
  if a.2 ≠ 0 then (L, a.2) else if d.has = true then moveS scs a.1 d.new.2 false else (a.1, 0)
def applyG (scs : List (List Trm)) : List Chm.PD → List Su → List Su × Int
  | [], out => (out, 0)
  | d :: ds, out => if (stepP scs out d).2 ≠ 0 then (out, (stepP scs out d).2) else applyG scs ds (stepP scs out d).1
def diffS (L : List Su) (out : List Su) : List (List UInt8) := out.foldl (fun acc e => if e.2 ≠ getS L e.1 then Mkt.markL acc e.1.1 else acc) []
def applyS (scs : List (List Trm)) (L : List Su) (ds : List Chm.PD) : List Su × List (List UInt8) × Int :=
  if ds.all okP = true then (if (applyG scs ds L).2 ≠ 0 then (L, [], (applyG scs ds L).2) else ((applyG scs ds L).1, diffS L (applyG scs ds L).1, 0)) else (L, [], 1)
def DelAt (w : World) (v : Value) (ds : List Chm.PD) : Prop := OldRow w 21 v ds.length (ds.flatMap Chm.cellsD) ∧ ∀ d ∈ ds, ResAt w d.old.1 d.old.2.rs ∧ ResAt w d.new.1 d.new.2.rs
end Lct
end Go.Proofs.YtkjjlppfomidbaaGreat
/- Lcm: How much there is of sums, all the way; conditions: none. -/
namespace Go.Proofs.YtkjjlppfomidbaaGreat
namespace Lct
open Go Go.RowKit Sx Vec Ojt Scp
structure Small (L : List Su) : Prop where
  len : L.length ≤ 40000
  sp : ∀ e ∈ L, e.1.1.length ≤ 100000
  vs : ∀ e ∈ L, wfV e.2 ∧ e.2.length ≤ 17000
def SmallA (scs : List (List Trm)) : List Chm.PD → List Su → Prop
  | [], L => Small L
  | d :: ds, L => Small L ∧ (d.had = true → Small (moveS scs L d.old.2 true).1) ∧ Small (stepP scs L d).1 ∧ SmallA scs ds (stepP scs L d).1
def SmallL (scs : List (List Trm)) : List Ob → List Su → Prop
  | [], L => Small L
  | o :: os, L => Small L ∧ SmallL scs os (moveS scs L o false).1
theorem BndU.small {k : Nat} {L : List Su} (h : BndU k L) (hk : k ≤ 1000) : Small L := ⟨by have := h.len; omega, h.sp, fun e he => ⟨(h.vs e he).1, by have := (h.vs e he).2; omega⟩⟩
theorem BndU.up {k m : Nat} {L : List Su} (h : BndU k L) (hk : k ≤ m) : BndU m L := ⟨by have := h.len; omega, h.sp, fun e he => ⟨(h.vs e he).1, by have := (h.vs e he).2; omega⟩⟩
theorem smallL_of {scs : List (List Trm)} (hs : scs.length ≤ 20) : ∀ (os : List Ob) {k : Nat} {L : List Su}, (∀ o ∈ os, wfO o) → BndU k L → k + os.length ≤ 1000 → SmallL scs os L
  | [], k, L, _, h, hk => h.small (by simp at hk; omega)
  | o :: os, k, L, hw, h, hk => by
    rw [List.length_cons] at hk
    exact ⟨h.small (by omega), smallL_of hs os (fun x hx => hw x (List.mem_cons_of_mem _ hx)) (moveS_bnd (hw o List.mem_cons_self) (by omega) hs h) (by omega)⟩
theorem loadG_bnd {scs : List (List Trm)} (hs : scs.length ≤ 20) : ∀ (os : List Ob) {k : Nat} {L : List Su}, (∀ o ∈ os, wfO o) → BndU k L → k + os.length ≤ 1000 → BndU (k + os.length) (loadG scs os L).1
  | [], k, L, _, h, hk => h
  | o :: os, k, L, hw, h, hk => by
    rw [List.length_cons] at hk ⊢
    have h2 := moveS_bnd (scs := scs) (less := false) (hw o List.mem_cons_self) (by omega : k ≤ 1000) hs h
    unfold loadG
    split
    · exact BndU.nil.up (Nat.zero_le _)
    · exact (loadG_bnd hs os (fun x hx => hw x (List.mem_cons_of_mem _ hx)) h2 (by omega)).up (by omega)
theorem loadS_bnd {scs : List (List Trm)} (hs : scs.length ≤ 20) {os : List Ob} (hw : ∀ o ∈ os, wfO o) (hk : os.length ≤ 1000) : BndU os.length (loadS scs os).1 := by
  unfold loadS
  split
  · exact (loadG_bnd hs os hw BndU.nil (by omega)).up (by omega)
  · exact BndU.nil.up (Nat.zero_le _)
end Lct
end Go.Proofs.YtkjjlppfomidbaaGreat
