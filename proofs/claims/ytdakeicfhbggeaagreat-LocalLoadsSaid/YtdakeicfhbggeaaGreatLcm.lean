/- The document's answer for layer 13: Load; conditions: at most 900 objects. -/
import Derived.Test.YtdakeicfhbggeaaGreatLcd
import Derived.Test.YtdakeicfhbggeaaGreatEvs
import Derived.Test.YtdakeicfhbggeaaGreatChd
/- Lce: The document's answer for layer 13: Load; conditions: at most 900 objects. -/
namespace Go.Proofs.YtdakeicfhbggeaaGreat
namespace Lct
open Go Go.RowKit Sx Vec Ojt Scp
attribute [local irreducible] Go.Calls
def loadG (scs : List (List Trm)) : List Ob → List Su → List Su × Int
  | [], out => (out, 0)
  | o :: os, out => if (moveS scs out o false).2 ≠ 0 then ([], (moveS scs out o false).2) else loadG scs os (moveS scs out o false).1
def loadS (scs : List (List Trm)) (os : List Ob) : List Su × Int := if os.all rightO = true then loadG scs os [] else ([], 1)
theorem moveG_bnd {o : Ob} {c : List Ent} {less : Bool} (hs : o.s.length ≤ 100000) (hc : wfV c) (hc17 : c.length ≤ 17) : ∀ (scs : List (List Trm)) (k i : Nat) (L : List Su), k ≤ 1000 → i + scs.length ≤ 20 → BndI k i L → BndI k (i + scs.length) (moveG o c less i scs L).1
  | [], k, i, L, _, _, h => h
  | sc :: rest, k, i, L, hk, hi, h => by
    rw [List.length_cons] at hi ⊢
    unfold moveG
    have e : i + (rest.length + 1) = (i + 1) + rest.length := by omega
    have up : ∀ {j m : Nat} {M : List Su}, BndI k j M → BndI k (j + m) M := fun {j m M} hM => by
      induction m with
      | zero => exact hM
      | succ m ih => exact ih.skip
    split
    · rw [e]; exact moveG_bnd hs hc hc17 rest k (i + 1) L hk (by omega) h.skip
    · split
      · exact up h
      · rw [e]
        have w5 := h.get o.s
        obtain ⟨xw, xl⟩ := wf_comb (less := less) w5.1 hc (by omega) (by omega)
        exact moveG_bnd hs hc hc17 rest k (i + 1) _ hk (by omega) (h.put hs xw (by omega))
theorem moveS_bnd {scs : List (List Trm)} {L : List Su} {o : Ob} {less : Bool} {k : Nat} (ho : wfO o) (hk : k ≤ 1000) (hs : scs.length ≤ 20) (h : BndU k L) : BndU (k + 1) (moveS scs L o less).1 := by
  have hid : BndU (k + 1) L := ⟨by have := h.len; omega, h.sp, fun e he => ⟨(h.vs e he).1, by have := (h.vs e he).2; omega⟩⟩
  obtain ⟨cw, cl⟩ := charge_wf ho
  unfold moveS
  split
  · exact hid
  · split
    · exact hid
    · exact (moveG_bnd ho.2.1 cw cl scs k 0 L hk (by omega) h.start).fin (by omega)
set_option maxHeartbeats 16000000 in
theorem rload_ok {w : World} {vs v : Value} {ss : List Sc} {os : List Evt.PO} (hs : ScsAt w vs ss) (hws : ∀ s ∈ ss, wfP s.2) (hsl : ss.length ≤ 20) (ho : Evt.ObjsAt w v os) (hol : os.length ≤ 900) (hwo : ∀ p ∈ os, wfO p.2) :
    Calls Tryz.prog 23 #[vs, v] w fun e w' => ∃ r, e = .returned (.tuple #[r, I (loadS (scT ss) (Evt.obs os)).2]) ∧ NewD (fun r l => ∃ ps', sums ps' = (loadS (scT ss) (Evt.obs os)).1 ∧ ∀ w'', Lies w'' l → SumAt w'' r ps') w w' r := by
  obtain ⟨a, cp, rfl, hat⟩ := OldRow.cells Evt.cellsO_len ho.1
  have nil : ∀ w'' : World, SumAt w'' (.slice none 0 0) [] := fun w'' => ⟨⟨rfl, none, 0, rfl, fun h => by simp at h⟩, fun p hp => by cases hp⟩
  refine calls2 (args := [vs, .slice a os.length cp]) Tryz.func23 rfl rfl rfl rfl ?_
  repeat' (first | refine aw_seq ?_ | refine zz ?_ | refine zon fun _ => ?_ | refine zoa fun vr lr hr => ?_ | refine zoS (fun _ => ?_) (fun _ => ?_) | refine zqS (fun _ => ?_) (fun _ => ?_) | refine zwS (fun _ => ?_) (fun _ => ?_))
  refine aw_for (t0 := [(0, vs), (1, .slice a os.length cp), (6, I (0 : Nat))]) (fun q t H => ∃ i : Nat, q = os.length - i ∧ i ≤ os.length ∧ (∀ (j : Nat) (p : Evt.PO), j < i → os[j]? = some p → rightO p.2 = true) ∧ t = [(0, vs), (1, .slice a os.length cp), (6, I i)] ∧ H = []) ⟨0, rfl, by omega, fun j p hj => by omega, rfl, rfl⟩ (by repeat (first | exact sub_nil | refine sub_cons rfl ?_)) ?_
  rintro q t H ⟨i, rfl, hi, hall, rfl, rfl⟩
  by_cases hlt : i < os.length
  · obtain ⟨⟨u, o⟩, he⟩ := getP hlt
    have hmo := List.mem_of_getElem? he
    obtain ⟨g, o1, rfl, hg, hc⟩ := hat i _ (i : Int) he rfl
    obtain ⟨k1, s1, n1, ver, c1, tm, bs, rs⟩ := o
    have cA : ∀ (j : Nat) z, [S k1, S s1, S n1, I ver, S c1, .bool tm, .bool bs, u][j]? = some z → w.cell? ⟨g, o1 + (i : Int).toNat * 8 + j, none⟩ = some z := hc
    have hrt := fun w' (hb : Below w.heap.size w w') => Ojt.rright_ok ⟨k1, s1, n1, ver, c1, tm, bs, rs⟩ u (hwo _ hmo) w' ((ho.2 _ hmo).below hb)
    cases hr : rightO ⟨k1, s1, n1, ver, c1, tm, bs, rs⟩
    · rw [hr] at hrt
      have hL : loadS (scT ss) (Evt.obs os) = ([], 1) := by
        unfold loadS
        rw [if_neg]
        rw [List.all_eq_true]
        exact fun h => by
          have := h _ (List.mem_map.2 ⟨_, hmo, rfl⟩)
          simp only at this
          rw [hr] at this
          cases this
      rw [hL]
      repeat' (first | refine aw_seq ?_ | ((first | apply ao_val | apply aq_val); exact wants_a; (first | exact ov_load_oa rfl hg cA rfl | exact ov_a); (exact rfl)) | refine zy ?_ | refine zon fun _ => ?_ | refine zoa fun vr lr hr => ?_ | ((first | apply ao_call | apply aq_call); exact wants_a; (first | exact oc_func rfl | exact oc_clos rfl rfl | exact oc_bnd rfl rfl); (exact rfl); (first | exact fun w hw => hrt w hw.below)) | refine zoS (fun _ => ?_) (fun _ => ?_) | refine zqS (fun _ => ?_) (fun _ => ?_) | refine zwS (fun _ => ?_) (fun _ => ?_))
      exact fun w' hw => ⟨_, rfl, hw.toD rfl (l := []) (R := _) (List.Perm.refl _) ⟨[], rfl, fun w'' _ => nil w''⟩⟩
    · rw [hr] at hrt
      repeat' (first | refine aw_seq ?_ | ((first | apply ao_val | apply aq_val); exact wants_a; (first | exact ov_load_oa rfl hg cA rfl | exact ov_a); (exact rfl)) | refine zy ?_ | refine zon fun _ => ?_ | refine zoa fun vr lr hr => ?_ | ((first | apply ao_call | apply aq_call); exact wants_a; (first | exact oc_func rfl | exact oc_clos rfl rfl | exact oc_bnd rfl rfl); (exact rfl); (first | exact fun w hw => hrt w hw.below)) | refine zoS (fun _ => ?_) (fun _ => ?_) | refine zqS (fun _ => ?_) (fun _ => ?_) | refine zwS (fun _ => ?_) (fun _ => ?_))
      exact lq_normal' ⟨i + 1, rfl, by omega, fun j p hj hp => by
        by_cases e1 : j = i
        · subst e1; rw [he] at hp; cases hp; exact hr
        · exact hall j p (by omega) hp, rfl, rfl⟩ (by omega) (by repeat (first | exact sub_nil | refine sub_cons rfl ?_)) hsub_a
  obtain rfl : i = os.length := by omega
  clear hlt hi
  obtain ⟨G, hG⟩ : ∃ G, loadS (scT ss) (Evt.obs os) = G := ⟨_, rfl⟩
  rw [hG]
  unfold loadS at hG
  rw [if_pos (by
    rw [List.all_eq_true]
    intro x hx
    obtain ⟨p, hp, rfl⟩ := List.mem_map.1 hx
    obtain ⟨j, hj⟩ := List.getElem?_of_mem hp
    exact hall j p (List.getElem?_eq_some_iff.1 hj).1 hj)] at hG
  repeat' (first | refine aw_seq ?_ | refine zz ?_ | refine zon fun _ => ?_ | refine zoa fun vr lr hr => ?_ | refine zoS (fun _ => ?_) (fun _ => ?_) | refine zqS (fun _ => ?_) (fun _ => ?_) | refine zwS (fun _ => ?_) (fun _ => ?_))
  refine aw_for (t0 := [(0, vs), (1, .slice a os.length cp), (8, .slice none 0 0), (9, I (0 : Nat))]) (fun q t H => ∃ (i : Nat) (v5 : Value) (ps5 : List Pu) (l5 : Hp), q = os.length - i ∧ i ≤ os.length ∧ loadG (scT ss) (Evt.obs (os.drop i)) (sums ps5) = G ∧ BndU i (sums ps5) ∧ (∀ w'', Lies w'' l5 → SumAt w'' v5 ps5) ∧
      t = [(0, vs), (1, .slice a os.length cp), (8, v5), (9, I i)] ∧ H = l5 ++ []) ⟨0, _, [], [], rfl, by omega, hG, BndU.nil, fun w'' _ => nil w'', rfl, rfl⟩ (by repeat (first | exact sub_nil | refine sub_cons rfl ?_)) ?_
  clear hG
  rintro q t H ⟨i, v5, ps5, l5, rfl, hi, hG, hB, hF, rfl, rfl⟩
  by_cases hlt : i < os.length
  · obtain ⟨⟨u, o⟩, he⟩ := getP hlt
    have hmo := List.mem_of_getElem? he
    obtain ⟨g, o1, rfl, hg, hc⟩ := hat i _ (i : Int) he rfl
    have hdr : os.drop i = (u, o) :: os.drop (i + 1) := by
      have := List.getElem?_eq_some_iff.1 he
      rw [List.drop_eq_getElem_cons hlt, this.2]
    rw [hdr, Evt.obs, List.map_cons] at hG
    have hbn := moveS_bnd (scs := scT ss) (less := false) (hwo _ hmo) (by omega : i ≤ 1000) (by rw [List.length_map]; exact hsl) hB
    simp only at hbn
    have hmv := fun w' (hb : Below w.heap.size w w') (h : SumAt w' v5 ps5) => rmoveS_ok (hs.below hb) hws hsl h hB (by omega) (hwo _ hmo) ((ho.2 _ hmo).below hb) false
    simp only at hmv
    obtain ⟨k1, s1, n1, ver, c1, tm, bs, rs⟩ := o
    have cA : ∀ (j : Nat) z, [S k1, S s1, S n1, I ver, S c1, .bool tm, .bool bs, u][j]? = some z → w.cell? ⟨g, o1 + (i : Int).toNat * 8 + j, none⟩ = some z := hc
    unfold loadG at hG
    generalize moveS (scT ss) (sums ps5) ⟨k1, s1, n1, ver, c1, tm, bs, rs⟩ false = X at hmv hG hbn
    obtain ⟨L2, er⟩ := X
    simp only at hmv hG hbn
    by_cases h0 : er ≠ 0
    · rw [if_pos h0] at hG
      subst hG
      have b1 : (er != 0) = true := bne_iff_ne.2 h0
      repeat' (first | refine aw_seq ?_ | ((first | apply ao_val | apply aq_val); exact wants_a; (first | exact ov_load_oa rfl hg cA rfl | exact ov_a); (exact rfl)) | refine zy ?_ | refine zon fun _ => ?_ | refine zoa fun vr lr hr => ?_ | (apply ao_callD; exact wants_a; (exact oc_func rfl); (exact rfl); (first | exact fun w hw => hmv w hw.below (hF _ (lies_of hw (l := l5) cut_a))); intro vr lr hr) | refine zoS (fun _ => ?_) (fun _ => ?_) | refine zqS (fun _ => ?_) (fun _ => ?_) | refine zwS (fun _ => ?_) (fun _ => ?_))
      exact fun w' hw => ⟨_, rfl, hw.toD rfl (l := []) (R := _) (List.Perm.refl _) ⟨[], rfl, fun w'' _ => nil w''⟩⟩
    · rw [if_neg h0] at hG
      have h0 : er = 0 := Classical.not_not.1 h0
      subst h0
      repeat' (first | refine aw_seq ?_ | ((first | apply ao_val | apply aq_val); exact wants_a; (first | exact ov_load_oa rfl hg cA rfl | exact ov_a); (exact rfl)) | refine zy ?_ | refine zon fun _ => ?_ | refine zoa fun vr lr hr => ?_ | (apply ao_callD; exact wants_a; (exact oc_func rfl); (exact rfl); (first | exact fun w hw => hmv w hw.below (hF _ (lies_of hw (l := l5) cut_a))); intro vr lr hr) | refine zoS (fun _ => ?_) (fun _ => ?_) | refine zqS (fun _ => ?_) (fun _ => ?_) | refine zwS (fun _ => ?_) (fun _ => ?_))
      obtain ⟨ps6, e6, hF6⟩ := hr
      exact lq_normal' (H' := (lr ++ l5) ++ []) ⟨i + 1, vr, ps6, lr ++ l5, rfl, by omega, by rw [e6]; exact hG, by rw [e6]; exact hbn, fun w'' hl => hF6 w'' (hF w'' (hl.sub fun x hx => List.mem_append_right _ hx)) (hl.sub fun x hx => List.mem_append_left _ hx), rfl, rfl⟩ (by omega) (by repeat (first | exact sub_nil | refine sub_cons rfl ?_)) (by rw [List.append_assoc]; exact hsub_a)
  · obtain rfl : i = os.length := by omega
    rw [List.drop_length] at hG
    simp only [Evt.obs, List.map_nil, loadG] at hG
    subst hG
    repeat' (first | refine aw_seq ?_ | refine zz ?_ | refine zon fun _ => ?_ | refine zoa fun vr lr hr => ?_ | refine zoS (fun _ => ?_) (fun _ => ?_) | refine zqS (fun _ => ?_) (fun _ => ?_) | refine zwS (fun _ => ?_) (fun _ => ?_))
    exact fun w' hw => ⟨_, rfl, hw.toD rfl (l := l5) (R := _) (List.Perm.refl _) ⟨ps5, rfl, hF⟩⟩
end Lct
end Go.Proofs.YtdakeicfhbggeaaGreat
/- Lcf: The document's answer for layer 13: Apply; conditions: at most 400 deltas. -/
namespace Go.Proofs.YtdakeicfhbggeaaGreat
namespace Lct
open Go Go.RowKit Sx Vec Ojt Scp
attribute [local irreducible] Go.Calls
abbrev keyB3 (o : Ob) : Chm.Kt := (o.k, o.s, o.n)
def okP (d : Chm.PD) : Bool := !((d.had && (!(rightO d.old.2) || !(decide (keyB3 d.old.2 = d.key)))) || (d.has && (!(rightO d.new.2) || !(decide (keyB3 d.new.2 = d.key)))))
def stepP (scs : List (List Trm)) (L : List Su) (d : Chm.PD) : List Su × Int :=
  let a := if d.had = true then moveS scs L d.old.2 true else (L, 0)
  if a.2 ≠ 0 then (L, a.2) else if d.has = true then moveS scs a.1 d.new.2 false else (a.1, 0)
def applyG (scs : List (List Trm)) : List Chm.PD → List Su → List Su × Int
  | [], out => (out, 0)
  | d :: ds, out => if (stepP scs out d).2 ≠ 0 then (out, (stepP scs out d).2) else applyG scs ds (stepP scs out d).1
def diffS (L : List Su) (out : List Su) : List (List UInt8) := out.foldl (fun acc e => if e.2 ≠ getS L e.1 then Mkt.markL acc e.1.1 else acc) []
def applyS (scs : List (List Trm)) (L : List Su) (ds : List Chm.PD) : List Su × List (List UInt8) × Int :=
  if ds.all okP = true then (if (applyG scs ds L).2 ≠ 0 then (L, [], (applyG scs ds L).2) else ((applyG scs ds L).1, diffS L (applyG scs ds L).1, 0)) else (L, [], 1)
theorem diff_take {L out : List Su} {i : Nat} {e : Su} (h : out[i]? = some e) : diffS L (out.take (i + 1)) = if e.2 ≠ getS L e.1 then Mkt.markL (diffS L (out.take i)) e.1.1 else diffS L (out.take i) := by
  unfold diffS
  rw [List.take_add_one, h, List.foldl_append]
  rfl
theorem diff_facts (K : List Su) : ∀ (L : List Su) (out : List (List UInt8)), (∀ e ∈ L, e.1.1.length ≤ 100000) → (∀ s ∈ out, s.length ≤ 100000) →
    (L.foldl (fun acc e => if e.2 ≠ getS K e.1 then Mkt.markL acc e.1.1 else acc) out).length ≤ out.length + L.length ∧ ∀ s ∈ L.foldl (fun acc e => if e.2 ≠ getS K e.1 then Mkt.markL acc e.1.1 else acc) out, s.length ≤ 100000
  | [], out, _, h => ⟨by simp, h⟩
  | e :: L, out, hL, h => by
    rw [List.foldl_cons]
    have h2 : ∀ s ∈ (if e.2 ≠ getS K e.1 then Mkt.markL out e.1.1 else out), s.length ≤ 100000 := fun s hs => by
      split at hs
      · rcases Mkt.mark_mem.1 hs with rfl | hs
        · exact hL e List.mem_cons_self
        · exact h s hs
      · exact h s hs
    have h3 : (if e.2 ≠ getS K e.1 then Mkt.markL out e.1.1 else out).length ≤ out.length + 1 := by
      split
      · exact Mkt.mark_len out e.1.1
      · exact Nat.le_succ _
    obtain ⟨i1, i2⟩ := diff_facts K L _ (fun x hx => hL x (List.mem_cons_of_mem _ hx)) h2
    exact ⟨by rw [List.length_cons]; omega, i2⟩
def DelAt (w : World) (v : Value) (ds : List Chm.PD) : Prop := OldRow w 21 v ds.length (ds.flatMap Chm.cellsD) ∧ ∀ d ∈ ds, ResAt w d.old.1 d.old.2.rs ∧ ResAt w d.new.1 d.new.2.rs
def ApD (v : Value) (ps : List Pu) (X : List Su × List (List UInt8) × Int) (u : Value) (l : Hp) : Prop :=
  ∃ (r sp : Value) (ps' : List Pu), u = .tuple #[r, sp, I X.2.2] ∧ sums ps' = X.1 ∧ ∀ w'', SumAt w'' v ps → Lies w'' l → SumAt w'' r ps' ∧ OldRow w'' 1 sp X.2.1.length (X.2.1.flatMap Trt.cells1)
set_option maxHeartbeats 64000000 in
theorem rapply_ok {w : World} {vs v vd : Value} {ss : List Sc} {ps : List Pu} {ds : List Chm.PD} {k : Nat} (hs : ScsAt w vs ss) (hws : ∀ s ∈ ss, wfP s.2) (hsl : ss.length ≤ 20) (h : SumAt w v ps) (hb : BndU k (sums ps)) (hd : DelAt w vd ds) (hdl : ds.length ≤ 400) (hk : k + 2 * ds.length ≤ 1000) (hwd : ∀ d ∈ ds, wfO d.old.2 ∧ wfO d.new.2) :
    Calls Tryz.prog 12 #[vs, v, vd] w fun e w' => ∃ u, e = .returned u ∧ NewD (ApD v ps (applyS (scT ss) (sums ps) ds)) w w' u := by
  obtain ⟨a, cp, rfl, hat⟩ := OldRow.cells Chm.cellsD_len hd.1
  have nilT : ∀ w'' : World, OldRow w'' 1 (.slice none 0 0) ([] : List (List UInt8)).length (([] : List (List UInt8)).flatMap Trt.cells1) := fun w'' => ⟨rfl, none, 0, rfl, fun h => by simp at h⟩
  refine calls3 (args := [vs, v, .slice a ds.length cp]) Tryz.func12 rfl rfl rfl rfl ?_
  repeat' (first | refine aw_seq ?_ | refine zz ?_ | refine zon fun _ => ?_ | refine zoa fun vr lr hr => ?_ | refine zoS (fun _ => ?_) (fun _ => ?_) | refine zqS (fun _ => ?_) (fun _ => ?_) | refine zwS (fun _ => ?_) (fun _ => ?_))
  refine aw_for (t0 := [(0, vs), (1, v), (2, .slice a ds.length cp), (9, I (0 : Nat))]) (fun q t H => ∃ i : Nat, q = ds.length - i ∧ i ≤ ds.length ∧ (∀ (j : Nat) (d : Chm.PD), j < i → ds[j]? = some d → okP d = true) ∧ t = [(0, vs), (1, v), (2, .slice a ds.length cp), (9, I i)] ∧ H = []) ⟨0, rfl, by omega, fun j p hj => by omega, rfl, rfl⟩ (by repeat (first | exact sub_nil | refine sub_cons rfl ?_)) ?_
  rintro q t H ⟨i, rfl, hi, hall, rfl, rfl⟩
  by_cases hlt : i < ds.length
  · obtain ⟨d, he⟩ := getP hlt
    have hmd := List.mem_of_getElem? he
    obtain ⟨g, o1, rfl, hg, hc⟩ := hat i _ (i : Int) he rfl
    have hwo := hwd _ hmd
    have hrs := hd.2 _ hmd
    have hbad : okP d = false → applyS (scT ss) (sums ps) ds = (sums ps, [], 1) := fun h => by
      unfold applyS
      rw [if_neg]
      rw [List.all_eq_true]
      exact fun h2 => by rw [h2 d hmd] at h; cases h
    have hgood : okP d = true → ∀ (j : Nat) (z : Chm.PD), j < i + 1 → ds[j]? = some z → okP z = true := fun h j z hj hz => by
      by_cases e1 : j = i
      · subst e1; rw [he] at hz; cases hz; exact h
      · exact hall j z (by omega) hz
    obtain ⟨⟨dk, ds2, dn⟩, had, has, ⟨uo, oo⟩, ⟨un, on⟩⟩ := d
    obtain ⟨ok1, os1, on1, over, oc1, otm, obs, ors⟩ := oo
    obtain ⟨nk1, ns1, nn1, nver, nc1, ntm, nbs, nrs⟩ := on
    simp only at hwo hrs
    have hro := fun w' (hb : Below w.heap.size w w') => Ojt.rright_ok ⟨ok1, os1, on1, over, oc1, otm, obs, ors⟩ uo hwo.1 w' (hrs.1.below hb)
    have hrn := fun w' (hb : Below w.heap.size w w') => Ojt.rright_ok ⟨nk1, ns1, nn1, nver, nc1, ntm, nbs, nrs⟩ un hwo.2 w' (hrs.2.below hb)
    have cO : ∀ (j : Nat) z, [S ok1, S os1, S on1, I over, S oc1, .bool otm, .bool obs, uo][j]? = some z → w.cell? ⟨g, o1 + (i : Int).toNat * 21 + 5 + j, none⟩ = some z := fun j z hj => by
      rw [Nat.add_assoc (o1 + (i : Int).toNat * 21)]
      refine hc (5 + j) z ?_
      match j, hj with
      | 0, hj => exact hj
      | 1, hj => exact hj
      | 2, hj => exact hj
      | 3, hj => exact hj
      | 4, hj => exact hj
      | 5, hj => exact hj
      | 6, hj => exact hj
      | 7, hj => exact hj
    have cN : ∀ (j : Nat) z, [S nk1, S ns1, S nn1, I nver, S nc1, .bool ntm, .bool nbs, un][j]? = some z → w.cell? ⟨g, o1 + (i : Int).toNat * 21 + 13 + j, none⟩ = some z := fun j z hj => by
      rw [Nat.add_assoc (o1 + (i : Int).toNat * 21)]
      refine hc (13 + j) z ?_
      match j, hj with
      | 0, hj => exact hj
      | 1, hj => exact hj
      | 2, hj => exact hj
      | 3, hj => exact hj
      | 4, hj => exact hj
      | 5, hj => exact hj
      | 6, hj => exact hj
      | 7, hj => exact hj
    have cK : ∀ (j : Nat) z, [S dk, S ds2, S dn][j]? = some z → w.cell? ⟨g, o1 + (i : Int).toNat * 21 + j, none⟩ = some z := fun j z hj => hc j z (by
      match j, hj with
      | 0, hj => exact hj
      | 1, hj => exact hj
      | 2, hj => exact hj)
    have cKo : ∀ (j : Nat) z, [S ok1, S os1, S on1][j]? = some z → w.cell? ⟨g, o1 + (i : Int).toNat * 21 + 5 + j, none⟩ = some z := fun j z hj => cO j z (by
      match j, hj with
      | 0, hj => exact hj
      | 1, hj => exact hj
      | 2, hj => exact hj)
    have cKn : ∀ (j : Nat) z, [S nk1, S ns1, S nn1][j]? = some z → w.cell? ⟨g, o1 + (i : Int).toNat * 21 + 13 + j, none⟩ = some z := fun j z hj => cN j z (by
      match j, hj with
      | 0, hj => exact hj
      | 1, hj => exact hj
      | 2, hj => exact hj)
    have cHad : w.cell? ⟨g, o1 + (i : Int).toNat * 21 + 3, none⟩ = some (.bool had) := hc 3 _ rfl
    have cHas : w.cell? ⟨g, o1 + (i : Int).toNat * 21 + 4, none⟩ = some (.bool has) := hc 4 _ rfl
    have kO := Chm.key_eq (ok1, os1, on1) (dk, ds2, dn)
    have kN := Chm.key_eq (nk1, ns1, nn1) (dk, ds2, dn)
    simp only at kO kN
    have kO2 : eqAll [S ok1, S os1, S on1] [S dk, S ds2, S dn] = decide (keyB3 ⟨ok1, os1, on1, over, oc1, otm, obs, ors⟩ = (dk, ds2, dn)) := kO
    have kN2 : eqAll [S nk1, S ns1, S nn1] [S dk, S ds2, S dn] = decide (keyB3 ⟨nk1, ns1, nn1, nver, nc1, ntm, nbs, nrs⟩ = (dk, ds2, dn)) := kN
    clear kO kN
    unfold okP at hbad hgood
    simp only at hbad hgood
    generalize decide (keyB3 ⟨ok1, os1, on1, over, oc1, otm, obs, ors⟩ = (dk, ds2, dn)) = bO at hbad hgood kO2
    generalize decide (keyB3 ⟨nk1, ns1, nn1, nver, nc1, ntm, nbs, nrs⟩ = (dk, ds2, dn)) = bN at hbad hgood kN2
    cases had
    · cases has
      · repeat' (first | (apply ao_nilh; exact hsub_a) | apply ao_nil | apply aq_nil | apply ah_end | ((first | apply ao_val | apply aq_val | (apply ah_take; (exact rfl))); exact wants_a; (first | exact ov_load_oa rfl hg cO rfl | exact ov_load_oa rfl hg cN rfl | exact ov_load_oa rfl hg cK rfl | exact ov_load_oa rfl hg cKo rfl | exact ov_load_oa rfl hg cKn rfl | exact ov_a); (exact rfl)) | ((first | apply ao_skip | apply aq_skip | (apply ah_skip; (exact rfl))); exact nots_a; (exact rfl)) | (refine ao_is ?_; first | (apply ao_new; exact wants_a; exact on_a; (exact rfl); intro _) | (apply ao_store; exact wants_a; exact ow_a; exact upd_a) | (apply ao_valw; exact wants_a; exact ox_a; (exact rfl); exact upd_a) | (apply ao_skip0; exact nots_a) | (apply ao_append; exact wants_a; (exact rfl); assumption; (exact rfl); exact cut_a; exact has_a; (exact rfl); (exact rfl); omega; omega; omega; (exact rfl); intro vr lr hr)) | ((first | apply ao_call | apply aq_call); exact wants_a; (first | exact oc_func rfl | exact oc_clos rfl rfl | exact oc_bnd rfl rfl); (exact rfl); (first | exact fun w hw => hro w hw.below | exact fun w hw => hrn w hw.below)) | (apply ah_one; (exact rfl)) | (apply ah_two; (exact rfl); (exact rfl)) | (apply ah_three; (exact rfl); (exact rfl); (exact rfl)) | (refine aw_is ?_; first | (apply aw_held (id := 6) (pl := (.t 0 (.t 1 (.t 2 (.t 3 (.t 4 (.t 5 (.t 6 (.t 7 (.t 8 (.t 9 (.t 10 (.t 11 (.t 12 (.t 13 (.t 14 (.t 15 (.t 16 (.t 17 (.t 18 (.t 19 (.t 20 (.t 21 (.t 22 (.t 23 (.t 24 (.t 25 (.t 26 (.t 27 (.t 28 (.t 29 (.t 30 (.t 31 (.t 32 (.t 33 (.t 34 (.t 35 (.t 36 (.t 37 (.t 38 (.t 39 (.t 40 (.t 41 (.t 42 (.t 43 (.t 44 (.t 45 (.t 46 (.t 47 .e))))))))))))))))))))))))))))))))))))))))))))))))); (kernel_rfl); (kernel_rfl); (kernel_rfl); (solve | (exact List.Sublist.refl _))) | refine aw_seq ?_ | refine aw_block ?_ | refine aw_region ?_ | refine aw_skip ?_ | refine aw_exit ?_ | refine aw_ret ?_ | refine aw_label ?_ | refine aw_scope ?_ | refine aw_cond_t rfl (by with_reducible rfl) ?_ | refine aw_cond_f rfl (by with_reducible rfl) ?_ | refine aw_draw (by kernel_rfl) (by kernel_rfl) ?_) | (first | (refine ah_is ?_; (fail_if_success first | refine ah_glit (b := true) rfl rfl rfl (by with_reducible rfl) ?_ | refine ah_glit (b := false) rfl rfl rfl (by with_reducible rfl) ?_); apply ah_gt; (exact rfl); (exact rfl); (exact rfl); exact t_a) | ((refine ao_is ?_; (fail_if_success first | refine ao_glit (b := true) rfl rfl (by with_reducible rfl) ?_ | refine ao_glit (b := false) rfl rfl (by with_reducible rfl) ?_)); apply ao_gt; (exact rfl); (exact rfl); exact t_a) | ((refine aq_is ?_; (fail_if_success first | refine aq_glit (b := true) rfl rfl (by with_reducible rfl) ?_ | refine aq_glit (b := false) rfl rfl (by with_reducible rfl) ?_)); apply aq_gt; (exact rfl); (exact rfl); exact t_a) | (apply aw_ct; (exact rfl); exact t_a)) | (first | (refine ah_is ?_; (fail_if_success first | refine ah_glit (b := true) rfl rfl rfl (by with_reducible rfl) ?_ | refine ah_glit (b := false) rfl rfl rfl (by with_reducible rfl) ?_); apply ah_gf; (exact rfl); (exact rfl); (exact rfl); exact f_a) | ((refine ao_is ?_; (fail_if_success first | refine ao_glit (b := true) rfl rfl (by with_reducible rfl) ?_ | refine ao_glit (b := false) rfl rfl (by with_reducible rfl) ?_)); apply ao_gf; (exact rfl); (exact rfl); exact f_a) | ((refine aq_is ?_; (fail_if_success first | refine aq_glit (b := true) rfl rfl (by with_reducible rfl) ?_ | refine aq_glit (b := false) rfl rfl (by with_reducible rfl) ?_)); apply aq_gf; (exact rfl); (exact rfl); exact f_a) | (apply aw_cf; (exact rfl); exact f_a)) | refine at_normal ?_ | refine at_exit ?_ | refine at_ret ?_ | refine ib_normal ?_ | refine ib_exit ?_ | refine ib_other ?_ | refine ib_ret ?_ | refine lq_exit ?_ | refine lq_ret ?_ | refine ci_ret ?_ | refine ci_exit ?_ | refine r1_ret rfl ?_ | refine r1_normal rfl ?_ | refine r2_ret rfl rfl ?_ | refine r2_normal rfl rfl ?_ | refine r3_ret rfl rfl rfl ?_ | refine r3_normal rfl rfl rfl ?_ | refine ng_normal ?_ | refine ng_exit ?_ | refine ng_ret ?_ | (apply rt_ret; (exact rfl); (exact rfl); (exact rfl); exact has_a; exact has_a; (exact rfl); (exact rfl)) | (apply rc1_ret; (exact rfl); exact has_a; (exact rfl)) | (apply rc2_ret; (exact rfl); exact has_a; (exact rfl); (exact rfl)) | (refine ao_is ?_; (fail_if_success first | refine ao_glit (b := true) rfl rfl (by with_reducible rfl) ?_ | refine ao_glit (b := false) rfl rfl (by with_reducible rfl) ?_); refine ao_gbool rfl rfl (fun _ => ?_) (fun _ => ?_)) | (refine aq_is ?_; (fail_if_success first | refine aq_glit (b := true) rfl rfl (by with_reducible rfl) ?_ | refine aq_glit (b := false) rfl rfl (by with_reducible rfl) ?_); refine aq_gbool rfl rfl (fun _ => ?_) (fun _ => ?_)) | (refine aw_is ?_; refine aw_cond rfl (fun _ => ?_) (fun _ => ?_)))
        exact lq_normal' ⟨i + 1, rfl, by omega, hgood (by rfl), rfl, rfl⟩ (by omega) (by repeat (first | exact sub_nil | refine sub_cons rfl ?_)) hsub_a
      · cases hq2 : rightO ⟨nk1, ns1, nn1, nver, nc1, ntm, nbs, nrs⟩
        · rw [hq2] at hrn
          rw [hbad (by rw [hq2]; rfl)]
          repeat' (first | (apply ao_nilh; exact hsub_a) | apply ao_nil | apply aq_nil | apply ah_end | ((first | apply ao_val | apply aq_val | (apply ah_take; (exact rfl))); exact wants_a; (first | exact ov_load_oa rfl hg cO rfl | exact ov_load_oa rfl hg cN rfl | exact ov_load_oa rfl hg cK rfl | exact ov_load_oa rfl hg cKo rfl | exact ov_load_oa rfl hg cKn rfl | exact ov_a); (exact rfl)) | ((first | apply ao_skip | apply aq_skip | (apply ah_skip; (exact rfl))); exact nots_a; (exact rfl)) | (refine ao_is ?_; first | (apply ao_new; exact wants_a; exact on_a; (exact rfl); intro _) | (apply ao_store; exact wants_a; exact ow_a; exact upd_a) | (apply ao_valw; exact wants_a; exact ox_a; (exact rfl); exact upd_a) | (apply ao_skip0; exact nots_a) | (apply ao_append; exact wants_a; (exact rfl); assumption; (exact rfl); exact cut_a; exact has_a; (exact rfl); (exact rfl); omega; omega; omega; (exact rfl); intro vr lr hr)) | ((first | apply ao_call | apply aq_call); exact wants_a; (first | exact oc_func rfl | exact oc_clos rfl rfl | exact oc_bnd rfl rfl); (exact rfl); (first | exact fun w hw => hro w hw.below | exact fun w hw => hrn w hw.below)) | (apply ah_one; (exact rfl)) | (apply ah_two; (exact rfl); (exact rfl)) | (apply ah_three; (exact rfl); (exact rfl); (exact rfl)) | (refine aw_is ?_; first | (apply aw_held (id := 6) (pl := (.t 0 (.t 1 (.t 2 (.t 3 (.t 4 (.t 5 (.t 6 (.t 7 (.t 8 (.t 9 (.t 10 (.t 11 (.t 12 (.t 13 (.t 14 (.t 15 (.t 16 (.t 17 (.t 18 (.t 19 (.t 20 (.t 21 (.t 22 (.t 23 (.t 24 (.t 25 (.t 26 (.t 27 (.t 28 (.t 29 (.t 30 (.t 31 (.t 32 (.t 33 (.t 34 (.t 35 (.t 36 (.t 37 (.t 38 (.t 39 (.t 40 (.t 41 (.t 42 (.t 43 (.t 44 (.t 45 (.t 46 (.t 47 .e))))))))))))))))))))))))))))))))))))))))))))))))); (kernel_rfl); (kernel_rfl); (kernel_rfl); (solve | (exact List.Sublist.refl _))) | refine aw_seq ?_ | refine aw_block ?_ | refine aw_region ?_ | refine aw_skip ?_ | refine aw_exit ?_ | refine aw_ret ?_ | refine aw_label ?_ | refine aw_scope ?_ | refine aw_cond_t rfl (by with_reducible rfl) ?_ | refine aw_cond_f rfl (by with_reducible rfl) ?_ | refine aw_draw (by kernel_rfl) (by kernel_rfl) ?_) | (first | (refine ah_is ?_; (fail_if_success first | refine ah_glit (b := true) rfl rfl rfl (by with_reducible rfl) ?_ | refine ah_glit (b := false) rfl rfl rfl (by with_reducible rfl) ?_); apply ah_gt; (exact rfl); (exact rfl); (exact rfl); exact t_a) | ((refine ao_is ?_; (fail_if_success first | refine ao_glit (b := true) rfl rfl (by with_reducible rfl) ?_ | refine ao_glit (b := false) rfl rfl (by with_reducible rfl) ?_)); apply ao_gt; (exact rfl); (exact rfl); exact t_a) | ((refine aq_is ?_; (fail_if_success first | refine aq_glit (b := true) rfl rfl (by with_reducible rfl) ?_ | refine aq_glit (b := false) rfl rfl (by with_reducible rfl) ?_)); apply aq_gt; (exact rfl); (exact rfl); exact t_a) | (apply aw_ct; (exact rfl); exact t_a)) | (first | (refine ah_is ?_; (fail_if_success first | refine ah_glit (b := true) rfl rfl rfl (by with_reducible rfl) ?_ | refine ah_glit (b := false) rfl rfl rfl (by with_reducible rfl) ?_); apply ah_gf; (exact rfl); (exact rfl); (exact rfl); exact f_a) | ((refine ao_is ?_; (fail_if_success first | refine ao_glit (b := true) rfl rfl (by with_reducible rfl) ?_ | refine ao_glit (b := false) rfl rfl (by with_reducible rfl) ?_)); apply ao_gf; (exact rfl); (exact rfl); exact f_a) | ((refine aq_is ?_; (fail_if_success first | refine aq_glit (b := true) rfl rfl (by with_reducible rfl) ?_ | refine aq_glit (b := false) rfl rfl (by with_reducible rfl) ?_)); apply aq_gf; (exact rfl); (exact rfl); exact f_a) | (apply aw_cf; (exact rfl); exact f_a)) | refine at_normal ?_ | refine at_exit ?_ | refine at_ret ?_ | refine ib_normal ?_ | refine ib_exit ?_ | refine ib_other ?_ | refine ib_ret ?_ | refine lq_exit ?_ | refine lq_ret ?_ | refine ci_ret ?_ | refine ci_exit ?_ | refine r1_ret rfl ?_ | refine r1_normal rfl ?_ | refine r2_ret rfl rfl ?_ | refine r2_normal rfl rfl ?_ | refine r3_ret rfl rfl rfl ?_ | refine r3_normal rfl rfl rfl ?_ | refine ng_normal ?_ | refine ng_exit ?_ | refine ng_ret ?_ | (apply rt_ret; (exact rfl); (exact rfl); (exact rfl); exact has_a; exact has_a; (exact rfl); (exact rfl)) | (apply rc1_ret; (exact rfl); exact has_a; (exact rfl)) | (apply rc2_ret; (exact rfl); exact has_a; (exact rfl); (exact rfl)) | (refine ao_is ?_; (fail_if_success first | refine ao_glit (b := true) rfl rfl (by with_reducible rfl) ?_ | refine ao_glit (b := false) rfl rfl (by with_reducible rfl) ?_); refine ao_gbool rfl rfl (fun _ => ?_) (fun _ => ?_)) | (refine aq_is ?_; (fail_if_success first | refine aq_glit (b := true) rfl rfl (by with_reducible rfl) ?_ | refine aq_glit (b := false) rfl rfl (by with_reducible rfl) ?_); refine aq_gbool rfl rfl (fun _ => ?_) (fun _ => ?_)) | (refine aw_is ?_; refine aw_cond rfl (fun _ => ?_) (fun _ => ?_)))
          exact fun w' hw => ⟨_, rfl, hw.toD rfl (l := []) (R := _) (List.Perm.refl _) ⟨v, .slice none 0 0, ps, rfl, rfl, fun w'' h _ => ⟨h, nilT w''⟩⟩⟩
        · rw [hq2] at hrn
          cases bN
          · have kN3 : (!eqAll [S nk1, S ns1, S nn1] [S dk, S ds2, S dn]) = true := by rw [kN2]; rfl
            rw [hbad (by rw [hq2]; rfl)]
            repeat' (first | (apply ao_nilh; exact hsub_a) | apply ao_nil | apply aq_nil | apply ah_end | ((first | apply ao_val | apply aq_val | (apply ah_take; (exact rfl))); exact wants_a; (first | exact ov_load_oa rfl hg cO rfl | exact ov_load_oa rfl hg cN rfl | exact ov_load_oa rfl hg cK rfl | exact ov_load_oa rfl hg cKo rfl | exact ov_load_oa rfl hg cKn rfl | exact ov_a); (exact rfl)) | ((first | apply ao_skip | apply aq_skip | (apply ah_skip; (exact rfl))); exact nots_a; (exact rfl)) | (refine ao_is ?_; first | (apply ao_new; exact wants_a; exact on_a; (exact rfl); intro _) | (apply ao_store; exact wants_a; exact ow_a; exact upd_a) | (apply ao_valw; exact wants_a; exact ox_a; (exact rfl); exact upd_a) | (apply ao_skip0; exact nots_a) | (apply ao_append; exact wants_a; (exact rfl); assumption; (exact rfl); exact cut_a; exact has_a; (exact rfl); (exact rfl); omega; omega; omega; (exact rfl); intro vr lr hr)) | ((first | apply ao_call | apply aq_call); exact wants_a; (first | exact oc_func rfl | exact oc_clos rfl rfl | exact oc_bnd rfl rfl); (exact rfl); (first | exact fun w hw => hro w hw.below | exact fun w hw => hrn w hw.below)) | (apply ah_one; (exact rfl)) | (apply ah_two; (exact rfl); (exact rfl)) | (apply ah_three; (exact rfl); (exact rfl); (exact rfl)) | (refine aw_is ?_; first | (apply aw_held (id := 6) (pl := (.t 0 (.t 1 (.t 2 (.t 3 (.t 4 (.t 5 (.t 6 (.t 7 (.t 8 (.t 9 (.t 10 (.t 11 (.t 12 (.t 13 (.t 14 (.t 15 (.t 16 (.t 17 (.t 18 (.t 19 (.t 20 (.t 21 (.t 22 (.t 23 (.t 24 (.t 25 (.t 26 (.t 27 (.t 28 (.t 29 (.t 30 (.t 31 (.t 32 (.t 33 (.t 34 (.t 35 (.t 36 (.t 37 (.t 38 (.t 39 (.t 40 (.t 41 (.t 42 (.t 43 (.t 44 (.t 45 (.t 46 (.t 47 .e))))))))))))))))))))))))))))))))))))))))))))))))); (kernel_rfl); (kernel_rfl); (kernel_rfl); (solve | (exact List.Sublist.refl _))) | refine aw_seq ?_ | refine aw_block ?_ | refine aw_region ?_ | refine aw_skip ?_ | refine aw_exit ?_ | refine aw_ret ?_ | refine aw_label ?_ | refine aw_scope ?_ | refine aw_cond_t rfl (by with_reducible rfl) ?_ | refine aw_cond_f rfl (by with_reducible rfl) ?_ | refine aw_draw (by kernel_rfl) (by kernel_rfl) ?_) | (first | (refine ah_is ?_; (fail_if_success first | refine ah_glit (b := true) rfl rfl rfl (by with_reducible rfl) ?_ | refine ah_glit (b := false) rfl rfl rfl (by with_reducible rfl) ?_); apply ah_gt; (exact rfl); (exact rfl); (exact rfl); exact t_a) | ((refine ao_is ?_; (fail_if_success first | refine ao_glit (b := true) rfl rfl (by with_reducible rfl) ?_ | refine ao_glit (b := false) rfl rfl (by with_reducible rfl) ?_)); apply ao_gt; (exact rfl); (exact rfl); exact t_a) | ((refine aq_is ?_; (fail_if_success first | refine aq_glit (b := true) rfl rfl (by with_reducible rfl) ?_ | refine aq_glit (b := false) rfl rfl (by with_reducible rfl) ?_)); apply aq_gt; (exact rfl); (exact rfl); exact t_a) | (apply aw_ct; (exact rfl); exact t_a)) | (first | (refine ah_is ?_; (fail_if_success first | refine ah_glit (b := true) rfl rfl rfl (by with_reducible rfl) ?_ | refine ah_glit (b := false) rfl rfl rfl (by with_reducible rfl) ?_); apply ah_gf; (exact rfl); (exact rfl); (exact rfl); exact f_a) | ((refine ao_is ?_; (fail_if_success first | refine ao_glit (b := true) rfl rfl (by with_reducible rfl) ?_ | refine ao_glit (b := false) rfl rfl (by with_reducible rfl) ?_)); apply ao_gf; (exact rfl); (exact rfl); exact f_a) | ((refine aq_is ?_; (fail_if_success first | refine aq_glit (b := true) rfl rfl (by with_reducible rfl) ?_ | refine aq_glit (b := false) rfl rfl (by with_reducible rfl) ?_)); apply aq_gf; (exact rfl); (exact rfl); exact f_a) | (apply aw_cf; (exact rfl); exact f_a)) | refine at_normal ?_ | refine at_exit ?_ | refine at_ret ?_ | refine ib_normal ?_ | refine ib_exit ?_ | refine ib_other ?_ | refine ib_ret ?_ | refine lq_exit ?_ | refine lq_ret ?_ | refine ci_ret ?_ | refine ci_exit ?_ | refine r1_ret rfl ?_ | refine r1_normal rfl ?_ | refine r2_ret rfl rfl ?_ | refine r2_normal rfl rfl ?_ | refine r3_ret rfl rfl rfl ?_ | refine r3_normal rfl rfl rfl ?_ | refine ng_normal ?_ | refine ng_exit ?_ | refine ng_ret ?_ | (apply rt_ret; (exact rfl); (exact rfl); (exact rfl); exact has_a; exact has_a; (exact rfl); (exact rfl)) | (apply rc1_ret; (exact rfl); exact has_a; (exact rfl)) | (apply rc2_ret; (exact rfl); exact has_a; (exact rfl); (exact rfl)) | (refine ao_is ?_; (fail_if_success first | refine ao_glit (b := true) rfl rfl (by with_reducible rfl) ?_ | refine ao_glit (b := false) rfl rfl (by with_reducible rfl) ?_); refine ao_gbool rfl rfl (fun _ => ?_) (fun _ => ?_)) | (refine aq_is ?_; (fail_if_success first | refine aq_glit (b := true) rfl rfl (by with_reducible rfl) ?_ | refine aq_glit (b := false) rfl rfl (by with_reducible rfl) ?_); refine aq_gbool rfl rfl (fun _ => ?_) (fun _ => ?_)) | (refine aw_is ?_; refine aw_cond rfl (fun _ => ?_) (fun _ => ?_)))
            exact fun w' hw => ⟨_, rfl, hw.toD rfl (l := []) (R := _) (List.Perm.refl _) ⟨v, .slice none 0 0, ps, rfl, rfl, fun w'' h _ => ⟨h, nilT w''⟩⟩⟩
          · have kN3 : (!eqAll [S nk1, S ns1, S nn1] [S dk, S ds2, S dn]) = false := by rw [kN2]; rfl
            repeat' (first | (apply ao_nilh; exact hsub_a) | apply ao_nil | apply aq_nil | apply ah_end | ((first | apply ao_val | apply aq_val | (apply ah_take; (exact rfl))); exact wants_a; (first | exact ov_load_oa rfl hg cO rfl | exact ov_load_oa rfl hg cN rfl | exact ov_load_oa rfl hg cK rfl | exact ov_load_oa rfl hg cKo rfl | exact ov_load_oa rfl hg cKn rfl | exact ov_a); (exact rfl)) | ((first | apply ao_skip | apply aq_skip | (apply ah_skip; (exact rfl))); exact nots_a; (exact rfl)) | (refine ao_is ?_; first | (apply ao_new; exact wants_a; exact on_a; (exact rfl); intro _) | (apply ao_store; exact wants_a; exact ow_a; exact upd_a) | (apply ao_valw; exact wants_a; exact ox_a; (exact rfl); exact upd_a) | (apply ao_skip0; exact nots_a) | (apply ao_append; exact wants_a; (exact rfl); assumption; (exact rfl); exact cut_a; exact has_a; (exact rfl); (exact rfl); omega; omega; omega; (exact rfl); intro vr lr hr)) | ((first | apply ao_call | apply aq_call); exact wants_a; (first | exact oc_func rfl | exact oc_clos rfl rfl | exact oc_bnd rfl rfl); (exact rfl); (first | exact fun w hw => hro w hw.below | exact fun w hw => hrn w hw.below)) | (apply ah_one; (exact rfl)) | (apply ah_two; (exact rfl); (exact rfl)) | (apply ah_three; (exact rfl); (exact rfl); (exact rfl)) | (refine aw_is ?_; first | (apply aw_held (id := 6) (pl := (.t 0 (.t 1 (.t 2 (.t 3 (.t 4 (.t 5 (.t 6 (.t 7 (.t 8 (.t 9 (.t 10 (.t 11 (.t 12 (.t 13 (.t 14 (.t 15 (.t 16 (.t 17 (.t 18 (.t 19 (.t 20 (.t 21 (.t 22 (.t 23 (.t 24 (.t 25 (.t 26 (.t 27 (.t 28 (.t 29 (.t 30 (.t 31 (.t 32 (.t 33 (.t 34 (.t 35 (.t 36 (.t 37 (.t 38 (.t 39 (.t 40 (.t 41 (.t 42 (.t 43 (.t 44 (.t 45 (.t 46 (.t 47 .e))))))))))))))))))))))))))))))))))))))))))))))))); (kernel_rfl); (kernel_rfl); (kernel_rfl); (solve | (exact List.Sublist.refl _))) | refine aw_seq ?_ | refine aw_block ?_ | refine aw_region ?_ | refine aw_skip ?_ | refine aw_exit ?_ | refine aw_ret ?_ | refine aw_label ?_ | refine aw_scope ?_ | refine aw_cond_t rfl (by with_reducible rfl) ?_ | refine aw_cond_f rfl (by with_reducible rfl) ?_ | refine aw_draw (by kernel_rfl) (by kernel_rfl) ?_) | (first | (refine ah_is ?_; (fail_if_success first | refine ah_glit (b := true) rfl rfl rfl (by with_reducible rfl) ?_ | refine ah_glit (b := false) rfl rfl rfl (by with_reducible rfl) ?_); apply ah_gt; (exact rfl); (exact rfl); (exact rfl); exact t_a) | ((refine ao_is ?_; (fail_if_success first | refine ao_glit (b := true) rfl rfl (by with_reducible rfl) ?_ | refine ao_glit (b := false) rfl rfl (by with_reducible rfl) ?_)); apply ao_gt; (exact rfl); (exact rfl); exact t_a) | ((refine aq_is ?_; (fail_if_success first | refine aq_glit (b := true) rfl rfl (by with_reducible rfl) ?_ | refine aq_glit (b := false) rfl rfl (by with_reducible rfl) ?_)); apply aq_gt; (exact rfl); (exact rfl); exact t_a) | (apply aw_ct; (exact rfl); exact t_a)) | (first | (refine ah_is ?_; (fail_if_success first | refine ah_glit (b := true) rfl rfl rfl (by with_reducible rfl) ?_ | refine ah_glit (b := false) rfl rfl rfl (by with_reducible rfl) ?_); apply ah_gf; (exact rfl); (exact rfl); (exact rfl); exact f_a) | ((refine ao_is ?_; (fail_if_success first | refine ao_glit (b := true) rfl rfl (by with_reducible rfl) ?_ | refine ao_glit (b := false) rfl rfl (by with_reducible rfl) ?_)); apply ao_gf; (exact rfl); (exact rfl); exact f_a) | ((refine aq_is ?_; (fail_if_success first | refine aq_glit (b := true) rfl rfl (by with_reducible rfl) ?_ | refine aq_glit (b := false) rfl rfl (by with_reducible rfl) ?_)); apply aq_gf; (exact rfl); (exact rfl); exact f_a) | (apply aw_cf; (exact rfl); exact f_a)) | refine at_normal ?_ | refine at_exit ?_ | refine at_ret ?_ | refine ib_normal ?_ | refine ib_exit ?_ | refine ib_other ?_ | refine ib_ret ?_ | refine lq_exit ?_ | refine lq_ret ?_ | refine ci_ret ?_ | refine ci_exit ?_ | refine r1_ret rfl ?_ | refine r1_normal rfl ?_ | refine r2_ret rfl rfl ?_ | refine r2_normal rfl rfl ?_ | refine r3_ret rfl rfl rfl ?_ | refine r3_normal rfl rfl rfl ?_ | refine ng_normal ?_ | refine ng_exit ?_ | refine ng_ret ?_ | (apply rt_ret; (exact rfl); (exact rfl); (exact rfl); exact has_a; exact has_a; (exact rfl); (exact rfl)) | (apply rc1_ret; (exact rfl); exact has_a; (exact rfl)) | (apply rc2_ret; (exact rfl); exact has_a; (exact rfl); (exact rfl)) | (refine ao_is ?_; (fail_if_success first | refine ao_glit (b := true) rfl rfl (by with_reducible rfl) ?_ | refine ao_glit (b := false) rfl rfl (by with_reducible rfl) ?_); refine ao_gbool rfl rfl (fun _ => ?_) (fun _ => ?_)) | (refine aq_is ?_; (fail_if_success first | refine aq_glit (b := true) rfl rfl (by with_reducible rfl) ?_ | refine aq_glit (b := false) rfl rfl (by with_reducible rfl) ?_); refine aq_gbool rfl rfl (fun _ => ?_) (fun _ => ?_)) | (refine aw_is ?_; refine aw_cond rfl (fun _ => ?_) (fun _ => ?_)))
            exact lq_normal' ⟨i + 1, rfl, by omega, hgood (by rw [hq2]; rfl), rfl, rfl⟩ (by omega) (by repeat (first | exact sub_nil | refine sub_cons rfl ?_)) hsub_a
    · cases hq : rightO ⟨ok1, os1, on1, over, oc1, otm, obs, ors⟩
      · rw [hq] at hro
        rw [hbad (by rw [hq]; rfl)]
        repeat' (first | (apply ao_nilh; exact hsub_a) | apply ao_nil | apply aq_nil | apply ah_end | ((first | apply ao_val | apply aq_val | (apply ah_take; (exact rfl))); exact wants_a; (first | exact ov_load_oa rfl hg cO rfl | exact ov_load_oa rfl hg cN rfl | exact ov_load_oa rfl hg cK rfl | exact ov_load_oa rfl hg cKo rfl | exact ov_load_oa rfl hg cKn rfl | exact ov_a); (exact rfl)) | ((first | apply ao_skip | apply aq_skip | (apply ah_skip; (exact rfl))); exact nots_a; (exact rfl)) | (refine ao_is ?_; first | (apply ao_new; exact wants_a; exact on_a; (exact rfl); intro _) | (apply ao_store; exact wants_a; exact ow_a; exact upd_a) | (apply ao_valw; exact wants_a; exact ox_a; (exact rfl); exact upd_a) | (apply ao_skip0; exact nots_a) | (apply ao_append; exact wants_a; (exact rfl); assumption; (exact rfl); exact cut_a; exact has_a; (exact rfl); (exact rfl); omega; omega; omega; (exact rfl); intro vr lr hr)) | ((first | apply ao_call | apply aq_call); exact wants_a; (first | exact oc_func rfl | exact oc_clos rfl rfl | exact oc_bnd rfl rfl); (exact rfl); (first | exact fun w hw => hro w hw.below | exact fun w hw => hrn w hw.below)) | (apply ah_one; (exact rfl)) | (apply ah_two; (exact rfl); (exact rfl)) | (apply ah_three; (exact rfl); (exact rfl); (exact rfl)) | (refine aw_is ?_; first | (apply aw_held (id := 6) (pl := (.t 0 (.t 1 (.t 2 (.t 3 (.t 4 (.t 5 (.t 6 (.t 7 (.t 8 (.t 9 (.t 10 (.t 11 (.t 12 (.t 13 (.t 14 (.t 15 (.t 16 (.t 17 (.t 18 (.t 19 (.t 20 (.t 21 (.t 22 (.t 23 (.t 24 (.t 25 (.t 26 (.t 27 (.t 28 (.t 29 (.t 30 (.t 31 (.t 32 (.t 33 (.t 34 (.t 35 (.t 36 (.t 37 (.t 38 (.t 39 (.t 40 (.t 41 (.t 42 (.t 43 (.t 44 (.t 45 (.t 46 (.t 47 .e))))))))))))))))))))))))))))))))))))))))))))))))); (kernel_rfl); (kernel_rfl); (kernel_rfl); (solve | (exact List.Sublist.refl _))) | refine aw_seq ?_ | refine aw_block ?_ | refine aw_region ?_ | refine aw_skip ?_ | refine aw_exit ?_ | refine aw_ret ?_ | refine aw_label ?_ | refine aw_scope ?_ | refine aw_cond_t rfl (by with_reducible rfl) ?_ | refine aw_cond_f rfl (by with_reducible rfl) ?_ | refine aw_draw (by kernel_rfl) (by kernel_rfl) ?_) | (first | (refine ah_is ?_; (fail_if_success first | refine ah_glit (b := true) rfl rfl rfl (by with_reducible rfl) ?_ | refine ah_glit (b := false) rfl rfl rfl (by with_reducible rfl) ?_); apply ah_gt; (exact rfl); (exact rfl); (exact rfl); exact t_a) | ((refine ao_is ?_; (fail_if_success first | refine ao_glit (b := true) rfl rfl (by with_reducible rfl) ?_ | refine ao_glit (b := false) rfl rfl (by with_reducible rfl) ?_)); apply ao_gt; (exact rfl); (exact rfl); exact t_a) | ((refine aq_is ?_; (fail_if_success first | refine aq_glit (b := true) rfl rfl (by with_reducible rfl) ?_ | refine aq_glit (b := false) rfl rfl (by with_reducible rfl) ?_)); apply aq_gt; (exact rfl); (exact rfl); exact t_a) | (apply aw_ct; (exact rfl); exact t_a)) | (first | (refine ah_is ?_; (fail_if_success first | refine ah_glit (b := true) rfl rfl rfl (by with_reducible rfl) ?_ | refine ah_glit (b := false) rfl rfl rfl (by with_reducible rfl) ?_); apply ah_gf; (exact rfl); (exact rfl); (exact rfl); exact f_a) | ((refine ao_is ?_; (fail_if_success first | refine ao_glit (b := true) rfl rfl (by with_reducible rfl) ?_ | refine ao_glit (b := false) rfl rfl (by with_reducible rfl) ?_)); apply ao_gf; (exact rfl); (exact rfl); exact f_a) | ((refine aq_is ?_; (fail_if_success first | refine aq_glit (b := true) rfl rfl (by with_reducible rfl) ?_ | refine aq_glit (b := false) rfl rfl (by with_reducible rfl) ?_)); apply aq_gf; (exact rfl); (exact rfl); exact f_a) | (apply aw_cf; (exact rfl); exact f_a)) | refine at_normal ?_ | refine at_exit ?_ | refine at_ret ?_ | refine ib_normal ?_ | refine ib_exit ?_ | refine ib_other ?_ | refine ib_ret ?_ | refine lq_exit ?_ | refine lq_ret ?_ | refine ci_ret ?_ | refine ci_exit ?_ | refine r1_ret rfl ?_ | refine r1_normal rfl ?_ | refine r2_ret rfl rfl ?_ | refine r2_normal rfl rfl ?_ | refine r3_ret rfl rfl rfl ?_ | refine r3_normal rfl rfl rfl ?_ | refine ng_normal ?_ | refine ng_exit ?_ | refine ng_ret ?_ | (apply rt_ret; (exact rfl); (exact rfl); (exact rfl); exact has_a; exact has_a; (exact rfl); (exact rfl)) | (apply rc1_ret; (exact rfl); exact has_a; (exact rfl)) | (apply rc2_ret; (exact rfl); exact has_a; (exact rfl); (exact rfl)) | (refine ao_is ?_; (fail_if_success first | refine ao_glit (b := true) rfl rfl (by with_reducible rfl) ?_ | refine ao_glit (b := false) rfl rfl (by with_reducible rfl) ?_); refine ao_gbool rfl rfl (fun _ => ?_) (fun _ => ?_)) | (refine aq_is ?_; (fail_if_success first | refine aq_glit (b := true) rfl rfl (by with_reducible rfl) ?_ | refine aq_glit (b := false) rfl rfl (by with_reducible rfl) ?_); refine aq_gbool rfl rfl (fun _ => ?_) (fun _ => ?_)) | (refine aw_is ?_; refine aw_cond rfl (fun _ => ?_) (fun _ => ?_)))
        exact fun w' hw => ⟨_, rfl, hw.toD rfl (l := []) (R := _) (List.Perm.refl _) ⟨v, .slice none 0 0, ps, rfl, rfl, fun w'' h _ => ⟨h, nilT w''⟩⟩⟩
      · rw [hq] at hro
        cases bO
        · have kO3 : (!eqAll [S ok1, S os1, S on1] [S dk, S ds2, S dn]) = true := by rw [kO2]; rfl
          rw [hbad (by rw [hq]; rfl)]
          repeat' (first | (apply ao_nilh; exact hsub_a) | apply ao_nil | apply aq_nil | apply ah_end | ((first | apply ao_val | apply aq_val | (apply ah_take; (exact rfl))); exact wants_a; (first | exact ov_load_oa rfl hg cO rfl | exact ov_load_oa rfl hg cN rfl | exact ov_load_oa rfl hg cK rfl | exact ov_load_oa rfl hg cKo rfl | exact ov_load_oa rfl hg cKn rfl | exact ov_a); (exact rfl)) | ((first | apply ao_skip | apply aq_skip | (apply ah_skip; (exact rfl))); exact nots_a; (exact rfl)) | (refine ao_is ?_; first | (apply ao_new; exact wants_a; exact on_a; (exact rfl); intro _) | (apply ao_store; exact wants_a; exact ow_a; exact upd_a) | (apply ao_valw; exact wants_a; exact ox_a; (exact rfl); exact upd_a) | (apply ao_skip0; exact nots_a) | (apply ao_append; exact wants_a; (exact rfl); assumption; (exact rfl); exact cut_a; exact has_a; (exact rfl); (exact rfl); omega; omega; omega; (exact rfl); intro vr lr hr)) | ((first | apply ao_call | apply aq_call); exact wants_a; (first | exact oc_func rfl | exact oc_clos rfl rfl | exact oc_bnd rfl rfl); (exact rfl); (first | exact fun w hw => hro w hw.below | exact fun w hw => hrn w hw.below)) | (apply ah_one; (exact rfl)) | (apply ah_two; (exact rfl); (exact rfl)) | (apply ah_three; (exact rfl); (exact rfl); (exact rfl)) | (refine aw_is ?_; first | (apply aw_held (id := 6) (pl := (.t 0 (.t 1 (.t 2 (.t 3 (.t 4 (.t 5 (.t 6 (.t 7 (.t 8 (.t 9 (.t 10 (.t 11 (.t 12 (.t 13 (.t 14 (.t 15 (.t 16 (.t 17 (.t 18 (.t 19 (.t 20 (.t 21 (.t 22 (.t 23 (.t 24 (.t 25 (.t 26 (.t 27 (.t 28 (.t 29 (.t 30 (.t 31 (.t 32 (.t 33 (.t 34 (.t 35 (.t 36 (.t 37 (.t 38 (.t 39 (.t 40 (.t 41 (.t 42 (.t 43 (.t 44 (.t 45 (.t 46 (.t 47 .e))))))))))))))))))))))))))))))))))))))))))))))))); (kernel_rfl); (kernel_rfl); (kernel_rfl); (solve | (exact List.Sublist.refl _))) | refine aw_seq ?_ | refine aw_block ?_ | refine aw_region ?_ | refine aw_skip ?_ | refine aw_exit ?_ | refine aw_ret ?_ | refine aw_label ?_ | refine aw_scope ?_ | refine aw_cond_t rfl (by with_reducible rfl) ?_ | refine aw_cond_f rfl (by with_reducible rfl) ?_ | refine aw_draw (by kernel_rfl) (by kernel_rfl) ?_) | (first | (refine ah_is ?_; (fail_if_success first | refine ah_glit (b := true) rfl rfl rfl (by with_reducible rfl) ?_ | refine ah_glit (b := false) rfl rfl rfl (by with_reducible rfl) ?_); apply ah_gt; (exact rfl); (exact rfl); (exact rfl); exact t_a) | ((refine ao_is ?_; (fail_if_success first | refine ao_glit (b := true) rfl rfl (by with_reducible rfl) ?_ | refine ao_glit (b := false) rfl rfl (by with_reducible rfl) ?_)); apply ao_gt; (exact rfl); (exact rfl); exact t_a) | ((refine aq_is ?_; (fail_if_success first | refine aq_glit (b := true) rfl rfl (by with_reducible rfl) ?_ | refine aq_glit (b := false) rfl rfl (by with_reducible rfl) ?_)); apply aq_gt; (exact rfl); (exact rfl); exact t_a) | (apply aw_ct; (exact rfl); exact t_a)) | (first | (refine ah_is ?_; (fail_if_success first | refine ah_glit (b := true) rfl rfl rfl (by with_reducible rfl) ?_ | refine ah_glit (b := false) rfl rfl rfl (by with_reducible rfl) ?_); apply ah_gf; (exact rfl); (exact rfl); (exact rfl); exact f_a) | ((refine ao_is ?_; (fail_if_success first | refine ao_glit (b := true) rfl rfl (by with_reducible rfl) ?_ | refine ao_glit (b := false) rfl rfl (by with_reducible rfl) ?_)); apply ao_gf; (exact rfl); (exact rfl); exact f_a) | ((refine aq_is ?_; (fail_if_success first | refine aq_glit (b := true) rfl rfl (by with_reducible rfl) ?_ | refine aq_glit (b := false) rfl rfl (by with_reducible rfl) ?_)); apply aq_gf; (exact rfl); (exact rfl); exact f_a) | (apply aw_cf; (exact rfl); exact f_a)) | refine at_normal ?_ | refine at_exit ?_ | refine at_ret ?_ | refine ib_normal ?_ | refine ib_exit ?_ | refine ib_other ?_ | refine ib_ret ?_ | refine lq_exit ?_ | refine lq_ret ?_ | refine ci_ret ?_ | refine ci_exit ?_ | refine r1_ret rfl ?_ | refine r1_normal rfl ?_ | refine r2_ret rfl rfl ?_ | refine r2_normal rfl rfl ?_ | refine r3_ret rfl rfl rfl ?_ | refine r3_normal rfl rfl rfl ?_ | refine ng_normal ?_ | refine ng_exit ?_ | refine ng_ret ?_ | (apply rt_ret; (exact rfl); (exact rfl); (exact rfl); exact has_a; exact has_a; (exact rfl); (exact rfl)) | (apply rc1_ret; (exact rfl); exact has_a; (exact rfl)) | (apply rc2_ret; (exact rfl); exact has_a; (exact rfl); (exact rfl)) | (refine ao_is ?_; (fail_if_success first | refine ao_glit (b := true) rfl rfl (by with_reducible rfl) ?_ | refine ao_glit (b := false) rfl rfl (by with_reducible rfl) ?_); refine ao_gbool rfl rfl (fun _ => ?_) (fun _ => ?_)) | (refine aq_is ?_; (fail_if_success first | refine aq_glit (b := true) rfl rfl (by with_reducible rfl) ?_ | refine aq_glit (b := false) rfl rfl (by with_reducible rfl) ?_); refine aq_gbool rfl rfl (fun _ => ?_) (fun _ => ?_)) | (refine aw_is ?_; refine aw_cond rfl (fun _ => ?_) (fun _ => ?_)))
          exact fun w' hw => ⟨_, rfl, hw.toD rfl (l := []) (R := _) (List.Perm.refl _) ⟨v, .slice none 0 0, ps, rfl, rfl, fun w'' h _ => ⟨h, nilT w''⟩⟩⟩
        · have kO3 : (!eqAll [S ok1, S os1, S on1] [S dk, S ds2, S dn]) = false := by rw [kO2]; rfl
          cases has
          · repeat' (first | (apply ao_nilh; exact hsub_a) | apply ao_nil | apply aq_nil | apply ah_end | ((first | apply ao_val | apply aq_val | (apply ah_take; (exact rfl))); exact wants_a; (first | exact ov_load_oa rfl hg cO rfl | exact ov_load_oa rfl hg cN rfl | exact ov_load_oa rfl hg cK rfl | exact ov_load_oa rfl hg cKo rfl | exact ov_load_oa rfl hg cKn rfl | exact ov_a); (exact rfl)) | ((first | apply ao_skip | apply aq_skip | (apply ah_skip; (exact rfl))); exact nots_a; (exact rfl)) | (refine ao_is ?_; first | (apply ao_new; exact wants_a; exact on_a; (exact rfl); intro _) | (apply ao_store; exact wants_a; exact ow_a; exact upd_a) | (apply ao_valw; exact wants_a; exact ox_a; (exact rfl); exact upd_a) | (apply ao_skip0; exact nots_a) | (apply ao_append; exact wants_a; (exact rfl); assumption; (exact rfl); exact cut_a; exact has_a; (exact rfl); (exact rfl); omega; omega; omega; (exact rfl); intro vr lr hr)) | ((first | apply ao_call | apply aq_call); exact wants_a; (first | exact oc_func rfl | exact oc_clos rfl rfl | exact oc_bnd rfl rfl); (exact rfl); (first | exact fun w hw => hro w hw.below | exact fun w hw => hrn w hw.below)) | (apply ah_one; (exact rfl)) | (apply ah_two; (exact rfl); (exact rfl)) | (apply ah_three; (exact rfl); (exact rfl); (exact rfl)) | (refine aw_is ?_; first | (apply aw_held (id := 6) (pl := (.t 0 (.t 1 (.t 2 (.t 3 (.t 4 (.t 5 (.t 6 (.t 7 (.t 8 (.t 9 (.t 10 (.t 11 (.t 12 (.t 13 (.t 14 (.t 15 (.t 16 (.t 17 (.t 18 (.t 19 (.t 20 (.t 21 (.t 22 (.t 23 (.t 24 (.t 25 (.t 26 (.t 27 (.t 28 (.t 29 (.t 30 (.t 31 (.t 32 (.t 33 (.t 34 (.t 35 (.t 36 (.t 37 (.t 38 (.t 39 (.t 40 (.t 41 (.t 42 (.t 43 (.t 44 (.t 45 (.t 46 (.t 47 .e))))))))))))))))))))))))))))))))))))))))))))))))); (kernel_rfl); (kernel_rfl); (kernel_rfl); (solve | (exact List.Sublist.refl _))) | refine aw_seq ?_ | refine aw_block ?_ | refine aw_region ?_ | refine aw_skip ?_ | refine aw_exit ?_ | refine aw_ret ?_ | refine aw_label ?_ | refine aw_scope ?_ | refine aw_cond_t rfl (by with_reducible rfl) ?_ | refine aw_cond_f rfl (by with_reducible rfl) ?_ | refine aw_draw (by kernel_rfl) (by kernel_rfl) ?_) | (first | (refine ah_is ?_; (fail_if_success first | refine ah_glit (b := true) rfl rfl rfl (by with_reducible rfl) ?_ | refine ah_glit (b := false) rfl rfl rfl (by with_reducible rfl) ?_); apply ah_gt; (exact rfl); (exact rfl); (exact rfl); exact t_a) | ((refine ao_is ?_; (fail_if_success first | refine ao_glit (b := true) rfl rfl (by with_reducible rfl) ?_ | refine ao_glit (b := false) rfl rfl (by with_reducible rfl) ?_)); apply ao_gt; (exact rfl); (exact rfl); exact t_a) | ((refine aq_is ?_; (fail_if_success first | refine aq_glit (b := true) rfl rfl (by with_reducible rfl) ?_ | refine aq_glit (b := false) rfl rfl (by with_reducible rfl) ?_)); apply aq_gt; (exact rfl); (exact rfl); exact t_a) | (apply aw_ct; (exact rfl); exact t_a)) | (first | (refine ah_is ?_; (fail_if_success first | refine ah_glit (b := true) rfl rfl rfl (by with_reducible rfl) ?_ | refine ah_glit (b := false) rfl rfl rfl (by with_reducible rfl) ?_); apply ah_gf; (exact rfl); (exact rfl); (exact rfl); exact f_a) | ((refine ao_is ?_; (fail_if_success first | refine ao_glit (b := true) rfl rfl (by with_reducible rfl) ?_ | refine ao_glit (b := false) rfl rfl (by with_reducible rfl) ?_)); apply ao_gf; (exact rfl); (exact rfl); exact f_a) | ((refine aq_is ?_; (fail_if_success first | refine aq_glit (b := true) rfl rfl (by with_reducible rfl) ?_ | refine aq_glit (b := false) rfl rfl (by with_reducible rfl) ?_)); apply aq_gf; (exact rfl); (exact rfl); exact f_a) | (apply aw_cf; (exact rfl); exact f_a)) | refine at_normal ?_ | refine at_exit ?_ | refine at_ret ?_ | refine ib_normal ?_ | refine ib_exit ?_ | refine ib_other ?_ | refine ib_ret ?_ | refine lq_exit ?_ | refine lq_ret ?_ | refine ci_ret ?_ | refine ci_exit ?_ | refine r1_ret rfl ?_ | refine r1_normal rfl ?_ | refine r2_ret rfl rfl ?_ | refine r2_normal rfl rfl ?_ | refine r3_ret rfl rfl rfl ?_ | refine r3_normal rfl rfl rfl ?_ | refine ng_normal ?_ | refine ng_exit ?_ | refine ng_ret ?_ | (apply rt_ret; (exact rfl); (exact rfl); (exact rfl); exact has_a; exact has_a; (exact rfl); (exact rfl)) | (apply rc1_ret; (exact rfl); exact has_a; (exact rfl)) | (apply rc2_ret; (exact rfl); exact has_a; (exact rfl); (exact rfl)) | (refine ao_is ?_; (fail_if_success first | refine ao_glit (b := true) rfl rfl (by with_reducible rfl) ?_ | refine ao_glit (b := false) rfl rfl (by with_reducible rfl) ?_); refine ao_gbool rfl rfl (fun _ => ?_) (fun _ => ?_)) | (refine aq_is ?_; (fail_if_success first | refine aq_glit (b := true) rfl rfl (by with_reducible rfl) ?_ | refine aq_glit (b := false) rfl rfl (by with_reducible rfl) ?_); refine aq_gbool rfl rfl (fun _ => ?_) (fun _ => ?_)) | (refine aw_is ?_; refine aw_cond rfl (fun _ => ?_) (fun _ => ?_)))
            exact lq_normal' ⟨i + 1, rfl, by omega, hgood (by rw [hq]; rfl), rfl, rfl⟩ (by omega) (by repeat (first | exact sub_nil | refine sub_cons rfl ?_)) hsub_a
          · cases hq2 : rightO ⟨nk1, ns1, nn1, nver, nc1, ntm, nbs, nrs⟩
            · rw [hq2] at hrn
              rw [hbad (by rw [hq, hq2]; rfl)]
              repeat' (first | (apply ao_nilh; exact hsub_a) | apply ao_nil | apply aq_nil | apply ah_end | ((first | apply ao_val | apply aq_val | (apply ah_take; (exact rfl))); exact wants_a; (first | exact ov_load_oa rfl hg cO rfl | exact ov_load_oa rfl hg cN rfl | exact ov_load_oa rfl hg cK rfl | exact ov_load_oa rfl hg cKo rfl | exact ov_load_oa rfl hg cKn rfl | exact ov_a); (exact rfl)) | ((first | apply ao_skip | apply aq_skip | (apply ah_skip; (exact rfl))); exact nots_a; (exact rfl)) | (refine ao_is ?_; first | (apply ao_new; exact wants_a; exact on_a; (exact rfl); intro _) | (apply ao_store; exact wants_a; exact ow_a; exact upd_a) | (apply ao_valw; exact wants_a; exact ox_a; (exact rfl); exact upd_a) | (apply ao_skip0; exact nots_a) | (apply ao_append; exact wants_a; (exact rfl); assumption; (exact rfl); exact cut_a; exact has_a; (exact rfl); (exact rfl); omega; omega; omega; (exact rfl); intro vr lr hr)) | ((first | apply ao_call | apply aq_call); exact wants_a; (first | exact oc_func rfl | exact oc_clos rfl rfl | exact oc_bnd rfl rfl); (exact rfl); (first | exact fun w hw => hro w hw.below | exact fun w hw => hrn w hw.below)) | (apply ah_one; (exact rfl)) | (apply ah_two; (exact rfl); (exact rfl)) | (apply ah_three; (exact rfl); (exact rfl); (exact rfl)) | (refine aw_is ?_; first | (apply aw_held (id := 6) (pl := (.t 0 (.t 1 (.t 2 (.t 3 (.t 4 (.t 5 (.t 6 (.t 7 (.t 8 (.t 9 (.t 10 (.t 11 (.t 12 (.t 13 (.t 14 (.t 15 (.t 16 (.t 17 (.t 18 (.t 19 (.t 20 (.t 21 (.t 22 (.t 23 (.t 24 (.t 25 (.t 26 (.t 27 (.t 28 (.t 29 (.t 30 (.t 31 (.t 32 (.t 33 (.t 34 (.t 35 (.t 36 (.t 37 (.t 38 (.t 39 (.t 40 (.t 41 (.t 42 (.t 43 (.t 44 (.t 45 (.t 46 (.t 47 .e))))))))))))))))))))))))))))))))))))))))))))))))); (kernel_rfl); (kernel_rfl); (kernel_rfl); (solve | (exact List.Sublist.refl _))) | refine aw_seq ?_ | refine aw_block ?_ | refine aw_region ?_ | refine aw_skip ?_ | refine aw_exit ?_ | refine aw_ret ?_ | refine aw_label ?_ | refine aw_scope ?_ | refine aw_cond_t rfl (by with_reducible rfl) ?_ | refine aw_cond_f rfl (by with_reducible rfl) ?_ | refine aw_draw (by kernel_rfl) (by kernel_rfl) ?_) | (first | (refine ah_is ?_; (fail_if_success first | refine ah_glit (b := true) rfl rfl rfl (by with_reducible rfl) ?_ | refine ah_glit (b := false) rfl rfl rfl (by with_reducible rfl) ?_); apply ah_gt; (exact rfl); (exact rfl); (exact rfl); exact t_a) | ((refine ao_is ?_; (fail_if_success first | refine ao_glit (b := true) rfl rfl (by with_reducible rfl) ?_ | refine ao_glit (b := false) rfl rfl (by with_reducible rfl) ?_)); apply ao_gt; (exact rfl); (exact rfl); exact t_a) | ((refine aq_is ?_; (fail_if_success first | refine aq_glit (b := true) rfl rfl (by with_reducible rfl) ?_ | refine aq_glit (b := false) rfl rfl (by with_reducible rfl) ?_)); apply aq_gt; (exact rfl); (exact rfl); exact t_a) | (apply aw_ct; (exact rfl); exact t_a)) | (first | (refine ah_is ?_; (fail_if_success first | refine ah_glit (b := true) rfl rfl rfl (by with_reducible rfl) ?_ | refine ah_glit (b := false) rfl rfl rfl (by with_reducible rfl) ?_); apply ah_gf; (exact rfl); (exact rfl); (exact rfl); exact f_a) | ((refine ao_is ?_; (fail_if_success first | refine ao_glit (b := true) rfl rfl (by with_reducible rfl) ?_ | refine ao_glit (b := false) rfl rfl (by with_reducible rfl) ?_)); apply ao_gf; (exact rfl); (exact rfl); exact f_a) | ((refine aq_is ?_; (fail_if_success first | refine aq_glit (b := true) rfl rfl (by with_reducible rfl) ?_ | refine aq_glit (b := false) rfl rfl (by with_reducible rfl) ?_)); apply aq_gf; (exact rfl); (exact rfl); exact f_a) | (apply aw_cf; (exact rfl); exact f_a)) | refine at_normal ?_ | refine at_exit ?_ | refine at_ret ?_ | refine ib_normal ?_ | refine ib_exit ?_ | refine ib_other ?_ | refine ib_ret ?_ | refine lq_exit ?_ | refine lq_ret ?_ | refine ci_ret ?_ | refine ci_exit ?_ | refine r1_ret rfl ?_ | refine r1_normal rfl ?_ | refine r2_ret rfl rfl ?_ | refine r2_normal rfl rfl ?_ | refine r3_ret rfl rfl rfl ?_ | refine r3_normal rfl rfl rfl ?_ | refine ng_normal ?_ | refine ng_exit ?_ | refine ng_ret ?_ | (apply rt_ret; (exact rfl); (exact rfl); (exact rfl); exact has_a; exact has_a; (exact rfl); (exact rfl)) | (apply rc1_ret; (exact rfl); exact has_a; (exact rfl)) | (apply rc2_ret; (exact rfl); exact has_a; (exact rfl); (exact rfl)) | (refine ao_is ?_; (fail_if_success first | refine ao_glit (b := true) rfl rfl (by with_reducible rfl) ?_ | refine ao_glit (b := false) rfl rfl (by with_reducible rfl) ?_); refine ao_gbool rfl rfl (fun _ => ?_) (fun _ => ?_)) | (refine aq_is ?_; (fail_if_success first | refine aq_glit (b := true) rfl rfl (by with_reducible rfl) ?_ | refine aq_glit (b := false) rfl rfl (by with_reducible rfl) ?_); refine aq_gbool rfl rfl (fun _ => ?_) (fun _ => ?_)) | (refine aw_is ?_; refine aw_cond rfl (fun _ => ?_) (fun _ => ?_)))
              exact fun w' hw => ⟨_, rfl, hw.toD rfl (l := []) (R := _) (List.Perm.refl _) ⟨v, .slice none 0 0, ps, rfl, rfl, fun w'' h _ => ⟨h, nilT w''⟩⟩⟩
            · rw [hq2] at hrn
              cases bN
              · have kN3 : (!eqAll [S nk1, S ns1, S nn1] [S dk, S ds2, S dn]) = true := by rw [kN2]; rfl
                rw [hbad (by rw [hq, hq2]; rfl)]
                repeat' (first | (apply ao_nilh; exact hsub_a) | apply ao_nil | apply aq_nil | apply ah_end | ((first | apply ao_val | apply aq_val | (apply ah_take; (exact rfl))); exact wants_a; (first | exact ov_load_oa rfl hg cO rfl | exact ov_load_oa rfl hg cN rfl | exact ov_load_oa rfl hg cK rfl | exact ov_load_oa rfl hg cKo rfl | exact ov_load_oa rfl hg cKn rfl | exact ov_a); (exact rfl)) | ((first | apply ao_skip | apply aq_skip | (apply ah_skip; (exact rfl))); exact nots_a; (exact rfl)) | (refine ao_is ?_; first | (apply ao_new; exact wants_a; exact on_a; (exact rfl); intro _) | (apply ao_store; exact wants_a; exact ow_a; exact upd_a) | (apply ao_valw; exact wants_a; exact ox_a; (exact rfl); exact upd_a) | (apply ao_skip0; exact nots_a) | (apply ao_append; exact wants_a; (exact rfl); assumption; (exact rfl); exact cut_a; exact has_a; (exact rfl); (exact rfl); omega; omega; omega; (exact rfl); intro vr lr hr)) | ((first | apply ao_call | apply aq_call); exact wants_a; (first | exact oc_func rfl | exact oc_clos rfl rfl | exact oc_bnd rfl rfl); (exact rfl); (first | exact fun w hw => hro w hw.below | exact fun w hw => hrn w hw.below)) | (apply ah_one; (exact rfl)) | (apply ah_two; (exact rfl); (exact rfl)) | (apply ah_three; (exact rfl); (exact rfl); (exact rfl)) | (refine aw_is ?_; first | (apply aw_held (id := 6) (pl := (.t 0 (.t 1 (.t 2 (.t 3 (.t 4 (.t 5 (.t 6 (.t 7 (.t 8 (.t 9 (.t 10 (.t 11 (.t 12 (.t 13 (.t 14 (.t 15 (.t 16 (.t 17 (.t 18 (.t 19 (.t 20 (.t 21 (.t 22 (.t 23 (.t 24 (.t 25 (.t 26 (.t 27 (.t 28 (.t 29 (.t 30 (.t 31 (.t 32 (.t 33 (.t 34 (.t 35 (.t 36 (.t 37 (.t 38 (.t 39 (.t 40 (.t 41 (.t 42 (.t 43 (.t 44 (.t 45 (.t 46 (.t 47 .e))))))))))))))))))))))))))))))))))))))))))))))))); (kernel_rfl); (kernel_rfl); (kernel_rfl); (solve | (exact List.Sublist.refl _))) | refine aw_seq ?_ | refine aw_block ?_ | refine aw_region ?_ | refine aw_skip ?_ | refine aw_exit ?_ | refine aw_ret ?_ | refine aw_label ?_ | refine aw_scope ?_ | refine aw_cond_t rfl (by with_reducible rfl) ?_ | refine aw_cond_f rfl (by with_reducible rfl) ?_ | refine aw_draw (by kernel_rfl) (by kernel_rfl) ?_) | (first | (refine ah_is ?_; (fail_if_success first | refine ah_glit (b := true) rfl rfl rfl (by with_reducible rfl) ?_ | refine ah_glit (b := false) rfl rfl rfl (by with_reducible rfl) ?_); apply ah_gt; (exact rfl); (exact rfl); (exact rfl); exact t_a) | ((refine ao_is ?_; (fail_if_success first | refine ao_glit (b := true) rfl rfl (by with_reducible rfl) ?_ | refine ao_glit (b := false) rfl rfl (by with_reducible rfl) ?_)); apply ao_gt; (exact rfl); (exact rfl); exact t_a) | ((refine aq_is ?_; (fail_if_success first | refine aq_glit (b := true) rfl rfl (by with_reducible rfl) ?_ | refine aq_glit (b := false) rfl rfl (by with_reducible rfl) ?_)); apply aq_gt; (exact rfl); (exact rfl); exact t_a) | (apply aw_ct; (exact rfl); exact t_a)) | (first | (refine ah_is ?_; (fail_if_success first | refine ah_glit (b := true) rfl rfl rfl (by with_reducible rfl) ?_ | refine ah_glit (b := false) rfl rfl rfl (by with_reducible rfl) ?_); apply ah_gf; (exact rfl); (exact rfl); (exact rfl); exact f_a) | ((refine ao_is ?_; (fail_if_success first | refine ao_glit (b := true) rfl rfl (by with_reducible rfl) ?_ | refine ao_glit (b := false) rfl rfl (by with_reducible rfl) ?_)); apply ao_gf; (exact rfl); (exact rfl); exact f_a) | ((refine aq_is ?_; (fail_if_success first | refine aq_glit (b := true) rfl rfl (by with_reducible rfl) ?_ | refine aq_glit (b := false) rfl rfl (by with_reducible rfl) ?_)); apply aq_gf; (exact rfl); (exact rfl); exact f_a) | (apply aw_cf; (exact rfl); exact f_a)) | refine at_normal ?_ | refine at_exit ?_ | refine at_ret ?_ | refine ib_normal ?_ | refine ib_exit ?_ | refine ib_other ?_ | refine ib_ret ?_ | refine lq_exit ?_ | refine lq_ret ?_ | refine ci_ret ?_ | refine ci_exit ?_ | refine r1_ret rfl ?_ | refine r1_normal rfl ?_ | refine r2_ret rfl rfl ?_ | refine r2_normal rfl rfl ?_ | refine r3_ret rfl rfl rfl ?_ | refine r3_normal rfl rfl rfl ?_ | refine ng_normal ?_ | refine ng_exit ?_ | refine ng_ret ?_ | (apply rt_ret; (exact rfl); (exact rfl); (exact rfl); exact has_a; exact has_a; (exact rfl); (exact rfl)) | (apply rc1_ret; (exact rfl); exact has_a; (exact rfl)) | (apply rc2_ret; (exact rfl); exact has_a; (exact rfl); (exact rfl)) | (refine ao_is ?_; (fail_if_success first | refine ao_glit (b := true) rfl rfl (by with_reducible rfl) ?_ | refine ao_glit (b := false) rfl rfl (by with_reducible rfl) ?_); refine ao_gbool rfl rfl (fun _ => ?_) (fun _ => ?_)) | (refine aq_is ?_; (fail_if_success first | refine aq_glit (b := true) rfl rfl (by with_reducible rfl) ?_ | refine aq_glit (b := false) rfl rfl (by with_reducible rfl) ?_); refine aq_gbool rfl rfl (fun _ => ?_) (fun _ => ?_)) | (refine aw_is ?_; refine aw_cond rfl (fun _ => ?_) (fun _ => ?_)))
                exact fun w' hw => ⟨_, rfl, hw.toD rfl (l := []) (R := _) (List.Perm.refl _) ⟨v, .slice none 0 0, ps, rfl, rfl, fun w'' h _ => ⟨h, nilT w''⟩⟩⟩
              · have kN3 : (!eqAll [S nk1, S ns1, S nn1] [S dk, S ds2, S dn]) = false := by rw [kN2]; rfl
                repeat' (first | (apply ao_nilh; exact hsub_a) | apply ao_nil | apply aq_nil | apply ah_end | ((first | apply ao_val | apply aq_val | (apply ah_take; (exact rfl))); exact wants_a; (first | exact ov_load_oa rfl hg cO rfl | exact ov_load_oa rfl hg cN rfl | exact ov_load_oa rfl hg cK rfl | exact ov_load_oa rfl hg cKo rfl | exact ov_load_oa rfl hg cKn rfl | exact ov_a); (exact rfl)) | ((first | apply ao_skip | apply aq_skip | (apply ah_skip; (exact rfl))); exact nots_a; (exact rfl)) | (refine ao_is ?_; first | (apply ao_new; exact wants_a; exact on_a; (exact rfl); intro _) | (apply ao_store; exact wants_a; exact ow_a; exact upd_a) | (apply ao_valw; exact wants_a; exact ox_a; (exact rfl); exact upd_a) | (apply ao_skip0; exact nots_a) | (apply ao_append; exact wants_a; (exact rfl); assumption; (exact rfl); exact cut_a; exact has_a; (exact rfl); (exact rfl); omega; omega; omega; (exact rfl); intro vr lr hr)) | ((first | apply ao_call | apply aq_call); exact wants_a; (first | exact oc_func rfl | exact oc_clos rfl rfl | exact oc_bnd rfl rfl); (exact rfl); (first | exact fun w hw => hro w hw.below | exact fun w hw => hrn w hw.below)) | (apply ah_one; (exact rfl)) | (apply ah_two; (exact rfl); (exact rfl)) | (apply ah_three; (exact rfl); (exact rfl); (exact rfl)) | (refine aw_is ?_; first | (apply aw_held (id := 6) (pl := (.t 0 (.t 1 (.t 2 (.t 3 (.t 4 (.t 5 (.t 6 (.t 7 (.t 8 (.t 9 (.t 10 (.t 11 (.t 12 (.t 13 (.t 14 (.t 15 (.t 16 (.t 17 (.t 18 (.t 19 (.t 20 (.t 21 (.t 22 (.t 23 (.t 24 (.t 25 (.t 26 (.t 27 (.t 28 (.t 29 (.t 30 (.t 31 (.t 32 (.t 33 (.t 34 (.t 35 (.t 36 (.t 37 (.t 38 (.t 39 (.t 40 (.t 41 (.t 42 (.t 43 (.t 44 (.t 45 (.t 46 (.t 47 .e))))))))))))))))))))))))))))))))))))))))))))))))); (kernel_rfl); (kernel_rfl); (kernel_rfl); (solve | (exact List.Sublist.refl _))) | refine aw_seq ?_ | refine aw_block ?_ | refine aw_region ?_ | refine aw_skip ?_ | refine aw_exit ?_ | refine aw_ret ?_ | refine aw_label ?_ | refine aw_scope ?_ | refine aw_cond_t rfl (by with_reducible rfl) ?_ | refine aw_cond_f rfl (by with_reducible rfl) ?_ | refine aw_draw (by kernel_rfl) (by kernel_rfl) ?_) | (first | (refine ah_is ?_; (fail_if_success first | refine ah_glit (b := true) rfl rfl rfl (by with_reducible rfl) ?_ | refine ah_glit (b := false) rfl rfl rfl (by with_reducible rfl) ?_); apply ah_gt; (exact rfl); (exact rfl); (exact rfl); exact t_a) | ((refine ao_is ?_; (fail_if_success first | refine ao_glit (b := true) rfl rfl (by with_reducible rfl) ?_ | refine ao_glit (b := false) rfl rfl (by with_reducible rfl) ?_)); apply ao_gt; (exact rfl); (exact rfl); exact t_a) | ((refine aq_is ?_; (fail_if_success first | refine aq_glit (b := true) rfl rfl (by with_reducible rfl) ?_ | refine aq_glit (b := false) rfl rfl (by with_reducible rfl) ?_)); apply aq_gt; (exact rfl); (exact rfl); exact t_a) | (apply aw_ct; (exact rfl); exact t_a)) | (first | (refine ah_is ?_; (fail_if_success first | refine ah_glit (b := true) rfl rfl rfl (by with_reducible rfl) ?_ | refine ah_glit (b := false) rfl rfl rfl (by with_reducible rfl) ?_); apply ah_gf; (exact rfl); (exact rfl); (exact rfl); exact f_a) | ((refine ao_is ?_; (fail_if_success first | refine ao_glit (b := true) rfl rfl (by with_reducible rfl) ?_ | refine ao_glit (b := false) rfl rfl (by with_reducible rfl) ?_)); apply ao_gf; (exact rfl); (exact rfl); exact f_a) | ((refine aq_is ?_; (fail_if_success first | refine aq_glit (b := true) rfl rfl (by with_reducible rfl) ?_ | refine aq_glit (b := false) rfl rfl (by with_reducible rfl) ?_)); apply aq_gf; (exact rfl); (exact rfl); exact f_a) | (apply aw_cf; (exact rfl); exact f_a)) | refine at_normal ?_ | refine at_exit ?_ | refine at_ret ?_ | refine ib_normal ?_ | refine ib_exit ?_ | refine ib_other ?_ | refine ib_ret ?_ | refine lq_exit ?_ | refine lq_ret ?_ | refine ci_ret ?_ | refine ci_exit ?_ | refine r1_ret rfl ?_ | refine r1_normal rfl ?_ | refine r2_ret rfl rfl ?_ | refine r2_normal rfl rfl ?_ | refine r3_ret rfl rfl rfl ?_ | refine r3_normal rfl rfl rfl ?_ | refine ng_normal ?_ | refine ng_exit ?_ | refine ng_ret ?_ | (apply rt_ret; (exact rfl); (exact rfl); (exact rfl); exact has_a; exact has_a; (exact rfl); (exact rfl)) | (apply rc1_ret; (exact rfl); exact has_a; (exact rfl)) | (apply rc2_ret; (exact rfl); exact has_a; (exact rfl); (exact rfl)) | (refine ao_is ?_; (fail_if_success first | refine ao_glit (b := true) rfl rfl (by with_reducible rfl) ?_ | refine ao_glit (b := false) rfl rfl (by with_reducible rfl) ?_); refine ao_gbool rfl rfl (fun _ => ?_) (fun _ => ?_)) | (refine aq_is ?_; (fail_if_success first | refine aq_glit (b := true) rfl rfl (by with_reducible rfl) ?_ | refine aq_glit (b := false) rfl rfl (by with_reducible rfl) ?_); refine aq_gbool rfl rfl (fun _ => ?_) (fun _ => ?_)) | (refine aw_is ?_; refine aw_cond rfl (fun _ => ?_) (fun _ => ?_)))
                exact lq_normal' ⟨i + 1, rfl, by omega, hgood (by rw [hq, hq2]; rfl), rfl, rfl⟩ (by omega) (by repeat (first | exact sub_nil | refine sub_cons rfl ?_)) hsub_a
  obtain rfl : i = ds.length := by omega
  obtain ⟨X, hX⟩ : ∃ X, applyS (scT ss) (sums ps) ds = X := ⟨_, rfl⟩
  rw [hX]
  unfold applyS at hX
  rw [if_pos (by
    rw [List.all_eq_true]
    intro x hx
    obtain ⟨j, hj⟩ := List.getElem?_of_mem hx
    exact hall j x (List.getElem?_eq_some_iff.1 hj).1 hj)] at hX
  generalize hG0 : applyG (scT ss) ds (sums ps) = G at hX
  clear hall hlt hi
  have hscl : (scT ss).length ≤ 20 := by rw [List.length_map]; exact hsl
  repeat' (first | refine aw_seq ?_ | refine zz ?_ | refine zon fun _ => ?_ | refine zoa fun vr lr hr => ?_ | refine zoS (fun _ => ?_) (fun _ => ?_) | refine zqS (fun _ => ?_) (fun _ => ?_) | refine zwS (fun _ => ?_) (fun _ => ?_))
  refine aw_for (t0 := [(0, vs), (1, v), (2, .slice a ds.length cp), (12, v), (13, I (0 : Nat))]) (fun q t H => ∃ (i : Nat) (v5 : Value) (ps5 : List Pu) (l5 : Hp), q = ds.length - i ∧ i ≤ ds.length ∧ applyG (scT ss) (ds.drop i) (sums ps5) = G ∧ BndU (k + 2 * i) (sums ps5) ∧ (∀ w'', SumAt w'' v ps → Lies w'' l5 → SumAt w'' v5 ps5) ∧ t = [(0, vs), (1, v), (2, .slice a ds.length cp), (12, v5), (13, I i)] ∧ H = l5 ++ []) ⟨0, v, ps, [], rfl, by omega, hG0, hb, fun w'' h _ => h, rfl, rfl⟩ (by repeat (first | exact sub_nil | refine sub_cons rfl ?_)) ?_
  clear hG0
  rintro q t H ⟨i, v5, ps5, l5, rfl, hi, hG, hB, hF, rfl, rfl⟩
  by_cases hlt : i < ds.length
  · obtain ⟨d, he⟩ := getP hlt
    have hmd := List.mem_of_getElem? he
    obtain ⟨g, o1, rfl, hg, hc⟩ := hat i _ (i : Int) he rfl
    have hwo := hwd _ hmd
    have hrs := hd.2 _ hmd
    have hdr : ds.drop i = d :: ds.drop (i + 1) := by
      have := List.getElem?_eq_some_iff.1 he
      rw [List.drop_eq_getElem_cons hlt, this.2]
    rw [hdr] at hG
    unfold applyG at hG
    clear hdr he hmd
    obtain ⟨⟨dk, ds2, dn⟩, had, has, ⟨uo, oo⟩, ⟨un, on⟩⟩ := d
    have hm1 := fun w' (hb : Below w.heap.size w w') (h : SumAt w' v5 ps5) => rmoveS_ok (hs.below hb) hws hsl h hB (by omega) hwo.1 (hrs.1.below hb) true
    have hb1 := moveS_bnd (scs := scT ss) (less := true) hwo.1 (by omega : k + 2 * i ≤ 1000) hscl hB
    have hm2 := fun {L6 : List Su} {v6 ps6} (e6 : sums ps6 = L6) (hB6 : BndU (k + 2 * i + 1) L6) w' (hb : Below w.heap.size w w') (h : SumAt w' v6 ps6) => e6 ▸ rmoveS_ok (v := v6) (ps := ps6) (hs.below hb) hws hsl h (e6 ▸ hB6) (by omega) hwo.2 (hrs.2.below hb) false
    have hb2 := fun {L6 : List Su} (hB6 : BndU (k + 2 * i + 1) L6) => moveS_bnd (scs := scT ss) (less := false) hwo.2 (by omega : k + 2 * i + 1 ≤ 1000) hscl hB6
    have hup : BndU (k + 2 * i + 1) (sums ps5) := ⟨by have := hB.len; omega, hB.sp, fun e he => ⟨(hB.vs e he).1, by have := (hB.vs e he).2; omega⟩⟩
    simp only at hm1 hm2 hb1 hb2
    obtain ⟨ok1, os1, on1, over, oc1, otm, obs, ors⟩ := oo
    obtain ⟨nk1, ns1, nn1, nver, nc1, ntm, nbs, nrs⟩ := on
    have cO : ∀ (j : Nat) z, [S ok1, S os1, S on1, I over, S oc1, .bool otm, .bool obs, uo][j]? = some z → w.cell? ⟨g, o1 + (i : Int).toNat * 21 + 5 + j, none⟩ = some z := fun j z hj => by
      rw [Nat.add_assoc (o1 + (i : Int).toNat * 21)]
      refine hc (5 + j) z ?_
      match j, hj with
      | 0, hj => exact hj
      | 1, hj => exact hj
      | 2, hj => exact hj
      | 3, hj => exact hj
      | 4, hj => exact hj
      | 5, hj => exact hj
      | 6, hj => exact hj
      | 7, hj => exact hj
    have cN : ∀ (j : Nat) z, [S nk1, S ns1, S nn1, I nver, S nc1, .bool ntm, .bool nbs, un][j]? = some z → w.cell? ⟨g, o1 + (i : Int).toNat * 21 + 13 + j, none⟩ = some z := fun j z hj => by
      rw [Nat.add_assoc (o1 + (i : Int).toNat * 21)]
      refine hc (13 + j) z ?_
      match j, hj with
      | 0, hj => exact hj
      | 1, hj => exact hj
      | 2, hj => exact hj
      | 3, hj => exact hj
      | 4, hj => exact hj
      | 5, hj => exact hj
      | 6, hj => exact hj
      | 7, hj => exact hj
    have cHad : w.cell? ⟨g, o1 + (i : Int).toNat * 21 + 3, none⟩ = some (.bool had) := hc 3 _ rfl
    have cHas : w.cell? ⟨g, o1 + (i : Int).toNat * 21 + 4, none⟩ = some (.bool has) := hc 4 _ rfl
    unfold stepP at hG
    simp only at hG
    have fail : ∀ {er : Int} {M : List Su}, er ≠ 0 → (M, er) = G → X = (sums ps, [], er) := fun {er M} h0 hG => by
      subst hG
      rw [if_pos h0] at hX
      exact hX.symm
    generalize hA : (if had = true then moveS (scT ss) (sums ps5) ⟨ok1, os1, on1, over, oc1, otm, obs, ors⟩ true else (sums ps5, 0)) = A at hG
    obtain ⟨L6, er6⟩ := A
    simp only at hG
    by_cases h0 : er6 ≠ 0
    · rw [if_pos h0] at hG
      simp only at hG
      rw [if_pos h0] at hG
      have hXe := fail h0 hG
      cases had
      · rw [if_neg (by decide)] at hA
        cases hA
        exact absurd rfl h0
      · rw [if_pos rfl] at hA
        rw [hA] at hm1
        simp only at hm1
        have b1 : (er6 != 0) = true := bne_iff_ne.2 h0
        repeat' (first | refine aw_seq ?_ | ((first | apply ao_val | apply aq_val); exact wants_a; (first | exact ov_load_oa rfl hg cO rfl | exact ov_a); (exact rfl)) | refine zy ?_ | refine zon fun _ => ?_ | refine zoa fun vr lr hr => ?_ | (apply ao_callD; exact wants_a; (exact oc_func rfl); (exact rfl); (first | exact fun w hw => hm1 w hw.below (hF _ (h.below hw.below) (lies_of hw (l := l5) cut_a))); intro vr lr hr) | refine zoS (fun _ => ?_) (fun _ => ?_) | refine zqS (fun _ => ?_) (fun _ => ?_) | refine zwS (fun _ => ?_) (fun _ => ?_))
        rw [hXe]
        exact fun w' hw => ⟨_, rfl, hw.toD rfl (l := []) (R := _) (List.Perm.refl _) ⟨v, .slice none 0 0, ps, rfl, rfl, fun w'' h _ => ⟨h, nilT w''⟩⟩⟩
    have h0 : er6 = 0 := Classical.not_not.1 h0
    subst h0
    rw [if_neg (show ¬ ((0 : Int) ≠ 0) from fun h => h rfl)] at hG
    have hB6 : BndU (k + 2 * i + 1) L6 := by
      cases had
      · rw [if_neg (by decide)] at hA
        cases hA
        exact hup
      · rw [if_pos rfl] at hA
        rw [hA] at hb1
        exact hb1
    repeat' (first | refine aw_cutI_at (id := 17) (fun t H => ∃ (v6 : Value) (ps6 : List Pu) (l6 : Hp), sums ps6 = L6 ∧ (∀ w'', SumAt w'' v ps → Lies w'' l6 → SumAt w'' v6 ps6) ∧ t = [(0, vs), (1, v), (2, .slice (some ⟨g, o1, none⟩) ds.length cp), (12, v6), (13, I i)] ∧ H = l6 ++ []) ?_ ?_ | refine aw_cutI_at2 (id := 17) (fun t H => ∃ (v6 : Value) (ps6 : List Pu) (l6 : Hp), sums ps6 = L6 ∧ (∀ w'', SumAt w'' v ps → Lies w'' l6 → SumAt w'' v6 ps6) ∧ t = [(0, vs), (1, v), (2, .slice (some ⟨g, o1, none⟩) ds.length cp), (12, v6), (13, I i)] ∧ H = l6 ++ []) ?_ ?_ | refine aw_seq ?_ | refine zz ?_ | refine zon fun _ => ?_ | refine zoa fun vr lr hr => ?_)
    · cases had
      · rw [if_neg (by decide)] at hA
        cases hA
        repeat' (first | refine aw_seq ?_ | refine zz ?_ | refine zon fun _ => ?_ | refine zoa fun vr lr hr => ?_ | refine zoS (fun _ => ?_) (fun _ => ?_) | refine zqS (fun _ => ?_) (fun _ => ?_) | refine zwS (fun _ => ?_) (fun _ => ?_))
        exact ci_normal ⟨v5, ps5, l5, rfl, hF, rfl, rfl⟩ (by repeat (first | exact sub_nil | refine sub_cons rfl ?_)) hsub_a
      · rw [if_pos rfl] at hA
        rw [hA] at hm1
        simp only at hm1
        repeat' (first | refine aw_seq ?_ | ((first | apply ao_val | apply aq_val); exact wants_a; (first | exact ov_load_oa rfl hg cO rfl | exact ov_a); (exact rfl)) | refine zy ?_ | refine zon fun _ => ?_ | refine zoa fun vr lr hr => ?_ | (apply ao_callD; exact wants_a; (exact oc_func rfl); (exact rfl); (first | exact fun w hw => hm1 w hw.below (hF _ (h.below hw.below) (lies_of hw (l := l5) cut_a))); intro vr lr hr) | refine zoS (fun _ => ?_) (fun _ => ?_) | refine zqS (fun _ => ?_) (fun _ => ?_) | refine zwS (fun _ => ?_) (fun _ => ?_))
        obtain ⟨ps6, e6, hF6⟩ := hr
        exact ci_normal (H1 := (lr ++ l5) ++ []) ⟨vr, ps6, lr ++ l5, e6, fun w'' hA hl => hF6 w'' (hF w'' hA (hl.sub fun x hx => List.mem_append_right _ hx)) (hl.sub fun x hx => List.mem_append_left _ hx), rfl, rfl⟩ (by repeat (first | exact sub_nil | refine sub_cons rfl ?_)) (by rw [List.append_assoc]; exact hsub_a)
    clear hm1 hF hA
    rintro t H ⟨v6, ps6, l6, e6, hF6, rfl, rfl⟩
    have hm3 := hm2 (v6 := v6) e6 hB6
    have hb3 := hb2 hB6
    cases has
    · rw [if_neg (show ¬ (false = true) from fun h => by cases h)] at hG
      simp only at hG
      rw [if_neg (show ¬ ((0 : Int) ≠ 0) from fun h => h rfl)] at hG
      repeat' (first | refine aw_seq ?_ | refine zz ?_ | refine zon fun _ => ?_ | refine zoa fun vr lr hr => ?_ | refine zoS (fun _ => ?_) (fun _ => ?_) | refine zqS (fun _ => ?_) (fun _ => ?_) | refine zwS (fun _ => ?_) (fun _ => ?_))
      exact lq_normal' ⟨i + 1, v6, ps6, l6, rfl, by omega, by rw [e6]; exact hG, by rw [e6]; exact ⟨by have := hB6.len; omega, hB6.sp, fun e he => ⟨(hB6.vs e he).1, by have := (hB6.vs e he).2; omega⟩⟩, hF6, rfl, rfl⟩ (by omega) (by repeat (first | exact sub_nil | refine sub_cons rfl ?_)) hsub_a
    rw [if_pos (show true = true from rfl)] at hG
    generalize moveS (scT ss) L6 ⟨nk1, ns1, nn1, nver, nc1, ntm, nbs, nrs⟩ false = Z at hG hm3 hb3
    obtain ⟨L7, er7⟩ := Z
    simp only at hG hm3 hb3
    by_cases h7 : er7 ≠ 0
    · rw [if_pos h7] at hG
      have hXe := fail h7 hG
      have b1 : (er7 != 0) = true := bne_iff_ne.2 h7
      repeat' (first | refine aw_seq ?_ | ((first | apply ao_val | apply aq_val); exact wants_a; (first | exact ov_load_oa rfl hg cN rfl | exact ov_a); (exact rfl)) | refine zy ?_ | refine zon fun _ => ?_ | refine zoa fun vr lr hr => ?_ | (apply ao_callD; exact wants_a; (exact oc_func rfl); (exact rfl); (first | exact fun w hw => hm3 w hw.below (hF6 _ (h.below hw.below) (lies_of hw (l := l6) cut_a))); intro vr lr hr) | refine zoS (fun _ => ?_) (fun _ => ?_) | refine zqS (fun _ => ?_) (fun _ => ?_) | refine zwS (fun _ => ?_) (fun _ => ?_))
      rw [hXe]
      exact fun w' hw => ⟨_, rfl, hw.toD rfl (l := []) (R := _) (List.Perm.refl _) ⟨v, .slice none 0 0, ps, rfl, rfl, fun w'' h _ => ⟨h, nilT w''⟩⟩⟩
    · rw [if_neg h7] at hG
      have h7 : er7 = 0 := Classical.not_not.1 h7
      subst h7
      repeat' (first | refine aw_seq ?_ | ((first | apply ao_val | apply aq_val); exact wants_a; (first | exact ov_load_oa rfl hg cN rfl | exact ov_a); (exact rfl)) | refine zy ?_ | refine zon fun _ => ?_ | refine zoa fun vr lr hr => ?_ | (apply ao_callD; exact wants_a; (exact oc_func rfl); (exact rfl); (first | exact fun w hw => hm3 w hw.below (hF6 _ (h.below hw.below) (lies_of hw (l := l6) cut_a))); intro vr lr hr) | refine zoS (fun _ => ?_) (fun _ => ?_) | refine zqS (fun _ => ?_) (fun _ => ?_) | refine zwS (fun _ => ?_) (fun _ => ?_))
      obtain ⟨ps7, e7, hF7⟩ := hr
      exact lq_normal' (H' := (lr ++ l6) ++ []) ⟨i + 1, vr, ps7, lr ++ l6, rfl, by omega, by rw [e7]; exact hG, by rw [e7]; exact hb3, fun w'' hA hl => hF7 w'' (hF6 w'' hA (hl.sub fun x hx => List.mem_append_right _ hx)) (hl.sub fun x hx => List.mem_append_left _ hx), rfl, rfl⟩ (by omega) (by repeat (first | exact sub_nil | refine sub_cons rfl ?_)) (by rw [List.append_assoc]; exact hsub_a)
  · obtain rfl : i = ds.length := by omega
    rw [List.drop_length] at hG
    simp only [applyG] at hG
    subst hG
    rw [if_neg (by simp)] at hX
    subst hX
    have hpl : ps.length ≤ 100000 := by have h1 := hb.len; rw [List.length_map] at h1; omega
    have hp5 : ps5.length ≤ 20000 := by have h1 := hB.len; rw [List.length_map] at h1; omega
    refine aw_fact (φ := ∃ a5 c5, v5 = .slice a5 ps5.length c5) (fun w' hw => by
      obtain ⟨-, a5, c5, e, -⟩ := (hF w' (h.below hw.below) (lies_of hw (l := l5) cut_a)).1
      exact ⟨a5, c5, e⟩) ?_
    rintro ⟨a5, c5, rfl⟩
    repeat' (first | refine aw_seq ?_ | refine zz ?_ | refine zon fun _ => ?_ | refine zoa fun vr lr hr => ?_ | refine zoS (fun _ => ?_) (fun _ => ?_) | refine zqS (fun _ => ?_) (fun _ => ?_) | refine zwS (fun _ => ?_) (fun _ => ?_))
    refine aw_for (t0 := [(1, v), (12, .slice a5 ps5.length c5), (18, .slice none 0 0), (19, I (0 : Nat))]) (fun q t H => ∃ (i : Nat) (sp : Value) (lsp : Hp), q = ps5.length - i ∧ i ≤ ps5.length ∧ Mkt.RowN sp lsp (diffS (sums ps) ((sums ps5).take i)) ∧ t = [(1, v), (12, .slice a5 ps5.length c5), (18, sp), (19, I i)] ∧ H = lsp ++ (l5 ++ [])) ⟨0, _, [], rfl, by omega, RowB.nil, rfl, rfl⟩ (by repeat (first | exact sub_nil | refine sub_cons rfl ?_)) ?_
    rintro q t H ⟨i, sp, lsp, rfl, hi, r5, rfl, rfl⟩
    have hS := fun w' (hw : RepH ⟨w.heap.size, w, Tryz.f12.ntmps⟩ (lsp ++ (l5 ++ [])) w') => hF w' (h.below hw.below) (lies_of hw (l := l5) cut_a)
    by_cases hlt : i < ps5.length
    · obtain ⟨⟨c, u, es⟩, he⟩ := getP hlt
      have hmp := List.mem_of_getElem? he
      refine aw_fact (φ := ∃ g o, a5 = some ⟨g, o, none⟩) (fun w' hw => by
        obtain ⟨a6, c6, e, hat⟩ := OldRow.cells cellsU_len (hS w' hw).1
        cases e
        obtain ⟨g, o, e, -⟩ := hat i _ (i : Int) he rfl
        exact ⟨g, o, e⟩) ?_
      rintro ⟨g5, o5, rfl⟩
      have hcl := fun (w' : World) (hw : RepH ⟨w.heap.size, w, Tryz.f12.ntmps⟩ (lsp ++ (l5 ++ [])) w') => show ∀ (r : Nat) z, (cellsU (c, u, es))[r]? = some z → w'.cell? ⟨g5, o5 + (i : Int).toNat * 3 + r, none⟩ = some z by
        obtain ⟨a6, c6, e, hat⟩ := OldRow.cells cellsU_len (hS w' hw).1
        cases e
        obtain ⟨g, o, e, -, hc⟩ := hat i _ (i : Int) he rfl
        cases e
        exact hc
      have cV := fun (w' : World) (hw : RepH ⟨w.heap.size, w, Tryz.f12.ntmps⟩ (lsp ++ (l5 ++ [])) w') => hcl w' hw 2 _ rfl
      have cS := fun (w' : World) (hw : RepH ⟨w.heap.size, w, Tryz.f12.ntmps⟩ (lsp ++ (l5 ++ [])) w') => hcl w' hw 0 _ rfl
      have cB := fun (w' : World) (hw : RepH ⟨w.heap.size, w, Tryz.f12.ntmps⟩ (lsp ++ (l5 ++ [])) w') => show ∀ (j : Nat) z, [S c.1, I c.2][j]? = some z → w'.cell? ⟨g5, o5 + (i : Int).toNat * 3 + j, none⟩ = some z from fun j z hj => hcl w' hw j z (by
        match j, hj with
        | 0, hj => exact hj
        | 1, hj => exact hj)
      have hget := fun w' (hb : Below w.heap.size w w') => rgetS_ok (h.below hb) hpl c
      have he2 : (sums ps5)[i]? = some (c, es) := by rw [List.getElem?_map, he]; rfl
      have hnx := diff_take (L := sums ps) he2
      simp only at hnx
      have hws5 := hB.vs _ (List.mem_of_getElem? he2)
      have hwsg := hb.get c
      have hcs := hB.sp _ (List.mem_of_getElem? he2)
      simp only at hcs hws5
      have hsm := fun w' hu hv => Vec.vsame_ok u (valG ps c) es (getS (sums ps) c) hws5.1 hwsg.1 w' hu hv
      obtain ⟨f1, f2⟩ := diff_facts (sums ps) ((sums ps5).take i) [] (fun e he => hB.sp e (List.mem_of_mem_take he)) (fun s hs => by cases hs)
      have hti : ((sums ps5).take i).length ≤ i := List.length_take_le _ _
      have hm5 := fun (w' : World) (hw : RepH ⟨w.heap.size, w, Tryz.f12.ntmps⟩ (lsp ++ (l5 ++ [])) w') => (hS w' hw).2 _ hmp
      simp only at hm5
      by_cases hk : es ≠ getS (sums ps) c
      · rw [if_pos hk] at hnx
        have hz : (es == getS (sums ps) c) = false := beq_eq_false_iff_ne.2 hk
        rw [hz] at hsm
        have hmk := fun m R => Mkt.rmark_ok (m := m) (w0 := w) r5 (Nat.le_trans f1 (by simp only [List.length_nil]; omega)) f2 c.1 hcs R
        rw [← hnx] at hmk
        repeat' (first | (apply ao_nilh; exact hsub_a) | apply ao_nil | apply aq_nil | apply ah_end | ((first | apply ao_val | apply aq_val | (apply ah_take; (exact rfl))); exact wants_a; (first | exact ov_load_w1 rfl cV | exact ov_load_w1 rfl cS | exact ov_load_w rfl rfl cB | exact ov_a); (exact rfl)) | ((first | apply ao_skip | apply aq_skip | (apply ah_skip; (exact rfl))); exact nots_a; (exact rfl)) | (refine ao_is ?_; first | (apply ao_new; exact wants_a; exact on_a; (exact rfl); intro _) | (apply ao_store; exact wants_a; exact ow_a; exact upd_a) | (apply ao_valw; exact wants_a; exact ox_a; (exact rfl); exact upd_a) | (apply ao_skip0; exact nots_a) | (apply ao_append; exact wants_a; (exact rfl); assumption; (exact rfl); exact cut_a; exact has_a; (exact rfl); (exact rfl); omega; omega; omega; (exact rfl); intro vr lr hr)) | ((first | apply ao_call | apply aq_call); exact wants_a; (first | exact oc_func rfl | exact oc_clos rfl rfl | exact oc_bnd rfl rfl); (exact rfl); (first | exact fun w hw => hget w hw.below | exact fun w hw => hsm w (hm5 w hw) ((h.below hw.below).get c))) | ((apply ao_callH (l := lsp); exact wants_a; (exact oc_func rfl); (exact rfl); (exact cut_a); (exact hmk _ _); rintro v6 _ ⟨l6, rfl, r6⟩)) | (apply ah_one; (exact rfl)) | (apply ah_two; (exact rfl); (exact rfl)) | (apply ah_three; (exact rfl); (exact rfl); (exact rfl)) | (refine aw_is ?_; first | (apply aw_held (id := 26) (pl := (.t 0 (.t 1 (.t 2 (.t 3 (.t 4 (.t 5 (.t 6 (.t 7 (.t 8 (.t 9 (.t 10 (.o 11 (.o 12 (.t 13 .e))))))))))))))); (kernel_rfl); (kernel_rfl); (kernel_rfl); (solve | (exact List.Sublist.refl _))) | refine aw_seq ?_ | refine aw_block ?_ | refine aw_region ?_ | refine aw_skip ?_ | refine aw_exit ?_ | refine aw_ret ?_ | refine aw_label ?_ | refine aw_scope ?_ | refine aw_cond_t rfl (by with_reducible rfl) ?_ | refine aw_cond_f rfl (by with_reducible rfl) ?_ | refine aw_draw (by kernel_rfl) (by kernel_rfl) ?_) | (first | (refine ah_is ?_; (fail_if_success first | refine ah_glit (b := true) rfl rfl rfl (by with_reducible rfl) ?_ | refine ah_glit (b := false) rfl rfl rfl (by with_reducible rfl) ?_); apply ah_gt; (exact rfl); (exact rfl); (exact rfl); exact t_a) | ((refine ao_is ?_; (fail_if_success first | refine ao_glit (b := true) rfl rfl (by with_reducible rfl) ?_ | refine ao_glit (b := false) rfl rfl (by with_reducible rfl) ?_)); apply ao_gt; (exact rfl); (exact rfl); exact t_a) | ((refine aq_is ?_; (fail_if_success first | refine aq_glit (b := true) rfl rfl (by with_reducible rfl) ?_ | refine aq_glit (b := false) rfl rfl (by with_reducible rfl) ?_)); apply aq_gt; (exact rfl); (exact rfl); exact t_a) | (apply aw_ct; (exact rfl); exact t_a)) | (first | (refine ah_is ?_; (fail_if_success first | refine ah_glit (b := true) rfl rfl rfl (by with_reducible rfl) ?_ | refine ah_glit (b := false) rfl rfl rfl (by with_reducible rfl) ?_); apply ah_gf; (exact rfl); (exact rfl); (exact rfl); exact f_a) | ((refine ao_is ?_; (fail_if_success first | refine ao_glit (b := true) rfl rfl (by with_reducible rfl) ?_ | refine ao_glit (b := false) rfl rfl (by with_reducible rfl) ?_)); apply ao_gf; (exact rfl); (exact rfl); exact f_a) | ((refine aq_is ?_; (fail_if_success first | refine aq_glit (b := true) rfl rfl (by with_reducible rfl) ?_ | refine aq_glit (b := false) rfl rfl (by with_reducible rfl) ?_)); apply aq_gf; (exact rfl); (exact rfl); exact f_a) | (apply aw_cf; (exact rfl); exact f_a)) | refine at_normal ?_ | refine at_exit ?_ | refine at_ret ?_ | refine ib_normal ?_ | refine ib_exit ?_ | refine ib_other ?_ | refine ib_ret ?_ | refine lq_exit ?_ | refine lq_ret ?_ | refine ci_ret ?_ | refine ci_exit ?_ | refine r1_ret rfl ?_ | refine r1_normal rfl ?_ | refine r2_ret rfl rfl ?_ | refine r2_normal rfl rfl ?_ | refine r3_ret rfl rfl rfl ?_ | refine r3_normal rfl rfl rfl ?_ | refine ng_normal ?_ | refine ng_exit ?_ | refine ng_ret ?_ | (apply rt_ret; (exact rfl); (exact rfl); (exact rfl); exact has_a; exact has_a; (exact rfl); (exact rfl)) | (apply rc1_ret; (exact rfl); exact has_a; (exact rfl)) | (apply rc2_ret; (exact rfl); exact has_a; (exact rfl); (exact rfl)) | (refine ao_is ?_; (fail_if_success first | refine ao_glit (b := true) rfl rfl (by with_reducible rfl) ?_ | refine ao_glit (b := false) rfl rfl (by with_reducible rfl) ?_); refine ao_gbool rfl rfl (fun _ => ?_) (fun _ => ?_)) | (refine aq_is ?_; (fail_if_success first | refine aq_glit (b := true) rfl rfl (by with_reducible rfl) ?_ | refine aq_glit (b := false) rfl rfl (by with_reducible rfl) ?_); refine aq_gbool rfl rfl (fun _ => ?_) (fun _ => ?_)) | (refine aw_is ?_; refine aw_cond rfl (fun _ => ?_) (fun _ => ?_)))
        exact lq_normal' ⟨i + 1, v6, l6, rfl, by omega, r6, rfl, rfl⟩ (by omega) (by repeat (first | exact sub_nil | refine sub_cons rfl ?_)) hsub_a
      · rw [if_neg hk] at hnx
        have hz : (es == getS (sums ps) c) = true := beq_iff_eq.2 (Classical.not_not.1 hk)
        rw [hz] at hsm
        repeat' (first | (apply ao_nilh; exact hsub_a) | apply ao_nil | apply aq_nil | apply ah_end | ((first | apply ao_val | apply aq_val | (apply ah_take; (exact rfl))); exact wants_a; (first | exact ov_load_w1 rfl cV | exact ov_load_w1 rfl cS | exact ov_load_w rfl rfl cB | exact ov_a); (exact rfl)) | ((first | apply ao_skip | apply aq_skip | (apply ah_skip; (exact rfl))); exact nots_a; (exact rfl)) | (refine ao_is ?_; first | (apply ao_new; exact wants_a; exact on_a; (exact rfl); intro _) | (apply ao_store; exact wants_a; exact ow_a; exact upd_a) | (apply ao_valw; exact wants_a; exact ox_a; (exact rfl); exact upd_a) | (apply ao_skip0; exact nots_a) | (apply ao_append; exact wants_a; (exact rfl); assumption; (exact rfl); exact cut_a; exact has_a; (exact rfl); (exact rfl); omega; omega; omega; (exact rfl); intro vr lr hr)) | ((first | apply ao_call | apply aq_call); exact wants_a; (first | exact oc_func rfl | exact oc_clos rfl rfl | exact oc_bnd rfl rfl); (exact rfl); (first | exact fun w hw => hget w hw.below | exact fun w hw => hsm w (hm5 w hw) ((h.below hw.below).get c))) | (apply ah_one; (exact rfl)) | (apply ah_two; (exact rfl); (exact rfl)) | (apply ah_three; (exact rfl); (exact rfl); (exact rfl)) | (refine aw_is ?_; first | (apply aw_held (id := 26) (pl := (.t 0 (.t 1 (.t 2 (.t 3 (.t 4 (.t 5 (.t 6 (.t 7 (.t 8 (.t 9 (.t 10 (.o 11 (.o 12 (.t 13 .e))))))))))))))); (kernel_rfl); (kernel_rfl); (kernel_rfl); (solve | (exact List.Sublist.refl _))) | refine aw_seq ?_ | refine aw_block ?_ | refine aw_region ?_ | refine aw_skip ?_ | refine aw_exit ?_ | refine aw_ret ?_ | refine aw_label ?_ | refine aw_scope ?_ | refine aw_cond_t rfl (by with_reducible rfl) ?_ | refine aw_cond_f rfl (by with_reducible rfl) ?_ | refine aw_draw (by kernel_rfl) (by kernel_rfl) ?_) | (first | (refine ah_is ?_; (fail_if_success first | refine ah_glit (b := true) rfl rfl rfl (by with_reducible rfl) ?_ | refine ah_glit (b := false) rfl rfl rfl (by with_reducible rfl) ?_); apply ah_gt; (exact rfl); (exact rfl); (exact rfl); exact t_a) | ((refine ao_is ?_; (fail_if_success first | refine ao_glit (b := true) rfl rfl (by with_reducible rfl) ?_ | refine ao_glit (b := false) rfl rfl (by with_reducible rfl) ?_)); apply ao_gt; (exact rfl); (exact rfl); exact t_a) | ((refine aq_is ?_; (fail_if_success first | refine aq_glit (b := true) rfl rfl (by with_reducible rfl) ?_ | refine aq_glit (b := false) rfl rfl (by with_reducible rfl) ?_)); apply aq_gt; (exact rfl); (exact rfl); exact t_a) | (apply aw_ct; (exact rfl); exact t_a)) | (first | (refine ah_is ?_; (fail_if_success first | refine ah_glit (b := true) rfl rfl rfl (by with_reducible rfl) ?_ | refine ah_glit (b := false) rfl rfl rfl (by with_reducible rfl) ?_); apply ah_gf; (exact rfl); (exact rfl); (exact rfl); exact f_a) | ((refine ao_is ?_; (fail_if_success first | refine ao_glit (b := true) rfl rfl (by with_reducible rfl) ?_ | refine ao_glit (b := false) rfl rfl (by with_reducible rfl) ?_)); apply ao_gf; (exact rfl); (exact rfl); exact f_a) | ((refine aq_is ?_; (fail_if_success first | refine aq_glit (b := true) rfl rfl (by with_reducible rfl) ?_ | refine aq_glit (b := false) rfl rfl (by with_reducible rfl) ?_)); apply aq_gf; (exact rfl); (exact rfl); exact f_a) | (apply aw_cf; (exact rfl); exact f_a)) | refine at_normal ?_ | refine at_exit ?_ | refine at_ret ?_ | refine ib_normal ?_ | refine ib_exit ?_ | refine ib_other ?_ | refine ib_ret ?_ | refine lq_exit ?_ | refine lq_ret ?_ | refine ci_ret ?_ | refine ci_exit ?_ | refine r1_ret rfl ?_ | refine r1_normal rfl ?_ | refine r2_ret rfl rfl ?_ | refine r2_normal rfl rfl ?_ | refine r3_ret rfl rfl rfl ?_ | refine r3_normal rfl rfl rfl ?_ | refine ng_normal ?_ | refine ng_exit ?_ | refine ng_ret ?_ | (apply rt_ret; (exact rfl); (exact rfl); (exact rfl); exact has_a; exact has_a; (exact rfl); (exact rfl)) | (apply rc1_ret; (exact rfl); exact has_a; (exact rfl)) | (apply rc2_ret; (exact rfl); exact has_a; (exact rfl); (exact rfl)) | (refine ao_is ?_; (fail_if_success first | refine ao_glit (b := true) rfl rfl (by with_reducible rfl) ?_ | refine ao_glit (b := false) rfl rfl (by with_reducible rfl) ?_); refine ao_gbool rfl rfl (fun _ => ?_) (fun _ => ?_)) | (refine aq_is ?_; (fail_if_success first | refine aq_glit (b := true) rfl rfl (by with_reducible rfl) ?_ | refine aq_glit (b := false) rfl rfl (by with_reducible rfl) ?_); refine aq_gbool rfl rfl (fun _ => ?_) (fun _ => ?_)) | (refine aw_is ?_; refine aw_cond rfl (fun _ => ?_) (fun _ => ?_)))
        exact lq_normal' ⟨i + 1, sp, lsp, rfl, by omega, by rw [hnx]; exact r5, rfl, rfl⟩ (by omega) (by repeat (first | exact sub_nil | refine sub_cons rfl ?_)) hsub_a
    · obtain rfl : i = ps5.length := by omega
      rw [show (sums ps5).take ps5.length = sums ps5 by rw [List.take_of_length_le]; rw [List.length_map]; exact Nat.le_refl _] at r5
      repeat' (first | refine aw_seq ?_ | refine zz ?_ | refine zon fun _ => ?_ | refine zoa fun vr lr hr => ?_ | refine zoS (fun _ => ?_) (fun _ => ?_) | refine zqS (fun _ => ?_) (fun _ => ?_) | refine zwS (fun _ => ?_) (fun _ => ?_))
      exact fun w' hw => ⟨_, rfl, hw.toD rfl (l := lsp ++ l5) (R := []) (by unfold Cut; simp) ⟨_, sp, ps5, rfl, rfl, fun w'' hA hl => ⟨hF w'' hA (hl.sub fun x hx => List.mem_append_right _ hx), old_lies (hl.sub fun x hx => List.mem_append_left _ hx) r5⟩⟩⟩
end Lct
end Go.Proofs.YtdakeicfhbggeaaGreat
/- Lcm: How much there is of sums, all the way; conditions: none. -/
namespace Go.Proofs.YtdakeicfhbggeaaGreat
namespace Lct
open Go Go.RowKit Sx Vec Ojt Scp
structure Small (L : List Su) : Prop where
  len : L.length ≤ 40000
  sp : ∀ e ∈ L, e.1.1.length ≤ 100000
  vs : ∀ e ∈ L, wfV e.2 ∧ e.2.length ≤ 17000
def SmallA (scs : List (List Trm)) : List Chm.PD → List Su → Prop
  | [], L => Small L
  | d :: ds, L => Small L ∧ (d.had = true → Small (moveS scs L d.old.2 true).1) ∧ Small (stepP scs L d).1 ∧ SmallA scs ds (stepP scs L d).1
def SmallL (scs : List (List Trm)) : List Ob → List Su → Prop
  | [], L => Small L
  | o :: os, L => Small L ∧ SmallL scs os (moveS scs L o false).1
theorem BndU.small {k : Nat} {L : List Su} (h : BndU k L) (hk : k ≤ 1000) : Small L := ⟨by have := h.len; omega, h.sp, fun e he => ⟨(h.vs e he).1, by have := (h.vs e he).2; omega⟩⟩
theorem BndU.up {k m : Nat} {L : List Su} (h : BndU k L) (hk : k ≤ m) : BndU m L := ⟨by have := h.len; omega, h.sp, fun e he => ⟨(h.vs e he).1, by have := (h.vs e he).2; omega⟩⟩
theorem stepP_bnd {scs : List (List Trm)} (hs : scs.length ≤ 20) {d : Chm.PD} (hw : wfO d.old.2 ∧ wfO d.new.2) {k : Nat} {L : List Su} (h : BndU k L) (hk : k + 2 ≤ 1000) : BndU (k + 2) (stepP scs L d).1 := by
  have h1 : BndU (k + 1) (if d.had = true then moveS scs L d.old.2 true else (L, 0)).1 := by
    split
    · exact moveS_bnd hw.1 (by omega) hs h
    · exact h.up (by omega)
  unfold stepP
  simp only
  generalize (if d.had = true then moveS scs L d.old.2 true else (L, 0)) = A at h1 ⊢
  by_cases hA : A.2 ≠ 0
  · rw [if_pos hA]
    exact h.up (by omega)
  · rw [if_neg hA]
    by_cases hn : d.has = true
    · rw [if_pos hn]
      exact moveS_bnd hw.2 (by omega) hs h1
    · rw [if_neg hn]
      exact h1.up (by omega)
theorem smallA_of {scs : List (List Trm)} (hs : scs.length ≤ 20) : ∀ (ds : List Chm.PD) {k : Nat} {L : List Su}, (∀ d ∈ ds, wfO d.old.2 ∧ wfO d.new.2) → BndU k L → k + 2 * ds.length ≤ 1000 → SmallA scs ds L
  | [], k, L, _, h, hk => h.small (by simp at hk; omega)
  | d :: ds, k, L, hw, h, hk => by
    rw [List.length_cons] at hk
    have hd := hw d List.mem_cons_self
    have h2 := stepP_bnd hs hd h (by omega)
    exact ⟨h.small (by omega), fun _ => (moveS_bnd hd.1 (by omega) hs h).small (by omega), h2.small (by omega), smallA_of hs ds (fun x hx => hw x (List.mem_cons_of_mem _ hx)) h2 (by omega)⟩
theorem smallL_of {scs : List (List Trm)} (hs : scs.length ≤ 20) : ∀ (os : List Ob) {k : Nat} {L : List Su}, (∀ o ∈ os, wfO o) → BndU k L → k + os.length ≤ 1000 → SmallL scs os L
  | [], k, L, _, h, hk => h.small (by simp at hk; omega)
  | o :: os, k, L, hw, h, hk => by
    rw [List.length_cons] at hk
    exact ⟨h.small (by omega), smallL_of hs os (fun x hx => hw x (List.mem_cons_of_mem _ hx)) (moveS_bnd (hw o List.mem_cons_self) (by omega) hs h) (by omega)⟩
theorem applyG_bnd {scs : List (List Trm)} (hs : scs.length ≤ 20) : ∀ (ds : List Chm.PD) {k : Nat} {L : List Su}, (∀ d ∈ ds, wfO d.old.2 ∧ wfO d.new.2) → BndU k L → k + 2 * ds.length ≤ 1000 → BndU (k + 2 * ds.length) (applyG scs ds L).1
  | [], k, L, _, h, hk => h.up (by omega)
  | d :: ds, k, L, hw, h, hk => by
    rw [List.length_cons] at hk ⊢
    have h2 := stepP_bnd hs (hw d List.mem_cons_self) h (by omega)
    unfold applyG
    split
    · exact h.up (by omega)
    · exact (applyG_bnd hs ds (fun x hx => hw x (List.mem_cons_of_mem _ hx)) h2 (by omega)).up (by omega)
theorem applyS_bnd {scs : List (List Trm)} (hs : scs.length ≤ 20) {ds : List Chm.PD} {k : Nat} {L : List Su} (hw : ∀ d ∈ ds, wfO d.old.2 ∧ wfO d.new.2) (h : BndU k L) (hk : k + 2 * ds.length ≤ 1000) : BndU (k + 2 * ds.length) (applyS scs L ds).1 := by
  unfold applyS
  split
  · split
    · exact h.up (by omega)
    · exact applyG_bnd hs ds hw h hk
  · exact h.up (by omega)
theorem loadG_bnd {scs : List (List Trm)} (hs : scs.length ≤ 20) : ∀ (os : List Ob) {k : Nat} {L : List Su}, (∀ o ∈ os, wfO o) → BndU k L → k + os.length ≤ 1000 → BndU (k + os.length) (loadG scs os L).1
  | [], k, L, _, h, hk => h
  | o :: os, k, L, hw, h, hk => by
    rw [List.length_cons] at hk ⊢
    have h2 := moveS_bnd (scs := scs) (less := false) (hw o List.mem_cons_self) (by omega : k ≤ 1000) hs h
    unfold loadG
    split
    · exact BndU.nil.up (Nat.zero_le _)
    · exact (loadG_bnd hs os (fun x hx => hw x (List.mem_cons_of_mem _ hx)) h2 (by omega)).up (by omega)
theorem loadS_bnd {scs : List (List Trm)} (hs : scs.length ≤ 20) {os : List Ob} (hw : ∀ o ∈ os, wfO o) (hk : os.length ≤ 1000) : BndU os.length (loadS scs os).1 := by
  unfold loadS
  split
  · exact (loadG_bnd hs os hw BndU.nil (by omega)).up (by omega)
  · exact BndU.nil.up (Nat.zero_le _)
end Lct
end Go.Proofs.YtdakeicfhbggeaaGreat
