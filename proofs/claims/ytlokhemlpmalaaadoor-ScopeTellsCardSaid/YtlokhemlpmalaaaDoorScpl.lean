/- The live question, and what is gone through, of layer 6; conditions: what the landed code reads. -/
import Derived.Test.YtlokhemlpmalaaaDoorScpw
import Derived.Test.YtlokhemlpmalaaaDoorScpv
import Derived.Test.YtlokhemlpmalaaaDoorScpp
namespace Go.Proofs.YtlokhemlpmalaaaDoor
namespace Scp
open Go Go.RowKit Sx Lab
attribute [local irreducible] Go.Calls

abbrev nHigh : Nm := [104, 105, 103, 104]
abbrev nLow : Nm := [108, 111, 119]
def sA : List Trm := [(0, [nHigh, nLow]), (5, [])]
theorem a1 : parseS [105, 110, 58, 104, 105, 103, 104, 44, 108, 111, 119, 59, 114, 117, 110, 110, 105, 110, 103] = (sA, 0) := by kernel_rfl
theorem a2 : parseS [105, 110, 58, 108, 111, 119, 44, 104, 105, 103, 104] = ([], 2) := by kernel_rfl
theorem a3 : parseS [114, 117, 110, 110, 105, 110, 103, 58, 97] = ([], 2) := by kernel_rfl
theorem a4 : parseS [97, 108, 108] = ([], 0) := by kernel_rfl
theorem m1 : matchS sA nLow false false = true := by kernel_rfl
theorem m2 : matchS sA nLow true false = false := by kernel_rfl
theorem m3 : matchS sA [] false false = false := by kernel_rfl
theorem m4 : matchS [] [] false false = true := by kernel_rfl
theorem x1 : textS sA = [105, 110, 58, 104, 105, 103, 104, 44, 108, 111, 119, 59, 114, 117, 110, 110, 105, 110, 103] := by kernel_rfl
theorem x2 : textS [] = [97, 108, 108] := by kernel_rfl
theorem r1 : rightS sA = true := by kernel_rfl
theorem h1 : holdsB (5, []) [] false false = true := by kernel_rfl
theorem e1 : (sA == sA) = true := by kernel_rfl
theorem e2 : (sA == []) = false := by kernel_rfl
abbrev O0 (c : Nm) (tm : Bool) : Value := OC [] [] [] 0 c tm false (.slice none 0 0)

/-- Short ones may be gone through. -/
theorem wf_small {ps : List (Value × Trm)} (h : ((trms ps).all fun t => decide (t.2.length ≤ 1000) && t.2.all fun v => decide (v.length ≤ 1000)) = true) (hl : ps.length ≤ 1000) : wfP ps := by
  rw [List.all_eq_true] at h
  refine ⟨by omega, fun p hp => ?_⟩
  have := h p.2 (List.mem_map_of_mem hp)
  rw [Bool.and_eq_true, decide_eq_true_eq, List.all_eq_true] at this
  refine ⟨by omega, fun v hv => ?_⟩
  have := of_decide_eq_true (this.2 v hv)
  omega
theorem al_parse {l : Nm} {ts : List Trm} {e : Int} (h : parseS l = (ts, e)) (hl : l.length ≤ 10000) (w : World) (hG : Glo w) : Calls Tryd.prog 19 #[S l] w fun en w' => ∃ r, en = .returned (.tuple #[r, I e]) ∧ NewD (DScp ts) w w' r := by
  have := pparse_ok l hl w hG
  rw [h] at this
  exact this

theorem cap_parts {ls : Hp} {ps : List (Value × Trm)} (h : Parts KT ls ps) : CapP ps := fun p hp => by
  obtain ⟨l, -, -, hk⟩ := h.at hp
  exact RowB.capd hk

set_option maxHeartbeats 32000000 in
theorem alive_ok (w : World) (hG : Glo w) : Calls Tryd.prog 8 #[] w fun e w' => e = .returned (.bool true) ∧ Below w.heap.size w w' := by
  refine calls1 (args := []) Tryd.func8 rfl rfl rfl rfl ?_
  repeat' (first | refine aw_seq ?_ | refine zz ?_ | refine zon fun _ => ?_ | refine zoa fun vr lr hr => ?_ | (apply ao_callD; exact wants_a; (exact oc_func rfl); (exact rfl); (first | exact fun w hw => al_parse a1 (by decide) w (hG.below hw.below)); intro vr lr hr) | refine zoS (fun _ => ?_) (fun _ => ?_) | refine zqS (fun _ => ?_) (fun _ => ?_) | refine zwS (fun _ => ?_) (fun _ => ?_))
  revert vr lr hr
  rintro va la ⟨ps, l0, ls, hts, rfl, hrow, hk⟩
  have hpl : ps.length = 2 := by have := congrArg List.length hts; rw [List.length_map] at this; exact this
  have hwa : wfP ps := wf_small (by rw [hts]; kernel_rfl) (by omega)
  obtain ⟨g, cap, cs, rfl, rfl, hcell⟩ := hrow.cells_all cellsT_len (by omega)
  obtain ⟨⟨u, t1⟩, hp1⟩ : ∃ p, ps[1]? = some p := ⟨_, List.getElem?_eq_getElem (by omega)⟩
  obtain rfl : t1 = (5, []) := by
    have := trm_at hp1
    rw [hts] at this
    exact (Option.some.inj this).symm
  have cA : ∀ (j : Nat) x, [I 5, u][j]? = some x → cs[0 + Int.toNat 1 * 2 + j]? = some x := fun j x hj => hcell 1 _ 1 j x hp1 rfl hj
  have hsl := sl_of (vs := [I 5, u]) (.inl (Nat.zero_lt_succ _)) cA
  obtain ⟨lk, lR, hck, hkt⟩ : ∃ l R, Cut ls l R ∧ KT (u, 5, []) l := hk.at (List.mem_of_getElem? hp1)
  have d1 := fun (w' : World) v (hv : ScpAt w' v ps) => pright_ok v ps hwa w' hv
  have d2 := fun (w' : World) v c tm (hv : ScpAt w' v ps) => pmatch_ok v ps [] [] [] 0 c tm false (.slice none 0 0) hwa w' hv
  have d3 := fun (w' : World) v (hg : Glo w') (hv : ScpAt w' v ps) => ptext_ok v ps hwa (cap_parts hk) w' hg hv
  have d4 := fun (w' : World) v z (hv : ScpAt w' v ps) (hz : ScpAt w' z ps) => psame_ok v z ps ps hwa hwa w' hv hz
  have w0 : wfP [] := ⟨by simp, fun p hp => by cases hp⟩
  have s0 : ∀ (w' : World), ScpAt w' (.slice none 0 0) [] := fun w' => ⟨OldRow.nil, fun p hp => by cases hp⟩
  have d5 := fun (w' : World) v z (hv : ScpAt w' v ps) (hz : ScpAt w' z []) => psame_ok v z ps [] hwa w0 w' hv hz
  rw [hts] at d1 d2 d3 d4 d5
  rw [r1] at d1
  rw [x1] at d3
  rw [e1] at d4
  rw [show (sA == trms []) = false from e2] at d5
  have d6 := fun w' => m1 ▸ d2 w' (.slice (some ⟨g, 0, none⟩) ps.length cap) nLow false
  have d7 := fun w' => m2 ▸ d2 w' (.slice (some ⟨g, 0, none⟩) ps.length cap) nLow true
  have d8 := fun w' => m3 ▸ d2 w' (.slice (some ⟨g, 0, none⟩) ps.length cap) [] false
  have d9 := fun w' (hv : TxtAt w' u []) => h1 ▸ pholds_ok 5 u [] [] [] [] 0 [] false false (.slice none 0 0) ⟨by simp, fun v hv => by cases hv⟩ w' hv
  clear d2 hcell hp1
  repeat' (first | refine aw_seq ?_ | refine zz ?_ | refine zon fun _ => ?_ | refine zoa fun vr lr hr => ?_ | (apply ao_callD; exact wants_a; (exact oc_func rfl); (exact rfl); (first | exact fun w hw => al_parse a2 (by decide) w (hG.below hw.below) | exact fun w hw => al_parse a3 (by decide) w (hG.below hw.below) | exact fun w hw => al_parse a4 (by decide) w (hG.below hw.below)); intro vr lr hr) | refine zoS (fun _ => ?_) (fun _ => ?_) | refine zqS (fun _ => ?_) (fun _ => ?_) | refine zwS (fun _ => ?_) (fun _ => ?_))
  revert vr lr hr
  rintro vn ln ⟨qs, k0, ks, hq0, rfl, hqrow, hqk⟩
  obtain rfl : qs = [] := List.map_eq_nil_iff.1 hq0
  have n1 := fun (w' : World) v (hv : ScpAt w' v []) => m4 ▸ pmatch_ok v [] [] [] [] 0 [] false false (.slice none 0 0) w0 w' hv
  have n2 := fun (w' : World) v (hg : Glo w') (hv : ScpAt w' v []) => x2 ▸ ptext_ok v [] w0 (fun p hp => by cases hp) w' hg hv
  repeat' (first | refine aw_seq ?_ | ((first | apply ao_val | apply aq_val); exact wants_a; (first | exact ov_loada rfl (by solve | (repeat (first | exact Has.head | apply Has.tail | apply Has.appR))) hsl | exact ov_a); (exact rfl)) | refine zy ?_ | refine zon fun _ => ?_ | refine zoa fun vr lr hr => ?_ | ((first | apply ao_call | apply aq_call); exact wants_a; (first | exact oc_func rfl | exact oc_clos rfl rfl); (exact rfl); (first | exact fun w hw => d6 w (scp_at hw hrow hk cut_a) | exact fun w hw => d7 w (scp_at hw hrow hk cut_a) | exact fun w hw => d8 w (scp_at hw hrow hk cut_a) | exact fun w hw => n1 w _ (scp_at hw hqrow hqk cut_a) | exact fun w hw => d3 w _ (hG.below hw.below) (scp_at hw hrow hk cut_a) | exact fun w hw => n2 w _ (hG.below hw.below) (scp_at hw hqrow hqk cut_a) | exact fun w hw => d1 w _ (scp_at hw hrow hk cut_a) | exact fun w hw => d4 w _ _ (scp_at hw hrow hk cut_a) (scp_at hw hrow hk cut_a) | exact fun w hw => d5 w _ _ (scp_at hw hrow hk cut_a) (scp_at hw hqrow hqk cut_a) | exact fun w hw => d9 w (txt_at (l0 := [(g, .cells cs.toArray 28)]) hw hkt hck cut_a))) | refine zoS (fun _ => ?_) (fun _ => ?_) | refine zqS (fun _ => ?_) (fun _ => ?_) | refine zwS (fun _ => ?_) (fun _ => ?_))
  exact fun w' hw => ⟨rfl, hw.below⟩

def fitT (t : Trm) : Bool := decide (t.2.length ≤ 20) && t.2.all fun v => decide (v.length ≤ 600)
def fitS (ts : List Trm) : Bool := decide (ts.length ≤ 20) && ts.all fitT
theorem fit_wf {ps : List (Value × Trm)} (h : fitS (trms ps) = true) : wfP ps ∧ ps.length ≤ 20 ∧ ∀ p ∈ ps, p.2.2.length ≤ 20 ∧ ∀ v ∈ p.2.2, v.length ≤ 600 := by
  unfold fitS at h
  rw [Bool.and_eq_true, decide_eq_true_eq, List.length_map, List.all_eq_true] at h
  have key : ∀ p ∈ ps, p.2.2.length ≤ 20 ∧ ∀ v ∈ p.2.2, v.length ≤ 600 := fun p hp => by
    have := h.2 p.2 (List.mem_map_of_mem hp)
    unfold fitT at this
    rw [Bool.and_eq_true, decide_eq_true_eq, List.all_eq_true] at this
    exact ⟨this.1, fun v hv => of_decide_eq_true (this.2 v hv)⟩
  exact ⟨⟨by omega, fun p hp => ⟨by have := (key p hp).1; omega, fun v hv => by have := (key p hp).2 v hv; omega⟩⟩, h.1, key⟩
theorem fit_f {ts : List Trm} {t : Trm} (ht : t ∈ ts) (h : fitT t = false) : fitS ts = false := by
  unfold fitS
  rw [show ts.all fitT = false from List.all_eq_false.2 ⟨t, ht, by rw [h]; decide⟩]
  exact Bool.and_false _

set_option maxHeartbeats 16000000 in
theorem fits_ok (v : Value) (ps : List (Value × Trm)) (w : World) (hv : ScpAt w v ps) : Calls Tryd.prog 6 #[v] w fun e w' => e = .returned (.bool (fitS (trms ps))) ∧ Below w.heap.size w w' := by
  obtain ⟨a, cp, rfl, hat⟩ := OldRow.cells cellsT_len hv.1
  refine calls1 (args := [.slice a ps.length cp]) Tryd.func6 rfl rfl rfl rfl ?_
  by_cases hl : ps.length ≤ 20
  · repeat' (first | refine aw_seq ?_ | refine zz ?_ | refine zon fun _ => ?_ | refine zoa fun vr lr hr => ?_ | refine zoS (fun _ => ?_) (fun _ => ?_) | refine zqS (fun _ => ?_) (fun _ => ?_) | refine zwS (fun _ => ?_) (fun _ => ?_))
    refine aw_for (t0 := [(0, .slice a ps.length cp), (3, I (0 : Nat))]) (fun q t H => ∃ (i : Nat), q = ps.length - i ∧ i ≤ ps.length ∧ (∀ (j : Nat) (p : Value × Trm), j < i → ps[j]? = some p → fitT p.2 = true) ∧ t = [(0, .slice a ps.length cp), (3, I i)] ∧ H = []) ⟨0, rfl, by omega, fun j p hj => by omega, rfl, rfl⟩ (by repeat (first | exact sub_nil | refine sub_cons rfl ?_)) ?_
    rintro q t H ⟨i, rfl, hi, hall, rfl, rfl⟩
    by_cases hlt : i < ps.length
    · obtain ⟨⟨x, op, vs⟩, he⟩ := getI hlt
      obtain ⟨g, o, rfl, hg, hc⟩ := hat i _ (i : Int) he rfl
      have htx := hv.2 _ (List.mem_of_getElem? he)
      obtain ⟨b, cb, hx, hbt⟩ := OldRow.cells cellsS_len htx
      simp only at hx
      subst hx
      have c1 : w.cell? ⟨g, o + (i : Int).toNat * 2 + 1, none⟩ = some (.slice b vs.length cb) := hc 1 _ rfl
      have hm := term_mem he
      by_cases hv20 : vs.length ≤ 20
      · repeat' (first | refine aw_seq ?_ | refine zz ?_ | refine zon fun _ => ?_ | refine zoa fun vr lr hr => ?_ | refine zoS (fun _ => ?_) (fun _ => ?_) | refine zqS (fun _ => ?_) (fun _ => ?_) | refine zwS (fun _ => ?_) (fun _ => ?_))
        refine aw_for (t0 := [(0, .slice (some ⟨g, o, none⟩) ps.length cp), (3, I i), (4, I (0 : Nat))]) (fun q t H => ∃ (k : Nat), q = vs.length - k ∧ k ≤ vs.length ∧ (∀ (j : Nat) (v : Nm), j < k → vs[j]? = some v → v.length ≤ 600) ∧ t = [(0, .slice (some ⟨g, o, none⟩) ps.length cp), (3, I i), (4, I k)] ∧ H = []) ⟨0, rfl, by omega, fun j v hj => by omega, rfl, rfl⟩ (by repeat (first | exact sub_nil | refine sub_cons rfl ?_)) ?_
        rintro q t H ⟨k, rfl, hk, hall2, rfl, rfl⟩
        by_cases hkl : k < vs.length
        · obtain ⟨v, hv2⟩ := getI hkl
          obtain ⟨g2, o2, rfl, hg2, hc2⟩ := hbt k v (k : Int) hv2 rfl
          have d0 : w.cell? ⟨g2, o2 + (k : Int).toNat * 1, none⟩ = some (S v) := hc2 0 _ rfl
          by_cases h6 : v.length ≤ 600
          · repeat' (first | refine aw_seq ?_ | refine zz ?_ | refine zon fun _ => ?_ | refine zoa fun vr lr hr => ?_ | refine zoS (fun _ => ?_) (fun _ => ?_) | refine zqS (fun _ => ?_) (fun _ => ?_) | refine zwS (fun _ => ?_) (fun _ => ?_))
            exact lq_normal ⟨k + 1, rfl, by omega, fun j z hj hz => by
              by_cases e1 : j = k
              · subst e1; rw [hv2] at hz; cases hz; exact h6
              · exact hall2 j z (by omega) hz, rfl, rfl⟩ (by omega) (by repeat (first | exact sub_nil | refine sub_cons rfl ?_))
          · rw [fit_f hm (by
              unfold fitT
              rw [show (vs.all fun v => decide (v.length ≤ 600)) = false from List.all_eq_false.2 ⟨v, List.mem_of_getElem? hv2, by simpa using h6⟩]
              exact Bool.and_false _)]
            repeat' (first | refine aw_seq ?_ | refine zz ?_ | refine zon fun _ => ?_ | refine zoa fun vr lr hr => ?_ | refine zoS (fun _ => ?_) (fun _ => ?_) | refine zqS (fun _ => ?_) (fun _ => ?_) | refine zwS (fun _ => ?_) (fun _ => ?_))
            exact fun w' hw => ⟨rfl, hw.below⟩
        · obtain rfl : k = vs.length := by omega
          have hok : fitT (op, vs) = true := by
            unfold fitT
            rw [show (vs.all fun v => decide (v.length ≤ 600)) = true from List.all_eq_true.2 fun z hz => by
              obtain ⟨j, hj⟩ := List.getElem?_of_mem hz
              exact decide_eq_true (hall2 j z (List.getElem?_eq_some_iff.1 hj).1 hj), decide_eq_true hv20]
            rfl
          repeat' (first | refine aw_seq ?_ | refine zz ?_ | refine zon fun _ => ?_ | refine zoa fun vr lr hr => ?_ | refine zoS (fun _ => ?_) (fun _ => ?_) | refine zqS (fun _ => ?_) (fun _ => ?_) | refine zwS (fun _ => ?_) (fun _ => ?_))
          exact lq_normal ⟨i + 1, rfl, by omega, fun j z hj hz => by
            by_cases e1 : j = i
            · subst e1; rw [he] at hz; cases hz; exact hok
            · exact hall j z (by omega) hz, rfl, rfl⟩ (by omega) (by repeat (first | exact sub_nil | refine sub_cons rfl ?_))
      · rw [fit_f hm (by unfold fitT; rw [decide_eq_false hv20]; rfl)]
        repeat' (first | refine aw_seq ?_ | refine zz ?_ | refine zon fun _ => ?_ | refine zoa fun vr lr hr => ?_ | refine zoS (fun _ => ?_) (fun _ => ?_) | refine zqS (fun _ => ?_) (fun _ => ?_) | refine zwS (fun _ => ?_) (fun _ => ?_))
        exact fun w' hw => ⟨rfl, hw.below⟩
    · obtain rfl : i = ps.length := by omega
      have hq : fitS (trms ps) = true := by
        unfold fitS
        rw [show (trms ps).all fitT = true from List.all_eq_true.2 fun t ht => by
          obtain ⟨p, hp, rfl⟩ := List.mem_map.1 ht
          obtain ⟨j, hj⟩ := List.getElem?_of_mem hp
          exact hall j p (List.getElem?_eq_some_iff.1 hj).1 hj, List.length_map, decide_eq_true hl]
        rfl
      rw [hq]
      repeat' (first | refine aw_seq ?_ | refine zz ?_ | refine zon fun _ => ?_ | refine zoa fun vr lr hr => ?_ | refine zoS (fun _ => ?_) (fun _ => ?_) | refine zqS (fun _ => ?_) (fun _ => ?_) | refine zwS (fun _ => ?_) (fun _ => ?_))
      exact fun w' hw => ⟨rfl, hw.below⟩
  · rw [show fitS (trms ps) = false by unfold fitS; rw [List.length_map, decide_eq_false hl]; rfl]
    repeat' (first | refine aw_seq ?_ | refine zz ?_ | refine zon fun _ => ?_ | refine zoa fun vr lr hr => ?_ | refine zoS (fun _ => ?_) (fun _ => ?_) | refine zqS (fun _ => ?_) (fun _ => ?_) | refine zwS (fun _ => ?_) (fun _ => ?_))
    exact fun w' hw => ⟨rfl, hw.below⟩
end Scp
end Go.Proofs.YtlokhemlpmalaaaDoor
