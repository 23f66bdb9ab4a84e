/- Contracts of the landed merged, combined, Add, Sub, Of of layer 4; conditions: at most 1,000 entries, names of at most 100,000 bytes, numbers of 128 bits, slices with room for no less than they have. -/
import Derived.Test.YtkjjlppfomidbaaGreatVnext
/- Vmerge: Contracts of the landed merged, combined, Add, Sub, Of of layer 4; conditions: at most 1,000 entries, names of at most 100,000 bytes, numbers of 128 bits, slices with room for no less than they have. -/
namespace Go.Proofs.YtkjjlppfomidbaaGreat
namespace Vec
open Go Go.RowKit Sx Wid Lab
attribute [local irreducible] Go.Calls
theorem addP (x y : Int) (w : World) (hx : inW x) (hy : inW y) : Calls Tryz.prog 111 #[WV x, WV y] w fun e w' => e = .returned (sumV (opI false x y)) ∧ Below w.heap.size w w' := by
  have := Wid.add_ok (sHi x) (sLo x) (sHi y) (sLo y) (s_isW x) (s_isW y) w
  rwa [s_num, s_num, sN_in hx, sN_in hy] at this
theorem subP (x y : Int) (w : World) (hx : inW x) (hy : inW y) : Calls Tryz.prog 131 #[WV x, WV y] w fun e w' => e = .returned (sumV (opI true x y)) ∧ Below w.heap.size w w' := by
  have := Wid.sub_ok (sHi x) (sLo x) (sHi y) (sLo y) (s_isW x) (s_isW y) w
  rwa [s_num, s_num, sN_in hx, sN_in hy] at this
def conL (less : Bool) (m : Nm) (x y : Int) (r : Option (List Ent)) : Option (List Ent) :=
  if inR (opI less x y) = true then r.map (fun l => if opI less x y = 0 then l else (m, opI less x y) :: l) else none
def mrgL (less : Bool) : Nat → List Ent → List Ent → Option (List Ent)
  | 0, _, _ => some []
  | _ + 1, [], [] => some []
  | k + 1, e :: us, [] => conL less e.1 e.2 0 (mrgL less k us [])
  | k + 1, [], f :: ts => conL less f.1 0 f.2 (mrgL less k [] ts)
  | k + 1, e :: us, f :: ts => if lt e.1 f.1 then conL less e.1 e.2 0 (mrgL less k us (f :: ts)) else if lt f.1 e.1 then conL less f.1 0 f.2 (mrgL less k (e :: us) ts) else conL less e.1 e.2 f.2 (mrgL less k us ts)
theorem perm2 {α : Type} (x y : α) (l : List α) : (x :: y :: (l ++ [])).Perm (l ++ [x, y]) := by
  rw [List.append_nil]
  exact List.perm_append_comm (l₁ := [x, y]) (l₂ := l)
theorem wf_head {e : Ent} {es : List Ent} (h : ∀ x ∈ e :: es, x.1.length ≤ 100000 ∧ inW x.2) : (e.1.length ≤ 100000 ∧ inW e.2) ∧ ∀ x ∈ es, x.1.length ≤ 100000 ∧ inW x.2 := ⟨h e List.mem_cons_self, fun x hx => h x (List.mem_cons_of_mem _ hx)⟩
theorem in0 : inW 0 := by unfold inW; omega
def okM (r : Option (List Ent)) : Bool := r.isSome
def outM (r : Option (List Ent)) : List Ent := r.getD []
set_option maxHeartbeats 32000000 in
theorem pmerged_ok (fo : FuncId) [FnB Tryz.prog fo] (less : Bool) (hof : ∀ x y w, inW x → inW y → Calls Tryz.prog fo #[WV x, WV y] w fun e w' => e = .returned (sumV (opI less x y)) ∧ Below w.heap.size w w')
    (v u : Value) (es fs : List Ent) (hw1 : wfV es) (hw2 : wfV fs) (hl1 : es.length ≤ 30000) (hl2 : fs.length ≤ 30000) (w : World) (hv : VecCap w v es) (hu : VecCap w u fs) :
    Calls Tryz.prog 138 #[v, u, .func (.func fo) #[] #[]] w fun e w' => ∃ r, e = .returned (.tuple #[r, .bool (okM (mrgL less (es.length + fs.length + 1) es fs))]) ∧
      NewRow 96 3 w w' r (outM (mrgL less (es.length + fs.length + 1) es fs)).length (vcells (outM (mrgL less (es.length + fs.length + 1) es fs))) := by
  obtain ⟨a0, c0, rfl⟩ := hv.vec.len
  obtain ⟨b0, d0, rfl⟩ := hu.vec.len
  refine calls2 (args := [.slice a0 es.length c0, .slice b0 fs.length d0, .func (.func fo) #[] #[]]) Tryz.func138 rfl rfl rfl rfl ?_
  generalize hT : mrgL less (es.length + fs.length + 1) es fs = T
  repeat' (first | refine aw_seq ?_ | refine zz ?_ | refine zon fun _ => ?_ | refine zoa fun vr lr hr => ?_ | refine zoS (fun _ => ?_) (fun _ => ?_) | refine zqS (fun _ => ?_) (fun _ => ?_) | refine zwS (fun _ => ?_) (fun _ => ?_))
  refine aw_for (t0 := [(2, .func (.func fo) #[] #[]), (3, .pointer (some ⟨_, 0, none⟩)), (4, .pointer (some ⟨_, 0, none⟩)), (8, .func (.func 164) #[] #[.pointer (some ⟨_, 0, none⟩), .pointer (some ⟨_, 0, none⟩)]), (9, .slice none 0 0)])
    (fun q t H => ∃ (n ga gb : Nat) (va vb : Value) (us ts : List Ent) (x : Value) (l : Hp) (outs : List Ent), q = us.length + ts.length ∧ us.length + ts.length < n ∧ VecCap w va us ∧ VecCap w vb ts ∧ (∀ e ∈ us, e.1.length ≤ 100000 ∧ inW e.2) ∧ (∀ e ∈ ts, e.1.length ≤ 100000 ∧ inW e.2) ∧
      outs.length + us.length + ts.length ≤ es.length + fs.length ∧ RowB 96 3 x l outs.length (vcells outs) ∧ (mrgL less n us ts).map (outs ++ ·) = T ∧
      t = [(2, .func (.func fo) #[] #[]), (3, .pointer (some ⟨ga, 0, none⟩)), (4, .pointer (some ⟨gb, 0, none⟩)), (8, .func (.func 164) #[] #[.pointer (some ⟨gb, 0, none⟩), .pointer (some ⟨ga, 0, none⟩)]), (9, x)] ∧ H.Perm (l ++ [BX gb vb, BX ga va]))
    ⟨_, _, _, _, _, es, fs, _, _, [], rfl, Nat.lt_succ_self _, hv, hu, hw1.2, hw2.2, by simp, RowB.nil, by rw [← hT]; simp, rfl, List.Perm.refl _⟩ (by repeat (first | exact sub_nil | refine sub_cons rfl ?_)) ?_
  rintro q t H ⟨n, ga, gb, va, vb, us, ts, x, l, outs, rfl, hn, ha, hb, hwa, hwb, hlen, hr, hm, rfl, hperm⟩
  refine aw_permH hperm ?_
  obtain ⟨n, rfl⟩ : ∃ k, n = k + 1 := ⟨n - 1, by omega⟩
  obtain ⟨a1, c1, rfl⟩ := ha.vec.len
  obtain ⟨a2, c2, rfl⟩ := hb.vec.len
  refine aw_cutI (fun t H => t = [(2, .func (.func fo) #[] #[]), (3, .pointer (some ⟨ga, 0, none⟩)), (4, .pointer (some ⟨gb, 0, none⟩)), (8, .func (.func 164) #[] #[.pointer (some ⟨gb, 0, none⟩), .pointer (some ⟨ga, 0, none⟩)]), (9, x)] ∧ H = l ++ [BX gb (.slice a2 ts.length c2), BX ga (.slice a1 us.length c1)] ∧ (us ≠ [] ∨ ts ≠ [])) ?_ ?_
  · by_cases h1 : 0 < us.length
    · repeat' (first | refine aw_seq ?_ | refine zz ?_ | refine zon fun _ => ?_ | refine zoa fun vr lr hr => ?_ | refine zoS (fun _ => ?_) (fun _ => ?_) | refine zqS (fun _ => ?_) (fun _ => ?_) | refine zwS (fun _ => ?_) (fun _ => ?_))
      all_goals exact ci_normal ⟨rfl, rfl, .inl (List.ne_nil_of_length_pos h1)⟩ (by repeat (first | exact sub_nil | refine sub_cons rfl ?_)) (List.Sublist.refl _)
    · by_cases h2 : 0 < ts.length
      · repeat' (first | refine aw_seq ?_ | refine zz ?_ | refine zon fun _ => ?_ | refine zoa fun vr lr hr => ?_ | refine zoS (fun _ => ?_) (fun _ => ?_) | refine zqS (fun _ => ?_) (fun _ => ?_) | refine zwS (fun _ => ?_) (fun _ => ?_))
        all_goals exact ci_normal ⟨rfl, rfl, .inr (List.ne_nil_of_length_pos h2)⟩ (by repeat (first | exact sub_nil | refine sub_cons rfl ?_)) (List.Sublist.refl _)
      · obtain rfl : us = [] := List.eq_nil_of_length_eq_zero (by omega)
        obtain rfl : ts = [] := List.eq_nil_of_length_eq_zero (by omega)
        have hT2 : T = some outs := by rw [← hm]; simp [mrgL]
        subst hT2
        have h0 : (([] : List Ent).length : Int) = 0 := rfl
        repeat' (first | refine aw_seq ?_ | refine zz ?_ | refine zon fun _ => ?_ | refine zoa fun vr lr hr => ?_ | refine zoS (fun _ => ?_) (fun _ => ?_) | refine zqS (fun _ => ?_) (fun _ => ?_) | refine zwS (fun _ => ?_) (fun _ => ?_))
        all_goals exact fun w' hw => ⟨_, rfl, hw.below, _, hr, fun b o hm => hw.at_ b o (List.mem_append_left _ hm)⟩
  rintro t H ⟨rfl, rfl, hne⟩
  refine aw_block ?_
  refine aw_cutI_at (id := 5) (fun t H => ∃ (b11 b12 : Nat) (nm : Nm) (X Y : Int) (va vb : Value) (us' ts' : List Ent), (us'.length + ts'.length < us.length + ts.length ∧ VecCap w va us' ∧ VecCap w vb ts' ∧ (∀ e ∈ us', e.1.length ≤ 100000 ∧ inW e.2) ∧ (∀ e ∈ ts', e.1.length ≤ 100000 ∧ inW e.2) ∧
    nm.length ≤ 100000 ∧ inW X ∧ inW Y ∧ mrgL less (n + 1) us ts = conL less nm X Y (mrgL less n us' ts')) ∧
    t = [(2, .func (.func fo) #[] #[]), (3, .pointer (some ⟨ga, 0, none⟩)), (4, .pointer (some ⟨gb, 0, none⟩)), (8, .func (.func 164) #[] #[.pointer (some ⟨gb, 0, none⟩), .pointer (some ⟨ga, 0, none⟩)]), (9, x), (10, S nm), (11, .pointer (some ⟨b11, 0, none⟩)), (12, .pointer (some ⟨b12, 0, none⟩))] ∧
    H = (b12, .cells #[I (sHi Y), .int .u64 (sLo Y)] 94) :: (b11, .cells #[I (sHi X), .int .u64 (sLo X)] 94) :: BX gb vb :: BX ga va :: (l ++ [])) ?_ ?_
  · cases us with
    | nil =>
      cases ts with
      | nil => simp at hne
      | cons f ts =>
        obtain ⟨hf, hwb'⟩ := wf_head hwb
        have hl : (f :: ts).length = ts.length + 1 := rfl
        have hfact : (([] : List Ent).length + ts.length < ([] : List Ent).length + (f :: ts).length ∧ VecCap w (.slice a1 ([] : List Ent).length c1) [] ∧ VecCap w (tlS 3 (.slice a2 (f :: ts).length c2)) ts ∧ (∀ e ∈ ([] : List Ent), e.1.length ≤ 100000 ∧ inW e.2) ∧ (∀ e ∈ ts, e.1.length ≤ 100000 ∧ inW e.2) ∧
            f.1.length ≤ 100000 ∧ inW 0 ∧ inW f.2 ∧ mrgL less (n + 1) [] (f :: ts) = conL less f.1 0 f.2 (mrgL less n [] ts)) := ⟨by simp, ha, hb.tail, hwa, hwb', hf.1, in0, hf.2, rfl⟩
        repeat' (first | refine aw_seq ?_ | refine zz ?_ | refine zon fun _ => ?_ | refine zoa fun vr lr hr => ?_ | (apply ao_callF; exact wants_a; (first | exact oc_func rfl | exact oc_clos rfl rfl | exact oc_bnd rfl rfl); (exact rfl); (first | exact next_b1 _ rfl ga gb _ _ f ts ha hb (by omega)); exact cuts_a; intro _ hH; simp only [List.cons_append, List.nil_append] at hH; subst hH) | refine zoS (fun _ => ?_) (fun _ => ?_) | refine zqS (fun _ => ?_) (fun _ => ?_) | refine zwS (fun _ => ?_) (fun _ => ?_))
        all_goals exact ci_normal ⟨_, _, _, _, _, _, _, _, _, hfact, rfl, rfl⟩ (by repeat (first | exact sub_nil | refine sub_cons rfl ?_)) (List.Sublist.refl _)
    | cons e us =>
      obtain ⟨he, hwa'⟩ := wf_head hwa
      have hl : (e :: us).length = us.length + 1 := rfl
      cases ts with
      | nil =>
        have hfact : (us.length + ([] : List Ent).length < (e :: us).length + ([] : List Ent).length ∧ VecCap w (tlS 3 (.slice a1 (e :: us).length c1)) us ∧ VecCap w (.slice a2 ([] : List Ent).length c2) [] ∧ (∀ e ∈ us, e.1.length ≤ 100000 ∧ inW e.2) ∧ (∀ e ∈ ([] : List Ent), e.1.length ≤ 100000 ∧ inW e.2) ∧
            e.1.length ≤ 100000 ∧ inW e.2 ∧ inW 0 ∧ mrgL less (n + 1) (e :: us) [] = conL less e.1 e.2 0 (mrgL less n us [])) := ⟨by simp, ha.tail, hb, hwa', hwb, he.1, he.2, in0, rfl⟩
        repeat' (first | refine aw_seq ?_ | refine zz ?_ | refine zon fun _ => ?_ | refine zoa fun vr lr hr => ?_ | (apply ao_callF; exact wants_a; (first | exact oc_func rfl | exact oc_clos rfl rfl | exact oc_bnd rfl rfl); (exact rfl); (first | exact next_a1 _ rfl ga gb _ _ e us ha hb (by omega)); exact cuts_a; intro _ hH; simp only [List.cons_append, List.nil_append] at hH; subst hH) | refine zoS (fun _ => ?_) (fun _ => ?_) | refine zqS (fun _ => ?_) (fun _ => ?_) | refine zwS (fun _ => ?_) (fun _ => ?_))
        all_goals exact ci_normal ⟨_, _, _, _, _, _, _, _, _, hfact, rfl, rfl⟩ (by repeat (first | exact sub_nil | refine sub_cons rfl ?_)) (List.Sublist.refl _)
      | cons f ts =>
        obtain ⟨hf, hwb'⟩ := wf_head hwb
        have hl2 : (f :: ts).length = ts.length + 1 := rfl
        have hstep : mrgL less (n + 1) (e :: us) (f :: ts) = if lt e.1 f.1 then conL less e.1 e.2 0 (mrgL less n us (f :: ts)) else if lt f.1 e.1 then conL less f.1 0 f.2 (mrgL less n (e :: us) ts) else conL less e.1 e.2 f.2 (mrgL less n us ts) := rfl
        cases hA : lt e.1 f.1
        · rw [hA, if_neg (by decide)] at hstep
          cases hB : lt f.1 e.1
          · rw [hB, if_neg (by decide)] at hstep
            have hfact : (us.length + ts.length < (e :: us).length + (f :: ts).length ∧ VecCap w (tlS 3 (.slice a1 (e :: us).length c1)) us ∧ VecCap w (tlS 3 (.slice a2 (f :: ts).length c2)) ts ∧ (∀ e ∈ us, e.1.length ≤ 100000 ∧ inW e.2) ∧ (∀ e ∈ ts, e.1.length ≤ 100000 ∧ inW e.2) ∧
                e.1.length ≤ 100000 ∧ inW e.2 ∧ inW f.2 ∧ mrgL less (n + 1) (e :: us) (f :: ts) = conL less e.1 e.2 f.2 (mrgL less n us ts)) := ⟨by simp; omega, ha.tail, hb.tail, hwa', hwb', he.1, he.2, hf.2, hstep⟩
            repeat' (first | refine aw_seq ?_ | refine zz ?_ | refine zon fun _ => ?_ | refine zoa fun vr lr hr => ?_ | (apply ao_callF; exact wants_a; (first | exact oc_func rfl | exact oc_clos rfl rfl | exact oc_bnd rfl rfl); (exact rfl); (first | exact next_ab _ rfl ga gb _ _ e us f ts ha hb (by omega) (by omega) (lt_total hA hB)); exact cuts_a; intro _ hH; simp only [List.cons_append, List.nil_append] at hH; subst hH) | refine zoS (fun _ => ?_) (fun _ => ?_) | refine zqS (fun _ => ?_) (fun _ => ?_) | refine zwS (fun _ => ?_) (fun _ => ?_))
            all_goals exact ci_normal ⟨_, _, _, _, _, _, _, _, _, hfact, rfl, rfl⟩ (by repeat (first | exact sub_nil | refine sub_cons rfl ?_)) (List.Sublist.refl _)
          · rw [hB, if_pos rfl] at hstep
            have hfact : ((e :: us).length + ts.length < (e :: us).length + (f :: ts).length ∧ VecCap w (.slice a1 (e :: us).length c1) (e :: us) ∧ VecCap w (tlS 3 (.slice a2 (f :: ts).length c2)) ts ∧ (∀ x ∈ e :: us, x.1.length ≤ 100000 ∧ inW x.2) ∧ (∀ e ∈ ts, e.1.length ≤ 100000 ∧ inW e.2) ∧
                f.1.length ≤ 100000 ∧ inW 0 ∧ inW f.2 ∧ mrgL less (n + 1) (e :: us) (f :: ts) = conL less f.1 0 f.2 (mrgL less n (e :: us) ts)) := ⟨by simp, ha, hb.tail, hwa, hwb', hf.1, in0, hf.2, hstep⟩
            repeat' (first | refine aw_seq ?_ | refine zz ?_ | refine zon fun _ => ?_ | refine zoa fun vr lr hr => ?_ | (apply ao_callF; exact wants_a; (first | exact oc_func rfl | exact oc_clos rfl rfl | exact oc_bnd rfl rfl); (exact rfl); (first | exact next_b _ rfl ga gb _ _ e us f ts ha hb (by omega) (by omega) hB); exact cuts_a; intro _ hH; simp only [List.cons_append, List.nil_append] at hH; subst hH) | refine zoS (fun _ => ?_) (fun _ => ?_) | refine zqS (fun _ => ?_) (fun _ => ?_) | refine zwS (fun _ => ?_) (fun _ => ?_))
            all_goals exact ci_normal ⟨_, _, _, _, _, _, _, _, _, hfact, rfl, rfl⟩ (by repeat (first | exact sub_nil | refine sub_cons rfl ?_)) (List.Sublist.refl _)
        · rw [hA, if_pos rfl] at hstep
          have hfact : (us.length + (f :: ts).length < (e :: us).length + (f :: ts).length ∧ VecCap w (tlS 3 (.slice a1 (e :: us).length c1)) us ∧ VecCap w (.slice a2 (f :: ts).length c2) (f :: ts) ∧ (∀ e ∈ us, e.1.length ≤ 100000 ∧ inW e.2) ∧ (∀ e ∈ f :: ts, e.1.length ≤ 100000 ∧ inW e.2) ∧
              e.1.length ≤ 100000 ∧ inW e.2 ∧ inW 0 ∧ mrgL less (n + 1) (e :: us) (f :: ts) = conL less e.1 e.2 0 (mrgL less n us (f :: ts))) := ⟨by simp, ha.tail, hb, hwa', hwb, he.1, he.2, in0, hstep⟩
          repeat' (first | refine aw_seq ?_ | refine zz ?_ | refine zon fun _ => ?_ | refine zoa fun vr lr hr => ?_ | (apply ao_callF; exact wants_a; (first | exact oc_func rfl | exact oc_clos rfl rfl | exact oc_bnd rfl rfl); (exact rfl); (first | exact next_a _ rfl ga gb _ _ e us f ts ha hb (by omega) (by omega) hA); exact cuts_a; intro _ hH; simp only [List.cons_append, List.nil_append] at hH; subst hH) | refine zoS (fun _ => ?_) (fun _ => ?_) | refine zqS (fun _ => ?_) (fun _ => ?_) | refine zwS (fun _ => ?_) (fun _ => ?_))
          all_goals exact ci_normal ⟨_, _, _, _, _, _, _, _, _, hfact, rfl, rfl⟩ (by repeat (first | exact sub_nil | refine sub_cons rfl ?_)) (List.Sublist.refl _)
  rintro t H ⟨b11, b12, nm, X, Y, va, vb, us', ts', ⟨hlt, ha', hb', hwa', hwb', hnm, hX, hY, hstep⟩, rfl, rfl⟩
  rw [hstep] at hm
  have hofw := fun w => hof X Y w hX hY
  by_cases hin : inW (opI less X Y)
  · have hok : (!(decide (inW (opI less X Y)))) = false := by rw [decide_eq_true hin]; rfl
    have hm2 : (mrgL less n us' ts').map (fun l => outs ++ (if opI less X Y = 0 then l else (nm, opI less X Y) :: l)) = T := by
      rw [← hm]; unfold conL; rw [if_pos (by rw [← inR_iff]; exact decide_eq_true hin), Option.map_map]; rfl
    have hz := eq_zero hin
    by_cases h0 : opI less X Y = 0
    · have hzz : (!(eqAll [I (sHi (opI less X Y)), .int .u64 (sLo (opI less X Y))] [I 0, .int .u64 0])) = false := by rw [hz, h0]; rfl
      simp only [if_pos h0] at hm2
      repeat' (first | refine aw_seq ?_ | refine zz ?_ | refine zon fun _ => ?_ | refine zoa fun vr lr hr => ?_ | ((first | apply ao_call | apply aq_call); exact wants_a; (first | exact oc_func rfl | exact oc_clos rfl rfl | exact oc_bnd rfl rfl); (exact rfl); (first | exact fun w hw => hofw w)) | refine zoS (fun _ => ?_) (fun _ => ?_) | refine zqS (fun _ => ?_) (fun _ => ?_) | refine zwS (fun _ => ?_) (fun _ => ?_))
      all_goals exact lq_normal' ⟨n, ga, gb, va, vb, us', ts', x, l, outs, rfl, by omega, ha', hb', hwa', hwb', by omega, hr, hm2, rfl, perm2 _ _ l⟩ (by omega) (by repeat (first | exact sub_nil | refine sub_cons rfl ?_)) hsub_a
    · have hzz : (!(eqAll [I (sHi (opI less X Y)), .int .u64 (sLo (opI less X Y))] [I 0, .int .u64 0])) = true := by rw [hz, beq_eq_false_iff_ne.2 h0]; rfl
      simp only [if_neg h0] at hm2
      have hm3 : (mrgL less n us' ts').map ((outs ++ [(nm, opI less X Y)]) ++ ·) = T := by rw [← hm2]; congr 1; funext l; simp
      repeat' (first | refine aw_seq ?_ | refine zz ?_ | refine zon fun _ => ?_ | refine zoa fun vr lr hr => ?_ | ((first | apply ao_call | apply aq_call); exact wants_a; (first | exact oc_func rfl | exact oc_clos rfl rfl | exact oc_bnd rfl rfl); (exact rfl); (first | exact fun w hw => hofw w)) | refine zoS (fun _ => ?_) (fun _ => ?_) | refine zqS (fun _ => ?_) (fun _ => ?_) | refine zwS (fun _ => ?_) (fun _ => ?_))
      all_goals exact lq_normal' ⟨n, ga, gb, va, vb, us', ts', _, _, outs ++ [(nm, opI less X Y)], rfl, by omega, ha', hb', hwa', hwb', by simp; omega, row_add (x := (nm, opI less X Y)) (by assumption) rfl rfl, hm3, rfl, List.Perm.refl _⟩ (by omega) (by repeat (first | exact sub_nil | refine sub_cons rfl ?_)) hsub_a
  · have hok : (!(decide (inW (opI less X Y)))) = true := by rw [decide_eq_false hin]; rfl
    have hm2 : T = none := by
      rw [← hm]; unfold conL; rw [if_neg (by rw [← inR_iff, decide_eq_true_eq]; exact hin)]; rfl
    subst hm2
    repeat' (first | refine aw_seq ?_ | refine zz ?_ | refine zon fun _ => ?_ | refine zoa fun vr lr hr => ?_ | ((first | apply ao_call | apply aq_call); exact wants_a; (first | exact oc_func rfl | exact oc_clos rfl rfl | exact oc_bnd rfl rfl); (exact rfl); (first | exact fun w hw => hofw w)) | refine zoS (fun _ => ?_) (fun _ => ?_) | refine zqS (fun _ => ?_) (fun _ => ?_) | refine zwS (fun _ => ?_) (fun _ => ?_))
    all_goals exact fun w' hw => ⟨_, rfl, hw.below, _, RowB.nil, fun _ _ h => by cases h⟩
end Vec
end Go.Proofs.YtkjjlppfomidbaaGreat
/- Vadd: The landed merge is the document's sum and difference; contracts of the landed combined, Add, Sub, Of of layer 4; conditions: at most 1,000 entries, names of at most 100,000 bytes, numbers of 128 bits, slices with room for no less than they have. -/
namespace Go.Proofs.YtkjjlppfomidbaaGreat
namespace Vec
open Go Go.RowKit Sx Wid Lab
attribute [local irreducible] Go.Calls
def MrgIs (less : Bool) (us ts o : List Ent) : Prop :=
  (∀ m, getV o m = opI less (getV us m) (getV ts m)) ∧ Rise o ∧ (∀ e ∈ o, e.2 ≠ 0) ∧ (∀ k, (∀ x ∈ us, lt k x.1 = true) → (∀ x ∈ ts, lt k x.1 = true) → ∀ e ∈ o, lt k e.1 = true) ∧ ∀ m, inR (opI less (getV us m) (getV ts m)) = true
theorem op00 (less : Bool) : opI less 0 0 = 0 := by unfold opI; split <;> rfl
theorem inR0 : inR 0 = true := by decide
theorem get_above {m : Nm} {us : List Ent} (h : ∀ x ∈ us, lt m x.1 = true) : getV us m = 0 := get_none fun e he => (lt_ne (h e he)).symm
theorem con_some {less : Bool} {m : Nm} {x y : Int} {r : Option (List Ent)} {o : List Ent} (h : conL less m x y r = some o) : inR (opI less x y) = true ∧ ∃ l, r = some l ∧ o = if opI less x y = 0 then l else (m, opI less x y) :: l := by
  unfold conL at h
  split at h
  · rename_i hi
    refine ⟨hi, ?_⟩
    cases r with
    | none => cases h
    | some l => exact ⟨l, rfl, by simpa using h.symm⟩
  · cases h
theorem mrg_step {less : Bool} {m0 : Nm} {X Y : Int} {us us' ts ts' l o : List Ent} (hu : ∀ m, getV us m = if m = m0 then X else getV us' m) (ht : ∀ m, getV ts m = if m = m0 then Y else getV ts' m)
    (hup : ∀ e ∈ us', lt m0 e.1 = true) (htp : ∀ e ∈ ts', lt m0 e.1 = true) (ih : MrgIs less us' ts' l) (hin : inR (opI less X Y) = true) (ho : o = if opI less X Y = 0 then l else (m0, opI less X Y) :: l)
    (h0 : (∃ x ∈ us, x.1 = m0) ∨ ∃ x ∈ ts, x.1 = m0) : MrgIs less us ts o := by
  obtain ⟨i1, i2, i3, i4, i5⟩ := ih
  have hl := i4 m0 hup htp
  have hl0 : getV l m0 = 0 := get_above hl
  refine ⟨fun m => ?_, ?_, ?_, fun k hk1 hk2 e he => ?_, fun m => ?_⟩
  · rw [hu, ht]
    by_cases hm : m = m0
    · subst hm
      rw [if_pos rfl, if_pos rfl, ho]
      split
      · rename_i hz; rw [hl0, hz]
      · show (if m = m then _ else _) = _; rw [if_pos rfl]
    · rw [if_neg hm, if_neg hm, ← i1, ho]
      split
      · rfl
      · show (if m0 = m then _ else _) = _; rw [if_neg (Ne.symm hm)]
  · rw [ho]
    split
    · exact i2
    · unfold Rise at i2 ⊢; exact List.pairwise_cons.2 ⟨hl, i2⟩
  · rw [ho]
    split
    · exact i3
    · rename_i hz
      intro e he
      rcases List.mem_cons.1 he with rfl | he
      · exact hz
      · exact i3 e he
  · have hkm : lt k m0 = true := by
      rcases h0 with ⟨x, hx, rfl⟩ | ⟨x, hx, rfl⟩
      · exact hk1 x hx
      · exact hk2 x hx
    rw [ho] at he
    split at he
    · exact lt_trans hkm (hl e he)
    · rcases List.mem_cons.1 he with rfl | he
      · exact hkm
      · exact lt_trans hkm (hl e he)
  · rw [hu, ht]
    split
    · exact hin
    · exact i5 m
theorem get_cons (e : Ent) (us : List Ent) (m : Nm) : getV (e :: us) m = if m = e.1 then e.2 else getV us m := by
  show (if e.1 = m then e.2 else getV us m) = _
  by_cases h : m = e.1
  · rw [if_pos h, if_pos h.symm]
  · rw [if_neg h, if_neg (Ne.symm h)]
theorem get_same {us : List Ent} {m0 : Nm} (h : ∀ x ∈ us, lt m0 x.1 = true) (m : Nm) : getV us m = if m = m0 then 0 else getV us m := by
  by_cases hm : m = m0
  · rw [if_pos hm, hm]; exact get_above h
  · rw [if_neg hm]
theorem rise_cons {e : Ent} {us : List Ent} (h : Rise (e :: us)) : (∀ x ∈ us, lt e.1 x.1 = true) ∧ Rise us := by
  unfold Rise at h ⊢
  rw [List.pairwise_cons] at h
  exact h
theorem above_all {a : Nm} {f : Ent} {ts : List Ent} (h : lt a f.1 = true) (hr : Rise (f :: ts)) : ∀ x ∈ f :: ts, lt a x.1 = true := fun x hx => by
  rcases List.mem_cons.1 hx with rfl | hx
  · exact h
  · exact lt_trans h ((rise_cons hr).1 x hx)
theorem mrg_is {less : Bool} : ∀ (n : Nat) (us ts o : List Ent), us.length + ts.length < n → Rise us → Rise ts → mrgL less n us ts = some o → MrgIs less us ts o
  | 0, _, _, _, h, _, _, _ => by omega
  | n + 1, [], [], o, _, _, _, h => by
    simp only [mrgL, Option.some.injEq] at h
    subst h
    exact ⟨fun m => (op00 less).symm, List.Pairwise.nil, fun e he => by simp at he, fun _ _ _ e he => by simp at he, fun m => by show inR (opI less 0 0) = true; rw [op00]; exact inR0⟩
  | n + 1, e :: us, [], o, hn, hu, ht, h => by
    obtain ⟨hin, l, hr, ho⟩ := con_some (show conL less e.1 e.2 0 (mrgL less n us []) = some o from h)
    have ih := mrg_is n us [] l (by simp at hn ⊢; omega) (rise_cons hu).2 ht hr
    exact mrg_step (get_cons e us) (get_same fun x hx => by simp at hx) (rise_cons hu).1 (fun x hx => by simp at hx) ih hin ho (.inl ⟨e, List.mem_cons_self, rfl⟩)
  | n + 1, [], f :: ts, o, hn, hu, ht, h => by
    obtain ⟨hin, l, hr, ho⟩ := con_some (show conL less f.1 0 f.2 (mrgL less n [] ts) = some o from h)
    have ih := mrg_is n [] ts l (by simp at hn ⊢; omega) hu (rise_cons ht).2 hr
    exact mrg_step (get_same fun x hx => by simp at hx) (get_cons f ts) (fun x hx => by simp at hx) (rise_cons ht).1 ih hin ho (.inr ⟨f, List.mem_cons_self, rfl⟩)
  | n + 1, e :: us, f :: ts, o, hn, hu, ht, h => by
    simp only [List.length_cons] at hn
    have hstep : mrgL less (n + 1) (e :: us) (f :: ts) = if lt e.1 f.1 then conL less e.1 e.2 0 (mrgL less n us (f :: ts)) else if lt f.1 e.1 then conL less f.1 0 f.2 (mrgL less n (e :: us) ts) else conL less e.1 e.2 f.2 (mrgL less n us ts) := rfl
    rw [hstep] at h
    cases hA : lt e.1 f.1
    · rw [hA, if_neg (by decide)] at h
      cases hB : lt f.1 e.1
      · rw [hB, if_neg (by decide)] at h
        have heq := lt_total hA hB
        obtain ⟨hin, l, hr, ho⟩ := con_some h
        have ih := mrg_is n us ts l (by omega) (rise_cons hu).2 (rise_cons ht).2 hr
        exact mrg_step (get_cons e us) (by rw [heq]; exact get_cons f ts) (rise_cons hu).1 (by rw [heq]; exact (rise_cons ht).1) ih hin ho (.inl ⟨e, List.mem_cons_self, rfl⟩)
      · rw [hB, if_pos rfl] at h
        obtain ⟨hin, l, hr, ho⟩ := con_some h
        have ih := mrg_is n (e :: us) ts l (by simp; omega) hu (rise_cons ht).2 hr
        exact mrg_step (get_same (above_all hB hu)) (get_cons f ts) (above_all hB hu) (rise_cons ht).1 ih hin ho (.inr ⟨f, List.mem_cons_self, rfl⟩)
    · rw [hA, if_pos rfl] at h
      obtain ⟨hin, l, hr, ho⟩ := con_some h
      have ih := mrg_is n us (f :: ts) l (by simp; omega) (rise_cons hu).2 ht hr
      exact mrg_step (get_cons e us) (get_same (above_all hA ht)) (rise_cons hu).1 (above_all hA ht) ih hin ho (.inl ⟨e, List.mem_cons_self, rfl⟩)
theorem con_ex {less : Bool} {m : Nm} {x y : Int} {r : Option (List Ent)} (h1 : inR (opI less x y) = true) (h2 : ∃ l, r = some l) : ∃ o, conL less m x y r = some o := by
  obtain ⟨l, rfl⟩ := h2
  unfold conL
  rw [if_pos h1]
  exact ⟨_, rfl⟩
theorem rest_in {less : Bool} {m0 : Nm} {us us' ts ts' : List Ent} {X Y : Int} (hu : ∀ m, getV us m = if m = m0 then X else getV us' m) (ht : ∀ m, getV ts m = if m = m0 then Y else getV ts' m)
    (hup : ∀ e ∈ us', lt m0 e.1 = true) (htp : ∀ e ∈ ts', lt m0 e.1 = true) (h : ∀ m, inR (opI less (getV us m) (getV ts m)) = true) : inR (opI less X Y) = true ∧ ∀ m, inR (opI less (getV us' m) (getV ts' m)) = true := by
  constructor
  · have := h m0
    rwa [hu, ht, if_pos rfl, if_pos rfl] at this
  · intro m
    by_cases hm : m = m0
    · rw [hm, get_above hup, get_above htp, op00]; exact inR0
    · have := h m
      rwa [hu, ht, if_neg hm, if_neg hm] at this
theorem mrg_ex {less : Bool} : ∀ (n : Nat) (us ts : List Ent), us.length + ts.length < n → Rise us → Rise ts → (∀ m, inR (opI less (getV us m) (getV ts m)) = true) → ∃ o, mrgL less n us ts = some o
  | 0, _, _, h, _, _, _ => by omega
  | n + 1, [], [], _, _, _, _ => ⟨[], rfl⟩
  | n + 1, e :: us, [], hn, hu, ht, h => by
    obtain ⟨h1, h2⟩ := rest_in (get_cons e us) (get_same fun x hx => by simp at hx) (rise_cons hu).1 (fun x hx => by simp at hx) h
    exact con_ex h1 (mrg_ex n us [] (by simp at hn ⊢; omega) (rise_cons hu).2 ht h2)
  | n + 1, [], f :: ts, hn, hu, ht, h => by
    obtain ⟨h1, h2⟩ := rest_in (get_same fun x hx => by simp at hx) (get_cons f ts) (fun x hx => by simp at hx) (rise_cons ht).1 h
    exact con_ex h1 (mrg_ex n [] ts (by simp at hn ⊢; omega) hu (rise_cons ht).2 h2)
  | n + 1, e :: us, f :: ts, hn, hu, ht, h => by
    simp only [List.length_cons] at hn
    have hstep : mrgL less (n + 1) (e :: us) (f :: ts) = if lt e.1 f.1 then conL less e.1 e.2 0 (mrgL less n us (f :: ts)) else if lt f.1 e.1 then conL less f.1 0 f.2 (mrgL less n (e :: us) ts) else conL less e.1 e.2 f.2 (mrgL less n us ts) := rfl
    rw [hstep]
    cases hA : lt e.1 f.1
    · rw [if_neg (by decide)]
      cases hB : lt f.1 e.1
      · rw [if_neg (by decide)]
        have heq := lt_total hA hB
        obtain ⟨h1, h2⟩ := rest_in (get_cons e us) (by rw [heq]; exact get_cons f ts) (rise_cons hu).1 (by rw [heq]; exact (rise_cons ht).1) h
        exact con_ex h1 (mrg_ex n us ts (by omega) (rise_cons hu).2 (rise_cons ht).2 h2)
      · rw [if_pos rfl]
        obtain ⟨h1, h2⟩ := rest_in (get_same (above_all hB hu)) (get_cons f ts) (above_all hB hu) (rise_cons ht).1 h
        exact con_ex h1 (mrg_ex n (e :: us) ts (by simp; omega) hu (rise_cons ht).2 h2)
    · rw [if_pos rfl]
      obtain ⟨h1, h2⟩ := rest_in (get_cons e us) (get_same (above_all hA ht)) (rise_cons hu).1 (above_all hA ht) h
      exact con_ex h1 (mrg_ex n us (f :: ts) (by simp; omega) (rise_cons hu).2 ht h2)
theorem inR_of {x : Int} (h : inW x) : inR x = true := by rw [← inR_iff]; exact decide_eq_true h
theorem op_x0 (less : Bool) (x : Int) : opI less x 0 = x := by unfold opI; split <;> omega
theorem mrg_both {less : Bool} {es fs : List Ent} {n : Nat} (hw1 : wfV es) (h1 : rightV es = true) (h2 : rightV fs = true) (hn : es.length + fs.length < n) : mrgL less n es fs = bothL less es es fs := by
  have r1 := right_rise h1
  have r2 := right_rise h2
  have key : ∀ o1, bothL less es es fs = some o1 → mrgL less n es fs = some o1 := fun o1 ho1 => by
    have hall : ∀ m, inR (opI less (getV es m) (getV fs m)) = true := fun m => by
      by_cases hx : ∃ e ∈ fs, e.1 = m
      · obtain ⟨e, he, rfl⟩ := hx
        rw [get_mem r2 he]
        exact both_in ho1 e he
      · rw [get_none (v := fs) fun e he h => hx ⟨e, he, h⟩, op_x0]
        exact inR_of (get_inW hw1 m)
    obtain ⟨o2, ho2⟩ := mrg_ex n es fs hn r1 r2 hall
    obtain ⟨i1, i2, i3, -, -⟩ := mrg_is n es fs o2 hn r1 r2 ho2
    rw [ho2, rise_ext i2 (both_rise r1 ho1) i3 (both_mem (p := fun e => e.2 ≠ 0) (fun e he => (right_ok h1 he).2) (fun e he n hn _ => hn) ho1) fun m => by rw [i1, both_all r1 r2 ho1]]
  cases hb : bothL less es es fs with
  | some o1 => exact key o1 hb
  | none =>
    cases hm : mrgL less n es fs with
    | none => rfl
    | some o =>
      obtain ⟨-, -, -, -, i5⟩ := mrg_is n es fs o hn r1 r2 hm
      obtain ⟨o1, ho1⟩ := both_some (less := less) (a := es) (b := fs) es fun e he => by
        have := i5 e.1
        rwa [get_mem r2 he] at this
      rw [hb] at ho1
      cases ho1
theorem mrg_one {v : List Ent} {m : Nm} {x : Int} {n : Nat} (hr : Rise v) (h0 : ∀ e ∈ v, e.2 ≠ 0) (hin : inW (getV v m + x)) (hall : ∀ k, inW (getV v k)) (hn : v.length + 1 < n) : mrgL false n v [(m, x)] = some (addR v (m, x)) := by
  have r2 : Rise [(m, x)] := by unfold Rise; simp
  have hg : ∀ k, getV [(m, x)] k = if k = m then x else 0 := fun k => get_cons (m, x) [] k
  have hR : ∀ k, inR (opI false (getV v k) (getV [(m, x)] k)) = true := fun k => by
    rw [hg]
    by_cases hk : k = m
    · rw [if_pos hk, hk]; exact inR_of hin
    · rw [if_neg hk, op_x0]; exact inR_of (hall k)
  obtain ⟨o, ho⟩ := mrg_ex n v [(m, x)] (by simpa using hn) hr r2 hR
  obtain ⟨i1, i2, i3, -, -⟩ := mrg_is n v [(m, x)] o (by simpa using hn) hr r2 ho
  rw [ho]
  congr 1
  refine rise_ext i2 (put_rise hr) i3 (fun e he => ?_) fun k => ?_
  · rcases put_mem he with ⟨rfl, hz⟩ | he
    · exact hz
    · exact h0 e he
  · rw [i1, hg]
    unfold addR
    rw [put_get hr]
    by_cases hk : k = m
    · rw [if_pos hk, if_pos hk, hk]; rfl
    · rw [if_neg hk, if_neg hk, op_x0]
end Vec
end Go.Proofs.YtkjjlppfomidbaaGreat
/- Vsum: Contracts of the landed combined, Add, Sub, Of of layer 4; conditions: at most 1,000 entries, names of at most 100,000 bytes, numbers of 128 bits, slices with room for no less than they have. -/
namespace Go.Proofs.YtkjjlppfomidbaaGreat
namespace Vec
open Go Go.RowKit Sx Wid Lab
attribute [local irreducible] Go.Calls
set_option maxHeartbeats 8000000 in
theorem pcombined_ok (fo : FuncId) [FnB Tryz.prog fo] (less : Bool) (hof : ∀ x y w, inW x → inW y → Calls Tryz.prog fo #[WV x, WV y] w fun e w' => e = .returned (sumV (opI less x y)) ∧ Below w.heap.size w w')
    (v u : Value) (es fs : List Ent) (hw1 : wfV es) (hw2 : wfV fs) (hl1 : es.length ≤ 30000) (hl2 : fs.length ≤ 30000) (w : World) (hv : VecCap w v es) (hu : VecCap w u fs) :
    Calls Tryz.prog 110 #[v, u, .func (.func fo) #[] #[]] w fun e w' => ∃ r, e = .returned (.tuple #[r, I (combV less es fs).2]) ∧ NewRow 96 3 w w' r (combV less es fs).1.length (vcells (combV less es fs).1) := by
  refine calls2 (args := [v, u, .func (.func fo) #[] #[]]) Tryz.func110 rfl rfl rfl rfl ?_
  have hra : ∀ w', Below w.heap.size w w' → Calls Tryz.prog 51 #[v] w' fun e w'' => e = .returned (.bool (rightV es)) ∧ Below w'.heap.size w' w'' := fun w' hb => pright_ok v es hw1 w' (hv.vec.below hb)
  have hrb : ∀ w', Below w.heap.size w w' → Calls Tryz.prog 51 #[u] w' fun e w'' => e = .returned (.bool (rightV fs)) ∧ Below w'.heap.size w' w'' := fun w' hb => pright_ok u fs hw2 w' (hu.vec.below hb)
  cases h1 : rightV es
  · have hq : combV less es fs = ([], 1) := by unfold combV; rw [h1]; rfl
    rw [hq]
    rw [h1] at hra
    repeat' (first | refine aw_seq ?_ | refine zz ?_ | refine zon fun _ => ?_ | refine zoa fun vr lr hr => ?_ | ((first | apply ao_call | apply aq_call); exact wants_a; (first | exact oc_func rfl | exact oc_clos rfl rfl | exact oc_bnd rfl rfl); (exact rfl); (first | exact fun w hw => hra w hw.below | exact fun w hw => hrb w hw.below)) | refine zoS (fun _ => ?_) (fun _ => ?_) | refine zqS (fun _ => ?_) (fun _ => ?_) | refine zwS (fun _ => ?_) (fun _ => ?_))
    exact fun w' hw => ⟨_, rfl, hw.below, _, RowB.nil, fun _ _ h => by cases h⟩
  cases h2 : rightV fs
  · have hq : combV less es fs = ([], 1) := by unfold combV; rw [h1, h2]; rfl
    rw [hq]
    rw [h1] at hra
    rw [h2] at hrb
    repeat' (first | refine aw_seq ?_ | refine zz ?_ | refine zon fun _ => ?_ | refine zoa fun vr lr hr => ?_ | ((first | apply ao_call | apply aq_call); exact wants_a; (first | exact oc_func rfl | exact oc_clos rfl rfl | exact oc_bnd rfl rfl); (exact rfl); (first | exact fun w hw => hra w hw.below | exact fun w hw => hrb w hw.below)) | refine zoS (fun _ => ?_) (fun _ => ?_) | refine zqS (fun _ => ?_) (fun _ => ?_) | refine zwS (fun _ => ?_) (fun _ => ?_))
    exact fun w' hw => ⟨_, rfl, hw.below, _, RowB.nil, fun _ _ h => by cases h⟩
  have hq : combV less es fs = (match bothL less es es fs with | some o => (o, 0) | none => ([], 3)) := by unfold combV; rw [h1, h2]; rfl
  rw [hq]
  rw [h1] at hra
  rw [h2] at hrb
  have hm := fun w' (hb : Below w.heap.size w w') => pmerged_ok fo less hof v u es fs hw1 hw2 hl1 hl2 w' (hv.below hb) (hu.below hb)
  rw [mrg_both hw1 h1 h2 (by omega)] at hm
  cases hb : bothL less es es fs with
  | none =>
    rw [hb] at hm
    simp only [okM, outM, Option.isSome_none, Option.getD_none] at hm
    repeat' (first | refine aw_seq ?_ | refine zz ?_ | refine zon fun _ => ?_ | refine zoa fun vr lr hr => ?_ | ((first | apply ao_call | apply aq_call); exact wants_a; (first | exact oc_func rfl | exact oc_clos rfl rfl | exact oc_bnd rfl rfl); (exact rfl); (first | exact fun w hw => hra w hw.below | exact fun w hw => hrb w hw.below)) | (apply ao_callr2; exact wants_a; (exact oc_func rfl); (exact rfl); (first | exact fun w hw => hm w hw.below); intro vr lr hr) | refine zoS (fun _ => ?_) (fun _ => ?_) | refine zqS (fun _ => ?_) (fun _ => ?_) | refine zwS (fun _ => ?_) (fun _ => ?_))
    exact fun w' hw => ⟨_, rfl, hw.below, _, RowB.nil, fun _ _ h => by cases h⟩
  | some o =>
    rw [hb] at hm
    simp only [okM, outM, Option.isSome_some, Option.getD_some] at hm
    repeat' (first | refine aw_seq ?_ | refine zz ?_ | refine zon fun _ => ?_ | refine zoa fun vr lr hr => ?_ | ((first | apply ao_call | apply aq_call); exact wants_a; (first | exact oc_func rfl | exact oc_clos rfl rfl | exact oc_bnd rfl rfl); (exact rfl); (first | exact fun w hw => hra w hw.below | exact fun w hw => hrb w hw.below)) | (apply ao_callr2; exact wants_a; (exact oc_func rfl); (exact rfl); (first | exact fun w hw => hm w hw.below); intro vr lr hr) | refine zoS (fun _ => ?_) (fun _ => ?_) | refine zqS (fun _ => ?_) (fun _ => ?_) | refine zwS (fun _ => ?_) (fun _ => ?_))
    exact fun w' hw => ⟨_, rfl, hw.below, _, by assumption, fun b o hm => hw.at_ b o (List.mem_append_left _ hm)⟩
set_option maxHeartbeats 1000000 in
theorem padd_ok (v u : Value) (es fs : List Ent) (hw1 : wfV es) (hw2 : wfV fs) (hl1 : es.length ≤ 30000) (hl2 : fs.length ≤ 30000) (w : World) (hv : VecCap w v es) (hu : VecCap w u fs) :
    Calls Tryz.prog 66 #[v, u] w fun e w' => ∃ r, e = .returned (.tuple #[r, I (combV false es fs).2]) ∧ NewRow 96 3 w w' r (combV false es fs).1.length (vcells (combV false es fs).1) := by
  refine calls2 (args := [v, u]) Tryz.func66 rfl rfl rfl rfl ?_
  repeat' (first | refine aw_seq ?_ | refine zz ?_ | refine zon fun _ => ?_ | refine zoa fun vr lr hr => ?_ | (apply ao_callr2; exact wants_a; (exact oc_func rfl); (exact rfl); (first | exact fun w hw => pcombined_ok 111 false addP v u es fs hw1 hw2 hl1 hl2 w (hv.below hw.below) (hu.below hw.below)); intro vr lr hr) | refine zoS (fun _ => ?_) (fun _ => ?_) | refine zqS (fun _ => ?_) (fun _ => ?_) | refine zwS (fun _ => ?_) (fun _ => ?_))
  exact fun w' hw => ⟨_, rfl, hw.below, _, hr, fun b o hm => hw.at_ b o (List.mem_append_left _ hm)⟩
set_option maxHeartbeats 1000000 in
theorem psub_ok (v u : Value) (es fs : List Ent) (hw1 : wfV es) (hw2 : wfV fs) (hl1 : es.length ≤ 30000) (hl2 : fs.length ≤ 30000) (w : World) (hv : VecCap w v es) (hu : VecCap w u fs) :
    Calls Tryz.prog 104 #[v, u] w fun e w' => ∃ r, e = .returned (.tuple #[r, I (combV true es fs).2]) ∧ NewRow 96 3 w w' r (combV true es fs).1.length (vcells (combV true es fs).1) := by
  refine calls2 (args := [v, u]) Tryz.func104 rfl rfl rfl rfl ?_
  repeat' (first | refine aw_seq ?_ | refine zz ?_ | refine zon fun _ => ?_ | refine zoa fun vr lr hr => ?_ | (apply ao_callr2; exact wants_a; (exact oc_func rfl); (exact rfl); (first | exact fun w hw => pcombined_ok 131 true subP v u es fs hw1 hw2 hl1 hl2 w (hv.below hw.below) (hu.below hw.below)); intro vr lr hr) | refine zoS (fun _ => ?_) (fun _ => ?_) | refine zqS (fun _ => ?_) (fun _ => ?_) | refine zwS (fun _ => ?_) (fun _ => ?_))
  exact fun w' hw => ⟨_, rfl, hw.below, _, hr, fun b o hm => hw.at_ b o (List.mem_append_left _ hm)⟩
theorem ofP (n : Int) (h0 : -9223372036854775808 ≤ n) (h1 : n ≤ 9223372036854775807) (w : World) : Calls Tryz.prog 84 #[I n] w fun e w' => e = .returned (WV n) ∧ Below w.heap.size w w' := by
  have hin : inW n := by unfold inW; omega
  have h := Wid.of_ok n h0 h1 w
  have e1 : sHi n = (if n < 0 then -1 else 0) := by unfold sHi; rw [sN_in hin]; split <;> omega
  have e2 : sLo n = n % 18446744073709551616 := by unfold sLo; rw [sN_in hin]
  show Calls _ _ _ _ fun e w' => e = .returned (W2 (sHi n) (sLo n)) ∧ _
  rw [e1, e2]
  exact h
theorem pone_ok (v u : Value) (es : List Ent) (r : Ent) (hw1 : wfV es) (hl1 : es.length ≤ 30000) (hr : Rise es) (h0 : ∀ e ∈ es, e.2 ≠ 0) (hnm : r.1.length ≤ 100000) (hx : inW r.2) (hin : inW (getV es r.1 + r.2)) (w : World) (hv : VecCap w v es) (hu : VecCap w u [r]) :
    Calls Tryz.prog 138 #[v, u, .func (.func 111) #[] #[]] w fun e w' => ∃ x, e = .returned (.tuple #[x, .bool true]) ∧ NewRow 96 3 w w' x (addR es r).length (vcells (addR es r)) := by
  have hw2 : wfV [r] := ⟨by simp, fun e he => by rw [List.mem_singleton.1 he]; exact ⟨hnm, hx⟩⟩
  have h := pmerged_ok 111 false addP v u es [r] hw1 hw2 hl1 (by simp) w hv hu
  rw [show mrgL false (es.length + [r].length + 1) es [r] = some (addR es r) from mrg_one hr h0 hin (get_inW hw1) (by simp)] at h
  exact h
set_option maxHeartbeats 8000000 in
theorem pof_ok (v : Value) (rs : List Ent) (hwf : wfR rs) (w : World) (hv : ResAt w v rs) :
    Calls Tryz.prog 174 #[v] w fun e w' => ∃ r, e = .returned (.tuple #[r, I (ofV rs).2]) ∧ NewRow 96 3 w w' r (ofV rs).1.length (vcells (ofV rs).1) := by
  have hln := hwf.1
  obtain ⟨a, c, rfl, hat⟩ := OldRow.cells cellsR_len hv
  refine calls2 (args := [.slice a rs.length c]) Tryz.func174 rfl rfl rfl rfl ?_
  repeat' (first | refine aw_seq ?_ | refine zz ?_ | refine zon fun _ => ?_ | refine zoa fun vr lr hr => ?_ | refine zoS (fun _ => ?_) (fun _ => ?_) | refine zqS (fun _ => ?_) (fun _ => ?_) | refine zwS (fun _ => ?_) (fun _ => ?_))
  refine aw_for (t0 := [(0, .slice a rs.length c), (9, .slice a rs.length c), (10, I rs.length), (11, I (0 : Nat))]) (fun q t H => ∃ (i : Nat), q = rs.length - i ∧ i ≤ rs.length ∧ (∀ j r, j < i → rs[j]? = some r → okR r = true) ∧ t = [(0, .slice a rs.length c), (9, .slice a rs.length c), (10, I rs.length), (11, I i)] ∧ H = []) ⟨0, rfl, by omega, fun j r h => by omega, rfl, rfl⟩ (by repeat (first | exact sub_nil | refine sub_cons rfl ?_)) ?_
  rintro q t H ⟨i, rfl, hi, hall, rfl, rfl⟩
  by_cases hlt : i < rs.length
  · obtain ⟨r, he⟩ := getI hlt
    obtain ⟨g, o, rfl, hg, hc⟩ := hat i r (i : Int) he rfl
    obtain ⟨c0, c1, cA⟩ := res_cells hc
    have hwe := hwf.at he
    have hrr := fun w => Lab.right_ok r.1 w
    cases hr : rightB r.1
    · have hq : ofV rs = ([], 1) := by unfold ofV; rw [all_no he (by simp [okR, hr])]; rfl
      rw [hq]
      rw [hr] at hrr
      repeat' (first | refine aw_seq ?_ | ((first | apply ao_val | apply aq_val); exact wants_a; (first | exact ov_load_oa rfl hg cA rfl | exact ov_a); (exact rfl)) | refine zy ?_ | refine zon fun _ => ?_ | refine zoa fun vr lr hr => ?_ | ((first | apply ao_call | apply aq_call); exact wants_a; (first | exact oc_func rfl | exact oc_clos rfl rfl | exact oc_bnd rfl rfl); (exact rfl); (first | exact fun w hw => hrr w)) | refine zoS (fun _ => ?_) (fun _ => ?_) | refine zqS (fun _ => ?_) (fun _ => ?_) | refine zwS (fun _ => ?_) (fun _ => ?_))
      exact fun w' hw => ⟨_, rfl, hw.below, _, RowB.nil, fun _ _ h => by cases h⟩
    rw [hr] at hrr
    by_cases hn : r.2 < 0
    · have hq : ofV rs = ([], 1) := by unfold ofV; rw [all_no he (by simp [okR, hr]; omega)]; rfl
      rw [hq]
      repeat' (first | refine aw_seq ?_ | ((first | apply ao_val | apply aq_val); exact wants_a; (first | exact ov_load_oa rfl hg cA rfl | exact ov_a); (exact rfl)) | refine zy ?_ | refine zon fun _ => ?_ | refine zoa fun vr lr hr => ?_ | ((first | apply ao_call | apply aq_call); exact wants_a; (first | exact oc_func rfl | exact oc_clos rfl rfl | exact oc_bnd rfl rfl); (exact rfl); (first | exact fun w hw => hrr w)) | refine zoS (fun _ => ?_) (fun _ => ?_) | refine zqS (fun _ => ?_) (fun _ => ?_) | refine zwS (fun _ => ?_) (fun _ => ?_))
      exact fun w' hw => ⟨_, rfl, hw.below, _, RowB.nil, fun _ _ h => by cases h⟩
    · repeat' (first | refine aw_seq ?_ | ((first | apply ao_val | apply aq_val); exact wants_a; (first | exact ov_load_oa rfl hg cA rfl | exact ov_a); (exact rfl)) | refine zy ?_ | refine zon fun _ => ?_ | refine zoa fun vr lr hr => ?_ | ((first | apply ao_call | apply aq_call); exact wants_a; (first | exact oc_func rfl | exact oc_clos rfl rfl | exact oc_bnd rfl rfl); (exact rfl); (first | exact fun w hw => hrr w)) | refine zoS (fun _ => ?_) (fun _ => ?_) | refine zqS (fun _ => ?_) (fun _ => ?_) | refine zwS (fun _ => ?_) (fun _ => ?_))
      exact lq_normal' ⟨i + 1, rfl, by omega, fun j x hj hx => by
        by_cases e1 : j = i
        · subst e1; rw [he] at hx; cases hx; simp [okR, hr]; omega
        · exact hall j x (by omega) hx, rfl, rfl⟩ (by omega) (by repeat (first | exact sub_nil | refine sub_cons rfl ?_)) hsub_a
  obtain rfl : i = rs.length := by omega
  have hall2 : rs.all okR = true := all_yes fun j r hj => hall j r (List.getElem?_eq_some_iff.1 hj).1 hj
  by_cases h16 : rs.length ≤ 16
  · have hq : ofV rs = (rs.foldl addR [], 0) := by unfold ofV; rw [if_pos hall2, if_pos h16]
    rw [hq]
    repeat' (first | refine aw_seq ?_ | refine zz ?_ | refine zon fun _ => ?_ | refine zoa fun vr lr hr => ?_ | refine zoS (fun _ => ?_) (fun _ => ?_) | refine zqS (fun _ => ?_) (fun _ => ?_) | refine zwS (fun _ => ?_) (fun _ => ?_))
    refine aw_for (t0 := [(6, .slice none 0 0), (28, .slice a rs.length c), (29, I rs.length), (30, I (0 : Nat))]) (fun q t H => ∃ (i : Nat) (x : Value) (l : Hp) (outs : List Ent), q = rs.length - i ∧ i ≤ rs.length ∧ RowB 96 3 x l outs.length (vcells outs) ∧ outs.length ≤ i ∧ (∀ e ∈ outs, e.1.length ≤ 100000 ∧ inW e.2) ∧ (∀ e ∈ outs, 0 ≤ e.2 ∧ e.2 ≤ (i : Int) * 9223372036854775807) ∧ Rise outs ∧ (∀ e ∈ outs, e.2 ≠ 0) ∧ (rs.drop i).foldl addR outs = rs.foldl addR [] ∧ t = [(6, x), (28, .slice a rs.length c), (29, I rs.length), (30, I i)] ∧ H = l ++ []) ⟨0, _, _, [], rfl, by omega, RowB.nil, by simp, fun _ h => by simp at h, fun _ h => by simp at h, List.Pairwise.nil, fun _ h => by simp at h, rfl, rfl, rfl⟩ (by repeat (first | exact sub_nil | refine sub_cons rfl ?_)) ?_
    rintro q t H ⟨i, x, l, outs, rfl, hi, hr, hol, hwo, hrng, hrise, hnz, hfold, rfl, rfl⟩
    have hwfo : wfV outs := ⟨by omega, hwo⟩
    by_cases hlt : i < rs.length
    · obtain ⟨r, he⟩ := getI hlt
      obtain ⟨g, o, rfl, hg, hc⟩ := hat i r (i : Int) he rfl
      obtain ⟨c0, c1, cA⟩ := res_cells hc
      have hwe := hwf.at he
      have hok := hall i r hlt he
      simp only [okR, Bool.and_eq_true, decide_eq_true_eq] at hok
      have hd : rs.drop i = r :: rs.drop (i + 1) := by
        have := List.drop_eq_getElem_cons hlt
        rw [this, (List.getElem?_eq_some_iff.1 he).2]
      rw [hd, List.foldl_cons] at hfold
      obtain ⟨⟨g0, g1⟩, hrng2⟩ := add_rng (B := (i : Int) * 9223372036854775807) hrng ⟨hok.2, hwe.2.2⟩ (by omega)
      have hin1 : inW (getV outs r.1) := by unfold inW; omega
      have hin2 : inW r.2 := by unfold inW; omega
      have hin3 : inW (getV outs r.1 + r.2) := by unfold inW; omega
      have hpl := (put_len (nm := r.1) (n := getV outs r.1 + r.2) outs (getV outs r.1 + r.2 == 0)).1
      have hpl' : (addR outs r).length ≤ outs.length + 1 := hpl
      have hwp := wf_put (n := getV outs r.1 + r.2) hwo hwe.1 hin3
      have hnz2 : ∀ e ∈ addR outs r, e.2 ≠ 0 := fun e he => by
        rcases put_mem he with ⟨rfl, hz⟩ | he
        · exact hz
        · exact hnz e he
      repeat' (first | (apply ao_nilh; exact hsub_a) | apply ao_nil | apply aq_nil | apply ah_end | ((first | apply ao_val | apply aq_val | (apply ah_take; (exact rfl))); exact wants_a; (first | exact ov_load_oa rfl hg cA rfl | exact ov_a); (exact rfl)) | ((first | apply ao_skip | apply aq_skip | (apply ah_skip; (exact rfl))); exact nots_a; (exact rfl)) | (refine ao_is ?_; first | (apply ao_new; exact wants_a; exact on_a; (exact rfl); intro _) | (apply ao_store; exact wants_a; exact ow_a; exact upd_a) | (apply ao_valw; exact wants_a; exact ox_a; (exact rfl); exact upd_a) | (apply ao_skip0; exact nots_a) | (apply ao_append; exact wants_a; (exact rfl); assumption; (exact rfl); exact cut_a; exact has_a; (exact rfl); (exact rfl); omega; omega; omega; (exact rfl); intro vr lr hr)) | ((first | apply ao_call | apply aq_call); exact wants_a; (first | exact oc_func rfl | exact oc_clos rfl rfl | exact oc_bnd rfl rfl); (exact rfl); (first | exact fun w hw => ofP r.2 hwe.2.1 hwe.2.2 w)) | (apply ao_callr2; exact wants_a; (exact oc_func rfl); (exact rfl); (first | exact fun w hw => pone_ok _ _ outs r hwfo (by omega) hrise hnz hwe.1 hin2 hin3 w ⟨(hw.oldr (by assumption) cut_a), hr.capd⟩ ⟨hw.oldr (RowB.lit rfl) cut_a, (RowB.lit (e := 96) (sz := 3) (cs := [S r.1, I (sHi r.2), .int .u64 (sLo r.2)]) rfl).capd⟩); intro vr lr hr) | (apply ah_one; (exact rfl)) | (apply ah_two; (exact rfl); (exact rfl)) | (apply ah_three; (exact rfl); (exact rfl); (exact rfl)) | (refine aw_is ?_; first | (apply aw_held (id := 13) (pl := (.t 0 (.t 1 (.t 2 (.t 3 (.t 4 (.o 5 (.t 6 (.o 7 (.o 8 (.t 9 (.t 10 (.t 11 (.t 12 .e)))))))))))))); (kernel_rfl); (kernel_rfl); (kernel_rfl); (solve | (exact List.Sublist.refl _))) | refine aw_seq ?_ | refine aw_block ?_ | refine aw_region ?_ | refine aw_skip ?_ | refine aw_exit ?_ | refine aw_ret ?_ | refine aw_label ?_ | refine aw_scope ?_ | refine aw_cond_t rfl (by with_reducible rfl) ?_ | refine aw_cond_f rfl (by with_reducible rfl) ?_ | refine aw_draw (by kernel_rfl) (by kernel_rfl) ?_) | (first | (refine ah_is ?_; (fail_if_success first | refine ah_glit (b := true) rfl rfl rfl (by with_reducible rfl) ?_ | refine ah_glit (b := false) rfl rfl rfl (by with_reducible rfl) ?_); apply ah_gt; (exact rfl); (exact rfl); (exact rfl); exact t_a) | ((refine ao_is ?_; (fail_if_success first | refine ao_glit (b := true) rfl rfl (by with_reducible rfl) ?_ | refine ao_glit (b := false) rfl rfl (by with_reducible rfl) ?_)); apply ao_gt; (exact rfl); (exact rfl); exact t_a) | ((refine aq_is ?_; (fail_if_success first | refine aq_glit (b := true) rfl rfl (by with_reducible rfl) ?_ | refine aq_glit (b := false) rfl rfl (by with_reducible rfl) ?_)); apply aq_gt; (exact rfl); (exact rfl); exact t_a) | (apply aw_ct; (exact rfl); exact t_a)) | (first | (refine ah_is ?_; (fail_if_success first | refine ah_glit (b := true) rfl rfl rfl (by with_reducible rfl) ?_ | refine ah_glit (b := false) rfl rfl rfl (by with_reducible rfl) ?_); apply ah_gf; (exact rfl); (exact rfl); (exact rfl); exact f_a) | ((refine ao_is ?_; (fail_if_success first | refine ao_glit (b := true) rfl rfl (by with_reducible rfl) ?_ | refine ao_glit (b := false) rfl rfl (by with_reducible rfl) ?_)); apply ao_gf; (exact rfl); (exact rfl); exact f_a) | ((refine aq_is ?_; (fail_if_success first | refine aq_glit (b := true) rfl rfl (by with_reducible rfl) ?_ | refine aq_glit (b := false) rfl rfl (by with_reducible rfl) ?_)); apply aq_gf; (exact rfl); (exact rfl); exact f_a) | (apply aw_cf; (exact rfl); exact f_a)) | refine at_normal ?_ | refine at_exit ?_ | refine at_ret ?_ | refine ib_normal ?_ | refine ib_exit ?_ | refine ib_other ?_ | refine ib_ret ?_ | refine lq_exit ?_ | refine lq_ret ?_ | refine ci_ret ?_ | refine ci_exit ?_ | refine r1_ret rfl ?_ | refine r1_normal rfl ?_ | refine r2_ret rfl rfl ?_ | refine r2_normal rfl rfl ?_ | refine r3_ret rfl rfl rfl ?_ | refine r3_normal rfl rfl rfl ?_ | refine ng_normal ?_ | refine ng_exit ?_ | refine ng_ret ?_ | (apply rt_ret; (exact rfl); (exact rfl); (exact rfl); exact has_a; exact has_a; (exact rfl); (exact rfl)) | (apply rc1_ret; (exact rfl); exact has_a; (exact rfl)) | (apply rc2_ret; (exact rfl); exact has_a; (exact rfl); (exact rfl)) | (refine ao_is ?_; (fail_if_success first | refine ao_glit (b := true) rfl rfl (by with_reducible rfl) ?_ | refine ao_glit (b := false) rfl rfl (by with_reducible rfl) ?_); refine ao_gbool rfl rfl (fun _ => ?_) (fun _ => ?_)) | (refine aq_is ?_; (fail_if_success first | refine aq_glit (b := true) rfl rfl (by with_reducible rfl) ?_ | refine aq_glit (b := false) rfl rfl (by with_reducible rfl) ?_); refine aq_gbool rfl rfl (fun _ => ?_) (fun _ => ?_)) | (refine aw_is ?_; refine aw_cond rfl (fun _ => ?_) (fun _ => ?_)))
      all_goals exact lq_normal' ⟨i + 1, _, _, addR outs r, rfl, by omega, (by assumption), by omega, hwp, fun e he => ⟨(hrng2 e he).1, by have := (hrng2 e he).2; omega⟩, put_rise hrise, hnz2, hfold, rfl, rfl⟩ (by omega) (by repeat (first | exact sub_nil | refine sub_cons rfl ?_)) hsub_a
    · obtain rfl : i = rs.length := by omega
      have hnil : rs.drop rs.length = [] := List.drop_eq_nil_of_le (by omega)
      rw [hnil, List.foldl_nil] at hfold
      rw [← hfold]
      repeat' (first | refine aw_seq ?_ | refine zz ?_ | refine zon fun _ => ?_ | refine zoa fun vr lr hr => ?_ | refine zoS (fun _ => ?_) (fun _ => ?_) | refine zqS (fun _ => ?_) (fun _ => ?_) | refine zwS (fun _ => ?_) (fun _ => ?_))
      exact fun w' hw => ⟨_, rfl, hw.below, _, hr, fun b o hm => hw.at_ b o (List.mem_append_left _ hm)⟩
  · have hq : ofV rs = ([], 3) := by unfold ofV; rw [if_pos hall2, if_neg h16]
    rw [hq]
    repeat' (first | refine aw_seq ?_ | refine zz ?_ | refine zon fun _ => ?_ | refine zoa fun vr lr hr => ?_ | refine zoS (fun _ => ?_) (fun _ => ?_) | refine zqS (fun _ => ?_) (fun _ => ?_) | refine zwS (fun _ => ?_) (fun _ => ?_))
    exact fun w' hw => ⟨_, rfl, hw.below, _, RowB.nil, fun _ _ h => by cases h⟩
end Vec
end Go.Proofs.YtkjjlppfomidbaaGreat
/- Vwf: Vectors, as facts: what comes of two, how long they are; conditions: none. -/
namespace Go.Proofs.YtkjjlppfomidbaaGreat
namespace Vec
open Go Go.RowKit Sx Wid Lab
attribute [local irreducible] Go.Calls
theorem RepH.capr {E : Env} {H l R : Hp} {w : World} {e : TypeId} {sz n : Nat} {v : Value} {xs : List Value} (h : RepH E H w) (hr : RowB e sz v l n xs) (hc : Cut H l R) : OldCap w sz v n xs := ⟨h.oldr hr hc, hr.capd⟩
theorem wf_of {es : List Ent} (h : (decide (es.length ≤ 1000) && es.all fun e => decide (e.1.length ≤ 1000) && decide (-1000000000 ≤ e.2) && decide (e.2 ≤ 1000000000)) = true) : wfV es ∧ wfR es ∧ es.length ≤ 1000 := by
  simp only [Bool.and_eq_true, decide_eq_true_eq, List.all_eq_true] at h
  refine ⟨⟨by omega, fun e he => ?_⟩, ⟨by omega, fun e he => ?_⟩, h.1⟩
  · have := h.2 e he
    unfold inW; omega
  · have := h.2 e he
    omega
theorem both_len {less : Bool} {a : List Ent} : ∀ {b out o : List Ent}, bothL less a out b = some o → o.length ≤ out.length + b.length
  | [], out, o, ho => by simp only [bothL, Option.some.injEq] at ho; subst ho; simp
  | e :: b, out, o, ho => by
    unfold bothL at ho
    split at ho
    · have := both_len ho
      have hp := (put_len (nm := e.1) (n := opI less (getV a e.1) e.2) out (opI less (getV a e.1) e.2 == 0)).1
      have hp' : (putV out e.1 (opI less (getV a e.1) e.2)).length ≤ out.length + 1 := hp
      simp only [List.length_cons]
      omega
    · cases ho
theorem inW_of {x : Int} (h : inR x = true) : inW x := by rw [← inR_iff] at h; exact of_decide_eq_true h
theorem wf_comb {less : Bool} {es fs : List Ent} (h1 : wfV es) (h2 : wfV fs) (l1 : es.length ≤ 20000) (l2 : fs.length ≤ 20000) : wfV (combV less es fs).1 ∧ (combV less es fs).1.length ≤ es.length + fs.length := by
  unfold combV
  split
  · cases hb : bothL less es es fs with
    | none => exact ⟨⟨by simp, fun e he => by simp at he⟩, by simp⟩
    | some o =>
      have hl := both_len hb
      exact ⟨⟨by simp only; omega, both_mem (p := fun e => e.1.length ≤ 100000 ∧ inW e.2) h1.2 (fun e he n _ hn => ⟨(h2.2 e he).1, inW_of hn⟩) hb⟩, hl⟩
  · exact ⟨⟨by simp, fun e he => by simp at he⟩, by simp⟩
theorem fold_wf : ∀ (rs outs : List Ent) (B : Nat), (∀ r ∈ rs, r.1.length ≤ 100000 ∧ 0 ≤ r.2 ∧ r.2 ≤ 9223372036854775807) → (∀ e ∈ outs, e.1.length ≤ 100000 ∧ 0 ≤ e.2 ∧ e.2 ≤ (B : Int) * 9223372036854775807) →
    (∀ e ∈ rs.foldl addR outs, e.1.length ≤ 100000 ∧ 0 ≤ e.2 ∧ e.2 ≤ ((B + rs.length : Nat) : Int) * 9223372036854775807) ∧ (rs.foldl addR outs).length ≤ outs.length + rs.length
  | [], outs, B, _, h => ⟨by simpa using h, by simp⟩
  | r :: rs, outs, B, h1, h2 => by
    have hr := h1 r List.mem_cons_self
    obtain ⟨-, h4⟩ := add_rng (v := outs) (r := r) (B := (B : Int) * 9223372036854775807) (fun e he => (h2 e he).2) hr.2 (by omega)
    have hn : ∀ e ∈ addR outs r, e.1.length ≤ 100000 := fun e he => by
      rcases put_mem he with ⟨rfl, -⟩ | he
      · exact hr.1
      · exact (h2 e he).1
    have hp := (put_len (nm := r.1) (n := getV outs r.1 + r.2) outs (getV outs r.1 + r.2 == 0)).1
    have hp' : (addR outs r).length ≤ outs.length + 1 := hp
    obtain ⟨i1, i2⟩ := fold_wf rs (addR outs r) (B + 1) (fun x hx => h1 x (List.mem_cons_of_mem _ hx)) fun e he => ⟨hn e he, (h4 e he).1, by have := (h4 e he).2; omega⟩
    rw [List.foldl_cons]
    refine ⟨fun e he => ?_, by simp only [List.length_cons]; omega⟩
    have := i1 e he
    simp only [List.length_cons]
    rw [show B + (rs.length + 1) = B + 1 + rs.length by omega]
    exact this
theorem of_wf {rs : List Ent} (hw : wfR rs) : wfV (ofV rs).1 ∧ (ofV rs).1.length ≤ 16 := by
  have nil : wfV [] ∧ ([] : List Ent).length ≤ 16 := ⟨⟨by simp, fun e he => by simp at he⟩, by simp⟩
  unfold ofV
  split
  · rename_i hall
    split
    · rename_i h16
      rw [List.all_eq_true] at hall
      obtain ⟨h1, h2⟩ := fold_wf rs [] 0 (fun r hr => by
        have h3 := hw.2 r hr
        have h4 := hall r hr
        simp only [okR, Bool.and_eq_true, decide_eq_true_eq] at h4
        exact ⟨h3.1, h4.2, h3.2.2⟩) fun e he => by simp at he
      simp only [List.length_nil, Nat.zero_add] at h1 h2
      refine ⟨⟨by simp only; omega, fun e he => ⟨(h1 e he).1, ?_⟩⟩, by simp only; omega⟩
      have := h1 e he
      unfold inW
      omega
    · exact nil
  · exact nil
theorem right_of {es : List Ent} (hr : Rise es) (h : ∀ e ∈ es, rightB e.1 = true ∧ e.2 ≠ 0) : rightV es = true := right_t fun j hj => by
  obtain ⟨e, he⟩ := getI hj
  have hok : okE e = true := by
    have := h e (List.mem_of_getElem? he)
    simp [okE, this.1, this.2]
  unfold okAt
  rw [he]
  simp only [hok, Bool.true_and]
  cases j with
  | zero => rfl
  | succ k =>
    obtain ⟨p, hp⟩ := getI (show k < es.length by omega)
    simp only [hp]
    exact rise_at hr hp he (Nat.lt_succ_self k)
theorem both_right {less : Bool} {es fs o : List Ent} (h1 : rightV es = true) (h2 : rightV fs = true) (h : bothL less es es fs = some o) : rightV o = true ∧ Rise o ∧ ∀ m, getV o m = opI less (getV es m) (getV fs m) :=
  have hr := both_rise (right_rise h1) h
  ⟨right_of hr (both_mem (p := fun e => rightB e.1 = true ∧ e.2 ≠ 0) (fun _ he => right_ok h1 he) (fun _ he _ hn _ => ⟨(right_ok h2 he).1, hn⟩) h), hr, both_all (right_rise h1) (right_rise h2) h⟩
theorem both_ex {less : Bool} {es fs : List Ent} (hw : wfV es) (h2 : rightV fs = true) : (∃ o, bothL less es es fs = some o) ↔ ∀ m, inR (opI less (getV es m) (getV fs m)) = true := by
  constructor
  · rintro ⟨o, ho⟩ m
    by_cases hx : ∃ e ∈ fs, e.1 = m
    · obtain ⟨e, he, rfl⟩ := hx
      rw [get_mem (right_rise h2) he]
      exact both_in ho e he
    · rw [get_none (v := fs) fun e he h => hx ⟨e, he, h⟩, op_x0]
      exact inR_of (get_inW hw m)
  · intro h
    exact both_some es fun e he => by
      have := h e.1
      rwa [get_mem (right_rise h2) he] at this
end Vec
end Go.Proofs.YtkjjlppfomidbaaGreat
