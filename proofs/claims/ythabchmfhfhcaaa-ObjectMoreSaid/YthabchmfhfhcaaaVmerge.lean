/- Contracts of the landed merged, combined, Add, Sub, Of of layer 4; conditions: at most 1,000 entries, names of at most 100,000 bytes, numbers of 128 bits, slices with room for no less than they have. -/
import Derived.Test.YthabchmfhfhcaaaVnext
namespace Go.Proofs.Ythabchmfhfhcaaa
namespace Vec
open Go Go.RowKit Sx Wid Lab
attribute [local irreducible] Go.Calls

theorem addP (x y : Int) (w : World) (hx : inW x) (hy : inW y) : Calls Try.prog 43 #[WV x, WV y] w fun e w' => e = .returned (sumV (opI false x y)) ∧ Below w.heap.size w w' := by
  have := Wid.add_ok (sHi x) (sLo x) (sHi y) (sLo y) (s_isW x) (s_isW y) w
  rwa [s_num, s_num, sN_in hx, sN_in hy] at this
/-- A name's number, ahead of what comes behind. -/
def conL (less : Bool) (m : Nm) (x y : Int) (r : Option (List Ent)) : Option (List Ent) :=
  if inR (opI less x y) = true then r.map (fun l => if opI less x y = 0 then l else (m, opI less x y) :: l) else none
/-- Two vectors us one, name by name. -/
def mrgL (less : Bool) : Nat → List Ent → List Ent → Option (List Ent)
  | 0, _, _ => some []
  | _ + 1, [], [] => some []
  | k + 1, e :: us, [] => conL less e.1 e.2 0 (mrgL less k us [])
  | k + 1, [], f :: ts => conL less f.1 0 f.2 (mrgL less k [] ts)
  | k + 1, e :: us, f :: ts => if lt e.1 f.1 then conL less e.1 e.2 0 (mrgL less k us (f :: ts)) else if lt f.1 e.1 then conL less f.1 0 f.2 (mrgL less k (e :: us) ts) else conL less e.1 e.2 f.2 (mrgL less k us ts)

theorem aw_permH {P : Program} {E : Env} {c : Code} {Q : Exit → Tm → Hp → Prop} {t : Tm} {H H' : Hp} (hp : H.Perm H') (h : aw P E c Q t H') : aw P E c Q t H := by
  unfold aw at *
  exact fun a w ht hh => h a w ht (hh.perm hp)
theorem perm2 {α : Type} (x y : α) (l : List α) : (x :: y :: (l ++ [])).Perm (l ++ [x, y]) := by
  rw [List.append_nil]
  exact List.perm_append_comm (l₁ := [x, y]) (l₂ := l)
theorem wf_head {e : Ent} {es : List Ent} (h : ∀ x ∈ e :: es, x.1.length ≤ 100000 ∧ inW x.2) : (e.1.length ≤ 100000 ∧ inW e.2) ∧ ∀ x ∈ es, x.1.length ≤ 100000 ∧ inW x.2 := ⟨h e List.mem_cons_self, fun x hx => h x (List.mem_cons_of_mem _ hx)⟩
theorem in0 : inW 0 := by unfold inW; omega
def okM (r : Option (List Ent)) : Bool := r.isSome
def outM (r : Option (List Ent)) : List Ent := r.getD []

set_option maxHeartbeats 32000000 in
theorem pmerged_ok (fo : FuncId) [FnB Try.prog fo] (less : Bool) (hof : ∀ x y w, inW x → inW y → Calls Try.prog fo #[WV x, WV y] w fun e w' => e = .returned (sumV (opI less x y)) ∧ Below w.heap.size w w')
    (v u : Value) (es fs : List Ent) (hw1 : wfV es) (hw2 : wfV fs) (hl1 : es.length ≤ 1000) (hl2 : fs.length ≤ 1000) (w : World) (hv : VecCap w v es) (hu : VecCap w u fs) :
    Calls Try.prog 41 #[v, u, .func (.func fo) #[] #[]] w fun e w' => ∃ r, e = .returned (.tuple #[r, .bool (okM (mrgL less (es.length + fs.length + 1) es fs))]) ∧
      NewRow 51 3 w w' r (outM (mrgL less (es.length + fs.length + 1) es fs)).length (vcells (outM (mrgL less (es.length + fs.length + 1) es fs))) := by
  obtain ⟨a0, c0, rfl⟩ := hv.vec.len
  obtain ⟨b0, d0, rfl⟩ := hu.vec.len
  refine calls2 (args := [.slice a0 es.length c0, .slice b0 fs.length d0, .func (.func fo) #[] #[]]) Try.func41 rfl rfl rfl rfl ?_
  generalize hT : mrgL less (es.length + fs.length + 1) es fs = T
  repeat' (first | refine aw_seq ?_ | refine zz ?_ | refine zon fun _ => ?_ | refine zoa fun vr lr hr => ?_ | refine zoS (fun _ => ?_) (fun _ => ?_) | refine zqS (fun _ => ?_) (fun _ => ?_) | refine zwS (fun _ => ?_) (fun _ => ?_))
  refine aw_for (t0 := [(2, .func (.func fo) #[] #[]), (3, .pointer (some ⟨_, 0, none⟩)), (4, .pointer (some ⟨_, 0, none⟩)), (8, .func (.func 56) #[] #[.pointer (some ⟨_, 0, none⟩), .pointer (some ⟨_, 0, none⟩)]), (9, .slice none 0 0)])
    (fun q t H => ∃ (n ga gb : Nat) (va vb : Value) (us ts : List Ent) (x : Value) (l : Hp) (outs : List Ent), q = us.length + ts.length ∧ us.length + ts.length < n ∧ VecCap w va us ∧ VecCap w vb ts ∧ (∀ e ∈ us, e.1.length ≤ 100000 ∧ inW e.2) ∧ (∀ e ∈ ts, e.1.length ≤ 100000 ∧ inW e.2) ∧
      outs.length + us.length + ts.length ≤ es.length + fs.length ∧ RowB 51 3 x l outs.length (vcells outs) ∧ (mrgL less n us ts).map (outs ++ ·) = T ∧
      t = [(2, .func (.func fo) #[] #[]), (3, .pointer (some ⟨ga, 0, none⟩)), (4, .pointer (some ⟨gb, 0, none⟩)), (8, .func (.func 56) #[] #[.pointer (some ⟨gb, 0, none⟩), .pointer (some ⟨ga, 0, none⟩)]), (9, x)] ∧ H.Perm (l ++ [BX gb vb, BX ga va]))
    ⟨_, _, _, _, _, es, fs, _, _, [], rfl, Nat.lt_succ_self _, hv, hu, hw1.2, hw2.2, by simp, RowB.nil, by rw [← hT]; simp, rfl, List.Perm.refl _⟩ (by repeat (first | exact sub_nil | refine sub_cons rfl ?_)) ?_
  rintro q t H ⟨n, ga, gb, va, vb, us, ts, x, l, outs, rfl, hn, ha, hb, hwa, hwb, hlen, hr, hm, rfl, hperm⟩
  refine aw_permH hperm ?_
  obtain ⟨n, rfl⟩ : ∃ k, n = k + 1 := ⟨n - 1, by omega⟩
  obtain ⟨a1, c1, rfl⟩ := ha.vec.len
  obtain ⟨a2, c2, rfl⟩ := hb.vec.len
  refine aw_cutI (fun t H => t = [(2, .func (.func fo) #[] #[]), (3, .pointer (some ⟨ga, 0, none⟩)), (4, .pointer (some ⟨gb, 0, none⟩)), (8, .func (.func 56) #[] #[.pointer (some ⟨gb, 0, none⟩), .pointer (some ⟨ga, 0, none⟩)]), (9, x)] ∧ H = l ++ [BX gb (.slice a2 ts.length c2), BX ga (.slice a1 us.length c1)] ∧ (us ≠ [] ∨ ts ≠ [])) ?_ ?_
  · by_cases h1 : 0 < us.length
    · repeat' (first | refine aw_seq ?_ | refine zz ?_ | refine zon fun _ => ?_ | refine zoa fun vr lr hr => ?_ | refine zoS (fun _ => ?_) (fun _ => ?_) | refine zqS (fun _ => ?_) (fun _ => ?_) | refine zwS (fun _ => ?_) (fun _ => ?_))
      all_goals exact ci_normal ⟨rfl, rfl, .inl (List.ne_nil_of_length_pos h1)⟩ (by repeat (first | exact sub_nil | refine sub_cons rfl ?_)) (List.Sublist.refl _)
    · by_cases h2 : 0 < ts.length
      · repeat' (first | refine aw_seq ?_ | refine zz ?_ | refine zon fun _ => ?_ | refine zoa fun vr lr hr => ?_ | refine zoS (fun _ => ?_) (fun _ => ?_) | refine zqS (fun _ => ?_) (fun _ => ?_) | refine zwS (fun _ => ?_) (fun _ => ?_))
        all_goals exact ci_normal ⟨rfl, rfl, .inr (List.ne_nil_of_length_pos h2)⟩ (by repeat (first | exact sub_nil | refine sub_cons rfl ?_)) (List.Sublist.refl _)
      · obtain rfl : us = [] := List.eq_nil_of_length_eq_zero (by omega)
        obtain rfl : ts = [] := List.eq_nil_of_length_eq_zero (by omega)
        have hT2 : T = some outs := by rw [← hm]; simp [mrgL]
        subst hT2
        have h0 : (([] : List Ent).length : Int) = 0 := rfl
        repeat' (first | refine aw_seq ?_ | refine zz ?_ | refine zon fun _ => ?_ | refine zoa fun vr lr hr => ?_ | refine zoS (fun _ => ?_) (fun _ => ?_) | refine zqS (fun _ => ?_) (fun _ => ?_) | refine zwS (fun _ => ?_) (fun _ => ?_))
        all_goals exact fun w' hw => ⟨_, rfl, hw.below, _, hr, fun b o hm => hw.at_ b o (List.mem_append_left _ hm)⟩
  rintro t H ⟨rfl, rfl, hne⟩
  refine aw_block ?_
  refine aw_cutI_at (id := 5) (fun t H => ∃ (b11 b12 : Nat) (nm : Nm) (X Y : Int) (va vb : Value) (us' ts' : List Ent), (us'.length + ts'.length < us.length + ts.length ∧ VecCap w va us' ∧ VecCap w vb ts' ∧ (∀ e ∈ us', e.1.length ≤ 100000 ∧ inW e.2) ∧ (∀ e ∈ ts', e.1.length ≤ 100000 ∧ inW e.2) ∧
    nm.length ≤ 100000 ∧ inW X ∧ inW Y ∧ mrgL less (n + 1) us ts = conL less nm X Y (mrgL less n us' ts')) ∧
    t = [(2, .func (.func fo) #[] #[]), (3, .pointer (some ⟨ga, 0, none⟩)), (4, .pointer (some ⟨gb, 0, none⟩)), (8, .func (.func 56) #[] #[.pointer (some ⟨gb, 0, none⟩), .pointer (some ⟨ga, 0, none⟩)]), (9, x), (10, S nm), (11, .pointer (some ⟨b11, 0, none⟩)), (12, .pointer (some ⟨b12, 0, none⟩))] ∧
    H = (b12, .cells #[I (sHi Y), .int .u64 (sLo Y)] 40) :: (b11, .cells #[I (sHi X), .int .u64 (sLo X)] 40) :: BX gb vb :: BX ga va :: (l ++ [])) ?_ ?_
  · cases us with
    | nil =>
      cases ts with
      | nil => simp at hne
      | cons f ts =>
        obtain ⟨hf, hwb'⟩ := wf_head hwb
        have hl : (f :: ts).length = ts.length + 1 := rfl
        have hfact : (([] : List Ent).length + ts.length < ([] : List Ent).length + (f :: ts).length ∧ VecCap w (.slice a1 ([] : List Ent).length c1) [] ∧ VecCap w (tlS 3 (.slice a2 (f :: ts).length c2)) ts ∧ (∀ e ∈ ([] : List Ent), e.1.length ≤ 100000 ∧ inW e.2) ∧ (∀ e ∈ ts, e.1.length ≤ 100000 ∧ inW e.2) ∧
            f.1.length ≤ 100000 ∧ inW 0 ∧ inW f.2 ∧ mrgL less (n + 1) [] (f :: ts) = conL less f.1 0 f.2 (mrgL less n [] ts)) := ⟨by simp, ha, hb.tail, hwa, hwb', hf.1, in0, hf.2, rfl⟩
        repeat' (first | refine aw_seq ?_ | refine zz ?_ | refine zon fun _ => ?_ | refine zoa fun vr lr hr => ?_ | (apply ao_callF; exact wants_a; (first | exact oc_func rfl | exact oc_clos rfl rfl); (exact rfl); (first | exact next_b1 _ rfl ga gb _ _ f ts ha hb (by omega)); exact cuts_a; intro _ hH; simp only [List.cons_append, List.nil_append] at hH; subst hH) | refine zoS (fun _ => ?_) (fun _ => ?_) | refine zqS (fun _ => ?_) (fun _ => ?_) | refine zwS (fun _ => ?_) (fun _ => ?_))
        all_goals exact ci_normal ⟨_, _, _, _, _, _, _, _, _, hfact, rfl, rfl⟩ (by repeat (first | exact sub_nil | refine sub_cons rfl ?_)) (List.Sublist.refl _)
    | cons e us =>
      obtain ⟨he, hwa'⟩ := wf_head hwa
      have hl : (e :: us).length = us.length + 1 := rfl
      cases ts with
      | nil =>
        have hfact : (us.length + ([] : List Ent).length < (e :: us).length + ([] : List Ent).length ∧ VecCap w (tlS 3 (.slice a1 (e :: us).length c1)) us ∧ VecCap w (.slice a2 ([] : List Ent).length c2) [] ∧ (∀ e ∈ us, e.1.length ≤ 100000 ∧ inW e.2) ∧ (∀ e ∈ ([] : List Ent), e.1.length ≤ 100000 ∧ inW e.2) ∧
            e.1.length ≤ 100000 ∧ inW e.2 ∧ inW 0 ∧ mrgL less (n + 1) (e :: us) [] = conL less e.1 e.2 0 (mrgL less n us [])) := ⟨by simp, ha.tail, hb, hwa', hwb, he.1, he.2, in0, rfl⟩
        repeat' (first | refine aw_seq ?_ | refine zz ?_ | refine zon fun _ => ?_ | refine zoa fun vr lr hr => ?_ | (apply ao_callF; exact wants_a; (first | exact oc_func rfl | exact oc_clos rfl rfl); (exact rfl); (first | exact next_a1 _ rfl ga gb _ _ e us ha hb (by omega)); exact cuts_a; intro _ hH; simp only [List.cons_append, List.nil_append] at hH; subst hH) | refine zoS (fun _ => ?_) (fun _ => ?_) | refine zqS (fun _ => ?_) (fun _ => ?_) | refine zwS (fun _ => ?_) (fun _ => ?_))
        all_goals exact ci_normal ⟨_, _, _, _, _, _, _, _, _, hfact, rfl, rfl⟩ (by repeat (first | exact sub_nil | refine sub_cons rfl ?_)) (List.Sublist.refl _)
      | cons f ts =>
        obtain ⟨hf, hwb'⟩ := wf_head hwb
        have hl2 : (f :: ts).length = ts.length + 1 := rfl
        have hstep : mrgL less (n + 1) (e :: us) (f :: ts) = if lt e.1 f.1 then conL less e.1 e.2 0 (mrgL less n us (f :: ts)) else if lt f.1 e.1 then conL less f.1 0 f.2 (mrgL less n (e :: us) ts) else conL less e.1 e.2 f.2 (mrgL less n us ts) := rfl
        cases hA : lt e.1 f.1
        · rw [hA, if_neg (by decide)] at hstep
          cases hB : lt f.1 e.1
          · rw [hB, if_neg (by decide)] at hstep
            have hfact : (us.length + ts.length < (e :: us).length + (f :: ts).length ∧ VecCap w (tlS 3 (.slice a1 (e :: us).length c1)) us ∧ VecCap w (tlS 3 (.slice a2 (f :: ts).length c2)) ts ∧ (∀ e ∈ us, e.1.length ≤ 100000 ∧ inW e.2) ∧ (∀ e ∈ ts, e.1.length ≤ 100000 ∧ inW e.2) ∧
                e.1.length ≤ 100000 ∧ inW e.2 ∧ inW f.2 ∧ mrgL less (n + 1) (e :: us) (f :: ts) = conL less e.1 e.2 f.2 (mrgL less n us ts)) := ⟨by simp; omega, ha.tail, hb.tail, hwa', hwb', he.1, he.2, hf.2, hstep⟩
            repeat' (first | refine aw_seq ?_ | refine zz ?_ | refine zon fun _ => ?_ | refine zoa fun vr lr hr => ?_ | (apply ao_callF; exact wants_a; (first | exact oc_func rfl | exact oc_clos rfl rfl); (exact rfl); (first | exact next_ab _ rfl ga gb _ _ e us f ts ha hb (by omega) (by omega) (lt_total hA hB)); exact cuts_a; intro _ hH; simp only [List.cons_append, List.nil_append] at hH; subst hH) | refine zoS (fun _ => ?_) (fun _ => ?_) | refine zqS (fun _ => ?_) (fun _ => ?_) | refine zwS (fun _ => ?_) (fun _ => ?_))
            all_goals exact ci_normal ⟨_, _, _, _, _, _, _, _, _, hfact, rfl, rfl⟩ (by repeat (first | exact sub_nil | refine sub_cons rfl ?_)) (List.Sublist.refl _)
          · rw [hB, if_pos rfl] at hstep
            have hfact : ((e :: us).length + ts.length < (e :: us).length + (f :: ts).length ∧ VecCap w (.slice a1 (e :: us).length c1) (e :: us) ∧ VecCap w (tlS 3 (.slice a2 (f :: ts).length c2)) ts ∧ (∀ x ∈ e :: us, x.1.length ≤ 100000 ∧ inW x.2) ∧ (∀ e ∈ ts, e.1.length ≤ 100000 ∧ inW e.2) ∧
                f.1.length ≤ 100000 ∧ inW 0 ∧ inW f.2 ∧ mrgL less (n + 1) (e :: us) (f :: ts) = conL less f.1 0 f.2 (mrgL less n (e :: us) ts)) := ⟨by simp, ha, hb.tail, hwa, hwb', hf.1, in0, hf.2, hstep⟩
            repeat' (first | refine aw_seq ?_ | refine zz ?_ | refine zon fun _ => ?_ | refine zoa fun vr lr hr => ?_ | (apply ao_callF; exact wants_a; (first | exact oc_func rfl | exact oc_clos rfl rfl); (exact rfl); (first | exact next_b _ rfl ga gb _ _ e us f ts ha hb (by omega) (by omega) hB); exact cuts_a; intro _ hH; simp only [List.cons_append, List.nil_append] at hH; subst hH) | refine zoS (fun _ => ?_) (fun _ => ?_) | refine zqS (fun _ => ?_) (fun _ => ?_) | refine zwS (fun _ => ?_) (fun _ => ?_))
            all_goals exact ci_normal ⟨_, _, _, _, _, _, _, _, _, hfact, rfl, rfl⟩ (by repeat (first | exact sub_nil | refine sub_cons rfl ?_)) (List.Sublist.refl _)
        · rw [hA, if_pos rfl] at hstep
          have hfact : (us.length + (f :: ts).length < (e :: us).length + (f :: ts).length ∧ VecCap w (tlS 3 (.slice a1 (e :: us).length c1)) us ∧ VecCap w (.slice a2 (f :: ts).length c2) (f :: ts) ∧ (∀ e ∈ us, e.1.length ≤ 100000 ∧ inW e.2) ∧ (∀ e ∈ f :: ts, e.1.length ≤ 100000 ∧ inW e.2) ∧
              e.1.length ≤ 100000 ∧ inW e.2 ∧ inW 0 ∧ mrgL less (n + 1) (e :: us) (f :: ts) = conL less e.1 e.2 0 (mrgL less n us (f :: ts))) := ⟨by simp, ha.tail, hb, hwa', hwb, he.1, he.2, in0, hstep⟩
          repeat' (first | refine aw_seq ?_ | refine zz ?_ | refine zon fun _ => ?_ | refine zoa fun vr lr hr => ?_ | (apply ao_callF; exact wants_a; (first | exact oc_func rfl | exact oc_clos rfl rfl); (exact rfl); (first | exact next_a _ rfl ga gb _ _ e us f ts ha hb (by omega) (by omega) hA); exact cuts_a; intro _ hH; simp only [List.cons_append, List.nil_append] at hH; subst hH) | refine zoS (fun _ => ?_) (fun _ => ?_) | refine zqS (fun _ => ?_) (fun _ => ?_) | refine zwS (fun _ => ?_) (fun _ => ?_))
          all_goals exact ci_normal ⟨_, _, _, _, _, _, _, _, _, hfact, rfl, rfl⟩ (by repeat (first | exact sub_nil | refine sub_cons rfl ?_)) (List.Sublist.refl _)
  rintro t H ⟨b11, b12, nm, X, Y, va, vb, us', ts', ⟨hlt, ha', hb', hwa', hwb', hnm, hX, hY, hstep⟩, rfl, rfl⟩
  rw [hstep] at hm
  have hofw := fun w => hof X Y w hX hY
  by_cases hin : inW (opI less X Y)
  · have hok : (!(decide (inW (opI less X Y)))) = false := by rw [decide_eq_true hin]; rfl
    have hm2 : (mrgL less n us' ts').map (fun l => outs ++ (if opI less X Y = 0 then l else (nm, opI less X Y) :: l)) = T := by
      rw [← hm]; unfold conL; rw [if_pos (by rw [← inR_iff]; exact decide_eq_true hin), Option.map_map]; rfl
    have hz := eq_zero hin
    by_cases h0 : opI less X Y = 0
    · have hzz : (!(eqAll [I (sHi (opI less X Y)), .int .u64 (sLo (opI less X Y))] [I 0, .int .u64 0])) = false := by rw [hz, h0]; rfl
      simp only [if_pos h0] at hm2
      repeat' (first | refine aw_seq ?_ | refine zz ?_ | refine zon fun _ => ?_ | refine zoa fun vr lr hr => ?_ | ((first | apply ao_call | apply aq_call); exact wants_a; (first | exact oc_func rfl | exact oc_clos rfl rfl); (exact rfl); (first | exact fun w hw => hofw w)) | refine zoS (fun _ => ?_) (fun _ => ?_) | refine zqS (fun _ => ?_) (fun _ => ?_) | refine zwS (fun _ => ?_) (fun _ => ?_))
      all_goals exact lq_normal' ⟨n, ga, gb, va, vb, us', ts', x, l, outs, rfl, by omega, ha', hb', hwa', hwb', by omega, hr, hm2, rfl, perm2 _ _ l⟩ (by omega) (by repeat (first | exact sub_nil | refine sub_cons rfl ?_)) hsub_a
    · have hzz : (!(eqAll [I (sHi (opI less X Y)), .int .u64 (sLo (opI less X Y))] [I 0, .int .u64 0])) = true := by rw [hz, beq_eq_false_iff_ne.2 h0]; rfl
      simp only [if_neg h0] at hm2
      have hm3 : (mrgL less n us' ts').map ((outs ++ [(nm, opI less X Y)]) ++ ·) = T := by rw [← hm2]; congr 1; funext l; simp
      repeat' (first | refine aw_seq ?_ | refine zz ?_ | refine zon fun _ => ?_ | refine zoa fun vr lr hr => ?_ | ((first | apply ao_call | apply aq_call); exact wants_a; (first | exact oc_func rfl | exact oc_clos rfl rfl); (exact rfl); (first | exact fun w hw => hofw w)) | refine zoS (fun _ => ?_) (fun _ => ?_) | refine zqS (fun _ => ?_) (fun _ => ?_) | refine zwS (fun _ => ?_) (fun _ => ?_))
      all_goals exact lq_normal' ⟨n, ga, gb, va, vb, us', ts', _, _, outs ++ [(nm, opI less X Y)], rfl, by omega, ha', hb', hwa', hwb', by simp; omega, row_add (x := (nm, opI less X Y)) (by assumption) rfl rfl, hm3, rfl, List.Perm.refl _⟩ (by omega) (by repeat (first | exact sub_nil | refine sub_cons rfl ?_)) hsub_a
  · have hok : (!(decide (inW (opI less X Y)))) = true := by rw [decide_eq_false hin]; rfl
    have hm2 : T = none := by
      rw [← hm]; unfold conL; rw [if_neg (by rw [← inR_iff, decide_eq_true_eq]; exact hin)]; rfl
    subst hm2
    repeat' (first | refine aw_seq ?_ | refine zz ?_ | refine zon fun _ => ?_ | refine zoa fun vr lr hr => ?_ | ((first | apply ao_call | apply aq_call); exact wants_a; (first | exact oc_func rfl | exact oc_clos rfl rfl); (exact rfl); (first | exact fun w hw => hofw w)) | refine zoS (fun _ => ?_) (fun _ => ?_) | refine zqS (fun _ => ?_) (fun _ => ?_) | refine zwS (fun _ => ?_) (fun _ => ?_))
    all_goals exact fun w' hw => ⟨_, rfl, hw.below, _, RowB.nil, fun _ _ h => by cases h⟩
end Vec
end Go.Proofs.Ythabchmfhfhcaaa
