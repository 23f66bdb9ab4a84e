/- The landed tree: all nodes, as an iterator over its map; rising; conditions: at most 1,000 nodes. -/
import Derived.Test.YtonhfddklkbnbaaTryb
import Derived.Test.YtonhfddklkbnbaaTxs
namespace Go.Proofs.Ytonhfddklkbnbaa
namespace Trt
open Go Go.RowKit Sx
attribute [local irreducible] Go.Calls

/-- What a range over a map has handed out so far. -/
structure OutK {κ : Type} (X done : List (En κ)) (seen : Array Nat) : Prop where
  sub : ∀ x ∈ done, x ∈ X
  nd : done.Nodup
  is : seen.toList = done.map (·.2.2)
section
variable {κ : Type} {X done : List (En κ)} {seen : Array Nat}
theorem OutK.nil : OutK X [] #[] := ⟨(fun _ h => by cases h), List.nodup_nil, rfl⟩
theorem OutK.snoc (h : OutK X done seen) {x : En κ} (hx : x ∈ X) (hn : x.2.2 ∉ seen) : OutK X (done ++ [x]) (seen.push x.2.2) := by
  refine ⟨fun y hy => ?_, ?_, ?_⟩
  · rcases List.mem_append.1 hy with hy | hy
    · exact h.sub y hy
    · rw [List.mem_singleton.1 hy]; exact hx
  · refine List.nodup_append.2 ⟨h.nd, by simp, fun a ha b hb e => ?_⟩
    rw [List.mem_singleton.1 hb] at e
    subst e
    refine hn ?_
    rw [← Array.mem_toList_iff, h.is]
    exact List.mem_map.2 ⟨_, ha, rfl⟩
  · rw [Array.toList_push, h.is, List.map_append]
    rfl
theorem OutK.all (h : OutK X done seen) (hX : (X.map (·.2.2)).Nodup) (ha : ∀ x ∈ X, x.2.2 ∈ seen) : done.Perm X := by
  have hXn : X.Nodup := List.Pairwise.imp (fun h e => h (by rw [e])) (List.pairwise_map.1 hX)
  refine perm_mem h.nd hXn fun x => ⟨h.sub x, fun hx => ?_⟩
  have h1 := ha x hx
  rw [← Array.mem_toList_iff, h.is] at h1
  obtain ⟨y, hy, e⟩ := List.mem_map.1 h1
  obtain ⟨i, hi⟩ := List.getElem?_of_mem (h.sub y hy)
  obtain ⟨j, hj⟩ := List.getElem?_of_mem hx
  have e1 : (X.map (·.2.2))[i]? = some x.2.2 := by rw [List.getElem?_map, hi, Option.map_some, e]
  have e2 : (X.map (·.2.2))[j]? = some x.2.2 := by rw [List.getElem?_map, hj]; rfl
  have := (List.getElem?_inj (List.getElem?_eq_some_iff.1 e1).1 hX).1 (e1.trans e2.symm)
  subst this
  rw [hi] at hj
  cases hj
  exact hy
end
theorem nodup_le {α : Type} : ∀ {l m : List α}, l.Nodup → (∀ x ∈ l, x ∈ m) → l.length ≤ m.length
  | [], _, _, _ => Nat.zero_le _
  | a :: l, m, hl, h => by
    obtain ⟨s, u, rfl⟩ := List.append_of_mem (h a List.mem_cons_self)
    rw [List.nodup_cons] at hl
    have := nodup_le (m := s ++ u) hl.2 fun x hx => by
      have h2 := h x (List.mem_cons_of_mem a hx)
      rw [List.mem_append, List.mem_cons] at h2
      rcases h2 with h2 | rfl | h2
      · exact List.mem_append_left _ h2
      · exact absurd hx hl.1
      · exact List.mem_append_right _ h2
    simp only [List.length_append, List.length_cons] at this ⊢
    omega
/-- All nodes, as a function. -/
abbrev ndV (tb : Nat) : Value := .func (.func 63) #[] #[.pointer (some ⟨tb, 0, none⟩)]
set_option maxHeartbeats 8000000 in
theorem nodes_ok (q : Option Addr) (w : World) : Calls Try.prog 58 #[.pointer q] w fun e w' => ∃ r, e = .returned r ∧ NewD (fun r l => ∃ tb, r = ndV tb ∧ l = [(tb, boxT q)]) w w' r := by
  refine calls1 (args := [.pointer q]) Try.func58 rfl rfl rfl rfl ?_
  repeat' (first | refine aw_seq ?_ | refine zz ?_ | refine zon fun _ => ?_ | refine zoa fun vr lr hr => ?_ | refine zoS (fun _ => ?_) (fun _ => ?_) | refine zqS (fun _ => ?_) (fun _ => ?_) | refine zwS (fun _ => ?_) (fun _ => ?_))
  exact fun w' hw => ⟨_, rfl, hw.toD rfl (l := [(_, boxT q)]) (R := []) (List.Perm.refl _) ⟨_, rfl, rfl⟩⟩
theorem pat_map {n : Nat} {w0 : World} {H : Hp} {g : Nat} {t : Tr} {mo : Option Nat} {X : List (En Nm)} {c : Nat} (hm0 : mo = none → X = [] ∧ c = 0) (h : ∀ w, RepH ⟨w0.heap.size, w0, n⟩ H w → PAt w g t mo X c) : MapOf ⟨w0.heap.size, w0, n⟩ H encS mo X c := by
  cases mo with
  | none => exact hm0 rfl
  | some b => exact fun w hw => ((h w hw).ho b rfl).2
set_option maxHeartbeats 16000000 in
/-- The iterator over all: it hands over each node once, as long as the rounds go on. -/
theorem nodes_it {m : Nat} {w0 : World} {l tb g : Nat} {t : Tr} {mo : Option Nat} {X : List (En Nm)} {c : Nat} {r : Loop} (hm0 : mo = none → X = [] ∧ c = 0) (hX : MapT t X c) (hwf : WfT t) (hr : r.params.size = 1) (J : List Nm → Hp → Prop) (Jx : Hp → Prop)
    (hb : ∀ d H, J d H → Has H l (Lp r .ready none))
    (hF : ∀ d H, J d H → ∀ w, RepH ⟨w0.heap.size, w0, 0⟩ H w → w.cell? ⟨tb, 0, none⟩ = some (.pointer (some ⟨g, 0, none⟩)) ∧ PAt w g t mo X c)
    (hR : ∀ d n H, n ∈ t.map (·.1) → d.length < t.length → J d H → RoundH Try.prog ⟨w0.heap.size, w0, 0⟩ l r [S n] H fun u H' => (u = .bool true ∧ J (d ++ [n]) H') ∨ (u = .bool false ∧ Jx H'))
    (H : Hp) (h0 : J [] H) :
    CallsH Try.prog ⟨w0.heap.size, w0, m⟩ 63 [.func (.yield l) #[] #[], .pointer (some ⟨tb, 0, none⟩)] H fun u H' => u = .tuple #[] ∧ ((∃ d, d.Perm (t.map (·.1)) ∧ J d H') ∨ Jx H') := by
  have hcnt := hX.count hwf
  have hlen := hcnt.length_eq
  rw [List.length_map, List.length_cons, List.length_map] at hlen
  have cT := fun w (hw : RepH ⟨w0.heap.size, w0, Try.f63.ntmps⟩ H w) => (hF _ H h0 w hw.n0).1
  have hrd := hR [] rootN H (List.mem_map.2 ⟨_, hwf.root, rfl⟩) (by rw [hlen]; exact Nat.zero_lt_succ _) h0
  refine callsH0 Try.func63 rfl rfl rfl rfl ?_
  repeat' (first | refine aw_seq ?_ | ((first | apply ao_val | apply aq_val); exact wants_a; (first | exact ov_load_w1 rfl cT | exact ov_peqs rfl rfl | exact ov_a); (exact rfl)) | refine zy ?_ | refine zon fun _ => ?_ | refine zoa fun vr lr hr => ?_ | ((apply ao_yield (H' := H); exact wants_a; exact rfl; exact rfl; exact rfl; exact (List.Perm.of_eq (List.append_nil H).symm); exact hb _ H h0; exact hr.symm; exact hrd; intro u H1 hk)) | refine zoS (fun _ => ?_) (fun _ => ?_) | refine zqS (fun _ => ?_) (fun _ => ?_) | refine zwS (fun _ => ?_) (fun _ => ?_))
  rcases hk with ⟨rfl, hJ2⟩ | ⟨rfl, hx⟩
  · rw [List.nil_append] at hJ2
    have cT2 := fun w (hw : RepH ⟨w0.heap.size, w0, Try.f63.ntmps⟩ (H1 ++ []) w) => (hF _ H1 hJ2 w (by rw [List.append_nil] at hw; exact RepH.n0 hw)).1
    have c0 := fun w (hw : RepH ⟨w0.heap.size, w0, Try.f63.ntmps⟩ (H1 ++ []) w) => (hF _ H1 hJ2 w (by rw [List.append_nil] at hw; exact RepH.n0 hw)).2.c0
    have hmap := pat_map hm0 fun w (hw : RepH ⟨w0.heap.size, w0, Try.f63.ntmps⟩ (H1 ++ []) w) => (hF _ H1 hJ2 w (by rw [List.append_nil] at hw; exact RepH.n0 hw)).2
    repeat' (first | refine aw_seq ?_ | ((first | apply ao_val | apply aq_val); exact wants_a; (first | exact ov_nilcheck rfl | exact ov_load_w1 rfl cT2 | exact ov_load_w1 rfl c0 | exact ov_a); (exact rfl)) | refine zy ?_ | refine zon fun _ => ?_ | refine zoa fun vr lr hr => ?_ | (apply ao_new; exact wants_a; exact on_mrangeO rfl hmap; exact rfl; intro bi) | refine zoS (fun _ => ?_) (fun _ => ?_) | refine zqS (fun _ => ?_) (fun _ => ?_) | refine zwS (fun _ => ?_) (fun _ => ?_))
    rw [List.append_nil]
    refine aw_for (t0 := [(0, .func (.yield l) #[] #[]), (15, .pointer (some ⟨_, 0, none⟩))]) (fun k tm H => ∃ (bi : Nat) (seen : Array Nat) (done : List (En Nm)) (HJ : Hp), k = (X.filter fun y => !seen.contains y.2.2).length ∧ OutK X done seen ∧ J (rootN :: done.map (·.1)) HJ ∧
      tm = [(0, .func (.yield l) #[] #[]), (15, .pointer (some ⟨bi, 0, none⟩))] ∧ H.Perm ((bi, .mapIter mo c seen c) :: HJ)) ⟨_, _, [], H1, rfl, OutK.nil, hJ2, rfl, List.Perm.refl _⟩ (by repeat (first | exact sub_nil | refine sub_cons rfl ?_)) ?_
    clear cT cT2 c0 hmap hrd
    rintro _ tm H ⟨bi, seen, done, HJ, rfl, hout, hJ, rfl, hpm⟩
    refine aw_permH hpm ?_
    have hN : ∀ {w : World} {R : Hp} {o : Obj}, RepH ⟨w0.heap.size, w0, Try.f63.ntmps⟩ ((bi, o) :: R) w → RepH ⟨w0.heap.size, w0, 0⟩ R w := fun hw => (RepH.n0 hw).sub (List.sublist_cons_self _ _)
    have hmap := fun {o : Obj} => pat_map hm0 fun w (hw : RepH ⟨w0.heap.size, w0, Try.f63.ntmps⟩ ((bi, o) :: HJ) w) => (hF _ HJ hJ w (hN hw)).2
    repeat' (first | refine aw_seq ?_ | refine zz ?_ | refine zon fun _ => ?_ | refine zoa fun vr lr hr => ?_ | (apply ao_mnextO; exact wants_a; exact rfl; exact cut_a; exact hmap; exact hX.bl; exact Nat.le_refl _; exact rfl; intro hall; rotate_left; intro y hy hns; rotate_left) | refine zoS (fun _ => ?_) (fun _ => ?_) | refine zqS (fun _ => ?_) (fun _ => ?_) | refine zwS (fun _ => ?_) (fun _ => ?_))
    · repeat' (first | refine aw_seq ?_ | refine zz ?_ | refine zon fun _ => ?_ | refine zoa fun vr lr hr => ?_ | refine zoS (fun _ => ?_) (fun _ => ?_) | refine zqS (fun _ => ?_) (fun _ => ?_) | refine zwS (fun _ => ?_) (fun _ => ?_))
      refine r0_normal ⟨HJ, List.sublist_cons_self _ _, .inl ⟨_, ?_, hJ⟩⟩
      exact (List.Perm.cons _ ((hout.all hX.bd hall).map _)).trans hcnt.symm
    · obtain ⟨yk, yv, yb⟩ := y
      simp only at hns
      have hln : (rootN :: done.map (·.1)).length < t.length := by
        rw [List.length_cons, List.length_map, hlen]
        have h1 := hout.snoc hy hns
        have h2 := nodup_le h1.nd h1.sub
        rw [List.length_append] at h2
        have h3 : (List.length [((yk, yv, yb) : En Nm)]) = 1 := rfl
        omega
      have hmem : yk ∈ t.map (·.1) := hcnt.mem_iff.2 (List.mem_cons_of_mem _ (List.mem_map.2 ⟨_, hy, rfl⟩))
      have hrd := hR _ yk HJ hmem hln hJ
      repeat' (first | refine aw_seq ?_ | ((first | apply ao_val | apply aq_val); exact wants_a; (first | exact ov_entryO rfl has_a hmap hX.bd hy | exact ov_a); (exact rfl)) | refine zy ?_ | refine zon fun _ => ?_ | refine zoa fun vr lr hr => ?_ | ((apply ao_yield (H' := HJ); exact wants_a; exact rfl; exact rfl; exact rfl; exact (List.perm_append_singleton _ _).symm; exact hb _ HJ hJ; exact hr.symm; exact hrd; intro u H2 hk)) | refine zoS (fun _ => ?_) (fun _ => ?_) | refine zqS (fun _ => ?_) (fun _ => ?_) | refine zwS (fun _ => ?_) (fun _ => ?_))
      rcases hk with ⟨rfl, hJ3⟩ | ⟨rfl, hx⟩
      · repeat' (first | refine aw_seq ?_ | refine zz ?_ | refine zon fun _ => ?_ | refine zoa fun vr lr hr => ?_ | refine zoS (fun _ => ?_) (fun _ => ?_) | refine zqS (fun _ => ?_) (fun _ => ?_) | refine zwS (fun _ => ?_) (fun _ => ?_))
        exact lq_normal' ⟨bi, _, done ++ [(yk, yv, yb)], H2, rfl, hout.snoc hy hns, by rw [List.map_append]; exact hJ3, rfl, List.perm_append_singleton _ _⟩ (left_less (fun y : En Nm => y.2.2) hy hns) (by repeat (first | exact sub_nil | refine sub_cons rfl ?_)) hsub_a
      · repeat' (first | refine aw_seq ?_ | refine zz ?_ | refine zon fun _ => ?_ | refine zoa fun vr lr hr => ?_ | refine zoS (fun _ => ?_) (fun _ => ?_) | refine zqS (fun _ => ?_) (fun _ => ?_) | refine zwS (fun _ => ?_) (fun _ => ?_))
        exact r0_ret ⟨H2, List.sublist_append_left _ _, .inr hx⟩
  · repeat' (first | refine aw_seq ?_ | refine zz ?_ | refine zon fun _ => ?_ | refine zoa fun vr lr hr => ?_ | refine zoS (fun _ => ?_) (fun _ => ?_) | refine zqS (fun _ => ?_) (fun _ => ?_) | refine zwS (fun _ => ?_) (fun _ => ?_))
    exact r0_ret ⟨H1, List.sublist_append_left _ _, .inr hx⟩
set_option maxHeartbeats 8000000 in
theorem nodes_it0 {m : Nat} {w0 : World} {l tb : Nat} (H : Hp) (hT : ∀ w, RepH ⟨w0.heap.size, w0, 0⟩ H w → w.cell? ⟨tb, 0, none⟩ = some (.pointer none)) :
    CallsH Try.prog ⟨w0.heap.size, w0, m⟩ 63 [.func (.yield l) #[] #[], .pointer (some ⟨tb, 0, none⟩)] H fun u H' => u = .tuple #[] ∧ H' = H := by
  have cT := fun w (hw : RepH ⟨w0.heap.size, w0, Try.f63.ntmps⟩ H w) => hT w hw.n0
  refine callsH0 Try.func63 rfl rfl rfl rfl ?_
  repeat' (first | refine aw_seq ?_ | ((first | apply ao_val | apply aq_val); exact wants_a; (first | exact ov_load_w1 rfl cT | exact ov_peq0 rfl rfl | exact ov_a); (exact rfl)) | refine zy ?_ | refine zon fun _ => ?_ | refine zoa fun vr lr hr => ?_ | refine zoS (fun _ => ?_) (fun _ => ?_) | refine zqS (fun _ => ?_) (fun _ => ?_) | refine zwS (fun _ => ?_) (fun _ => ?_))
  exact r0_ret ⟨H, List.Sublist.refl _, rfl⟩
theorem nodes_itQ {m : Nat} {w0 : World} {l tb : Nat} {q : Option Addr} {t : Tr} {r : Loop} (h : QAt w0 q t) (hr : r.params.size = 1) (J : List Nm → Hp → Prop) (Jx : Hp → Prop)
    (hb : ∀ d H, J d H → Has H l (Lp r .ready none))
    (hF : ∀ d H, J d H → Has H tb (boxT q))
    (hR : ∀ d n H, n ∈ t.map (·.1) → d.length < t.length → J d H → RoundH Try.prog ⟨w0.heap.size, w0, 0⟩ l r [S n] H fun u H' => (u = .bool true ∧ J (d ++ [n]) H') ∨ (u = .bool false ∧ Jx H'))
    (H : Hp) (h0 : J [] H) :
    CallsH Try.prog ⟨w0.heap.size, w0, m⟩ 63 [.func (.yield l) #[] #[], .pointer (some ⟨tb, 0, none⟩)] H fun u H' => u = .tuple #[] ∧ ((∃ d, d.Perm (t.map (·.1)) ∧ J d H') ∨ Jx H') := by
  have hT : ∀ d H, J d H → ∀ w, RepH ⟨w0.heap.size, w0, 0⟩ H w → w.cell? ⟨tb, 0, none⟩ = some (.pointer q) := fun d H hJ w hw => by
    have h2 : w.heap[tb]? = some (.cells (List.toArray [.pointer q]) 27 (0, 0)) := (hw.has (hF d H hJ)).2
    rw [cell_of h2]; rfl
  rcases h with ⟨rfl, rfl⟩ | ⟨g, mo, X, c, rfl, hP⟩
  · refine (nodes_it0 H (hT _ H h0)).mono fun v H' ⟨h1, h2⟩ => ⟨h1, .inl ⟨[], List.Perm.refl _, by rw [h2]; exact h0⟩⟩
  · exact nodes_it hP.no hP.mt hP.wf hr J Jx hb (fun d H hJ w hw => ⟨hT d H hJ w hw, hP.below hw.below⟩) hR H h0
set_option maxHeartbeats 16000000 in
theorem rising_ok {w : World} {q : Option Addr} {t : Tr} (h : QAt w q t) (hg : t = [] ∨ WfT t) (hl : t.length ≤ 1000) {hf : FuncId} [FnB Try.prog hf] {lb : List Value} {p : Nm → Bool}
    (hp : ∀ n w', Below w.heap.size w w' → Calls Try.prog hf ([S n] ++ lb).toArray w' fun e w2 => e = .returned (.bool (p n)) ∧ Below w'.heap.size w' w2) :
    Calls Try.prog 41 #[.pointer q, .func (.func hf) #[] lb.toArray] w fun e w' => ∃ r, e = .returned r ∧ NewRow 9 1 w w' r ((t.map (·.1)).filter p).length (((t.map (·.1)).filter p).flatMap cells1) := by
  have hrise : (t.map (·.1)).Pairwise fun a b => Op.bytesLess a b = true := by
    rcases hg with rfl | hg
    · exact List.Pairwise.nil
    · exact List.pairwise_map.2 hg.rise
  refine calls1 (args := [.pointer q, .func (.func hf) #[] lb.toArray]) Try.func41 rfl rfl rfl rfl ?_
  repeat' (first | refine aw_seq ?_ | refine zz ?_ | refine zon fun _ => ?_ | refine zoa fun vr lr hr => ?_ | ((apply ao_callD; exact wants_a; (exact oc_func rfl); (exact rfl); (intro w hw; exact nodes_ok q w); rintro _ _ ⟨tb, rfl, rfl⟩)) | refine zoS (fun _ => ?_) (fun _ => ?_) | refine zqS (fun _ => ?_) (fun _ => ?_) | refine zwS (fun _ => ?_) (fun _ => ?_))
  rename_i b3 b5
  refine aw_range (gf := 63) (bs := []) (lb := [.pointer (some ⟨tb, 0, none⟩)]) rfl fun l r e1 e2 e3 hts => ?_
  refine CallsH.mono (nodes_itQ (q := q) (t := t) h (by rw [e1]; rfl)
    (fun d H => d.length ≤ 1000 ∧ ∃ v5 l5, RowB 9 1 v5 l5 (d.filter p).length ((d.filter p).flatMap cells1) ∧ H.Perm ((l, Lp r .ready none) :: (tb, boxT q) :: (b5, .cells #[v5] 38 (0, 0)) :: (b3, .cells #[.func (.func hf) #[] lb.toArray] 51 (0, 0)) :: (l5 ++ [])))
    (fun _ => False) ?_ ?_ ?_ _ ?_) ?_
  · rintro d H ⟨-, v5, l5, -, hp⟩
    exact has_perm hp has_a
  · rintro d H ⟨-, v5, l5, -, hp⟩
    exact has_perm hp has_a
  · rintro d k H hk hdl ⟨hd, v5, l5, r5, hpm⟩
    refine RoundH.perm hpm ?_
    obtain ⟨av, cv, hv5⟩ := r5.len
    subst hv5
    have hfl := List.length_filter_le p d
    refine roundH_of (E := ⟨w.heap.size, w, Try.f41.ntmps⟩) (ps := [9]) e1 rfl (by rw [e2]; rfl) (by rw [e3]; rfl) hts ?_
    rw [e2, e3]
    simp only [putTm]
    repeat' (first | refine aw_seq ?_ | refine zz ?_ | refine zon fun _ => ?_ | refine zoa fun vr lr hr => ?_ | refine zoS (fun _ => ?_) (fun _ => ?_) | refine zqS (fun _ => ?_) (fun _ => ?_) | refine zwS (fun _ => ?_) (fun _ => ?_))
    refine asg_done has_a upd_a ?_
    have hc := hp k
    have hd2 : (d ++ [k]).length ≤ 1000 := by rw [List.length_append, List.length_singleton]; omega
    cases hpk : p k
    · have hfe : (d ++ [k]).filter p = d.filter p := by rw [List.filter_append, List.filter_cons, hpk]; simp
      rw [hpk] at hc
      repeat' (first | refine aw_seq ?_ | refine zz ?_ | refine zon fun _ => ?_ | refine zoa fun vr lr hr => ?_ | ((first | apply ao_call | apply aq_call); exact wants_a; (first | exact oc_func rfl | exact oc_clos rfl rfl | exact oc_bnd rfl rfl); (exact rfl); (first | exact fun w hw => hc w hw.below)) | refine zoS (fun _ => ?_) (fun _ => ?_) | refine zqS (fun _ => ?_) (fun _ => ?_) | refine zwS (fun _ => ?_) (fun _ => ?_))
      exact rq_normal has_a upd_a hsub_a (Or.inl ⟨rfl, hd2, _, l5, by rw [hfe]; exact r5, List.Perm.refl _⟩)
    · have hfe : (d ++ [k]).filter p = d.filter p ++ [k] := by rw [List.filter_append, List.filter_cons, hpk]; simp
      rw [hpk] at hc
      repeat' (first | refine aw_seq ?_ | refine zz ?_ | refine zon fun _ => ?_ | refine zoa fun vr lr hr => ?_ | ((first | apply ao_call | apply aq_call); exact wants_a; (first | exact oc_func rfl | exact oc_clos rfl rfl | exact oc_bnd rfl rfl); (exact rfl); (first | exact fun w hw => hc w hw.below)) | refine zoS (fun _ => ?_) (fun _ => ?_) | refine zqS (fun _ => ?_) (fun _ => ?_) | refine zwS (fun _ => ?_) (fun _ => ?_))
      obtain ⟨xv, yv, hxv⟩ := hr.len
      subst hxv
      repeat' (first | refine aw_seq ?_ | refine zz ?_ | refine zon fun _ => ?_ | refine zoa fun vr lr hr => ?_ | refine zoS (fun _ => ?_) (fun _ => ?_) | refine zqS (fun _ => ?_) (fun _ => ?_) | refine zwS (fun _ => ?_) (fun _ => ?_))
      exact rq_normal has_a upd_a (H2 := lr ++ [_, _, _, _]) hsub_a (Or.inl ⟨rfl, hd2, _, lr, by rw [hfe]; exact row1 hr, perm_tail lr [_, _, _, _]⟩)
  · exact ⟨Nat.zero_le _, _, [], RowB.nil, List.Perm.refl _⟩
  · rintro v H' ⟨-, ⟨d, hd, hdl, v5, l5, r5, hpm⟩ | hf⟩
    · refine ⟨.ready, none, _, by simp, hpm, ?_⟩
      obtain ⟨av, cv, hv5⟩ := r5.len
      subst hv5
      have hfl := List.length_filter_le p d
      have hs := srt_eq (hd.filter p) (hrise.sublist List.filter_sublist)
      have hso := fun R => sortS_ok (E := ⟨w.heap.size, w, Try.f41.ntmps⟩) (d.filter p) r5 (by omega) R
      rw [hs] at hso
      unfold jumpQ
      repeat' (first | refine aw_seq ?_ | refine zz ?_ | refine zon fun _ => ?_ | refine zoa fun vr lr hr => ?_ | ((apply ao_callH (l := l5); exact wants_a; (exact oc_func rfl); (exact rfl); (exact cut_a); (exact hso _); rintro _ _ ⟨rfl, l6, rfl, r6⟩)) | refine zoS (fun _ => ?_) (fun _ => ?_) | refine zqS (fun _ => ?_) (fun _ => ?_) | refine zwS (fun _ => ?_) (fun _ => ?_))
      exact fun w' hw => ⟨_, rfl, hw.below, _, r6, fun b o hm => hw.at_ b o (List.mem_append_left _ hm)⟩
    · exact hf.elim
end Trt
end Go.Proofs.Ytonhfddklkbnbaa
