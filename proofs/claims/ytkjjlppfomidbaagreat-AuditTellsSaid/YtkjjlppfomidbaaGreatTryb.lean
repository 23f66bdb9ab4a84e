/- The landed tree: its map, where it lies; Has, Parent, the way up; conditions: none. -/
import Derived.Test.YtkjjlppfomidbaaGreatTrq
/- Trx: The landed tree: its map, where it lies; Has, Parent, the way up; conditions: none. -/
namespace Go.Proofs.YtkjjlppfomidbaaGreat
namespace Trt
open Go Go.RowKit Sx
attribute [local irreducible] Go.Calls
instance : TyPtr Tryz.prog 27 108 := ⟨by kernel_rfl⟩
instance : TyMapT Tryz.prog 106 9 9 := ⟨by kernel_rfl⟩
def encS (s : Nm) : Value := S s
theorem findNow_s (k : Nm) : ∀ (es : List (En Nm)) (i : Nat), Instr.findNow .string (encS k) (es.map (ent encS)) i = some (fndK k es i)
  | [], _ => rfl
  | x :: es, i => by
    have ih := findNow_s k es (i + 1)
    have h1 : Instr.sameNow .string (encS k) (ent encS x).key = some (decide (k = x.1)) := by
      show some _ = _
      congr 1
      rw [Bool.eq_iff_iff, MapKept.bytes_beq, decide_eq_true_eq]
      constructor
      · intro h
        have := congrArg (fun b : ByteArray => b.data.toList) h
        simpa using this
      · rintro rfl; rfl
    rw [List.map_cons]
    unfold Instr.findNow fndK
    rw [h1]
    by_cases e : k = x.1
    · rw [decide_eq_true e, if_pos e]; rfl
    · rw [decide_eq_false e, if_neg e]; exact ih
instance : KeyK Tryz.prog 9 encS where
  check b w k := MapKept.run_checkKey (d := .string) (by kernel_rfl) (k := encS k) trivial b 9999
  find w k es := MapKept.run_findKey (d := .string) (by kernel_rfl) (findNow_s k es 0)
  stays w k := by
    unfold Instr.keyThatStays
    rw [if_pos (by show (_ == _) = true; rw [MapKept.bytes_beq])]
    rfl
structure MapT (t : Tr) (X : List (En Nm)) (c : Nat) : Prop where
  kd : (X.map (·.1)).Nodup
  bd : (X.map (·.2.2)).Nodup
  bl : ∀ x ∈ X, x.2.2 < c
  is : ∀ x ∈ X, ∃ p, x.2.1 = S p ∧ (x.1, p) ∈ t ∧ x.1 ≠ rootN
  all : ∀ e ∈ t, e.1 ≠ rootN → ∃ x ∈ X, x.1 = e.1
theorem MapT.fnd {t : Tr} {X : List (En Nm)} {c : Nat} (h : MapT t X c) (hw : WfT t) (s : Nm) : (hasT t s = true ∧ s ≠ rootN ∧ ∃ i, fndK s X 0 = some (i, S (parT t s))) ∨ ((hasT t s = false ∨ s = rootN) ∧ fndK s X 0 = none) := by
  cases hf : fndK s X 0 with
  | none =>
    refine .inr ⟨?_, rfl⟩
    by_cases hr : s = rootN
    · exact .inr hr
    · left
      cases hs : hasT t s
      · rfl
      · obtain ⟨e, he, rfl⟩ := has_iff.1 hs
        obtain ⟨x, hx, h1⟩ := h.all e he hr
        exact absurd h1 (fndK_none.1 hf x hx)
  | some q =>
    obtain ⟨i, u⟩ := q
    obtain ⟨-, b, hb⟩ := fndK_some hf
    obtain ⟨p, h1, h2, h3⟩ := h.is _ (List.mem_of_getElem? hb)
    simp only at h1 h2 h3
    refine .inl ⟨has_iff.2 ⟨_, h2, rfl⟩, h3, i, ?_⟩
    have := hw.par h2
    simp only at this
    rw [this, h1]
theorem MapT.count {t : Tr} {X : List (En Nm)} {c : Nat} (h : MapT t X c) (hw : WfT t) : ((t.map (·.1)).Perm (rootN :: X.map (·.1))) := by
  have hn : (t.map (·.1)).Nodup := by
    refine List.pairwise_map.2 (hw.rise.imp fun {a b} hlt e => ?_)
    rw [e, Bord.bl_irrefl] at hlt
    cases hlt
  refine perm_mem hn (List.nodup_cons.2 ⟨fun hr => ?_, h.kd⟩) fun s => ?_
  · obtain ⟨x, hx, e⟩ := List.mem_map.1 hr
    obtain ⟨p, -, -, h3⟩ := h.is x hx
    exact h3 e
  · rw [List.mem_cons]
    constructor
    · intro hs
      obtain ⟨e, he, rfl⟩ := List.mem_map.1 hs
      by_cases hr : e.1 = rootN
      · exact .inl hr
      · obtain ⟨x, hx, h1⟩ := h.all e he hr
        exact .inr (List.mem_map.2 ⟨x, hx, h1⟩)
    · rintro (rfl | hs)
      · exact List.mem_map.2 ⟨_, hw.root, rfl⟩
      · obtain ⟨x, hx, rfl⟩ := List.mem_map.1 hs
        obtain ⟨p, -, h2, -⟩ := h.is x hx
        exact List.mem_map.2 ⟨_, h2, rfl⟩
structure PAt (w : World) (g : Nat) (t : Tr) (mo : Option Nat) (X : List (En Nm)) (c : Nat) : Prop where
  lt : g < w.heap.size
  c0 : w.cell? ⟨g, 0, none⟩ = some (.map mo)
  ho : ∀ b, mo = some b → b < w.heap.size ∧ w.heap[b]? = some (mapO encS X c)
  no : mo = none → X = [] ∧ c = 0
  mt : MapT t X c
  wf : WfT t
section
variable {w : World} {g : Nat} {t : Tr} {mo : Option Nat} {X : List (En Nm)} {c : Nat}
theorem PAt.below {w' : World} (h : PAt w g t mo X c) (hb : Below w.heap.size w w') : PAt w' g t mo X c :=
  ⟨Nat.lt_of_lt_of_le h.lt hb.size, (hb.cell h.lt).trans h.c0, fun b e => ⟨Nat.lt_of_lt_of_le (h.ho b e).1 hb.size, by rw [hb.block b (h.ho b e).1]; exact (h.ho b e).2⟩, h.no, h.mt, h.wf⟩
theorem PAt.look (h : PAt w g t mo X c) (s : Nm) {n : Nat} {tm : Tm} {H : Hp} {x y : Operand} {ty : TypeId} (ok : Bool) (hx : ev tm x = some (.map mo)) (hy : ev tm y = some (S s)) :
    OpV Tryz.prog ⟨w.heap.size, w, n⟩ (.lookup 106 x y ok) ty tm H (if ok then .tuple #[S (parT t s), .bool (hasT t s && decide (s ≠ rootN))] else S (parT t s)) := by
  rcases h.mt.fnd h.wf s with ⟨h1, h2, i, h3⟩ | ⟨h1, h2⟩
  · rw [h1, decide_eq_true h2]
    cases mo with
    | none => rw [(h.no rfl).1] at h3; cases h3
    | some b => exact ov_mget (enc := encS) (k := s) ok hx hy (mapAt_old (h.ho b rfl).2 (h.ho b rfl).1) h3
  · have e1 : (hasT t s && decide (s ≠ rootN)) = false := by
      rcases h1 with h1 | h1
      · rw [h1, Bool.false_and]
      · rw [decide_eq_false (fun h => h h1), Bool.and_false]
    have e2 : parT t s = [] := by
      rcases h1 with h1 | rfl
      · exact par_none h1
      · exact h.wf.par h.wf.root
    rw [e1, e2]
    cases mo with
    | none => exact ov_mgetn (enc := encS) (k := s) ok hx hy
    | some b => exact ov_mget0 (enc := encS) (k := s) ok hx hy (mapAt_old (h.ho b rfl).2 (h.ho b rfl).1) h2
set_option maxHeartbeats 8000000 in
theorem hasP_ok (h : PAt w g t mo X c) (s : Nm) :
    Calls Tryz.prog 47 #[.pointer (some ⟨g, 0, none⟩), S s] w fun e w' => e = .returned (.bool (hasT t s)) ∧ Below w.heap.size w w' := by
  have lt := h.lt
  have c0 := h.c0
  have hlk := fun {n : Nat} {tm : Tm} {H : Hp} {x y : Operand} {ty : TypeId} => h.look s (n := n) (tm := tm) (H := H) (x := x) (y := y) (ty := ty) true
  simp only [if_true] at hlk
  refine calls1 (args := [.pointer (some ⟨g, 0, none⟩), S s]) Tryz.func47 rfl rfl rfl rfl ?_
  by_cases hr : s = rootN
  · subst hr
    rw [decide_eq_false (fun h => h rfl), Bool.and_false] at hlk
    rw [show hasT t rootN = true from has_iff.2 ⟨_, h.wf.root, rfl⟩]
    have er : (rootN == rootN) = true := beq_self_eq_true _
    repeat' (first | refine aw_seq ?_ | ((first | apply ao_val | apply aq_val); exact wants_a; (first | exact ov_nilcheck rfl | exact ov_peqs rfl rfl | exact hlk rfl rfl | exact ov_a); (exact rfl)) | refine zy ?_ | refine zon fun _ => ?_ | refine zoa fun vr lr hr => ?_ | refine zoS (fun _ => ?_) (fun _ => ?_) | refine zqS (fun _ => ?_) (fun _ => ?_) | refine zwS (fun _ => ?_) (fun _ => ?_))
    exact fun w' hw => ⟨rfl, hw.below⟩
  · have er : (s == rootN) = false := beq_eq_false_iff_ne.2 hr
    rw [decide_eq_true hr, Bool.and_true] at hlk
    cases hs : hasT t s
    · rw [hs] at hlk
      repeat' (first | refine aw_seq ?_ | ((first | apply ao_val | apply aq_val); exact wants_a; (first | exact ov_nilcheck rfl | exact ov_peqs rfl rfl | exact hlk rfl rfl | exact ov_a); (exact rfl)) | refine zy ?_ | refine zon fun _ => ?_ | refine zoa fun vr lr hr => ?_ | refine zoS (fun _ => ?_) (fun _ => ?_) | refine zqS (fun _ => ?_) (fun _ => ?_) | refine zwS (fun _ => ?_) (fun _ => ?_))
      exact fun w' hw => ⟨congrArg (fun b => Ending.returned (.bool b)) er, hw.below⟩
    · rw [hs] at hlk
      repeat' (first | refine aw_seq ?_ | ((first | apply ao_val | apply aq_val); exact wants_a; (first | exact ov_nilcheck rfl | exact ov_peqs rfl rfl | exact hlk rfl rfl | exact ov_a); (exact rfl)) | refine zy ?_ | refine zon fun _ => ?_ | refine zoa fun vr lr hr => ?_ | refine zoS (fun _ => ?_) (fun _ => ?_) | refine zqS (fun _ => ?_) (fun _ => ?_) | refine zwS (fun _ => ?_) (fun _ => ?_))
      exact fun w' hw => ⟨rfl, hw.below⟩
set_option maxHeartbeats 8000000 in
theorem parP_ok (h : PAt w g t mo X c) (s : Nm) :
    Calls Tryz.prog 49 #[.pointer (some ⟨g, 0, none⟩), S s] w fun e w' => e = .returned (S (parT t s)) ∧ Below w.heap.size w w' := by
  have lt := h.lt
  have c0 := h.c0
  have hlk := fun {n : Nat} {tm : Tm} {H : Hp} {x y : Operand} {ty : TypeId} => h.look s (n := n) (tm := tm) (H := H) (x := x) (y := y) (ty := ty) false
  simp only [Bool.false_eq_true, if_false] at hlk
  refine calls1 (args := [.pointer (some ⟨g, 0, none⟩), S s]) Tryz.func49 rfl rfl rfl rfl ?_
  repeat' (first | refine aw_seq ?_ | ((first | apply ao_val | apply aq_val); exact wants_a; (first | exact ov_nilcheck rfl | exact ov_peqs rfl rfl | exact hlk rfl rfl | exact ov_a); (exact rfl)) | refine zy ?_ | refine zon fun _ => ?_ | refine zoa fun vr lr hr => ?_ | refine zoS (fun _ => ?_) (fun _ => ?_) | refine zqS (fun _ => ?_) (fun _ => ?_) | refine zwS (fun _ => ?_) (fun _ => ?_))
  exact fun w' hw => ⟨rfl, hw.below⟩
end
theorem has0_ok (s : Nm) (w : World) : Calls Tryz.prog 47 #[.pointer none, S s] w fun e w' => e = .returned (.bool false) ∧ Below w.heap.size w w' := by
  refine calls1 (args := [.pointer none, S s]) Tryz.func47 rfl rfl rfl rfl ?_
  repeat' (first | refine aw_seq ?_ | ((first | apply ao_val | apply aq_val); exact wants_a; (first | exact ov_nilcheck rfl | exact ov_peq0 rfl rfl | exact ov_a); (exact rfl)) | refine zy ?_ | refine zon fun _ => ?_ | refine zoa fun vr lr hr => ?_ | refine zoS (fun _ => ?_) (fun _ => ?_) | refine zqS (fun _ => ?_) (fun _ => ?_) | refine zwS (fun _ => ?_) (fun _ => ?_))
  exact fun w' hw => ⟨rfl, hw.below⟩
theorem par0_ok (s : Nm) (w : World) : Calls Tryz.prog 49 #[.pointer none, S s] w fun e w' => e = .returned (S []) ∧ Below w.heap.size w w' := by
  refine calls1 (args := [.pointer none, S s]) Tryz.func49 rfl rfl rfl rfl ?_
  repeat' (first | refine aw_seq ?_ | ((first | apply ao_val | apply aq_val); exact wants_a; (first | exact ov_nilcheck rfl | exact ov_peq0 rfl rfl | exact ov_a); (exact rfl)) | refine zy ?_ | refine zon fun _ => ?_ | refine zoa fun vr lr hr => ?_ | refine zoS (fun _ => ?_) (fun _ => ?_) | refine zqS (fun _ => ?_) (fun _ => ?_) | refine zwS (fun _ => ?_) (fun _ => ?_))
  exact fun w' hw => ⟨rfl, hw.below⟩
def QAt (w : World) (q : Option Addr) (t : Tr) : Prop := (q = none ∧ t = []) ∨ ∃ g mo X c, q = some ⟨g, 0, none⟩ ∧ PAt w g t mo X c
section
variable {w : World} {q : Option Addr} {t : Tr}
theorem QAt.below {w' : World} (h : QAt w q t) (hb : Below w.heap.size w w') : QAt w' q t := by
  rcases h with h | ⟨g, mo, X, c, h1, h2⟩
  · exact .inl h
  · exact .inr ⟨g, mo, X, c, h1, h2.below hb⟩
theorem hasQ_ok (h : QAt w q t) (s : Nm) : Calls Tryz.prog 47 #[.pointer q, S s] w fun e w' => e = .returned (.bool (hasT t s)) ∧ Below w.heap.size w w' := by
  rcases h with ⟨rfl, rfl⟩ | ⟨g, mo, X, c, rfl, h2⟩
  · exact has0_ok s w
  · exact hasP_ok h2 s
theorem parQ_ok (h : QAt w q t) (s : Nm) : Calls Tryz.prog 49 #[.pointer q, S s] w fun e w' => e = .returned (S (parT t s)) ∧ Below w.heap.size w w' := by
  rcases h with ⟨rfl, rfl⟩ | ⟨g, mo, X, c, rfl, h2⟩
  · exact par0_ok s w
  · exact parP_ok h2 s
end
end Trt
end Go.Proofs.YtkjjlppfomidbaaGreat
/- Trya: The landed tree: the way up, as an iterator; within; conditions: none. -/
namespace Go.Proofs.YtkjjlppfomidbaaGreat
namespace Trt
open Go Go.RowKit Sx
attribute [local irreducible] Go.Calls
abbrev boxT (q : Option Addr) : Obj := .cells #[.pointer q] 27 (0, 0)
abbrev boxN (s : Nm) : Obj := .cells #[S s] 9 (0, 0)
abbrev upV (nb tb : Nat) : Value := .func (.func 153) #[] #[.pointer (some ⟨nb, 0, none⟩), .pointer (some ⟨tb, 0, none⟩)]
set_option maxHeartbeats 8000000 in
theorem up_ok (q : Option Addr) (s : Nm) (w : World) : Calls Tryz.prog 122 #[.pointer q, S s] w fun e w' => ∃ r, e = .returned r ∧ NewD (fun r l => ∃ nb tb, r = upV nb tb ∧ l = [(nb, boxN s), (tb, boxT q)]) w w' r := by
  refine calls1 (args := [.pointer q, S s]) Tryz.func122 rfl rfl rfl rfl ?_
  repeat' (first | refine aw_seq ?_ | refine zz ?_ | refine zon fun _ => ?_ | refine zoa fun vr lr hr => ?_ | refine zoS (fun _ => ?_) (fun _ => ?_) | refine zqS (fun _ => ?_) (fun _ => ?_) | refine zwS (fun _ => ?_) (fun _ => ?_))
  exact fun w' hw => ⟨_, rfl, hw.toD rfl (l := [(_, boxN s), (_, boxT q)]) (R := []) (List.Perm.refl _) ⟨_, _, rfl, rfl⟩⟩
structure UpAt (w : World) (nb tb : Nat) (q : Option Addr) (t : Tr) (s : Nm) : Prop where
  cn : w.cell? ⟨nb, 0, none⟩ = some (S s)
  ct : w.cell? ⟨tb, 0, none⟩ = some (.pointer q)
  at_ : QAt w q t
theorem UpAt.below {w w' : World} {nb tb : Nat} {q : Option Addr} {t : Tr} {s : Nm} (h : UpAt w nb tb q t s) (hn : nb < w.heap.size) (ht : tb < w.heap.size) (hb : Below w.heap.size w w') : UpAt w' nb tb q t s :=
  ⟨(hb.cell hn).trans h.cn, (hb.cell ht).trans h.ct, h.at_.below hb⟩
theorem path_step {t : Tr} (h : t = [] ∨ WfT t) {s : Nm} (hs : hasT t s = true) : pathT t s = s :: pathT t (parT t s) := by
  rcases h with rfl | h
  · cases hs
  · obtain ⟨e, he, rfl⟩ := has_iff.1 hs
    rw [h.par he]
    exact h.path he
set_option maxHeartbeats 16000000 in
theorem up_it {m : Nat} {w0 : World} {l nb tb : Nat} {q : Option Addr} {t : Tr} {s : Nm} {r : Loop} (hg : t = [] ∨ WfT t) (hr : r.params.size = 1) (J : List Nm → Hp → Prop) (Jx : Hp → Prop)
    (hb : ∀ pre H, J pre H → Has H l (Lp r .ready none))
    (hF : ∀ pre H, J pre H → ∀ w, RepH ⟨w0.heap.size, w0, 0⟩ H w → UpAt w nb tb q t s)
    (hR : ∀ (pre : List Nm) n rest H, pathT t s = pre ++ n :: rest → J pre H → RoundH Tryz.prog ⟨w0.heap.size, w0, 0⟩ l r [S n] H fun u H' => (u = .bool true ∧ J (pre ++ [n]) H') ∨ (u = .bool false ∧ Jx H'))
    (H : Hp) (h0 : J [] H) :
    CallsH Tryz.prog ⟨w0.heap.size, w0, m⟩ 153 [.func (.yield l) #[] #[], .pointer (some ⟨nb, 0, none⟩), .pointer (some ⟨tb, 0, none⟩)] H fun u H' => u = .tuple #[] ∧ (J (pathT t s) H' ∨ Jx H') := by
  have cN := fun w (hw : RepH ⟨w0.heap.size, w0, Tryz.f153.ntmps⟩ H w) => (hF _ H h0 w hw.n0).cn
  refine callsH0 Tryz.func153 rfl rfl rfl rfl ?_
  repeat' (first | refine aw_seq ?_ | ((first | apply ao_val | apply aq_val); exact wants_a; (first | exact ov_load_w1 rfl cN | exact ov_a); (exact rfl)) | refine zy ?_ | refine zon fun _ => ?_ | refine zoa fun vr lr hr => ?_ | refine zoS (fun _ => ?_) (fun _ => ?_) | refine zqS (fun _ => ?_) (fun _ => ?_) | refine zwS (fun _ => ?_) (fun _ => ?_))
  refine aw_for (t0 := [(0, .func (.yield l) #[] #[]), (2, .pointer (some ⟨tb, 0, none⟩)), (4, S s)]) (fun k tm H => ∃ (pre : List Nm) (n : Nm), k = (pathT t n).length ∧ pathT t s = pre ++ pathT t n ∧ J pre H ∧ tm = [(0, .func (.yield l) #[] #[]), (2, .pointer (some ⟨tb, 0, none⟩)), (4, S n)])
    ⟨[], s, rfl, rfl, h0, rfl⟩ (by repeat (first | exact sub_nil | refine sub_cons rfl ?_)) ?_
  clear cN
  rintro _ tm H ⟨pre, n, rfl, hp, hJ, rfl⟩
  have cT := fun w (hw : RepH ⟨w0.heap.size, w0, Tryz.f153.ntmps⟩ H w) => (hF _ H hJ w hw.n0).ct
  have hh := fun w hw => hasQ_ok (hF _ H hJ w hw).at_ n
  cases hn : hasT t n
  · simp only [hn] at hh
    rw [path_none hn, List.append_nil] at hp
    repeat' (first | refine aw_seq ?_ | ((first | apply ao_val | apply aq_val); exact wants_a; (first | exact ov_load_w1 rfl cT | exact ov_a); (exact rfl)) | refine zy ?_ | refine zon fun _ => ?_ | refine zoa fun vr lr hr => ?_ | ((first | apply ao_call | apply aq_call); exact wants_a; (first | exact oc_func rfl | exact oc_clos rfl rfl | exact oc_bnd rfl rfl); (exact rfl); (first | exact fun w hw => hh w hw.n0)) | refine zoS (fun _ => ?_) (fun _ => ?_) | refine zqS (fun _ => ?_) (fun _ => ?_) | refine zwS (fun _ => ?_) (fun _ => ?_))
    exact r0_normal ⟨H, List.Sublist.refl _, .inl (by rw [hp]; exact hJ)⟩
  · simp only [hn] at hh
    have hst := path_step hg hn
    rw [hst] at hp
    have hrd := hR pre n _ H hp hJ
    repeat' (first | refine aw_seq ?_ | ((first | apply ao_val | apply aq_val); exact wants_a; (first | exact ov_load_w1 rfl cT | exact ov_a); (exact rfl)) | refine zy ?_ | refine zon fun _ => ?_ | refine zoa fun vr lr hr => ?_ | ((first | apply ao_call | apply aq_call); exact wants_a; (first | exact oc_func rfl | exact oc_clos rfl rfl | exact oc_bnd rfl rfl); (exact rfl); (first | exact fun w hw => hh w hw.n0)) | ((apply ao_yield (H' := H); exact wants_a; exact rfl; exact rfl; exact rfl; exact (List.Perm.of_eq (List.append_nil H).symm); exact hb _ H hJ; exact hr.symm; exact hrd; intro u H1 hk)) | refine zoS (fun _ => ?_) (fun _ => ?_) | refine zqS (fun _ => ?_) (fun _ => ?_) | refine zwS (fun _ => ?_) (fun _ => ?_))
    rcases hk with ⟨rfl, hJ2⟩ | ⟨rfl, hx⟩
    · have cT2 := fun w (hw : RepH ⟨w0.heap.size, w0, Tryz.f153.ntmps⟩ (H1 ++ []) w) => (hF _ H1 hJ2 w (by rw [List.append_nil] at hw; exact RepH.n0 hw)).ct
      have hpr := fun w hw => parQ_ok (hF _ H1 hJ2 w hw).at_ n
      repeat' (first | refine aw_seq ?_ | ((first | apply ao_val | apply aq_val); exact wants_a; (first | exact ov_load_w1 rfl cT2 | exact ov_a); (exact rfl)) | refine zy ?_ | refine zon fun _ => ?_ | refine zoa fun vr lr hr => ?_ | ((first | apply ao_call | apply aq_call); exact wants_a; (first | exact oc_func rfl | exact oc_clos rfl rfl | exact oc_bnd rfl rfl); (exact rfl); (first | exact fun w hw => hpr w (by rw [List.append_nil] at hw; exact hw.n0))) | refine zoS (fun _ => ?_) (fun _ => ?_) | refine zqS (fun _ => ?_) (fun _ => ?_) | refine zwS (fun _ => ?_) (fun _ => ?_))
      exact lq_normal' (H' := H1) ⟨pre ++ [n], parT t n, rfl, by rw [hp, List.append_assoc]; rfl, hJ2, rfl⟩ (by rw [hst]; exact Nat.lt_succ_self _) (by repeat (first | exact sub_nil | refine sub_cons rfl ?_)) (List.sublist_append_left _ _)
    · repeat' (first | refine aw_seq ?_ | refine zz ?_ | refine zon fun _ => ?_ | refine zoa fun vr lr hr => ?_ | refine zoS (fun _ => ?_) (fun _ => ?_) | refine zqS (fun _ => ?_) (fun _ => ?_) | refine zwS (fun _ => ?_) (fun _ => ?_))
      exact r0_ret ⟨H1, List.sublist_append_left _ _, .inr hx⟩
theorem upAt_of {E : Env} {H : Hp} {w : World} {nb tb : Nat} {q : Option Addr} {t : Tr} {s : Nm} (hw : RepH E H w) (hn : Has H nb (boxN s)) (ht : Has H tb (boxT q)) (hq : QAt w q t) : UpAt w nb tb q t s := by
  have h1 : w.heap[nb]? = some (.cells (List.toArray [S s]) 9 (0, 0)) := (hw.has hn).2
  have h2 : w.heap[tb]? = some (.cells (List.toArray [.pointer q]) 27 (0, 0)) := (hw.has ht).2
  exact ⟨by rw [cell_of h1]; rfl, by rw [cell_of h2]; rfl, hq⟩
set_option maxHeartbeats 16000000 in
theorem within_ok {w : World} {q : Option Addr} {t : Tr} (h : QAt w q t) (hg : t = [] ∨ WfT t) (n o : Nm) :
    Calls Tryz.prog 94 #[.pointer q, S n, S o] w fun e w' => e = .returned (.bool (decide (o ∈ pathT t n))) ∧ Below w.heap.size w w' := by
  have hF := fun w' (hb : Below w.heap.size w w') => h.below hb
  refine callsCS (args := [.pointer q, S n, S o]) Tryz.func94 rfl rfl rfl rfl ?_
  repeat' (first | refine aw_seq ?_ | refine zz ?_ | refine zon fun _ => ?_ | refine zoa fun vr lr hr => ?_ | ((apply ao_callD; exact wants_a; (exact oc_func rfl); (exact rfl); (intro w hw; exact up_ok q n w); rintro _ _ ⟨nb, tb, rfl, rfl⟩)) | refine zoS (fun _ => ?_) (fun _ => ?_) | refine zqS (fun _ => ?_) (fun _ => ?_) | refine zwS (fun _ => ?_) (fun _ => ?_))
  rename_i b5 b6
  refine aw_range (gf := 153) (bs := []) (lb := [.pointer (some ⟨nb, 0, none⟩), .pointer (some ⟨tb, 0, none⟩)]) rfl fun l r e1 e2 e3 hts => ?_
  refine CallsH.mono (up_it (q := q) (t := t) (s := n) hg (by rw [e1]; rfl)
    (fun pre H => o ∉ pre ∧ H.Perm ((l, Lp r .ready none) :: (nb, boxN n) :: (tb, boxT q) :: (b6, .cells #[.bool false] 4 (0, 0)) :: (b5, boxN o) :: []))
    (fun H => o ∈ pathT t n ∧ H.Perm ((l, Lp r .done (some .ret)) :: (nb, boxN n) :: (tb, boxT q) :: (b6, .cells #[.bool true] 4 (0, 0)) :: (b5, boxN o) :: []))
    ?_ (fun pre H hJ w' hw => upAt_of hw (has_perm hJ.2 has_a) (has_perm hJ.2 has_a) (hF w' hw.below)) ?_ _ ?_) ?_
  · rintro pre H ⟨-, hp⟩
    exact has_perm hp has_a
  · rintro pre k rest H hpr ⟨hno, hp⟩
    refine RoundH.perm hp ?_
    refine roundH_of (E := ⟨w.heap.size, w, Tryz.f94.ntmps⟩) (ps := [11]) e1 rfl (by rw [e2]; rfl) (by rw [e3]; rfl) hts ?_
    rw [e2, e3]
    simp only [putTm]
    repeat' (first | refine aw_seq ?_ | refine zz ?_ | refine zon fun _ => ?_ | refine zoa fun vr lr hr => ?_ | refine zoS (fun _ => ?_) (fun _ => ?_) | refine zqS (fun _ => ?_) (fun _ => ?_) | refine zwS (fun _ => ?_) (fun _ => ?_))
    refine asg_done has_a upd_a ?_
    by_cases hk : k = o
    · have ek : (k == o) = true := beq_iff_eq.2 hk
      repeat' (first | refine aw_seq ?_ | refine zz ?_ | refine zon fun _ => ?_ | refine zoa fun vr lr hr => ?_ | refine zoS (fun _ => ?_) (fun _ => ?_) | refine zqS (fun _ => ?_) (fun _ => ?_) | refine zwS (fun _ => ?_) (fun _ => ?_))
      exact rq_ret has_a upd_a hsub_a (Or.inr ⟨rfl, by rw [hpr, ← hk]; exact List.mem_append_right _ List.mem_cons_self, List.Perm.refl _⟩)
    · have ek : (k == o) = false := beq_eq_false_iff_ne.2 hk
      repeat' (first | refine aw_seq ?_ | refine zz ?_ | refine zon fun _ => ?_ | refine zoa fun vr lr hr => ?_ | refine zoS (fun _ => ?_) (fun _ => ?_) | refine zqS (fun _ => ?_) (fun _ => ?_) | refine zwS (fun _ => ?_) (fun _ => ?_))
      exact rq_normal has_a upd_a hsub_a (Or.inl ⟨rfl, (fun hm => by
        rcases List.mem_append.1 hm with hm | hm
        · exact hno hm
        · exact hk (List.mem_singleton.1 hm).symm), List.Perm.refl _⟩)
  · exact ⟨List.not_mem_nil, List.Perm.refl _⟩
  · rintro v H' ⟨-, ⟨hno, hp⟩ | ⟨hb, hp⟩⟩
    · refine ⟨.ready, none, _, by simp, hp, ?_⟩
      unfold jumpQ
      repeat' (first | refine aw_seq ?_ | refine zz ?_ | refine zon fun _ => ?_ | refine zoa fun vr lr hr => ?_ | refine zoS (fun _ => ?_) (fun _ => ?_) | refine zqS (fun _ => ?_) (fun _ => ?_) | refine zwS (fun _ => ?_) (fun _ => ?_))
      exact rcs_ret rfl has_a fun w' hw => ⟨by rw [decide_eq_false hno], hw.below⟩
    · refine ⟨.done, some .ret, _, by simp, hp, ?_⟩
      unfold jumpQ
      repeat' (first | refine aw_seq ?_ | refine zz ?_ | refine zon fun _ => ?_ | refine zoa fun vr lr hr => ?_ | refine zoS (fun _ => ?_) (fun _ => ?_) | refine zqS (fun _ => ?_) (fun _ => ?_) | refine zwS (fun _ => ?_) (fun _ => ?_))
      exact rcs_ret rfl has_a fun w' hw => ⟨by rw [decide_eq_true hb], hw.below⟩
end Trt
end Go.Proofs.YtkjjlppfomidbaaGreat
/- Tryb: The landed tree: slices.AppendSeq, slices.Collect of the way up, Path, depth; conditions: none. -/
namespace Go.Proofs.YtkjjlppfomidbaaGreat
namespace Trt
open Go Go.RowKit Sx
attribute [local irreducible] Go.Calls
theorem has_lt {E : Env} {H : Hp} {w : World} {b : Nat} {o : Obj} (hw : RepH E H w) (h : Has H b o) : b < w.heap.size := (Array.getElem?_eq_some_iff.1 (hw.has h).2).1
theorem good_len {t : Tr} (h : t = [] ∨ WfT t) (s : Nm) : (pathT t s).length ≤ 8 := by
  cases hs : hasT t s
  · rw [path_none hs]; exact Nat.zero_le _
  · rcases h with rfl | h
    · cases hs
    · obtain ⟨e, he, rfl⟩ := has_iff.1 hs
      exact h.deep e he
set_option maxHeartbeats 16000000 in
theorem aseq_ok {w : World} {nb tb : Nat} {q : Option Addr} {t : Tr} {s : Nm} (h : UpAt w nb tb q t s) (hg : t = [] ∨ WfT t) (hn : nb < w.heap.size) (ht : tb < w.heap.size) :
    Calls Tryz.prog 152 #[.slice none 0 0, upV nb tb] w fun e w' => ∃ r, e = .returned r ∧ NewRow 9 1 w w' r (pathT t s).length ((pathT t s).flatMap cells1) := by
  have hF := fun w' (hb : Below w.heap.size w w') => h.below hn ht hb
  have hlen := good_len hg s
  refine calls1 (args := [.slice none 0 0, upV nb tb]) Tryz.func152 rfl rfl rfl rfl ?_
  repeat' (first | refine aw_seq ?_ | refine zz ?_ | refine zon fun _ => ?_ | refine zoa fun vr lr hr => ?_ | refine zoS (fun _ => ?_) (fun _ => ?_) | refine zqS (fun _ => ?_) (fun _ => ?_) | refine zwS (fun _ => ?_) (fun _ => ?_))
  rename_i b2
  refine aw_range (gf := 153) (bs := []) (lb := [.pointer (some ⟨nb, 0, none⟩), .pointer (some ⟨tb, 0, none⟩)]) rfl fun l r e1 e2 e3 hts => ?_
  refine CallsH.mono (up_it (q := q) (t := t) (s := s) hg (by rw [e1]; rfl)
    (fun pre H => pre.length ≤ 8 ∧ ∃ v5 l5, RowB 9 1 v5 l5 pre.length (pre.flatMap cells1) ∧ H.Perm ((l, Lp r .ready none) :: (b2, .cells #[v5] 39 (0, 0)) :: (l5 ++ [])))
    (fun _ => False) ?_ (fun pre H _ w' hw => hF w' hw.below) ?_ _ ?_) ?_
  · rintro pre H ⟨-, v5, l5, -, hp⟩
    exact has_perm hp has_a
  · rintro pre k rest H hpr ⟨hpl, v5, l5, r5, hp⟩
    refine RoundH.perm hp ?_
    obtain ⟨av, cv, hv5⟩ := r5.len
    subst hv5
    refine roundH_of (E := ⟨w.heap.size, w, Tryz.f152.ntmps⟩) (ps := [7]) e1 rfl (by rw [e2]; rfl) (by rw [e3]; rfl) hts ?_
    rw [e2, e3]
    simp only [putTm]
    repeat' (first | refine aw_seq ?_ | refine zz ?_ | refine zon fun _ => ?_ | refine zoa fun vr lr hr => ?_ | refine zoS (fun _ => ?_) (fun _ => ?_) | refine zqS (fun _ => ?_) (fun _ => ?_) | refine zwS (fun _ => ?_) (fun _ => ?_))
    refine asg_done has_a upd_a ?_
    repeat' (first | refine aw_seq ?_ | refine zz ?_ | refine zon fun _ => ?_ | refine zoa fun vr lr hr => ?_ | refine zoS (fun _ => ?_) (fun _ => ?_) | refine zqS (fun _ => ?_) (fun _ => ?_) | refine zwS (fun _ => ?_) (fun _ => ?_))
    obtain ⟨xv, yv, hxv⟩ := hr.len
    subst hxv
    repeat' (first | refine aw_seq ?_ | refine zz ?_ | refine zon fun _ => ?_ | refine zoa fun vr lr hr => ?_ | refine zoS (fun _ => ?_) (fun _ => ?_) | refine zqS (fun _ => ?_) (fun _ => ?_) | refine zwS (fun _ => ?_) (fun _ => ?_))
    exact rq_normal has_a upd_a (H2 := lr ++ [_, _]) hsub_a (Or.inl ⟨rfl, by rw [hpr, List.length_append, List.length_cons] at hlen; rw [List.length_append]; show pre.length + 1 ≤ 8; omega, _, lr, row1 hr, perm_tail lr [_, _]⟩)
  · exact ⟨Nat.zero_le _, _, [], RowB.nil, List.Perm.refl _⟩
  · rintro v H' ⟨-, ⟨-, v5, l5, r5, hp⟩ | hf⟩
    · refine ⟨.ready, none, _, by simp, hp, ?_⟩
      obtain ⟨av, cv, hv5⟩ := r5.len
      subst hv5
      unfold jumpQ
      repeat' (first | refine aw_seq ?_ | refine zz ?_ | refine zon fun _ => ?_ | refine zoa fun vr lr hr => ?_ | refine zoS (fun _ => ?_) (fun _ => ?_) | refine zqS (fun _ => ?_) (fun _ => ?_) | refine zwS (fun _ => ?_) (fun _ => ?_))
      exact fun w' hw => ⟨_, rfl, hw.below, _, r5, fun b o hm => hw.at_ b o (List.mem_cons_of_mem _ (List.mem_append_left _ hm))⟩
    · exact hf.elim
set_option maxHeartbeats 16000000 in
theorem coll_ok {w : World} {nb tb : Nat} {q : Option Addr} {t : Tr} {s : Nm} (h : UpAt w nb tb q t s) (hg : t = [] ∨ WfT t) (hn : nb < w.heap.size) (ht : tb < w.heap.size) :
    Calls Tryz.prog 121 #[upV nb tb] w fun e w' => ∃ r, e = .returned r ∧ NewRow 9 1 w w' r (pathT t s).length ((pathT t s).flatMap cells1) := by
  have hF := fun w' (hb : Below w.heap.size w w') => aseq_ok (h.below hn ht hb) hg (Nat.lt_of_lt_of_le hn hb.size) (Nat.lt_of_lt_of_le ht hb.size)
  refine calls1 (args := [upV nb tb]) Tryz.func121 rfl rfl rfl rfl ?_
  repeat' (first | refine aw_seq ?_ | refine zz ?_ | refine zon fun _ => ?_ | refine zoa fun vr lr hr => ?_ | (apply ao_callr; exact wants_a; (exact oc_func rfl); (exact rfl); (first | exact fun w hw => hF w hw.below); intro vr lr hr) | refine zoS (fun _ => ?_) (fun _ => ?_) | refine zqS (fun _ => ?_) (fun _ => ?_) | refine zwS (fun _ => ?_) (fun _ => ?_))
  exact fun w' hw => ⟨_, rfl, hw.below, _, hr, fun b o hm => hw.at_ b o (List.mem_append_left _ hm)⟩
set_option maxHeartbeats 16000000 in
theorem pathQ_ok {w : World} {q : Option Addr} {t : Tr} (h : QAt w q t) (hg : t = [] ∨ WfT t) (s : Nm) :
    Calls Tryz.prog 86 #[.pointer q, S s] w fun e w' => ∃ r, e = .returned r ∧ NewRow 9 1 w w' r (pathT t s).length ((pathT t s).flatMap cells1) := by
  have hF := fun w' (hb : Below w.heap.size w w') => h.below hb
  have hc := fun w' nb tb (h : UpAt w' nb tb q t s) => coll_ok h hg
  refine calls1 (args := [.pointer q, S s]) Tryz.func86 rfl rfl rfl rfl ?_
  repeat' (first | refine aw_seq ?_ | refine zz ?_ | refine zon fun _ => ?_ | refine zoa fun vr lr hr => ?_ | (apply ao_callr; exact wants_a; (exact oc_func rfl); (exact rfl); (first | (intro w hw; refine hc w nb tb (upAt_of hw has_a has_a (hF w hw.below)) ?_ ?_; exact (has_lt hw has_a); exact (has_lt hw has_a))); intro vr lr hr) | ((apply ao_callD; exact wants_a; (exact oc_func rfl); (exact rfl); (intro w hw; exact up_ok q s w); rintro _ _ ⟨nb, tb, rfl, rfl⟩)) | refine zoS (fun _ => ?_) (fun _ => ?_) | refine zqS (fun _ => ?_) (fun _ => ?_) | refine zwS (fun _ => ?_) (fun _ => ?_))
  exact fun w' hw => ⟨_, rfl, hw.below, _, hr, fun b o hm => hw.at_ b o (List.mem_append_left _ hm)⟩
theorem depth_ok {w : World} {q : Option Addr} {t : Tr} (h : QAt w q t) (hg : t = [] ∨ WfT t) (s : Nm) :
    Calls Tryz.prog 53 #[.pointer q, S s] w fun e w' => e = .returned (I (pathT t s).length) ∧ Below w.heap.size w w' := by
  have hF := fun w' (hb : Below w.heap.size w w') => pathQ_ok (h.below hb) hg s
  refine calls1 (args := [.pointer q, S s]) Tryz.func53 rfl rfl rfl rfl ?_
  repeat' (first | refine aw_seq ?_ | ((first | apply ao_val | apply aq_val); exact wants_a; (first | exact ov_lenr rfl hr | exact ov_a); (exact rfl)) | refine zy ?_ | refine zon fun _ => ?_ | refine zoa fun vr lr hr => ?_ | (apply ao_callr; exact wants_a; (exact oc_func rfl); (exact rfl); (first | exact fun w hw => hF w hw.below); intro vr lr hr) | refine zoS (fun _ => ?_) (fun _ => ?_) | refine zqS (fun _ => ?_) (fun _ => ?_) | refine zwS (fun _ => ?_) (fun _ => ?_))
  exact fun w' hw => ⟨rfl, hw.below⟩
end Trt
end Go.Proofs.YtkjjlppfomidbaaGreat
