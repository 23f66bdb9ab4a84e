/- The landed marks: a set of names as a map; what is added, removed, asked; conditions: none. -/
import Derived.Test.YtonhfddklkbnbaaSxn
import Derived.Test.YtonhfddklkbnbaaMkn
import Derived.Test.YtonhfddklkbnbaaTryf
import Derived.Test.YtonhfddklkbnbaaTryc
/- Mkx: The landed marks: a set of names as a map; what is added, removed, asked; conditions: none. -/
namespace Go.Proofs.Ytonhfddklkbnbaa
namespace Mkt
open Go Go.RowKit Sx Trt
attribute [local irreducible] Go.Calls

instance : TyPtr Try.prog 36 69 := ⟨by kernel_rfl⟩
instance : TyMapT Try.prog 67 9 80 := ⟨by kernel_rfl⟩
/-- Its map: these names. -/
structure MapM (l : Mk) (X : List (En Nm)) (c : Nat) : Prop where
  kd : (X.map (·.1)).Nodup
  bd : (X.map (·.2.2)).Nodup
  bl : ∀ x ∈ X, x.2.2 < c
  z : ∀ x ∈ X, x.2.1 = .agg #[]
  is : ∀ s, s ∈ X.map (·.1) ↔ s ∈ l
theorem MapM.new : MapM [] [] 0 := ⟨List.nodup_nil, List.nodup_nil, (fun _ h => by cases h), (fun _ h => by cases h), fun s => Iff.rfl⟩
section
variable {l : Mk} {X : List (En Nm)} {c : Nat} (h : MapM l X c)
include h
theorem MapM.fnd (s : Nm) : (s ∈ l ∧ ∃ i, fndK s X 0 = some (i, .agg #[])) ∨ (s ∉ l ∧ fndK s X 0 = none) := by
  cases hf : fndK s X 0 with
  | none =>
    refine .inr ⟨fun hs => ?_, rfl⟩
    obtain ⟨x, hx, e⟩ := List.mem_map.1 ((h.is s).2 hs)
    exact fndK_none.1 hf x hx e
  | some q =>
    obtain ⟨i, u⟩ := q
    obtain ⟨-, b, hb⟩ := fndK_some hf
    have hm := List.mem_of_getElem? hb
    have hz := h.z _ hm
    simp only at hz
    exact .inl ⟨(h.is s).1 (List.mem_map.2 ⟨_, hm, rfl⟩), i, by rw [hz]⟩
theorem MapM.put {s : Nm} (hs : s ∉ l) : MapM (insS s l) (X ++ [(s, .agg #[], c)]) (c + 1) := by
  have hn : s ∉ X.map (·.1) := fun hm => hs ((h.is s).1 hm)
  refine ⟨?_, ?_, fun x hx => ?_, fun x hx => ?_, fun y => ?_⟩
  · rw [List.map_append]
    refine List.nodup_append.2 ⟨h.kd, by simp, fun a ha b hb e => ?_⟩
    rw [List.map_singleton, List.mem_singleton] at hb
    exact hn (by rw [← show b = s from hb, ← e]; exact ha)
  · rw [List.map_append]
    refine List.nodup_append.2 ⟨h.bd, by simp, fun a ha b hb e => ?_⟩
    rw [List.map_singleton, List.mem_singleton] at hb
    obtain ⟨x, hx, rfl⟩ := List.mem_map.1 ha
    have := h.bl x hx
    simp only at hb
    omega
  · rcases List.mem_append.1 hx with hx | hx
    · exact Nat.lt_succ_of_lt (h.bl x hx)
    · rw [List.mem_singleton.1 hx]; exact Nat.lt_succ_self c
  · rcases List.mem_append.1 hx with hx | hx
    · exact h.z x hx
    · rw [List.mem_singleton.1 hx]
  · rw [List.map_append, List.mem_append, insS_mem, h.is y, List.map_singleton, List.mem_singleton, or_comm]
theorem MapM.set (s : Nm) : MapM l (setK s (.agg #[]) X) c := by
  have hz : ∀ {Y : List (En Nm)}, (∀ x ∈ Y, x.2.1 = .agg #[]) → ∀ x ∈ setK s (.agg #[]) Y, x.2.1 = .agg #[] := by
    intro Y
    induction Y with
    | nil => intro _ x hx; cases hx
    | cons a Y ih =>
      intro hY x hx
      unfold setK at hx
      split at hx
      · rcases List.mem_cons.1 hx with rfl | hx
        · rfl
        · exact hY x (List.mem_cons_of_mem _ hx)
      · rcases List.mem_cons.1 hx with rfl | hx
        · exact hY _ List.mem_cons_self
        · exact ih (fun y hy => hY y (List.mem_cons_of_mem _ hy)) x hx
  refine ⟨by rw [setK_keys]; exact h.kd, by rw [setK_born]; exact h.bd, fun x hx => ?_, hz h.z, fun y => by rw [setK_keys]; exact h.is y⟩
  have h1 : x.2.2 ∈ (setK s (.agg #[]) X).map (·.2.2) := List.mem_map.2 ⟨x, hx, rfl⟩
  rw [setK_born] at h1
  obtain ⟨y, hy, e⟩ := List.mem_map.1 h1
  rw [← e]
  exact h.bl y hy
theorem MapM.del (s : Nm) : MapM (l.filter fun x => decide (x ≠ s)) (delK s X) c := by
  have hsub := delK_sub (k := s) (es := X)
  refine ⟨h.kd.sublist (hsub.map _), h.bd.sublist (hsub.map _), fun x hx => h.bl x (hsub.subset hx), fun x hx => h.z x (hsub.subset hx), fun y => ?_⟩
  rw [List.mem_filter, decide_eq_true_eq, ← h.is y]
  constructor
  · intro hy
    obtain ⟨x, hx, rfl⟩ := List.mem_map.1 hy
    obtain ⟨h1, h2⟩ := (delK_mem h.kd).1 hx
    exact ⟨List.mem_map.2 ⟨x, h1, rfl⟩, h2⟩
  · rintro ⟨hy, hn⟩
    obtain ⟨x, hx, rfl⟩ := List.mem_map.1 hy
    exact List.mem_map.2 ⟨x, (delK_mem h.kd).2 ⟨hx, hn⟩, rfl⟩
theorem MapM.perm (hr : RiseN l) : (X.map (·.1)).Perm l := perm_mem h.kd (rise_nodup hr) h.is
end
/-- A set, as a world has it. -/
structure SAt (w : World) (l : Mk) (mo : Option Nat) (X : List (En Nm)) (c : Nat) : Prop where
  ho : ∀ b, mo = some b → b < w.heap.size ∧ w.heap[b]? = some (mapO Trt.encS X c)
  no : mo = none → X = [] ∧ c = 0
  mt : MapM l X c
section
variable {w : World} {l : Mk} {mo : Option Nat} {X : List (En Nm)} {c : Nat}
theorem SAt.below {w' : World} (h : SAt w l mo X c) (hb : Below w.heap.size w w') : SAt w' l mo X c :=
  ⟨fun b e => ⟨Nat.lt_of_lt_of_le (h.ho b e).1 hb.size, by rw [hb.block b (h.ho b e).1]; exact (h.ho b e).2⟩, h.no, h.mt⟩
theorem SAt.map (h : SAt w l mo X c) {n : Nat} {H : Hp} : MapOf ⟨w.heap.size, w, n⟩ H Trt.encS mo X c := by
  cases mo with
  | none => exact h.no rfl
  | some b => exact mapAt_old (h.ho b rfl).2 (h.ho b rfl).1
theorem SAt.look (h : SAt w l mo X c) (s : Nm) {n : Nat} {tm : Tm} {H : Hp} {x y : Operand} {ty : TypeId} (hx : ev tm x = some (.map mo)) (hy : ev tm y = some (S s)) :
    OpV Try.prog ⟨w.heap.size, w, n⟩ (.lookup 67 x y true) ty tm H (.tuple #[.agg #[], .bool (decide (s ∈ l))]) := by
  rcases h.mt.fnd s with ⟨h1, i, h3⟩ | ⟨h1, h2⟩
  · rw [decide_eq_true h1]
    cases mo with
    | none => rw [(h.no rfl).1] at h3; cases h3
    | some b => exact ov_mget (enc := Trt.encS) (k := s) true hx hy (mapAt_old (h.ho b rfl).2 (h.ho b rfl).1) h3
  · rw [decide_eq_false h1]
    cases mo with
    | none => exact ov_mgetn (enc := Trt.encS) (k := s) true hx hy
    | some b => exact ov_mget0 (enc := Trt.encS) (k := s) true hx hy (mapAt_old (h.ho b rfl).2 (h.ho b rfl).1) h2
set_option maxHeartbeats 8000000 in
theorem shas_ok (h : SAt w l mo X c) (s : Nm) :
    Calls Try.prog 38 #[.map mo, S s] w fun e w' => e = .returned (.bool (decide (s ∈ l))) ∧ Below w.heap.size w w' := by
  have hlk := fun {n : Nat} {tm : Tm} {H : Hp} {x y : Operand} {ty : TypeId} => h.look s (n := n) (tm := tm) (H := H) (x := x) (y := y) (ty := ty)
  refine calls1 (args := [.map mo, S s]) Try.func38 rfl rfl rfl rfl ?_
  repeat' (first | refine aw_seq ?_ | ((first | apply ao_val | apply aq_val); exact wants_a; (first | exact hlk rfl rfl | exact ov_a); (exact rfl)) | refine zy ?_ | refine zon fun _ => ?_ | refine zoa fun vr lr hr => ?_ | ((apply ao_store; exact wants_a; (exact ow_storee rfl rfl has_a); exact upd_a)) | refine zoS (fun _ => ?_) (fun _ => ?_) | refine zqS (fun _ => ?_) (fun _ => ?_) | refine zwS (fun _ => ?_) (fun _ => ?_))
  exact fun w' hw => ⟨rfl, hw.below⟩
end
set_option maxHeartbeats 8000000 in
theorem sadd_ok {m : Nat} {w0 : World} {l : Mk} {b : Nat} {X : List (En Nm)} {c : Nat} (h : MapM l X c) (s : Nm) (R : Hp) :
    CallsH Try.prog ⟨w0.heap.size, w0, m⟩ 33 [.map (some b), S s] ((b, mapO Trt.encS X c) :: R) fun u H' => u = .tuple #[] ∧ ∃ X' c', H' = (b, mapO Trt.encS X' c') :: R ∧ MapM (markL l s) X' c' := by
  refine callsH0 Try.func33 rfl rfl rfl rfl ?_
  unfold markL
  rcases h.fnd s with ⟨h1, i, h3⟩ | ⟨h1, h2⟩
  · rw [if_pos h1]
    have hset := fun {E : Env} {t : Tm} {H : Hp} {ty : TypeId} {x y z : Operand} h1 h2 h3' h4 => ow_mset (P := Try.prog) (E := E) (t := t) (H := H) (ty := ty) (mt := 67) (kt := 9) (et := 80) (enc := Trt.encS) (k := s) (u := .agg #[]) (x := x) (y := y) (z := z) (b := b) (c := c) h1 h2 h3' h4 h3
    repeat' (first | refine aw_seq ?_ | refine zz ?_ | refine zon fun _ => ?_ | refine zoa fun vr lr hr => ?_ | ((apply ao_store; exact wants_a; (exact hset rfl rfl rfl (mapAt_has has_a)); exact upd_a)) | refine zoS (fun _ => ?_) (fun _ => ?_) | refine zqS (fun _ => ?_) (fun _ => ?_) | refine zwS (fun _ => ?_) (fun _ => ?_))
    exact r0_normal ⟨_, List.Sublist.refl _, _, _, rfl, h.set s⟩
  · rw [if_neg h1]
    have hput := fun {E : Env} {t : Tm} {H : Hp} {ty : TypeId} {x y z : Operand} h1 h2' h3 h4 => ow_mput (P := Try.prog) (E := E) (t := t) (H := H) (ty := ty) (mt := 67) (kt := 9) (et := 80) (enc := Trt.encS) (k := s) (u := .agg #[]) (x := x) (y := y) (z := z) (b := b) (c := c) h1 h2' h3 h4 h2
    repeat' (first | refine aw_seq ?_ | refine zz ?_ | refine zon fun _ => ?_ | refine zoa fun vr lr hr => ?_ | ((apply ao_store; exact wants_a; (exact hput rfl rfl rfl (mapAt_has has_a)); exact upd_a)) | refine zoS (fun _ => ?_) (fun _ => ?_) | refine zqS (fun _ => ?_) (fun _ => ?_) | refine zwS (fun _ => ?_) (fun _ => ?_))
    exact r0_normal ⟨_, List.Sublist.refl _, _, _, rfl, h.put h1⟩
set_option maxHeartbeats 8000000 in
theorem srem_ok {m : Nat} {w0 : World} {l : Mk} {b : Nat} {X : List (En Nm)} {c : Nat} (h : MapM l X c) (s : Nm) (R : Hp) :
    CallsH Try.prog ⟨w0.heap.size, w0, m⟩ 35 [.map (some b), S s] ((b, mapO Trt.encS X c) :: R) fun u H' => u = .tuple #[] ∧ ∃ X', H' = (b, mapO Trt.encS X' c) :: R ∧ MapM (l.filter fun x => decide (x ≠ s)) X' c := by
  refine callsH0 Try.func35 rfl rfl rfl rfl ?_
  have hdel := fun {E : Env} {t : Tm} {H : Hp} {ty : TypeId} {x y : Operand} h1 h2 h3 => ow_mdel (P := Try.prog) (E := E) (t := t) (H := H) (ty := ty) (mt := 67) (kt := 9) (et := 80) (enc := Trt.encS) (k := s) (x := x) (y := y) (b := b) (c := c) (es := X) h1 h2 h3
  repeat' (first | refine aw_seq ?_ | refine zz ?_ | refine zon fun _ => ?_ | refine zoa fun vr lr hr => ?_ | ((apply ao_valw0; exact wants_a; (exact hdel rfl rfl (mapAt_has has_a)); exact upd_a)) | refine zoS (fun _ => ?_) (fun _ => ?_) | refine zqS (fun _ => ?_) (fun _ => ?_) | refine zwS (fun _ => ?_) (fun _ => ?_))
  exact r0_normal ⟨_, List.Sublist.refl _, _, rfl, h.del s⟩
end Mkt
end Go.Proofs.Ytonhfddklkbnbaa
/- Mky: The landed marks: all names, as an iterator over the map; rising; conditions: at most 10,000 names. -/
namespace Go.Proofs.Ytonhfddklkbnbaa
namespace Mkt
open Go Go.RowKit Sx Trt
attribute [local irreducible] Go.Calls

abbrev boxM (mo : Option Nat) : Obj := .cells #[.map mo] 67 (0, 0)
/-- The keys, as a function. -/
abbrev keyV (tb : Nat) : Value := .func (.func 62) #[] #[.pointer (some ⟨tb, 0, none⟩)]
set_option maxHeartbeats 8000000 in
theorem keys_ok (mo : Option Nat) (w : World) : Calls Try.prog 54 #[.map mo] w fun e w' => ∃ r, e = .returned r ∧ NewD (fun r l => ∃ tb, r = keyV tb ∧ l = [(tb, boxM mo)]) w w' r := by
  refine calls1 (args := [.map mo]) Try.func54 rfl rfl rfl rfl ?_
  repeat' (first | refine aw_seq ?_ | refine zz ?_ | refine zon fun _ => ?_ | refine zoa fun vr lr hr => ?_ | refine zoS (fun _ => ?_) (fun _ => ?_) | refine zqS (fun _ => ?_) (fun _ => ?_) | refine zwS (fun _ => ?_) (fun _ => ?_))
  exact fun w' hw => ⟨_, rfl, hw.toD rfl (l := [(_, boxM mo)]) (R := []) (List.Perm.refl _) ⟨_, rfl, rfl⟩⟩
/-- What the iterator reads. -/
structure KAt (w : World) (tb : Nat) (l : Mk) (mo : Option Nat) (X : List (En Nm)) (c : Nat) : Prop where
  ct : w.cell? ⟨tb, 0, none⟩ = some (.map mo)
  at_ : SAt w l mo X c
theorem KAt.below {w w' : World} {tb : Nat} {l : Mk} {mo : Option Nat} {X : List (En Nm)} {c : Nat} (h : KAt w tb l mo X c) (ht : tb < w.heap.size) (hb : Below w.heap.size w w') : KAt w' tb l mo X c := ⟨(hb.cell ht).trans h.ct, h.at_.below hb⟩
theorem kat_of {E : Env} {H : Hp} {w : World} {tb : Nat} {l : Mk} {mo : Option Nat} {X : List (En Nm)} {c : Nat} (hw : RepH E H w) (ht : Has H tb (boxM mo)) (hq : SAt w l mo X c) : KAt w tb l mo X c := by
  have h2 : w.heap[tb]? = some (.cells (List.toArray [.map mo]) 67 (0, 0)) := (hw.has ht).2
  exact ⟨by rw [cell_of h2]; rfl, hq⟩
theorem kat_map {n : Nat} {w0 : World} {H : Hp} {tb : Nat} {l : Mk} {mo : Option Nat} {X : List (En Nm)} {c : Nat} (hm0 : mo = none → X = [] ∧ c = 0) (h : ∀ w, RepH ⟨w0.heap.size, w0, n⟩ H w → KAt w tb l mo X c) : MapOf ⟨w0.heap.size, w0, n⟩ H Trt.encS mo X c := by
  cases mo with
  | none => exact hm0 rfl
  | some b => exact fun w hw => ((h w hw).at_.ho b rfl).2
set_option maxHeartbeats 16000000 in
/-- The iterator over all: it hands over each name once, as long as the rounds go on. -/
theorem keys_it {m : Nat} {w0 : World} {l tb : Nat} {ms : Mk} {mo : Option Nat} {X : List (En Nm)} {c : Nat} {r : Loop} (hm0 : mo = none → X = [] ∧ c = 0) (hX : MapM ms X c) (hr : r.params.size = 1) (J : List Nm → Hp → Prop) (Jx : Hp → Prop)
    (hb : ∀ d H, J d H → Has H l (Lp r .ready none))
    (hF : ∀ d H, J d H → ∀ w, RepH ⟨w0.heap.size, w0, 0⟩ H w → KAt w tb ms mo X c)
    (hR : ∀ d n H, n ∈ X.map (·.1) → d.length < X.length → J d H → RoundH Try.prog ⟨w0.heap.size, w0, 0⟩ l r [S n] H fun u H' => (u = .bool true ∧ J (d ++ [n]) H') ∨ (u = .bool false ∧ Jx H'))
    (H : Hp) (h0 : J [] H) :
    CallsH Try.prog ⟨w0.heap.size, w0, m⟩ 62 [.func (.yield l) #[] #[], .pointer (some ⟨tb, 0, none⟩)] H fun u H' => u = .tuple #[] ∧ ((∃ d, d.Perm (X.map (·.1)) ∧ J d H') ∨ Jx H') := by
  have cT := fun w (hw : RepH ⟨w0.heap.size, w0, Try.f62.ntmps⟩ H w) => (hF _ H h0 w hw.n0).ct
  have hmap := kat_map hm0 fun w (hw : RepH ⟨w0.heap.size, w0, Try.f62.ntmps⟩ H w) => hF _ H h0 w hw.n0
  refine callsH0 Try.func62 rfl rfl rfl rfl ?_
  repeat' (first | refine aw_seq ?_ | ((first | apply ao_val | apply aq_val); exact wants_a; (first | exact ov_load_w1 rfl cT | exact ov_a); (exact rfl)) | refine zy ?_ | refine zon fun _ => ?_ | refine zoa fun vr lr hr => ?_ | (apply ao_new; exact wants_a; exact on_mrangeO rfl hmap; exact rfl; intro bi) | refine zoS (fun _ => ?_) (fun _ => ?_) | refine zqS (fun _ => ?_) (fun _ => ?_) | refine zwS (fun _ => ?_) (fun _ => ?_))
  refine aw_for (t0 := [(0, .func (.yield l) #[] #[]), (5, .pointer (some ⟨_, 0, none⟩))]) (fun k tm H => ∃ (bi : Nat) (seen : Array Nat) (done : List (En Nm)) (HJ : Hp), k = (X.filter fun y => !seen.contains y.2.2).length ∧ OutK X done seen ∧ J (done.map (·.1)) HJ ∧
    tm = [(0, .func (.yield l) #[] #[]), (5, .pointer (some ⟨bi, 0, none⟩))] ∧ H.Perm ((bi, .mapIter mo c seen c) :: HJ)) ⟨_, _, [], H, rfl, OutK.nil, h0, rfl, List.Perm.refl _⟩ (by repeat (first | exact sub_nil | refine sub_cons rfl ?_)) ?_
  clear cT hmap
  rintro _ tm H ⟨bi, seen, done, HJ, rfl, hout, hJ, rfl, hpm⟩
  refine aw_permH hpm ?_
  have hN : ∀ {w : World} {R : Hp} {o : Obj}, RepH ⟨w0.heap.size, w0, Try.f62.ntmps⟩ ((bi, o) :: R) w → RepH ⟨w0.heap.size, w0, 0⟩ R w := fun hw => (RepH.n0 hw).sub (List.sublist_cons_self _ _)
  have hmap := fun {o : Obj} => kat_map hm0 fun w (hw : RepH ⟨w0.heap.size, w0, Try.f62.ntmps⟩ ((bi, o) :: HJ) w) => hF _ HJ hJ w (hN hw)
  repeat' (first | refine aw_seq ?_ | refine zz ?_ | refine zon fun _ => ?_ | refine zoa fun vr lr hr => ?_ | (apply ao_mnextO; exact wants_a; exact rfl; exact cut_a; exact hmap; exact hX.bl; exact Nat.le_refl _; exact rfl; intro hall; rotate_left; intro y hy hns; rotate_left) | refine zoS (fun _ => ?_) (fun _ => ?_) | refine zqS (fun _ => ?_) (fun _ => ?_) | refine zwS (fun _ => ?_) (fun _ => ?_))
  · repeat' (first | refine aw_seq ?_ | refine zz ?_ | refine zon fun _ => ?_ | refine zoa fun vr lr hr => ?_ | refine zoS (fun _ => ?_) (fun _ => ?_) | refine zqS (fun _ => ?_) (fun _ => ?_) | refine zwS (fun _ => ?_) (fun _ => ?_))
    exact r0_normal ⟨HJ, List.sublist_cons_self _ _, .inl ⟨_, (hout.all hX.bd hall).map _, hJ⟩⟩
  · obtain ⟨yk, yv, yb⟩ := y
    simp only at hns
    have hln : (done.map (·.1)).length < X.length := by
      rw [List.length_map]
      have h1 := hout.snoc hy hns
      have h2 := Trt.nodup_le h1.nd h1.sub
      rw [List.length_append] at h2
      have h3 : (List.length [((yk, yv, yb) : En Nm)]) = 1 := rfl
      omega
    have hmem : yk ∈ X.map (·.1) := List.mem_map.2 ⟨_, hy, rfl⟩
    have hrd := hR _ yk HJ hmem hln hJ
    repeat' (first | refine aw_seq ?_ | ((first | apply ao_val | apply aq_val); exact wants_a; (first | exact ov_entryO rfl has_a hmap hX.bd hy | exact ov_a); (exact rfl)) | refine zy ?_ | refine zon fun _ => ?_ | refine zoa fun vr lr hr => ?_ | ((apply ao_yield (H' := HJ); exact wants_a; exact rfl; exact rfl; exact rfl; exact (List.perm_append_singleton _ _).symm; exact hb _ HJ hJ; exact hr.symm; exact hrd; intro u H2 hk)) | refine zoS (fun _ => ?_) (fun _ => ?_) | refine zqS (fun _ => ?_) (fun _ => ?_) | refine zwS (fun _ => ?_) (fun _ => ?_))
    rcases hk with ⟨rfl, hJ3⟩ | ⟨rfl, hx⟩
    · repeat' (first | refine aw_seq ?_ | refine zz ?_ | refine zon fun _ => ?_ | refine zoa fun vr lr hr => ?_ | refine zoS (fun _ => ?_) (fun _ => ?_) | refine zqS (fun _ => ?_) (fun _ => ?_) | refine zwS (fun _ => ?_) (fun _ => ?_))
      exact lq_normal' ⟨bi, _, done ++ [(yk, yv, yb)], H2, rfl, hout.snoc hy hns, by rw [List.map_append]; exact hJ3, rfl, List.perm_append_singleton _ _⟩ (left_less (fun y : En Nm => y.2.2) hy hns) (by repeat (first | exact sub_nil | refine sub_cons rfl ?_)) hsub_a
    · repeat' (first | refine aw_seq ?_ | refine zz ?_ | refine zon fun _ => ?_ | refine zoa fun vr lr hr => ?_ | refine zoS (fun _ => ?_) (fun _ => ?_) | refine zqS (fun _ => ?_) (fun _ => ?_) | refine zwS (fun _ => ?_) (fun _ => ?_))
      exact r0_ret ⟨H2, List.sublist_append_left _ _, .inr hx⟩
/-- Names in new memory, in some order. -/
def DPerm (ks : List Nm) (v : Value) (l : Hp) : Prop := ∃ d : List Nm, d.Perm ks ∧ RowB 9 1 v l d.length (d.flatMap cells1)
set_option maxHeartbeats 16000000 in
theorem kseq_ok {w : World} {tb : Nat} {ms : Mk} {mo : Option Nat} {X : List (En Nm)} {c : Nat} (h : KAt w tb ms mo X c) (hX : X.length ≤ 10000) (ht : tb < w.heap.size) :
    Calls Try.prog 56 #[.slice none 0 0, keyV tb] w fun e w' => ∃ r, e = .returned r ∧ NewD (DPerm (X.map (·.1))) w w' r := by
  have hF := fun w' (hb : Below w.heap.size w w') => h.below ht hb
  refine calls1 (args := [.slice none 0 0, keyV tb]) Try.func56 rfl rfl rfl rfl ?_
  repeat' (first | refine aw_seq ?_ | refine zz ?_ | refine zon fun _ => ?_ | refine zoa fun vr lr hr => ?_ | refine zoS (fun _ => ?_) (fun _ => ?_) | refine zqS (fun _ => ?_) (fun _ => ?_) | refine zwS (fun _ => ?_) (fun _ => ?_))
  rename_i b2
  refine aw_range (gf := 62) (bs := []) (lb := [.pointer (some ⟨tb, 0, none⟩)]) rfl fun l r e1 e2 e3 hts => ?_
  refine CallsH.mono (keys_it (ms := ms) (mo := mo) h.at_.no h.at_.mt (by rw [e1]; rfl)
    (fun d H => d.length ≤ 10000 ∧ ∃ v5 l5, RowB 9 1 v5 l5 d.length (d.flatMap cells1) ∧ H.Perm ((l, Lp r .ready none) :: (b2, .cells #[v5] 38 (0, 0)) :: (l5 ++ [])))
    (fun _ => False) ?_ (fun d H _ w' hw => hF w' hw.below) ?_ _ ?_) ?_
  · rintro d H ⟨-, v5, l5, -, hp⟩
    exact has_perm hp has_a
  · rintro d k H - hdl ⟨hpl, v5, l5, r5, hp⟩
    refine RoundH.perm hp ?_
    obtain ⟨av, cv, hv5⟩ := r5.len
    subst hv5
    refine roundH_of (E := ⟨w.heap.size, w, Try.f56.ntmps⟩) (ps := [7]) e1 rfl (by rw [e2]; rfl) (by rw [e3]; rfl) hts ?_
    rw [e2, e3]
    simp only [putTm]
    repeat' (first | refine aw_seq ?_ | refine zz ?_ | refine zon fun _ => ?_ | refine zoa fun vr lr hr => ?_ | refine zoS (fun _ => ?_) (fun _ => ?_) | refine zqS (fun _ => ?_) (fun _ => ?_) | refine zwS (fun _ => ?_) (fun _ => ?_))
    refine asg_done has_a upd_a ?_
    repeat' (first | refine aw_seq ?_ | refine zz ?_ | refine zon fun _ => ?_ | refine zoa fun vr lr hr => ?_ | refine zoS (fun _ => ?_) (fun _ => ?_) | refine zqS (fun _ => ?_) (fun _ => ?_) | refine zwS (fun _ => ?_) (fun _ => ?_))
    obtain ⟨xv, yv, hxv⟩ := hr.len
    subst hxv
    repeat' (first | refine aw_seq ?_ | refine zz ?_ | refine zon fun _ => ?_ | refine zoa fun vr lr hr => ?_ | refine zoS (fun _ => ?_) (fun _ => ?_) | refine zqS (fun _ => ?_) (fun _ => ?_) | refine zwS (fun _ => ?_) (fun _ => ?_))
    exact rq_normal has_a upd_a (H2 := lr ++ [_, _]) hsub_a (Or.inl ⟨rfl, by rw [List.length_append]; show d.length + 1 ≤ 10000; omega, _, lr, row1 hr, perm_tail lr [_, _]⟩)
  · exact ⟨Nat.zero_le _, _, [], RowB.nil, List.Perm.refl _⟩
  · rintro v H' ⟨-, ⟨d, hd, -, v5, l5, r5, hp⟩ | hf⟩
    · refine ⟨.ready, none, _, by simp, hp, ?_⟩
      obtain ⟨av, cv, hv5⟩ := r5.len
      subst hv5
      unfold jumpQ
      repeat' (first | refine aw_seq ?_ | refine zz ?_ | refine zon fun _ => ?_ | refine zoa fun vr lr hr => ?_ | refine zoS (fun _ => ?_) (fun _ => ?_) | refine zqS (fun _ => ?_) (fun _ => ?_) | refine zwS (fun _ => ?_) (fun _ => ?_))
      exact fun w' hw => ⟨_, rfl, hw.toD rfl (l := l5) (R := [_]) (by simpa [Cut] using (List.perm_append_singleton _ _).symm) ⟨d, hd, r5⟩⟩
    · exact hf.elim
set_option maxHeartbeats 16000000 in
theorem kcoll_ok {w : World} {tb : Nat} {ms : Mk} {mo : Option Nat} {X : List (En Nm)} {c : Nat} (h : KAt w tb ms mo X c) (hX : X.length ≤ 10000) (ht : tb < w.heap.size) :
    Calls Try.prog 39 #[keyV tb] w fun e w' => ∃ r, e = .returned r ∧ NewD (DPerm (X.map (·.1))) w w' r := by
  have hF := fun w' (hb : Below w.heap.size w w') => kseq_ok (h.below ht hb) hX (Nat.lt_of_lt_of_le ht hb.size)
  refine calls1 (args := [keyV tb]) Try.func39 rfl rfl rfl rfl ?_
  repeat' (first | refine aw_seq ?_ | refine zz ?_ | refine zon fun _ => ?_ | refine zoa fun vr lr hr => ?_ | (apply ao_callD; exact wants_a; (exact oc_func rfl); (exact rfl); (first | exact fun w hw => hF w hw.below); intro vr lr hr) | refine zoS (fun _ => ?_) (fun _ => ?_) | refine zqS (fun _ => ?_) (fun _ => ?_) | refine zwS (fun _ => ?_) (fun _ => ?_))
  exact fun w' hw => ⟨_, rfl, hw.toD rfl (l := lr) (R := []) (List.Perm.refl _) hr⟩
set_option maxHeartbeats 16000000 in
theorem ksort_ok {w : World} {tb : Nat} {ms : Mk} {mo : Option Nat} {X : List (En Nm)} {c : Nat} (h : KAt w tb ms mo X c) (hX : X.length ≤ 10000) (hr : RiseN ms) (ht : tb < w.heap.size) :
    Calls Try.prog 53 #[keyV tb] w fun e w' => ∃ r, e = .returned r ∧ NewRow 9 1 w w' r ms.length (ms.flatMap cells1) := by
  have hF := fun w' (hb : Below w.heap.size w w') => kcoll_ok (h.below ht hb) hX (Nat.lt_of_lt_of_le ht hb.size)
  have hper := h.at_.mt.perm hr
  refine calls1 (args := [keyV tb]) Try.func53 rfl rfl rfl rfl ?_
  repeat' (first | refine aw_seq ?_ | refine zz ?_ | refine zon fun _ => ?_ | refine zoa fun vr lr hr => ?_ | ((apply ao_callD; exact wants_a; (exact oc_func rfl); (exact rfl); (intro w hw; exact hF w hw.below); rintro v5 l5 ⟨d, hd, r5⟩)) | refine zoS (fun _ => ?_) (fun _ => ?_) | refine zqS (fun _ => ?_) (fun _ => ?_) | refine zwS (fun _ => ?_) (fun _ => ?_))
  have hdl : d.length ≤ 100000 := by
    have := hd.length_eq
    rw [List.length_map] at this
    omega
  have hso := fun R => sortS_ok (E := ⟨w.heap.size, w, Try.f53.ntmps⟩) d r5 hdl R
  rw [srt_eq (hd.trans hper) hr] at hso
  repeat' (first | refine aw_seq ?_ | refine zz ?_ | refine zon fun _ => ?_ | refine zoa fun vr lr hr => ?_ | ((apply ao_callH (l := l5); exact wants_a; (exact oc_func rfl); (exact rfl); (exact cut_a); (exact hso _); rintro _ _ ⟨rfl, l6, rfl, r6⟩)) | refine zoS (fun _ => ?_) (fun _ => ?_) | refine zqS (fun _ => ?_) (fun _ => ?_) | refine zwS (fun _ => ?_) (fun _ => ?_))
  exact fun w' hw => ⟨_, rfl, hw.below, _, r6, fun b o hm => hw.at_ b o (List.mem_append_left _ hm)⟩
set_option maxHeartbeats 16000000 in
theorem srise_ok {w : World} {ms : Mk} {mo : Option Nat} {X : List (En Nm)} {c : Nat} (h : SAt w ms mo X c) (hX : X.length ≤ 10000) (hr : RiseN ms) :
    Calls Try.prog 36 #[.map mo] w fun e w' => ∃ r, e = .returned r ∧ NewRow 9 1 w w' r ms.length (ms.flatMap cells1) := by
  have hF := fun w' (hb : Below w.heap.size w w') => h.below hb
  refine calls1 (args := [.map mo]) Try.func36 rfl rfl rfl rfl ?_
  repeat' (first | refine aw_seq ?_ | refine zz ?_ | refine zon fun _ => ?_ | refine zoa fun vr lr hr => ?_ | (apply ao_callr; exact wants_a; (exact oc_func rfl); (exact rfl); (first | exact fun w hw => ksort_ok (w := w) (kat_of hw has_a (hF w hw.below)) hX hr (has_lt hw has_a)); intro vr lr hr) | ((apply ao_callD; exact wants_a; (exact oc_func rfl); (exact rfl); (intro w hw; exact keys_ok mo w); rintro _ _ ⟨tb, rfl, rfl⟩)) | refine zoS (fun _ => ?_) (fun _ => ?_) | refine zqS (fun _ => ?_) (fun _ => ?_) | refine zwS (fun _ => ?_) (fun _ => ?_))
  exact fun w' hw => ⟨_, rfl, hw.below, _, (by assumption), fun b o hm => hw.at_ b o (List.mem_append_left _ hm)⟩
end Mkt
end Go.Proofs.Ytonhfddklkbnbaa
