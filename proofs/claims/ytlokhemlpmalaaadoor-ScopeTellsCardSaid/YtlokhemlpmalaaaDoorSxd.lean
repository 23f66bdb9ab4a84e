/- Regions that draw their order and hold calls that make memory: a plan tells which operations are taken first; conditions: what is taken first reads only the part Hs of the call's own heap, which stays. -/
import Derived.OrdersHeld
import Derived.Test.YtlokhemlpmalaaaDoorSxr
namespace Go.Proofs.YtlokhemlpmalaaaDoor
namespace Sx
open Go Go.RowKit

/-- A plan: t: number i is taken first; o: number i comes up alone; w, v: two, three come up, each with a plan for what follows. -/
inductive Plan where
  | e
  | t (i : Nat) (r : Plan)
  | o (i : Nat) (r : Plan)
  | w (i : Nat) (r : Plan) (j : Nat) (s : Plan)
  | v (i : Nat) (r : Plan) (j : Nat) (s : Plan) (k : Nat) (u : Plan)
/-- Does the plan fit the region? -/
def planOK (ops : Array Oper) : Plan → Nat → Array Bool → Bool
  | .e, 0, listed => (Region.ready .any ops listed).isEmpty
  | .t i r, n + 1, listed => Region.free .any ops listed i && ((Region.ready .any ops listed).contains i && planOK ops r n (listed.setIfInBounds i true))
  | .o i r, n + 1, listed => decide (Region.ready .any ops listed = [i]) && planOK ops r n (listed.setIfInBounds i true)
  | .w i r j s, n + 1, listed => decide (Region.ready .any ops listed = [i, j]) && (planOK ops r n (listed.setIfInBounds i true) && planOK ops s n (listed.setIfInBounds j true))
  | .v i r j s k u, n + 1, listed => decide (Region.ready .any ops listed = [i, j, k]) && (planOK ops r n (listed.setIfInBounds i true) && (planOK ops s n (listed.setIfInBounds j true) && planOK ops u n (listed.setIfInBounds k true)))
  | _, _, _ => false

theorem wp_mono2 {P : Program} {o : Oper} {a : Act} {w : World} {K K' : Act → World → Prop} {Q Q' : Exit → Act → World → Prop} (h : ∀ a w, K a w → K' a w) (hq : ∀ e a w, Q e a w → e ≠ .normal → False)
    (hh : o.wp P a w K Q) : o.wp P a w K' Q' := by
  unfold Oper.wp at *
  generalize (execOp a.eval o).run P w = r at *
  cases r with
  | ok n w' =>
    cases n <;> simp only [Oper.upon] at hh ⊢ <;>
      first
        | exact h _ _ hh
        | exact Calls.mono hh (fun e w'' he => by cases e <;> first | exact h _ _ he | exact (hq _ _ _ he (by intro h; cases h)).elim | exact (hq _ _ _ he.choose_spec.choose_spec (by intro h; cases h)).elim)
        | exact Rows.mono hh (fun _ _ he => h _ _ he)
  | halt x w' => cases x <;> simp only [Oper.upon] at hh ⊢ <;> first | exact hh | exact (hq _ _ _ hh (by intro h; cases h)).elim

section
variable {P : Program} {E : Env} {ops : Array Oper} {Q : Exit → Tm → Hp → Prop} {t : Tm} {H Hs : Hp}

theorem RepH.oldr {w : World} {l R : Hp} {e : TypeId} {sz n : Nat} {v : Value} {xs : List Value} (h : RepH E H w) (hr : RowB e sz v l n xs) (hc : Cut H l R) : OldRow w sz v n xs := h.old hc hr

/-- One operation that only reads. -/
def takes (P : Program) (E : Env) (ops : Array Oper) (Hs : Hp) (o : Oper) (t t' : Tm) : Prop :=
  ∀ a, RepT E t a → ∃ v, YieldsIf P ops (RepH E Hs) o v a ∧ RepT E t' (a.put o.dst v)

/-- The walk by a plan. -/
def ah (P : Program) (E : Env) (ops : Array Oper) (Q : Exit → Tm → Hp → Prop) (Hs : Hp) : Plan → Tm → Hp → Prop
  | .e, t, H => Q .normal t H
  | .t i r, t, H => ∃ o t', ops[i]? = some o ∧ takes P E ops Hs o t t' ∧ ah P E ops Q Hs r t' H
  | .o i r, t, H => ∃ o, ops[i]? = some o ∧ ao P E ops (fun e t' H' => e = .normal ∧ Hs.Sublist H' ∧ ah P E ops Q Hs r t' H') [o] t H
  | .w i r j s, t, H => (∃ o, ops[i]? = some o ∧ ao P E ops (fun e t' H' => e = .normal ∧ Hs.Sublist H' ∧ ah P E ops Q Hs r t' H') [o] t H) ∧
      (∃ o, ops[j]? = some o ∧ ao P E ops (fun e t' H' => e = .normal ∧ Hs.Sublist H' ∧ ah P E ops Q Hs s t' H') [o] t H)
  | .v i r j s k u, t, H => (∃ o, ops[i]? = some o ∧ ao P E ops (fun e t' H' => e = .normal ∧ Hs.Sublist H' ∧ ah P E ops Q Hs r t' H') [o] t H) ∧
      (∃ o, ops[j]? = some o ∧ ao P E ops (fun e t' H' => e = .normal ∧ Hs.Sublist H' ∧ ah P E ops Q Hs s t' H') [o] t H) ∧
      (∃ o, ops[k]? = some o ∧ ao P E ops (fun e t' H' => e = .normal ∧ Hs.Sublist H' ∧ ah P E ops Q Hs u t' H') [o] t H)

theorem ah_end (h : Q .normal t H) : ah P E ops Q Hs .e t H := h
theorem ah_take {i : Nat} {r : Plan} {d : Nat} {op : Op} {ty : TypeId} {pos : String} {af : Array Edge} {gd : Option (Nat × Bool)} {v : Value}
    (ho : ops[i]? = some ⟨some d, op, ty, pos, af, gd⟩) (hw : Wants ops t gd) (hv : OpV P E op ty t Hs v) (hd : Nat.blt d E.n = true) (h : ah P E ops Q Hs r ((d, v) :: t) H) :
    ah P E ops Q Hs (.t i r) t H :=
  ⟨_, _, ho, fun _ ht => ⟨v, .inl ⟨wants_of ht hw, fun w hh => hv _ w ht hh _ rfl rfl⟩, ht.put hd⟩, h⟩
theorem ah_skip {i : Nat} {r : Plan} {d : Nat} {op : Op} {ty : TypeId} {pos : String} {af : Array Edge} {gd : Option (Nat × Bool)}
    (ho : ops[i]? = some ⟨some d, op, ty, pos, af, gd⟩) (hw : Not ops t gd) (hd : Nat.blt d E.n = true) (h : ah P E ops Q Hs r ((d, undef) :: t) H) :
    ah P E ops Q Hs (.t i r) t H :=
  ⟨_, _, ho, fun _ ht => ⟨undef, .inr ⟨not_of ht hw, rfl⟩, ht.put hd⟩, h⟩
theorem ah_one {i : Nat} {r : Plan} {o : Oper} (ho : ops[i]? = some o)
    (h : ao P E ops (fun e t' H' => e = .normal ∧ Hs.Sublist H' ∧ ah P E ops Q Hs r t' H') [o] t H) : ah P E ops Q Hs (.o i r) t H := ⟨o, ho, h⟩
theorem ah_two {i j : Nat} {r s : Plan} {o u : Oper} (ho : ops[i]? = some o) (hu : ops[j]? = some u)
    (h : ao P E ops (fun e t' H' => e = .normal ∧ Hs.Sublist H' ∧ ah P E ops Q Hs r t' H') [o] t H)
    (h2 : ao P E ops (fun e t' H' => e = .normal ∧ Hs.Sublist H' ∧ ah P E ops Q Hs s t' H') [u] t H) : ah P E ops Q Hs (.w i r j s) t H := ⟨⟨o, ho, h⟩, ⟨u, hu, h2⟩⟩

theorem ah_three {i j k : Nat} {r s u : Plan} {o1 o2 o3 : Oper} (h1 : ops[i]? = some o1) (h2 : ops[j]? = some o2) (h3 : ops[k]? = some o3)
    (g1 : ao P E ops (fun e t' H' => e = .normal ∧ Hs.Sublist H' ∧ ah P E ops Q Hs r t' H') [o1] t H)
    (g2 : ao P E ops (fun e t' H' => e = .normal ∧ Hs.Sublist H' ∧ ah P E ops Q Hs s t' H') [o2] t H)
    (g3 : ao P E ops (fun e t' H' => e = .normal ∧ Hs.Sublist H' ∧ ah P E ops Q Hs u t' H') [o3] t H) : ah P E ops Q Hs (.v i r j s k u) t H := ⟨⟨o1, h1, g1⟩, ⟨o2, h2, g2⟩, ⟨o3, h3, g3⟩⟩

/-- The guard's Bool, of one that is taken first, is decided. -/
theorem ah_put {i d : Nat} {r : Plan} {b : Bool} (hd : look t d = some (.bool b)) (h : ah P E ops Q Hs (.t i r) ((d, .bool b) :: t) H) : ah P E ops Q Hs (.t i r) t H := by
  obtain ⟨o, t', ho, htk, h'⟩ := h
  refine ⟨o, t', ho, fun a ht => htk a ⟨ht.1, ht.2.1, fun k v hk => ?_⟩, h'⟩
  by_cases e : d = k
  · subst e; rw [look_cons_eq] at hk; cases hk; exact ht.2.2 d _ hd
  · rw [look_cons_ne e] at hk; exact ht.2.2 k v hk
theorem ah_gt {i j d : Nat} {r : Plan} {b g : Bool} {dst : Option Tmp} {op : Op} {ty : TypeId} {pos : String} {af : Array Edge} (_ho : ops[i]? = some ⟨dst, op, ty, pos, af, some (j, g)⟩) (_hj : dstAt ops j = some d) (hd : look t d = some (.bool b)) (hb : b = true)
    (h : ah P E ops Q Hs (.t i r) ((d, .bool true) :: t) H) : ah P E ops Q Hs (.t i r) t H := by subst hb; exact ah_put hd h
theorem ah_gf {i j d : Nat} {r : Plan} {b g : Bool} {dst : Option Tmp} {op : Op} {ty : TypeId} {pos : String} {af : Array Edge} (_ho : ops[i]? = some ⟨dst, op, ty, pos, af, some (j, g)⟩) (_hj : dstAt ops j = some d) (hd : look t d = some (.bool b)) (hb : b = false)
    (h : ah P E ops Q Hs (.t i r) ((d, .bool false) :: t) H) : ah P E ops Q Hs (.t i r) t H := by subst hb; exact ah_put hd h
theorem ah_glit {i j d : Nat} {r : Plan} {b g : Bool} {v : Value} {dst : Option Tmp} {op : Op} {ty : TypeId} {pos : String} {af : Array Edge} (_ho : ops[i]? = some ⟨dst, op, ty, pos, af, some (j, g)⟩) (_hj : dstAt ops j = some d) (_hd : look t d = some v) (_hv : v = .bool b)
    (h : ah P E ops Q Hs (.t i r) t H) : ah P E ops Q Hs (.t i r) t H := h

theorem ah_is {r : Plan} (h : ah P E ops Q Hs r t H) : ah P E ops Q Hs r t H := h
theorem ao_nilh {r : Plan} (hs : Hs.Sublist H) (h : ah P E ops Q Hs r t H) : ao P E ops (fun e t' H' => e = .normal ∧ Hs.Sublist H' ∧ ah P E ops Q Hs r t' H') [] t H := ao_nil ⟨rfl, hs, h⟩

theorem ah_sound (hsel : Region.noSelect ops = true) : ∀ (pl : Plan) (fuel : Nat) (listed : Array Bool) (t : Tm) (H : Hp) (a : Act) (w : World),
    planOK ops pl fuel listed = true → Hs.Sublist H → ah P E ops Q Hs pl t H → RepT E t a → RepH E H w →
    wpAnyH P .any ops (fun e a w => e = .normal ∧ post E Q .normal a w) (RepH E Hs) fuel listed a w := by
  -- one operation that comes up, with a plan behind it
  have one : ∀ (r : Plan) (fuel : Nat) (listed : Array Bool) (t : Tm) (H : Hp) (a : Act) (w : World) (j : Nat) (o : Oper),
      (∀ (t : Tm) (H : Hp) (a : Act) (w : World), Hs.Sublist H → ah P E ops Q Hs r t H → RepT E t a → RepH E H w → wpAnyH P .any ops (fun e a w => e = .normal ∧ post E Q .normal a w) (RepH E Hs) fuel (listed.setIfInBounds j true) a w) →
      ops[j]? = some o → ao P E ops (fun e t' H' => e = .normal ∧ Hs.Sublist H' ∧ ah P E ops Q Hs r t' H') [o] t H → RepT E t a → RepH E H w →
      wpOp P ops (fun e a w => e = .normal ∧ post E Q .normal a w) j (fun a' w' => RepH E Hs w' ∧ wpAnyH P .any ops (fun e a w => e = .normal ∧ post E Q .normal a w) (RepH E Hs) fuel (listed.setIfInBounds j true) a' w') a w := by
    intro r fuel listed t H a w j o ih ho h' ht hh
    have hn : ∀ a' w', post E (fun e t' H' => e = .normal ∧ Hs.Sublist H' ∧ ah P E ops Q Hs r t' H') .normal a' w' →
        RepH E Hs w' ∧ wpAnyH P .any ops (fun e a w => e = .normal ∧ post E Q .normal a w) (RepH E Hs) fuel (listed.setIfInBounds j true) a' w' := by
      rintro a' w' ⟨t', H', ht', hh', -, hs', h3⟩
      exact ⟨hh'.sub hs', ih t' H' a' w' hs' h3 ht' hh'⟩
    have hq : ∀ e a' w', post E (fun e t' H' => e = .normal ∧ Hs.Sublist H' ∧ ah P E ops Q Hs r t' H') e a' w' → e ≠ .normal → False := by
      rintro e a' w' ⟨_, _, _, _, he, _⟩ hne
      exact hne he
    unfold ao at h'
    have h2 := h' a w ht hh
    unfold wpList at h2
    unfold wpOp
    simp only [ho]
    split
    · rename_i hw
      simp only [hw, if_true] at h2
      rcases h2 with h2 | ⟨_, a', w', h2⟩
      · exact .inl (wp_mono2 hn hq h2)
      · exact (hq _ _ _ h2 (by intro h; cases h)).elim
    · rename_i hw
      simp only [hw] at h2
      exact hn _ _ h2
  intro pl
  induction pl with
  | e =>
    intro fuel listed t H a w hp hs h ht hh
    cases fuel with
    | zero => exact wpAnyH_done (by simpa [planOK] using hp) ⟨rfl, t, H, ht, hh, h⟩ _
    | succ n => simp [planOK] at hp
  | t i r ih =>
    intro fuel listed t H a w hp hs h ht hh
    cases fuel with
    | zero => simp [planOK] at hp
    | succ n =>
      simp only [planOK, Bool.and_eq_true] at hp
      obtain ⟨o, t', ho, htk, h'⟩ := h
      obtain ⟨v, hy, ht'⟩ := htk a ht
      exact wpAnyH_take ho hsel hp.1 hp.2.1 (fun c a w hc => by cases hc.1) hy (hh.sub hs) (ih n _ t' H _ w hp.2.2 hs h' ht' hh)
  | o i r ih =>
    intro fuel listed t H a w hp hs h ht hh
    cases fuel with
    | zero => simp [planOK] at hp
    | succ n =>
      simp only [planOK, Bool.and_eq_true, decide_eq_true_eq] at hp
      obtain ⟨o, ho, h'⟩ := h
      refine wpAnyH_all hp.1 (by simp) fun j hj => ?_
      obtain rfl : j = i := by simpa using hj
      exact one r n listed t H a w j o (fun t H a w hs h ht hh => ih n _ t H a w hp.2 hs h ht hh) ho h' ht hh
  | w i r j s ih1 ih2 =>
    intro fuel listed t H a w hp hs h ht hh
    cases fuel with
    | zero => simp [planOK] at hp
    | succ n =>
      simp only [planOK, Bool.and_eq_true, decide_eq_true_eq] at hp
      obtain ⟨⟨o, ho, h1⟩, ⟨u, hu, h2⟩⟩ := h
      refine wpAnyH_all hp.1 (by simp) fun k hk => ?_
      rcases (show k = i ∨ k = j by simpa using hk) with rfl | rfl
      · exact one r n listed t H a w k o (fun t H a w hs h ht hh => ih1 n _ t H a w hp.2.1 hs h ht hh) ho h1 ht hh
      · exact one s n listed t H a w k u (fun t H a w hs h ht hh => ih2 n _ t H a w hp.2.2 hs h ht hh) hu h2 ht hh
  | v i r j s k u ih1 ih2 ih3 =>
    intro fuel listed t H a w hp hs h ht hh
    cases fuel with
    | zero => simp [planOK] at hp
    | succ n =>
      simp only [planOK, Bool.and_eq_true, decide_eq_true_eq] at hp
      obtain ⟨⟨o1, e1, h1⟩, ⟨o2, e2, h2⟩, ⟨o3, e3, h3⟩⟩ := h
      refine wpAnyH_all hp.1 (by simp) fun m hm => ?_
      rcases (show m = i ∨ m = j ∨ m = k by simpa using hm) with rfl | rfl | rfl
      · exact one r n listed t H a w m o1 (fun t H a w hs h ht hh => ih1 n _ t H a w hp.2.1 hs h ht hh) e1 h1 ht hh
      · exact one s n listed t H a w m o2 (fun t H a w hs h ht hh => ih2 n _ t H a w hp.2.2.1 hs h ht hh) e2 h2 ht hh
      · exact one u n listed t H a w m o3 (fun t H a w hs h ht hh => ih3 n _ t H a w hp.2.2.2 hs h ht hh) e3 h3 ht hh

theorem aw_held {id : Nat} {l : List Oper} (pl : Plan) (Hs : Hp) (hm : P.follows .mixedOrders = true) (hsel : Region.noSelect l.toArray = true)
    (hp : planOK l.toArray pl l.toArray.size (Array.replicate l.toArray.size false) = true) (hs : Hs.Sublist H) (h : ah P E l.toArray Q Hs pl t H) : aw P E (.region id l.toArray true) Q t H := by
  unfold aw
  intro a w ht hh
  refine Code.wp_mono (Q := fun e a w => e = .normal ∧ post E Q .normal a w) ?_ (wp_region_held (S := RepH E Hs) hm (ah_sound hsel pl _ _ t H a _ hp hs h ht hh.drew))
  rintro e a w ⟨rfl, h⟩
  exact h
end
attribute [irreducible] ah
end Sx
end Go.Proofs.YtlokhemlpmalaaaDoor
