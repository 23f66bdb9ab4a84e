/- Regions that draw their order and hold calls that make memory: a plan tells which operations are taken first; conditions: what is taken first reads only the part Hs of the call's own heap, which stays. -/
import Derived.OrdersHeld
import Derived.Test.YtpenogailhlcaaaSxr
namespace Go.Proofs.Ytpenogailhlcaaa
namespace Sx
open Go Go.RowKit

/-- A plan: t: number i is taken first; o: number i comes up alone; w, v: two, three come up, each with a plan for what follows. -/
inductive Plan where
  | e
  | t (i : Nat) (r : Plan)
  | o (i : Nat) (r : Plan)
  | w (i : Nat) (r : Plan) (j : Nat) (s : Plan)
  | v (i : Nat) (r : Plan) (j : Nat) (s : Plan) (k : Nat) (u : Plan)
/-- Does the plan fit the region? -/
def planOK (ops : Array Oper) : Plan → Nat → Array Bool → Bool
  | .e, 0, listed => (Region.ready .any ops listed).isEmpty
  | .t i r, n + 1, listed => Region.free .any ops listed i && ((Region.ready .any ops listed).contains i && planOK ops r n (listed.setIfInBounds i true))
  | .o i r, n + 1, listed => decide (Region.ready .any ops listed = [i]) && planOK ops r n (listed.setIfInBounds i true)
  | .w i r j s, n + 1, listed => decide (Region.ready .any ops listed = [i, j]) && (planOK ops r n (listed.setIfInBounds i true) && planOK ops s n (listed.setIfInBounds j true))
  | .v i r j s k u, n + 1, listed => decide (Region.ready .any ops listed = [i, j, k]) && (planOK ops r n (listed.setIfInBounds i true) && (planOK ops s n (listed.setIfInBounds j true) && planOK ops u n (listed.setIfInBounds k true)))
  | _, _, _ => false

theorem wp_mono2 {P : Program} {o : Oper} {a : Act} {w : World} {K K' : Act → World → Prop} {Q Q' : Exit → Act → World → Prop} (h : ∀ a w, K a w → K' a w) (hq : ∀ e a w, Q e a w → e ≠ .normal → False)
    (hh : o.wp P a w K Q) : o.wp P a w K' Q' := by
  unfold Oper.wp at *
  generalize (execOp a.eval o).run P w = r at *
  cases r with
  | ok n w' =>
    cases n <;> simp only [Oper.upon] at hh ⊢ <;>
      first
        | exact h _ _ hh
        | exact Calls.mono hh (fun e w'' he => by cases e <;> first | exact h _ _ he | exact (hq _ _ _ he (by intro h; cases h)).elim | exact (hq _ _ _ he.choose_spec.choose_spec (by intro h; cases h)).elim)
        | exact Rows.mono hh (fun _ _ he => h _ _ he)
  | halt x w' => cases x <;> simp only [Oper.upon] at hh ⊢ <;> first | exact hh | exact (hq _ _ _ hh (by intro h; cases h)).elim

section
variable {P : Program} {E : Env} {ops : Array Oper} {Q : Exit → Tm → Hp → Prop} {t : Tm} {H Hs : Hp}

theorem RepH.oldr {w : World} {l R : Hp} {e : TypeId} {sz n : Nat} {v : Value} {xs : List Value} (h : RepH E H w) (hr : RowB e sz v l n xs) (hc : Cut H l R) : OldRow w sz v n xs := h.old hc hr

/-- One operation that only reads. -/
def takes (P : Program) (E : Env) (ops : Array Oper) (Hs : Hp) (o : Oper) (t t' : Tm) : Prop :=
  ∀ a, RepT E t a → ∃ v, YieldsIf P ops (RepH E Hs) o v a ∧ RepT E t' (a.put o.dst v)

/-- The walk by a plan. -/
def ah (P : Program) (E : Env) (ops : Array Oper) (Q : Exit → Tm → Hp → Prop) (Hs : Hp) : Plan → Tm → Hp → Prop
  | .e, t, H => Q .normal t H
  | .t i r, t, H => ∃ o t', ops[i]? = some o ∧ takes P E ops Hs o t t' ∧ ah P E ops Q Hs r t' H
  | .o i r, t, H => ∃ o, ops[i]? = some o ∧ ao true P E ops (fun e t' H' => e = .normal ∧ Hs.Sublist H' ∧ ah P E ops Q Hs r t' H') [o] t H
  | .w i r j s, t, H => (∃ o, ops[i]? = some o ∧ ao true P E ops (fun e t' H' => e = .normal ∧ Hs.Sublist H' ∧ ah P E ops Q Hs r t' H') [o] t H) ∧
      (∃ o, ops[j]? = some o ∧ ao true P E ops (fun e t' H' => e = .normal ∧ Hs.Sublist H' ∧ ah P E ops Q Hs s t' H') [o] t H)
  | .v i r j s k u, t, H => (∃ o, ops[i]? = some o ∧ ao true P E ops (fun e t' H' => e = .normal ∧ Hs.Sublist H' ∧ ah P E ops Q Hs r t' H') [o] t H) ∧
      (∃ o, ops[j]? = some o ∧ ao true P E ops (fun e t' H' => e = .normal ∧ Hs.Sublist H' ∧ ah P E ops Q Hs s t' H') [o] t H) ∧
      (∃ o, ops[k]? = some o ∧ ao true P E ops (fun e t' H' => e = .normal ∧ Hs.Sublist H' ∧ ah P E ops Q Hs u t' H') [o] t H)

theorem ah_end (h : Q .normal t H) : ah P E ops Q Hs .e t H := h
theorem ah_take {i : Nat} {r : Plan} {d : Nat} {op : Op} {ty : TypeId} {pos : String} {af : Array Edge} {gd : Option (Nat × Bool)} {v : Value}
    (ho : ops[i]? = some ⟨some d, op, ty, pos, af, gd⟩) (hw : Wants ops t gd) (hv : OpV P E op ty t Hs v) (hd : Nat.blt d E.n = true) (h : ah P E ops Q Hs r ((d, v) :: t) H) :
    ah P E ops Q Hs (.t i r) t H :=
  ⟨_, _, ho, fun _ ht => ⟨v, .inl ⟨wants_of ht hw, fun w hh => hv _ w ht hh _ rfl rfl⟩, ht.put hd⟩, h⟩
theorem ah_skip {i : Nat} {r : Plan} {d : Nat} {op : Op} {ty : TypeId} {pos : String} {af : Array Edge} {gd : Option (Nat × Bool)}
    (ho : ops[i]? = some ⟨some d, op, ty, pos, af, gd⟩) (hw : Not ops t gd) (hd : Nat.blt d E.n = true) (h : ah P E ops Q Hs r ((d, undef) :: t) H) :
    ah P E ops Q Hs (.t i r) t H :=
  ⟨_, _, ho, fun _ ht => ⟨undef, .inr ⟨not_of ht hw, rfl⟩, ht.put hd⟩, h⟩
theorem ah_one {i : Nat} {r : Plan} {o : Oper} (ho : ops[i]? = some o)
    (h : ao true P E ops (fun e t' H' => e = .normal ∧ Hs.Sublist H' ∧ ah P E ops Q Hs r t' H') [o] t H) : ah P E ops Q Hs (.o i r) t H := ⟨o, ho, h⟩
theorem ah_two {i j : Nat} {r s : Plan} {o u : Oper} (ho : ops[i]? = some o) (hu : ops[j]? = some u)
    (h : ao true P E ops (fun e t' H' => e = .normal ∧ Hs.Sublist H' ∧ ah P E ops Q Hs r t' H') [o] t H)
    (h2 : ao true P E ops (fun e t' H' => e = .normal ∧ Hs.Sublist H' ∧ ah P E ops Q Hs s t' H') [u] t H) : ah P E ops Q Hs (.w i r j s) t H := ⟨⟨o, ho, h⟩, ⟨u, hu, h2⟩⟩

theorem ah_three {i j k : Nat} {r s u : Plan} {o1 o2 o3 : Oper} (h1 : ops[i]? = some o1) (h2 : ops[j]? = some o2) (h3 : ops[k]? = some o3)
    (g1 : ao true P E ops (fun e t' H' => e = .normal ∧ Hs.Sublist H' ∧ ah P E ops Q Hs r t' H') [o1] t H)
    (g2 : ao true P E ops (fun e t' H' => e = .normal ∧ Hs.Sublist H' ∧ ah P E ops Q Hs s t' H') [o2] t H)
    (g3 : ao true P E ops (fun e t' H' => e = .normal ∧ Hs.Sublist H' ∧ ah P E ops Q Hs u t' H') [o3] t H) : ah P E ops Q Hs (.v i r j s k u) t H := ⟨⟨o1, h1, g1⟩, ⟨o2, h2, g2⟩, ⟨o3, h3, g3⟩⟩

/-- The guard's Bool, of one that is taken first, is decided. -/
theorem ah_put {i d : Nat} {r : Plan} {b : Bool} (hd : look t d = some (.bool b)) (h : ah P E ops Q Hs (.t i r) ((d, .bool b) :: t) H) : ah P E ops Q Hs (.t i r) t H := by
  obtain ⟨o, t', ho, htk, h'⟩ := h
  refine ⟨o, t', ho, fun a ht => htk a ⟨ht.1, ht.2.1, fun k v hk => ?_⟩, h'⟩
  by_cases e : d = k
  · subst e; rw [look_cons_eq] at hk; cases hk; exact ht.2.2 d _ hd
  · rw [look_cons_ne e] at hk; exact ht.2.2 k v hk
theorem ah_gt {i j d : Nat} {r : Plan} {b g : Bool} {dst : Option Tmp} {op : Op} {ty : TypeId} {pos : String} {af : Array Edge} (_ho : ops[i]? = some ⟨dst, op, ty, pos, af, some (j, g)⟩) (_hj : dstAt ops j = some d) (hd : look t d = some (.bool b)) (hb : b = true)
    (h : ah P E ops Q Hs (.t i r) ((d, .bool true) :: t) H) : ah P E ops Q Hs (.t i r) t H := by subst hb; exact ah_put hd h
theorem ah_gf {i j d : Nat} {r : Plan} {b g : Bool} {dst : Option Tmp} {op : Op} {ty : TypeId} {pos : String} {af : Array Edge} (_ho : ops[i]? = some ⟨dst, op, ty, pos, af, some (j, g)⟩) (_hj : dstAt ops j = some d) (hd : look t d = some (.bool b)) (hb : b = false)
    (h : ah P E ops Q Hs (.t i r) ((d, .bool false) :: t) H) : ah P E ops Q Hs (.t i r) t H := by subst hb; exact ah_put hd h
theorem ah_glit {i j d : Nat} {r : Plan} {b g : Bool} {v : Value} {dst : Option Tmp} {op : Op} {ty : TypeId} {pos : String} {af : Array Edge} (_ho : ops[i]? = some ⟨dst, op, ty, pos, af, some (j, g)⟩) (_hj : dstAt ops j = some d) (_hd : look t d = some v) (_hv : v = .bool b)
    (h : ah P E ops Q Hs (.t i r) t H) : ah P E ops Q Hs (.t i r) t H := h

theorem ah_is {r : Plan} (h : ah P E ops Q Hs r t H) : ah P E ops Q Hs r t H := h
theorem ao_nilh {r : Plan} (hs : Hs.Sublist H) (h : ah P E ops Q Hs r t H) : ao true P E ops (fun e t' H' => e = .normal ∧ Hs.Sublist H' ∧ ah P E ops Q Hs r t' H') [] t H := ao_nil ⟨rfl, hs, h⟩

theorem put_defs (a : Act) (d : Option Tmp) (v : Value) : (a.put d v).defers = a.defers := by cases d <;> rfl
theorem marks_app (ns ms : List Nat) : marks (ns ++ ms) = marks ns ++ marks ms := by unfold marks; exact List.map_append
theorem markH_app (ns ms : List Nat) : markH (ns ++ ms) = markH ns ++ markH ms := by unfold markH; exact List.map_append
theorem ah_sound (hsel : Region.noSelect ops = true) {ex : List Deferred} {hid : Hp} : ∀ (pl : Plan) (fuel : Nat) (listed : Array Bool) (t : Tm) (H : Hp) (a : Act) (w : World) (ms : List Nat),
    planOK ops pl fuel listed = true → Hs.Sublist H → ah P E ops Q Hs pl t H → a.defers = marks ms ++ ex → RepT E t a → RepH E (H ++ (markH ms ++ hid)) w →
    wpAnyH P .any ops (fun e a w => e = .normal ∧ post E ex hid Q .normal a w) (RepH E Hs) fuel listed a w := by
  -- one operation that comes up, with a plan behind it
  have one : ∀ (r : Plan) (fuel : Nat) (listed : Array Bool) (t : Tm) (H : Hp) (a : Act) (w : World) (ms : List Nat) (j : Nat) (o : Oper),
      (∀ (t : Tm) (H : Hp) (a : Act) (w : World) (ms : List Nat), Hs.Sublist H → ah P E ops Q Hs r t H → a.defers = marks ms ++ ex → RepT E t a → RepH E (H ++ (markH ms ++ hid)) w → wpAnyH P .any ops (fun e a w => e = .normal ∧ post E ex hid Q .normal a w) (RepH E Hs) fuel (listed.setIfInBounds j true) a w) →
      ops[j]? = some o → ao true P E ops (fun e t' H' => e = .normal ∧ Hs.Sublist H' ∧ ah P E ops Q Hs r t' H') [o] t H → a.defers = marks ms ++ ex → RepT E t a → RepH E (H ++ (markH ms ++ hid)) w →
      wpOp P ops (fun e a w => e = .normal ∧ post E ex hid Q .normal a w) j (fun a' w' => RepH E Hs w' ∧ wpAnyH P .any ops (fun e a w => e = .normal ∧ post E ex hid Q .normal a w) (RepH E Hs) fuel (listed.setIfInBounds j true) a' w') a w := by
    intro r fuel listed t H a w ms j o ih ho h' hx ht hh
    have hn : ∀ a' w', post E (marks ms ++ ex) (markH ms ++ hid) (fun e t' H' => e = .normal ∧ Hs.Sublist H' ∧ ah P E ops Q Hs r t' H') .normal a' w' →
        RepH E Hs w' ∧ wpAnyH P .any ops (fun e a w => e = .normal ∧ post E ex hid Q .normal a w) (RepH E Hs) fuel (listed.setIfInBounds j true) a' w' := by
      rintro a' w' ⟨ns, t', H', ht', hx', hh', -, hs', h3⟩
      exact ⟨hh'.un.sub hs', ih t' H' a' w' (ns ++ ms) hs' h3 (by rw [marks_app, List.append_assoc]; exact hx') ht' (by rw [markH_app, List.append_assoc]; exact hh')⟩
    have hq : ∀ e a' w', post E (marks ms ++ ex) (markH ms ++ hid) (fun e t' H' => e = .normal ∧ Hs.Sublist H' ∧ ah P E ops Q Hs r t' H') e a' w' → e ≠ .normal → False := by
      rintro e a' w' ⟨_, _, _, _, _, _, he, _⟩ hne
      exact hne he
    unfold ao at h'
    have h2 : wpList P ops (post E (marks ms ++ ex) (markH ms ++ hid) (fun e t' H' => e = .normal ∧ Hs.Sublist H' ∧ ah P E ops Q Hs r t' H')) [o] a w := h' none (fun _ => rfl) _ _ a w hx ht hh
    unfold wpList at h2
    unfold wpOp
    simp only [ho]
    split
    · rename_i hw
      simp only [hw, if_true] at h2
      rcases h2 with h2 | ⟨_, a', w', h2⟩
      · exact .inl (wp_mono2 hn hq h2)
      · exact (hq _ _ _ h2 (by intro h; cases h)).elim
    · rename_i hw
      simp only [hw] at h2
      exact hn _ _ h2
  intro pl
  induction pl with
  | e =>
    intro fuel listed t H a w ms hp hs h hx ht hh
    cases fuel with
    | zero => exact wpAnyH_done (by simpa [planOK] using hp) ⟨rfl, ms, t, H, ht, hx, hh, h⟩ _
    | succ n => simp [planOK] at hp
  | t i r ih =>
    intro fuel listed t H a w ms hp hs h hx ht hh
    cases fuel with
    | zero => simp [planOK] at hp
    | succ n =>
      simp only [planOK, Bool.and_eq_true] at hp
      obtain ⟨o, t', ho, htk, h'⟩ := h
      obtain ⟨v, hy, ht'⟩ := htk a ht
      exact wpAnyH_take ho hsel hp.1 hp.2.1 (fun c a w hc => by cases hc.1) hy (hh.un.sub hs) (ih n _ t' H _ w ms hp.2.2 hs h' ((put_defs a o.dst v).trans hx) ht' hh)
  | o i r ih =>
    intro fuel listed t H a w ms hp hs h hx ht hh
    cases fuel with
    | zero => simp [planOK] at hp
    | succ n =>
      simp only [planOK, Bool.and_eq_true, decide_eq_true_eq] at hp
      obtain ⟨o, ho, h'⟩ := h
      refine wpAnyH_all hp.1 (by simp) fun j hj => ?_
      obtain rfl : j = i := by simpa using hj
      exact one r n listed t H a w ms j o (fun t H a w ms hs h hx ht hh => ih n _ t H a w ms hp.2 hs h hx ht hh) ho h' hx ht hh
  | w i r j s ih1 ih2 =>
    intro fuel listed t H a w ms hp hs h hx ht hh
    cases fuel with
    | zero => simp [planOK] at hp
    | succ n =>
      simp only [planOK, Bool.and_eq_true, decide_eq_true_eq] at hp
      obtain ⟨⟨o, ho, h1⟩, ⟨u, hu, h2⟩⟩ := h
      refine wpAnyH_all hp.1 (by simp) fun k hk => ?_
      rcases (show k = i ∨ k = j by simpa using hk) with rfl | rfl
      · exact one r n listed t H a w ms k o (fun t H a w ms hs h hx ht hh => ih1 n _ t H a w ms hp.2.1 hs h hx ht hh) ho h1 hx ht hh
      · exact one s n listed t H a w ms k u (fun t H a w ms hs h hx ht hh => ih2 n _ t H a w ms hp.2.2 hs h hx ht hh) hu h2 hx ht hh
  | v i r j s k u ih1 ih2 ih3 =>
    intro fuel listed t H a w ms hp hs h hx ht hh
    cases fuel with
    | zero => simp [planOK] at hp
    | succ n =>
      simp only [planOK, Bool.and_eq_true, decide_eq_true_eq] at hp
      obtain ⟨⟨o1, e1, h1⟩, ⟨o2, e2, h2⟩, ⟨o3, e3, h3⟩⟩ := h
      refine wpAnyH_all hp.1 (by simp) fun m hm => ?_
      rcases (show m = i ∨ m = j ∨ m = k by simpa using hm) with rfl | rfl | rfl
      · exact one r n listed t H a w ms m o1 (fun t H a w ms hs h hx ht hh => ih1 n _ t H a w ms hp.2.1 hs h hx ht hh) e1 h1 hx ht hh
      · exact one s n listed t H a w ms m o2 (fun t H a w ms hs h hx ht hh => ih2 n _ t H a w ms hp.2.2.1 hs h hx ht hh) e2 h2 hx ht hh
      · exact one u n listed t H a w ms m o3 (fun t H a w ms hs h hx ht hh => ih3 n _ t H a w ms hp.2.2.2 hs h hx ht hh) e3 h3 hx ht hh

def noDef (ops : Array Oper) : Bool := ops.all fun o => match o.op with | .defer _ => false | _ => true
theorem noDef_of {ops : Array Oper} (h : noDef ops = true) {i : Nat} {o : Oper} (ho : ops[i]? = some o) : ∀ c, o.op ≠ .defer c := by
  intro c hc
  have h1 := Array.all_eq_true_iff_forall_mem.1 h o (Array.mem_of_getElem? ho)
  rw [hc] at h1
  cases h1
theorem rowsIn_rd {rd : Option Nat} {n : Nat} {P : Program} {row : String} {args : Array Value} {w : World} {R : Value → World → Prop} (h : Rows P row args w R) : RowsIn (rdF rd) n P row args w R :=
  fun c cs _ => let ⟨v, w', r, s⟩ := h c cs; ⟨v, w', r, stepsIn_wide.2 s⟩
/-- What goes through in the base's calculus goes through in a round, if it defers nothing. -/
theorem opIn_of_plain {rd : Option Nat} {o : Oper} {a : Act} {w : World} {K : Act → World → Prop} {Q : Exit → Act → World → Prop} (hd : ∀ c, o.op ≠ .defer c) (h : o.wp P a w K Q) : o.wpIn (rdF rd) 0 P a w K Q := by
  refine ⟨fun _ _ => trivial, ?_⟩
  rw [Oper.semAt_eq _ _ _ hd]
  unfold Oper.wp at h
  generalize (execOp a.eval o).run P w = r at h ⊢
  cases r with
  | ok n w' =>
    cases n <;> simp only [Oper.upon] at h <;> simp only [Oper.uponIn]
    case value => exact h
    case skip => exact h
    case defer => exact h
    case enter => exact ⟨fun h => by simp [rdF, Fence.wide] at h, (callsIn_rd h).mono fun e w'' he => by cases e <;> exact he⟩
    case row => exact ⟨fun h => by simp [rdF, Fence.wide] at h, rowsIn_rd h⟩
  | halt x w' => cases x <;> simp only [Oper.upon] at h <;> simp only [Oper.uponIn] <;> exact h
theorem anyIn_of_plain {rd : Option Nat} {md : Region.Mode} {Q : Exit → Act → World → Prop} (hq : ¬ LetsOut Q) (hd : noDef ops = true) : ∀ (fuel : Nat) (listed : Array Bool) (a : Act) (w : World), wpAny P md ops Q fuel listed a w → wpAnyIn (rdF rd) 0 P md ops Q fuel listed a w
  | 0, _, _, _, h => h
  | fuel + 1, listed, a, w, h => ⟨h.1, fun i hi => by
    have h2 := wpOp_mono (K' := wpAnyIn (rdF rd) 0 P md ops Q fuel (listed.setIfInBounds i true)) (fun a' w' h' => anyIn_of_plain hq hd fuel (listed.setIfInBounds i true) a' w' h') (h.2 i hi)
    unfold wpOp at h2
    unfold wpOpIn
    split
    · rename_i ho
      simp only [ho] at h2
      exact h2
    · rename_i o ho
      simp only [ho] at h2
      split
      · rename_i hw
        simp only [hw, if_true] at h2
        rcases h2 with h2 | ⟨-, h2⟩
        · exact opIn_of_plain (noDef_of hd ho) h2
        · exact absurd h2 hq
      · rename_i hw
        simp only [hw] at h2
        exact ⟨fun _ _ => trivial, h2⟩⟩
theorem aw_held {id : Nat} {l : List Oper} (pl : Plan) (Hs : Hp) (hm : P.follows .mixedOrders = true) (hsel : (noDef l.toArray && Region.noSelect l.toArray) = true)
    (hp : planOK l.toArray pl l.toArray.size (Array.replicate l.toArray.size false) = true) (hs : Hs.Sublist H) (h : ah P E l.toArray Q Hs pl t H) : aw P E (.region id l.toArray true) Q t H := by
  unfold aw
  intro rd _ ex hid a w hx ht hh
  rw [Bool.and_eq_true] at hsel
  refine wpIn_mono (Q := fun e a w => e = .normal ∧ post E ex hid Q .normal a w) (wpIn_region_any hm (anyIn_of_plain ?_ hsel.1 _ _ _ _ (wpAny_of_held _ _ _ _ (ah_sound (ms := []) hsel.2 pl _ _ t H a _ hp hs h hx ht hh.drew)))) ?_
  · rintro ⟨a, w, h, -⟩
    cases h
  · rintro e a w ⟨rfl, h⟩
    exact h
end
attribute [irreducible] ah
end Sx
end Go.Proofs.Ytpenogailhlcaaa
