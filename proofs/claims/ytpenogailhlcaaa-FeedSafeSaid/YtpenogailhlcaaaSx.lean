/- The walk of a call over a symbolic frame and a symbolic heap of the call's own: definitions and rules, over whatever program; conditions: none. -/
import Derived.WalkKit
import Derived.Deep.Quiet
import Derived.RangeFuncRecord
import Derived.OrdersIn
namespace Go.Proofs.Ytpenogailhlcaaa
namespace Sx
open Go Go.RowKit

/-- The first entry of a key. -/
def look {α : Type} : List (Nat × α) → Nat → Option α
  | [], _ => none
  | (j, v) :: l, i => bif Nat.beq j i then some v else look l i

abbrev Tm := List (Nat × Value)
abbrev Hp := List (Nat × Obj)

structure Env where
  B : Nat
  w0 : World
  n : Nat

def RepT (E : Env) (t : Tm) (a : Act) : Prop :=
  True ∧ a.tmps.size = E.n ∧ ∀ i v, look t i = some v → a.tmps.getD i undef = v

structure RepH (E : Env) (H : Hp) (w : World) : Prop where
  below : Below E.B E.w0 w
  base : E.B ≤ E.w0.heap.size
  nodup : (H.map (·.1)).Nodup
  at_ : ∀ b o, (b, o) ∈ H → E.B ≤ b ∧ w.heap[b]? = some o

def ev (t : Tm) : Operand → Option Value
  | .tmp i => look t i
  | .const v => some v
  | .global g => some (.pointer (some ⟨g, 0, none⟩))
  | .func f => some (.func (.func f) #[] #[])

theorem ev_eval {E : Env} {t : Tm} {a : Act} {x : Operand} {v : Value} (h : RepT E t a) (hx : ev t x = some v) : a.eval x = v := by
  cases x with
  | tmp i => exact h.2.2 i v hx
  | const v => simpa [ev, Act.eval] using hx
  | global g => simpa [ev, Act.eval] using hx
  | func f => simpa [ev, Act.eval] using hx

theorem look_cons_eq {α : Type} (d : Nat) (v : α) (l : List (Nat × α)) : look ((d, v) :: l) d = some v := by simp [look]
theorem look_cons_ne {α : Type} {d i : Nat} (h : d ≠ i) (v : α) (l : List (Nat × α)) : look ((d, v) :: l) i = look l i := by
  have : Nat.beq d i = false := by
    cases hb : Nat.beq d i with
    | false => rfl
    | true => exact absurd (Nat.eq_of_beq_eq_true hb) h
  simp [look, this]

theorem RepT.put {E : Env} {t : Tm} {a : Act} {d : Nat} {v : Value} (h : RepT E t a) (hd : Nat.blt d E.n = true) : RepT E ((d, v) :: t) (a.put (some d) v) := by
  have hd' : d < E.n := by simpa [Nat.blt_eq] using hd
  refine ⟨h.1, by simp [Act.put, h.2.1], fun i u hi => ?_⟩
  by_cases e : d = i
  · subst e
    rw [look_cons_eq] at hi
    cases hi
    have : d < a.tmps.size := by rw [h.2.1]; exact hd'
    simp [Act.put, Array.getD, this]
  · rw [look_cons_ne e] at hi
    have := h.2.2 i u hi
    rw [← this]
    simp only [Act.put, Array.getD_eq_getD_getElem?, Array.getElem?_setIfInBounds]
    rw [if_neg e]

theorem RepT.put_none {E : Env} {t : Tm} {a : Act} {v : Value} (h : RepT E t a) : RepT E t (a.put none v) := h

/-- Activations of functions, and of rounds of a range over a function. -/
def rdF (rd : Option Nat) : Fence := { Fence.wide with round := rd }
theorem rdF_room {rd : Option Nat} (n : Nat) : (rdF rd).room n := fun _ h => by simp [rdF, Fence.wide] at h
/-- Marks among the deferred calls, of loops over functions that are done; their blocks. -/
def marks (ms : List Nat) : List Deferred := ms.map fun D => { target := .collected D, args := #[] }
def markH (ms : List Nat) : Hp := ms.map fun D => (D, .deferred (some []))
theorem RepH.sub {E : Env} {H' H : Hp} {w : World} (hs : H'.Sublist H) (h : RepH E H w) : RepH E H' w :=
  ⟨h.below, h.base, h.nodup.sublist (hs.map _), fun b o hm => h.at_ b o (hs.subset hm)⟩
theorem RepH.un {E : Env} {H hid : Hp} {w : World} (h : RepH E (H ++ hid) w) : RepH E H w := h.sub (List.sublist_append_left H hid)
/-- What is asked of the ending of a piece of code. -/
def post (E : Env) (ex : List Deferred) (hid : Hp) (Q : Exit → Tm → Hp → Prop) : Exit → Act → World → Prop :=
  fun e a w => ∃ ms t H, RepT E t a ∧ a.defers = marks ms ++ ex ∧ RepH E (H ++ (markH ms ++ hid)) w ∧ Q e t H
theorem post0 {E : Env} {ex : List Deferred} {hid H : Hp} {Q : Exit → Tm → Hp → Prop} {e : Exit} {a : Act} {w : World} {t : Tm} (hx : a.defers = ex) (ht : RepT E t a) (hh : RepH E (H ++ hid) w) (hq : Q e t H) : post E ex hid Q e a w := ⟨[], t, H, ht, hx, hh, hq⟩
theorem post_app {E : Env} {ex : List Deferred} {hid : Hp} {Q : Exit → Tm → Hp → Prop} {e : Exit} {a : Act} {w : World} {ms : List Nat} (h : post E (marks ms ++ ex) (markH ms ++ hid) Q e a w) : post E ex hid Q e a w := by
  obtain ⟨ns, t, H, h1, h2, h3, h4⟩ := h
  refine ⟨ns ++ ms, t, H, h1, ?_, ?_, h4⟩
  · rw [h2]; unfold marks; rw [List.map_append, List.append_assoc]
  · have e : markH (ns ++ ms) ++ hid = markH ns ++ (markH ms ++ hid) := by unfold markH; rw [List.map_append, List.append_assoc]
    rw [e]; exact h3
theorem post_mono {E : Env} {ex : List Deferred} {hid : Hp} {Q Q' : Exit → Tm → Hp → Prop} {e : Exit} {a : Act} {w : World} (h : post E ex hid Q e a w) (hq : ∀ e t H, Q e t H → Q' e t H) : post E ex hid Q' e a w := by
  obtain ⟨ms, t, H, h1, h2, h3, h4⟩ := h
  exact ⟨ms, t, H, h1, h2, h3, hq _ _ _ h4⟩

/-- No range over a function within. -/
def noRF : Code → Bool
  | .seq a b => noRF a && noRF b
  | .cond _ a b => noRF a && noRF b
  | .block _ a => noRF a
  | .loop a => noRF a
  | .scope a => noRF a
  | .rangeFunc _ _ _ _ => false
  | _ => true
/-- An activation of a function, or code that goes in a round as well. -/
def okc (rd : Option Nat) (c : Code) : Prop := rd = none ∨ noRF c = true
def aw (P : Program) (E : Env) (c : Code) (Q : Exit → Tm → Hp → Prop) (t : Tm) (H : Hp) : Prop :=
  ∀ rd, okc rd c → ∀ (ex : List Deferred) (hid : Hp) (a : Act) (w : World), a.defers = ex → RepT E t a → RepH E (H ++ hid) w → c.wpIn (rdF rd) 0 P (post E ex hid Q) a w

/-- The operations' calculus: of the base (none), or within a fence (some rd). -/
def wpM (m : Option (Option Nat)) (P : Program) (ops : Array Oper) (Q : Exit → Act → World → Prop) (rest : List Oper) (a : Act) (w : World) : Prop :=
  match m with
  | none => wpList P ops Q rest a w
  | some rd => wpListIn (rdF rd) 0 P ops Q rest a w
def opM (m : Option (Option Nat)) (P : Program) (o : Oper) (a : Act) (w : World) (K : Act → World → Prop) (Q : Exit → Act → World → Prop) : Prop :=
  match m with
  | none => o.wp P a w K Q
  | some rd => o.wpIn (rdF rd) 0 P a w K Q
def okM (k : Bool) (m : Option (Option Nat)) : Prop := m = none → k = true
/-- k: the base's calculus as well (regions that draw their order ask it). -/
def ao (k : Bool) (P : Program) (E : Env) (ops : Array Oper) (Q : Exit → Tm → Hp → Prop) (rest : List Oper) (t : Tm) (H : Hp) : Prop :=
  ∀ m, okM k m → ∀ (ex : List Deferred) (hid : Hp) (a : Act) (w : World), a.defers = ex → RepT E t a → RepH E (H ++ hid) w → wpM m P ops (post E ex hid Q) rest a w

theorem wpM_nil {m : Option (Option Nat)} {P : Program} {ops : Array Oper} {Q : Exit → Act → World → Prop} {a : Act} {w : World} (h : Q .normal a w) : wpM m P ops Q [] a w := by
  cases m <;> exact h
theorem wpM_step {m : Option (Option Nat)} {P : Program} {ops : Array Oper} {Q : Exit → Act → World → Prop} {a : Act} {w : World} {o : Oper} {rest : List Oper}
    (h : ∀ K : Act → World → Prop, (∀ a w, wpM m P ops Q rest a w → K a w) → if Region.wanted o (yielded ops a.tmps) = true then opM m P o a w K Q else K (a.put o.dst undef) w) : wpM m P ops Q (o :: rest) a w := by
  cases m with
  | none => exact wpList_step fun K hK => h K hK
  | some rd =>
    refine wpListIn_step fun K hK => ?_
    have := h K hK
    split
    · rename_i hw
      rw [if_pos hw] at this
      exact this
    · rename_i hw
      rw [if_neg hw] at this
      exact ⟨fun _ _ => trivial, this⟩
theorem sem_of {rd : Option Nat} {P : Program} {a : Act} {o : Oper} {w w' : World} {n : Next} (h : (execOp a.eval o).run P w = .ok n w') (hn : ∀ d, n ≠ .defer d) : (o.semAt rd a.eval).run P w = .ok n w' := by
  rw [Oper.semAt_eq _ _ _ ?_]
  · exact h
  · intro c hc
    unfold execOp at h
    rw [hc] at h
    simp only [Sem.run_bind] at h
    cases hr : (resolve a.eval c o.type).run P w with
    | ok d w2 =>
      rw [hr] at h
      simp only [Result.andThen, Sem.run_pure] at h
      cases h
      exact hn _ rfl
    | halt x w2 =>
      rw [hr] at h
      simp only [Result.andThen] at h
      cases h
theorem opM_value {m : Option (Option Nat)} {P : Program} {o : Oper} {a : Act} {w w' : World} {K : Act → World → Prop} {Q : Exit → Act → World → Prop} {v : Value} (h : (execOp a.eval o).run P w = .ok (.value v) w') (hK : K (a.put o.dst v) w') : opM m P o a w K Q := by
  cases m with
  | none =>
    show o.wp P a w K Q
    unfold Oper.wp
    rw [h, Oper.upon_value]
    exact hK
  | some rd =>
    refine ⟨fun _ _ => trivial, ?_⟩
    rw [show (rdF rd).round = rd from rfl, sem_of h (fun d e => by cases e), Oper.uponIn_value]
    exact hK
theorem opM_skip {m : Option (Option Nat)} {P : Program} {o : Oper} {a : Act} {w w' : World} {K : Act → World → Prop} {Q : Exit → Act → World → Prop} (h : (execOp a.eval o).run P w = .ok .skip w') (hK : K (a.put o.dst undef) w') : opM m P o a w K Q := by
  cases m with
  | none =>
    show o.wp P a w K Q
    unfold Oper.wp
    rw [h, Oper.upon_skip]
    exact hK
  | some rd =>
    refine ⟨fun _ _ => trivial, ?_⟩
    rw [show (rdF rd).round = rd from rfl, sem_of h (fun d e => by cases e), Oper.uponIn_skip]
    exact hK
theorem callsIn_rd {rd : Option Nat} {n : Nat} {P : Program} {f : FuncId} {args : Array Value} {w : World} {R : Ending → World → Prop} (h : Calls P f args w R) : CallsIn (rdF rd) n P f args w R :=
  (callsIn_wide (n := n)).2 h
theorem opM_enter {m : Option (Option Nat)} {P : Program} {o : Oper} {a : Act} {w w' : World} {K : Act → World → Prop} {Q : Exit → Act → World → Prop} {f : FuncId} {args : Array Value} {R : Ending → World → Prop} (h : (execOp a.eval o).run P w = .ok (.enter f args) w') (hc : Calls P f args w' R)
    (hR : ∀ e w'', R e w'' → ∃ v, e = .returned v ∧ K (a.put o.dst v) w'') : opM m P o a w K Q := by
  cases m with
  | none =>
    show o.wp P a w K Q
    unfold Oper.wp
    rw [h, Oper.upon_enter]
    refine hc.mono fun e w'' hr => ?_
    obtain ⟨v, rfl, hk⟩ := hR e w'' hr
    exact hk
  | some rd =>
    refine ⟨fun _ _ => trivial, ?_⟩
    rw [show (rdF rd).round = rd from rfl, sem_of h (fun d e => by cases e), Oper.uponIn_enter]
    refine ⟨fun h => by simp [rdF, Fence.wide] at h, (callsIn_rd hc).mono fun e w'' hr => ?_⟩
    obtain ⟨v, rfl, hk⟩ := hR e w'' hr
    exact hk

/-- In a region that draws its order: every operation leaves the heap of the call's own alone. -/
def aq (P : Program) (E : Env) (ops : Array Oper) (Q : Exit → Tm → Hp → Prop) (rest : List Oper) (t : Tm) (H : Hp) : Prop :=
  ∀ (ex : List Deferred) (hid : Hp) (a : Act), a.defers = ex → RepT E t a → wpQuiet P ops (RepH E (H ++ hid)) (fun a' => a'.defers = ex ∧ ∃ t', RepT E t' a' ∧ Q .normal t' H) rest a
theorem opIn_of_quiet {P : Program} {rd : Option Nat} {C : World → Prop} {o : Oper} {a : Act} {K : Act → Prop} {K' : Act → World → Prop} {Q' : Exit → Act → World → Prop} {w : World} (hw : C w) (h : ∀ a w', C w' → K a → K' a w') (hh : o.quiet P a C K) : o.wpIn (rdF rd) 0 P a w K' Q' := by
  obtain ⟨v, h1, h2⟩ := hh
  have h3 := h1 w hw
  unfold Oper.quietAt at h3
  have key : ∀ {n : Next} {w' : World}, (execOp a.eval o).run P w = .ok n w' → (∀ d, n ≠ .defer d) → o.uponIn (rdF rd) 0 P a K' Q' (.ok n w') → o.wpIn (rdF rd) 0 P a w K' Q' := fun hr hn hu => ⟨fun _ _ => trivial, by rw [show (rdF rd).round = rd from rfl, sem_of hr hn]; exact hu⟩
  generalize hr : (execOp a.eval o).run P w = r at h3
  cases r with
  | ok n w' =>
    cases n <;> simp only [Oper.quietUpon] at h3
    case value u =>
      obtain ⟨e1, e2⟩ := h3
      subst e1 e2
      exact key hr (fun d e => by cases e) (h _ _ hw h2)
    case skip =>
      obtain ⟨e1, e2⟩ := h3
      subst e1 e2
      exact key hr (fun d e => by cases e) (h _ _ hw h2)
    case enter f args =>
      obtain ⟨e1, hc⟩ := h3
      subst e1
      refine key hr (fun d e => by cases e) ?_
      rw [Oper.uponIn_enter]
      refine ⟨fun h => by simp [rdF, Fence.wide] at h, (callsIn_rd hc).mono fun e w'' ⟨he, hw''⟩ => ?_⟩
      subst he
      exact h _ _ hw'' h2
  | halt x w' => simp only [Oper.quietUpon] at h3
theorem opAtIn_of_quiet {P : Program} {rd : Option Nat} {ops : Array Oper} {C : World → Prop} {i : Nat} {a : Act} {K : Act → Prop} {K' : Act → World → Prop} {Q' : Exit → Act → World → Prop} {w : World} (hC : C w) (h : ∀ a w', C w' → K a → K' a w') (hh : qOp P ops C i K a) : wpOpIn (rdF rd) 0 P ops Q' i K' a w := by
  unfold qOp at hh
  unfold wpOpIn
  split
  · rename_i ho; simp only [ho] at hh; exact h _ _ hC hh
  · rename_i o ho
    simp only [ho] at hh
    split
    · rename_i hw; simp only [hw, if_true] at hh; exact opIn_of_quiet hC h hh
    · rename_i hw; simp only [hw] at hh; exact ⟨fun _ _ => trivial, h _ _ hC hh⟩
theorem anyIn_of_quiet {P : Program} {rd : Option Nat} {md : Region.Mode} {ops : Array Oper} {C : World → Prop} {Q : Act → Prop} {Q' : Exit → Act → World → Prop} (hQ : ∀ a w, C w → Q a → Q' .normal a w) : ∀ (fuel : Nat) (listed : Array Bool) (a : Act) (w : World), C w →
    wpAnyQ P md ops C Q fuel listed a → wpAnyIn (rdF rd) 0 P md ops Q' fuel listed a w
  | 0, _, _, _, hw, h => ⟨h.1, hQ _ _ hw h.2⟩
  | fuel + 1, _, _, _, hw, h => ⟨fun h0 => hQ _ _ hw (h.1 h0), fun i hi => opAtIn_of_quiet hw (fun a' w' hw' => anyIn_of_quiet hQ fuel _ a' w' hw') (h.2 i hi)⟩

section code
variable {P : Program} {E : Env} {Q : Exit → Tm → Hp → Prop} {t : Tm} {H : Hp} {k : Bool}

theorem aw_mono {c : Code} {Q' : Exit → Tm → Hp → Prop} (h : aw P E c Q t H) (hq : ∀ e t H, Q e t H → Q' e t H) : aw P E c Q' t H :=
  fun rd ok ex hid a w hx ht hh => wpIn_mono (h rd ok ex hid a w hx ht hh) fun _ _ _ hp => post_mono hp hq

/-- What stands behind a first piece. -/
def andThen (P : Program) (E : Env) (y : Code) (Q : Exit → Tm → Hp → Prop) : Exit → Tm → Hp → Prop
  | .normal, t, H => aw P E y Q t H
  | e, t, H => Q e t H
theorem okc_and {rd : Option Nat} {x y : Bool} (h : rd = none ∨ (x && y) = true) : (rd = none ∨ x = true) ∧ (rd = none ∨ y = true) := by
  rcases h with h | h
  · exact ⟨.inl h, .inl h⟩
  · rw [Bool.and_eq_true] at h
    exact ⟨.inr h.1, .inr h.2⟩

theorem aw_seq {x y : Code} (h : aw P E x (andThen P E y Q) t H) : aw P E (.seq x y) Q t H := by
  intro rd ok ex hid a w hx ht hh
  obtain ⟨ok1, ok2⟩ := okc_and ok
  refine wpIn_seq (wpIn_mono (h rd ok1 ex hid a w hx ht hh) fun e a w hq => ?_)
  obtain ⟨ms, t', H', r1, rx, r2, q⟩ := hq
  cases e with
  | normal => exact wpIn_mono (q rd ok2 _ _ a w rx r1 r2) fun _ _ _ hp => post_app hp
  | _ => exact ⟨ms, t', H', r1, rx, r2, q⟩

def inBlock (id : Nat) (Q : Exit → Tm → Hp → Prop) : Exit → Tm → Hp → Prop
  | .exit id', t, H => bif Nat.beq id' id then Q .normal t H else Q (.exit id') t H
  | e, t, H => Q e t H

theorem aw_block {id : Nat} {c : Code} (h : aw P E c (inBlock id Q) t H) : aw P E (.block id c) Q t H := by
  intro rd ok ex hid a w hx ht hh
  refine wpIn_block (wpIn_mono (h rd ok ex hid a w hx ht hh) fun e a w hq => ?_)
  obtain ⟨ms, t', H', r1, rx, r2, q⟩ := hq
  cases e with
  | exit id' =>
    simp only [inBlock] at q
    simp only [Exit.inBlock]
    by_cases e : id' = id
    · subst e
      simp at q
      rw [if_pos rfl]
      exact ⟨ms, t', H', r1, rx, r2, q⟩
    · have : Nat.beq id' id = false := by
        cases hb : Nat.beq id' id with
        | false => rfl
        | true => exact absurd (Nat.eq_of_beq_eq_true hb) e
      rw [this] at q
      rw [if_neg e]
      exact ⟨ms, t', H', r1, rx, r2, q⟩
  | _ => exact ⟨ms, t', H', r1, rx, r2, q⟩

theorem at_normal {y : Code} (h : aw P E y Q t H) : andThen P E y Q .normal t H := h
theorem at_exit {y : Code} {id : Nat} (h : Q (.exit id) t H) : andThen P E y Q (.exit id) t H := h
theorem at_ret {y : Code} (h : Q .ret t H) : andThen P E y Q .ret t H := h
theorem ib_normal {id : Nat} (h : Q .normal t H) : inBlock id Q .normal t H := h
theorem ib_ret {id : Nat} (h : Q .ret t H) : inBlock id Q .ret t H := h
theorem ib_exit {id : Nat} (h : Q .normal t H) : inBlock id Q (.exit id) t H := by simpa [inBlock] using h
theorem ib_other {id id' : Nat} (h : Q (.exit id') t H) (hn : Nat.beq id' id = false := by rfl) : inBlock id Q (.exit id') t H := by simpa [inBlock, hn] using h

theorem aw_skip (h : Q .normal t H) : aw P E .skip Q t H := fun _ _ _ _ _ _ hx ht hh => wpIn_skip (post0 hx ht hh h)
theorem aw_exit {id : Nat} (h : Q (.exit id) t H) : aw P E (.exit id) Q t H := fun _ _ _ _ _ _ hx ht hh => wpIn_exit (post0 hx ht hh h)
theorem aw_ret (h : Q .ret t H) : aw P E .ret Q t H := fun _ _ _ _ _ _ hx ht hh => wpIn_ret (post0 hx ht hh h)

theorem aw_cond {c : Operand} {x y : Code} {b : Bool} (hc : ev t c = some (.bool b)) (ht : b = true → aw P E x Q t H) (hf : b = false → aw P E y Q t H) :
    aw P E (.cond c x y) Q t H :=
  fun rd ok ex hid a w hx r1 r2 => wpIn_cond_split (ev_eval r1 hc) (fun h => ht h rd (okc_and ok).1 ex hid a w hx r1 r2) (fun h => hf h rd (okc_and ok).2 ex hid a w hx r1 r2)

theorem aw_cond_t {c : Operand} {x y : Code} {v : Value} (hc0 : ev t c = some v) (hv : v = .bool true) (h : aw P E x Q t H) : aw P E (.cond c x y) Q t H :=
  aw_cond (hv ▸ hc0) (fun _ => h) (fun h => by cases h)
theorem aw_cond_f {c : Operand} {x y : Code} {v : Value} (hc0 : ev t c = some v) (hv : v = .bool false) (h : aw P E y Q t H) : aw P E (.cond c x y) Q t H :=
  aw_cond (hv ▸ hc0) (fun h => by cases h) (fun _ => h)

theorem aw_region {id : Nat} {l : List Oper} (h : ao false P E l.toArray Q l t H) : aw P E (.region id l.toArray false) Q t H :=
  fun rd _ ex hid a w hx ht hh => wpIn_region_lit (h (some rd) (fun e => by cases e) ex hid a w hx ht hh)

theorem RepH.drew {w : World} (h : RepH E H w) : RepH E H { w with drawn := w.drawn + 1 } :=
  ⟨Below.drew h.below, h.base, h.nodup, h.at_⟩

theorem aw_draw {id : Nat} {l : List Oper} (hm : P.follows .mixedOrders = true) (hB : Region.lexB .any l.toArray = true)
    (h : aq P E l.toArray Q l t H) : aw P E (.region id l.toArray true) Q t H := by
  intro rd _ ex hid a w hx ht hh
  simp only [Region.lexB, Bool.and_eq_true] at hB
  refine wpIn_region_any hm (anyIn_of_quiet (C := RepH E (H ++ hid)) (Q := fun a' => a'.defers = ex ∧ ∃ t', RepT E t' a' ∧ Q .normal t' H) (fun a' w' hw' ⟨h1, t', h2, h3⟩ => post0 h1 h2 hw' h3) _ _ _ _ hh.drew ?_)
  have := wpAnyQ_lex (md := .any) hB.1 l.toArray.toList 0 (Array.replicate l.toArray.size false) a (by simp) (by simpa using hB.2) (by simpa using h ex hid a hx ht)
  simpa using this

/-- A loop: the relation holds at its head, and each round lowers the measure. -/
theorem aw_loop {c : Code} (I : Nat → Tm → Hp → Prop) (m : Nat) (h0 : I m t H)
    (round : ∀ m t H, I m t H → aw P E c (fun e t' H' => match e with | .normal => ∃ m', m' < m ∧ I m' t' H' | e => Q e t' H') t H) : aw P E (.loop c) Q t H := by
  intro rd ok ex hid a w hx ht hh b k cs hro hb hr
  have key : ∀ (m : Nat) (t : Tm) (H : Hp) (ex : List Deferred) (hid : Hp) (a : Act) (w : World), I m t H → a.defers = ex → RepT E t a → RepH E (H ++ hid) w →
      ∃ e a' w', post E ex hid Q e a' w' ∧ ArrivesIn (Machine.fenced P (rdF rd)) P (lone (b.atR a (.code c :: .inLoop c :: k)) cs w) b k cs e a' w' := by
    intro m
    induction m using Nat.strongRecOn with
    | _ m ih =>
      intro t H ex hid a w hI hx ht hh
      obtain ⟨e, a1, w1, hq, harr⟩ := round m t H hI rd ok ex hid a w hx ht hh b (.inLoop c :: k) cs hro hb hr
      obtain ⟨ms, t', H', r1, rx, r2, q⟩ := hq
      cases e with
      | normal =>
        obtain ⟨m', hm, hI'⟩ := q
        obtain ⟨e2, a2, w2, hq2, harr2⟩ := ih m' hm t' H' _ _ a1 w1 hI' rx r1 r2
        exact ⟨e2, a2, w2, post_app hq2, .of_steps (StepsIn.trans harr (.one (fenced_calm hb hr rfl) stepR_inLoop)) harr2⟩
      | exit id => exact ⟨_, a1, w1, ⟨ms, t', H', r1, rx, r2, q⟩, .pass (x := .inLoop c) rfl (fun _ _ => .inl (by simp)) harr⟩
      | goto l => exact ⟨_, a1, w1, ⟨ms, t', H', r1, rx, r2, q⟩, .pass (x := .inLoop c) rfl (fun _ _ => .inl (by simp)) harr⟩
      | ret => exact ⟨_, a1, w1, ⟨ms, t', H', r1, rx, r2, q⟩, .pass (x := .inLoop c) rfl (fun _ _ => .inl (by simp)) harr⟩
      | panic ch => exact ⟨_, a1, w1, ⟨ms, t', H', r1, rx, r2, q⟩, .pass (x := .inLoop c) rfl (fun _ _ => .inl (by simp)) harr⟩
      | outgrown => exact ⟨_, a1, w1, ⟨ms, t', H', r1, rx, r2, q⟩, .pass (x := .inLoop c) rfl (fun _ _ => .inl (by simp)) harr⟩
  obtain ⟨e, a', w', hq, harr⟩ := key m t H ex hid a w h0 hx ht hh
  exact ⟨e, a', w', hq, .of_steps (.one (fenced_calm hb hr rfl) stepR_loop) harr⟩
end code

/-- Is it a struct's or an array's type? -/
def aggB (P : Program) (t : TypeId) : Bool :=
  match P.underlying t with
  | some (.struct _) | some (.array _ _) => true
  | some _ => false
  | none => true

/-- A type of one cell. -/
class TyC (P : Program) (t : TypeId) : Prop where
  size : (P.info? t).map (·.size) = some 1
  agg : aggB P t = false
/-- A struct's or an array's type, of n cells. -/
class TyA (P : Program) (t : TypeId) (n : outParam Nat) : Prop where
  size : (P.info? t).map (·.size) = some n
  agg : (P.underlying t).isSome = true ∧ aggB P t = true
/-- Its zero value. -/
class TyZ (P : Program) (t : TypeId) (z : outParam Value) : Prop where
  zero : (P.info? t).map (·.zero) = some (some z)
class TyU (P : Program) (t : TypeId) (d : outParam TypeDesc) : Prop where
  und : P.underlying t = some d

section ops
variable {P : Program} {E : Env} {Q : Exit → Tm → Hp → Prop} {t : Tm} {H : Hp} {ops : Array Oper} {rest : List Oper} {k : Bool}

/-- Lists that are written out as they are reckoned. -/
def evL (t : Tm) : List Operand → Option (List Value)
  | [] => some []
  | x :: xs => match ev t x with
    | some v => match evL t xs with
      | some vs => some (v :: vs)
      | none => none
    | none => none
def evP (t : Tm) : List (Nat × Operand) → Option (List (Nat × Value))
  | [] => some []
  | (i, x) :: xs => match ev t x with
    | some v => match evP t xs with
      | some vs => some ((i, v) :: vs)
      | none => none
    | none => none
def sl : Nat → Nat → List Value → Option (List Value)
  | 0, 0, _ => some []
  | 0, n + 1, v :: cs => match sl 0 n cs with
    | some r => some (v :: r)
    | none => none
  | 0, _ + 1, [] => none
  | off + 1, n, _ :: cs => sl off n cs
  | _ + 1, _, [] => none
def setO : List Value → Nat → Value → Option (List Value)
  | [], _, _ => none
  | _ :: cs, 0, v => some (v :: cs)
  | c :: cs, i + 1, v => match setO cs i v with
    | some r => some (c :: r)
    | none => none
def setAllO : List Value → Nat → List Value → Option (List Value)
  | cs, _, [] => some cs
  | cs, off, v :: vs => match setO cs off v with
    | some r => setAllO r (off + 1) vs
    | none => none

theorem evL_eval {E : Env} {t : Tm} {a : Act} (ht : RepT E t a) : ∀ (xs : List Operand) (vs : List Value), evL t xs = some vs → xs.map a.eval = vs
  | [], vs, h => by simp only [evL, Option.some.injEq] at h; subst h; rfl
  | x :: xs, vs, h => by
    simp only [evL] at h
    cases h1 : ev t x with
    | none => rw [h1] at h; cases h
    | some v =>
      rw [h1] at h
      cases h2 : evL t xs with
      | none => rw [h2] at h; cases h
      | some us =>
        rw [h2] at h
        simp only [Option.some.injEq] at h
        subst h
        simp only [List.map_cons, evL_eval ht xs us h2, ev_eval ht h1]
theorem evP_eval {E : Env} {t : Tm} {a : Act} (ht : RepT E t a) : ∀ (xs : List (Nat × Operand)) (vs : List (Nat × Value)), evP t xs = some vs → xs.map (fun (i, x) => (i, a.eval x)) = vs
  | [], vs, h => by simp only [evP, Option.some.injEq] at h; subst h; rfl
  | (i, x) :: xs, vs, h => by
    simp only [evP] at h
    cases h1 : ev t x with
    | none => rw [h1] at h; cases h
    | some v =>
      rw [h1] at h
      cases h2 : evP t xs with
      | none => rw [h2] at h; cases h
      | some us =>
        rw [h2] at h
        simp only [Option.some.injEq] at h
        subst h
        simp only [List.map_cons, evP_eval ht xs us h2, ev_eval ht h1]
theorem sl_spec : ∀ (off n : Nat) (cs vs : List Value), sl off n cs = some vs → (cs.drop off).take n = vs ∧ vs.length = n
  | 0, 0, cs, vs, h => by simp only [sl, Option.some.injEq] at h; subst h; simp
  | 0, n + 1, v :: cs, vs, h => by
    simp only [sl] at h
    cases h1 : sl 0 n cs with
    | none => rw [h1] at h; cases h
    | some r =>
      rw [h1] at h
      simp only [Option.some.injEq] at h
      subst h
      have := sl_spec 0 n cs r h1
      simp only [List.drop_zero] at this
      simp [this.1, this.2]
  | 0, n + 1, [], vs, h => by simp [sl] at h
  | off + 1, n, c :: cs, vs, h => by
    simp only [sl] at h
    simpa using sl_spec off n cs vs h
  | off + 1, n, [], vs, h => by simp [sl] at h
theorem setO_spec : ∀ (cs : List Value) (i : Nat) (v : Value) (ds : List Value), setO cs i v = some ds → i < cs.length ∧ cs.set i v = ds
  | [], _, _, _, h => by simp [setO] at h
  | c :: cs, 0, v, ds, h => by simp only [setO, Option.some.injEq] at h; subst h; simp
  | c :: cs, i + 1, v, ds, h => by
    simp only [setO] at h
    cases h1 : setO cs i v with
    | none => rw [h1] at h; cases h
    | some r =>
      rw [h1] at h
      simp only [Option.some.injEq] at h
      subst h
      have := setO_spec cs i v r h1
      simp [this.1, this.2]

def dstL : List Oper → Nat → Option Nat
  | [], _ => none
  | o :: _, 0 => o.dst
  | _ :: l, n + 1 => dstL l n
def dstAt (ops : Array Oper) (j : Nat) : Option Nat := dstL ops.toList j
theorem dstL_eq : ∀ (l : List Oper) (j : Nat), dstL l j = (l[j]?).bind (·.dst)
  | [], _ => rfl
  | _ :: _, 0 => rfl
  | _ :: l, n + 1 => by simpa [dstL] using dstL_eq l n
theorem dstAt_eq {ops : Array Oper} {j : Nat} {d : Option Nat} (h : dstAt ops j = d) : (ops[j]?).bind (·.dst) = d := by
  rw [← h, dstAt, dstL_eq]; simp

/-- The guard lets it by. -/
def Wants (ops : Array Oper) (t : Tm) : Option (Nat × Bool) → Prop
  | none => True
  | some (j, b) => ∃ d v, dstAt ops j = some d ∧ look t d = some v ∧ v = .bool b
/-- The guard passes it over. -/
def Not (ops : Array Oper) (t : Tm) : Option (Nat × Bool) → Prop
  | none => False
  | some (j, true) => ∃ d v, dstAt ops j = some d ∧ look t d = some v ∧ (v = .bool false ∨ v = undef)
  | some (j, false) => ∃ d v, dstAt ops j = some d ∧ look t d = some v ∧ (v = .bool true ∨ v = undef)
theorem Not.to {ops : Array Oper} {t : Tm} {j : Nat} {b : Bool} (h : Not ops t (some (j, b))) : ∃ d, dstAt ops j = some d ∧ (look t d = some (.bool (!b)) ∨ look t d = some undef) := by
  cases b with
  | true =>
    obtain ⟨d, v, h1, h2, h3⟩ := h
    rcases h3 with rfl | rfl
    · exact ⟨d, h1, .inl h2⟩
    · exact ⟨d, h1, .inr h2⟩
  | false =>
    obtain ⟨d, v, h1, h2, h3⟩ := h
    rcases h3 with rfl | rfl
    · exact ⟨d, h1, .inl h2⟩
    · exact ⟨d, h1, .inr h2⟩

theorem getElem?_of_getD {a : Array Value} {d : Nat} {v : Value} (h : a.getD d undef = v) (hv : v ≠ undef) : a[d]? = some v := by
  by_cases hd : d < a.size
  · simp [Array.getD, hd] at h
    simp [hd, h]
  · simp [Array.getD, hd] at h
    exact absurd h.symm hv

theorem wants_of {a : Act} {gd : Option (Nat × Bool)} {dst : Option Tmp} {op : Op} {ty : TypeId} {pos : String} {af : Array Edge} (ht : RepT E t a) (h : Wants ops t gd) :
    Region.wanted ⟨dst, op, ty, pos, af, gd⟩ (yielded ops a.tmps) = true := by
  cases gd with
  | none => rfl
  | some x =>
    obtain ⟨j, b⟩ := x
    obtain ⟨d, _, h1, h2, rfl⟩ := h
    have h3 := getElem?_of_getD (ht.2.2 d _ h2) (by intro h; cases h)
    have h4 : (ops[j]?).bind (·.dst) = some d := dstAt_eq h1
    simp only [Region.wanted, yielded, h4, Option.bind_some, h3]
    simp

theorem not_of {a : Act} {gd : Option (Nat × Bool)} {dst : Option Tmp} {op : Op} {ty : TypeId} {pos : String} {af : Array Edge} (ht : RepT E t a) (h : Not ops t gd) :
    Region.wanted ⟨dst, op, ty, pos, af, gd⟩ (yielded ops a.tmps) = false := by
  cases gd with
  | none => exact h.elim
  | some x =>
    obtain ⟨j, b⟩ := x
    obtain ⟨d, h1, h2⟩ := h.to
    have h4 : (ops[j]?).bind (·.dst) = some d := dstAt_eq h1
    rcases h2 with h2 | h2
    · have h3 := getElem?_of_getD (ht.2.2 d _ h2) (by intro h; cases h)
      simp only [Region.wanted, yielded, h4, Option.bind_some, h3]
      cases b <;> rfl
    · have h3 := ht.2.2 d _ h2
      by_cases hd : d < a.tmps.size
      · have : a.tmps[d]? = some undef := by
          simp [Array.getD, hd] at h3
          simp [hd, h3]
        simp only [Region.wanted, yielded, h4, Option.bind_some, this]
        rfl
      · have : a.tmps[d]? = none := by simp [hd]
        simp only [Region.wanted, yielded, h4, Option.bind_some, this]
        rfl

/-- The operation yields this value and leaves the world alone. -/
def OpV (P : Program) (E : Env) (op : Op) (ty : TypeId) (t : Tm) (H : Hp) (v : Value) : Prop :=
  ∀ a w, RepT E t a → RepH E H w → ∀ o : Oper, o.op = op → o.type = ty → (execOp a.eval o).run P w = .ok (.value v) w

theorem ao_nil (h : Q .normal t H) : ao k P E ops Q [] t H := fun _ _ _ _ _ _ hx ht hh => wpM_nil (post0 hx ht hh h)

theorem ao_val {d : Nat} {op : Op} {ty : TypeId} {pos : String} {af : Array Edge} {gd : Option (Nat × Bool)} {v : Value}
    (hw : Wants ops t gd) (hv : OpV P E op ty t H v) (hd : Nat.blt d E.n = true) (h : ao k P E ops Q rest ((d, v) :: t) H) :
    ao k P E ops Q (⟨some d, op, ty, pos, af, gd⟩ :: rest) t H := by
  intro m hm ex hid a w hx ht hh
  refine wpM_step fun K hK => ?_
  rw [if_pos (wants_of ht hw)]
  exact opM_value (hv a w ht hh.un _ rfl rfl) (hK _ _ (h m hm ex hid _ w hx (ht.put hd) hh))

theorem ao_skip {d : Nat} {op : Op} {ty : TypeId} {pos : String} {af : Array Edge} {gd : Option (Nat × Bool)}
    (hw : Not ops t gd) (hd : Nat.blt d E.n = true) (h : ao k P E ops Q rest ((d, undef) :: t) H) :
    ao k P E ops Q (⟨some d, op, ty, pos, af, gd⟩ :: rest) t H := by
  intro m hm ex hid a w hx ht hh
  refine wpM_step fun K hK => ?_
  rw [if_neg (by rw [not_of ht hw]; exact Bool.false_ne_true)]
  exact hK _ _ (h m hm ex hid _ w hx (ht.put hd) hh)

theorem ao_skip0 {op : Op} {ty : TypeId} {pos : String} {af : Array Edge} {gd : Option (Nat × Bool)}
    (hw : Not ops t gd) (h : ao k P E ops Q rest t H) : ao k P E ops Q (⟨none, op, ty, pos, af, gd⟩ :: rest) t H := by
  intro m hm ex hid a w hx ht hh
  refine wpM_step fun K hK => ?_
  rw [if_neg (by rw [not_of ht hw]; exact Bool.false_ne_true)]
  exact hK _ _ (h m hm ex hid _ w hx ht hh)

/-- A Bool in a slot is decided. -/
theorem ao_bool {d : Nat} {b : Bool} (hd : look t d = some (.bool b)) (ht : b = true → ao k P E ops Q rest ((d, .bool true) :: t) H) (hf : b = false → ao k P E ops Q rest ((d, .bool false) :: t) H) :
    ao k P E ops Q rest t H := by
  have key : ∀ {b : Bool}, look t d = some (.bool b) → ∀ {a}, RepT E t a → RepT E ((d, .bool b) :: t) a := by
    intro b hb a h
    refine ⟨h.1, h.2.1, fun i v hi => ?_⟩
    by_cases e : d = i
    · subst e; rw [look_cons_eq] at hi; cases hi; exact h.2.2 d _ hb
    · rw [look_cons_ne e] at hi; exact h.2.2 i v hi
  intro m hm ex hid a w hx h1 h2
  cases b with
  | true => exact ht rfl m hm ex hid a w hx (key hd h1) h2
  | false => exact hf rfl m hm ex hid a w hx (key hd h1) h2

theorem ao_gbool {d j : Nat} {b g : Bool} {dst : Option Tmp} {op : Op} {ty : TypeId} {pos : String} {af : Array Edge} (_hj : dstAt ops j = some d) (hd : look t d = some (.bool b))
    (ht : b = true → ao k P E ops Q (⟨dst, op, ty, pos, af, some (j, g)⟩ :: rest) ((d, .bool true) :: t) H) (hf : b = false → ao k P E ops Q (⟨dst, op, ty, pos, af, some (j, g)⟩ :: rest) ((d, .bool false) :: t) H) :
    ao k P E ops Q (⟨dst, op, ty, pos, af, some (j, g)⟩ :: rest) t H := ao_bool hd ht hf

/-- The guard's Bool is written out. -/
theorem ao_glit {d j : Nat} {b g : Bool} {v : Value} {dst : Option Tmp} {op : Op} {ty : TypeId} {pos : String} {af : Array Edge} (_hj : dstAt ops j = some d) (_hd : look t d = some v) (_hv : v = .bool b)
    (h : ao k P E ops Q (⟨dst, op, ty, pos, af, some (j, g)⟩ :: rest) t H) : ao k P E ops Q (⟨dst, op, ty, pos, af, some (j, g)⟩ :: rest) t H := h
theorem aq_glit {d j : Nat} {b g : Bool} {v : Value} {dst : Option Tmp} {op : Op} {ty : TypeId} {pos : String} {af : Array Edge} (_hj : dstAt ops j = some d) (_hd : look t d = some v) (_hv : v = .bool b)
    (h : aq P E ops Q (⟨dst, op, ty, pos, af, some (j, g)⟩ :: rest) t H) : aq P E ops Q (⟨dst, op, ty, pos, af, some (j, g)⟩ :: rest) t H := h

/-- A call by its contract: it hands back a value, and below the heap's size nothing has changed. -/
theorem RepH.below' {w w' : World} (h : RepH E H w) (hb : Below w.heap.size w w') : RepH E H w' := by
  refine ⟨h.below.trans (hb.mono (Nat.le_trans h.base h.below.size)), h.base, h.nodup, fun b o hm => ?_⟩
  obtain ⟨h1, h2⟩ := h.at_ b o hm
  refine ⟨h1, ?_⟩
  rw [hb.block b ?_]
  · exact h2
  · exact (Array.getElem?_eq_some_iff.1 h2).1

/-- What the operation of a call of a Go function comes to. -/
def OpCall (P : Program) (E : Env) (op : Op) (ty : TypeId) (t : Tm) (f : FuncId) (args : Array Value) : Prop :=
  ∀ a w, RepT E t a → ∀ o : Oper, o.op = op → o.type = ty → (execOp a.eval o).run P w = .ok (.enter f args) w

theorem ao_call {d : Nat} {op : Op} {ty : TypeId} {pos : String} {af : Array Edge} {gd : Option (Nat × Bool)} {v : Value} {f : FuncId} {args : Array Value}
    (hw : Wants ops t gd) (hv : OpCall P E op ty t f args) (hd : Nat.blt d E.n = true)
    (hc : ∀ w, RepH E H w → Calls P f args w fun e w' => e = .returned v ∧ Below w.heap.size w w')
    (h : ao k P E ops Q rest ((d, v) :: t) H) :
    ao k P E ops Q (⟨some d, op, ty, pos, af, gd⟩ :: rest) t H := by
  intro m hm ex hid a w hx ht hh
  refine wpM_step fun K hK => ?_
  rw [if_pos (wants_of ht hw)]
  exact opM_enter (hv a w ht _ rfl rfl) (hc w hh.un) fun e w' ⟨he, hb⟩ => ⟨v, he, hK _ _ (h m hm ex hid _ w' hx (ht.put hd) (hh.below' hb))⟩

/-- A call whose contract leaves more open: what it hands back, and what it has laid. -/
theorem ao_callx {d : Nat} {op : Op} {ty : TypeId} {pos : String} {af : Array Edge} {gd : Option (Nat × Bool)} {f : FuncId} {args : Array Value}
    (hw : Wants ops t gd) (hv : OpCall P E op ty t f args) (hd : Nat.blt d E.n = true)
    (hc : ∀ hid w, RepH E (H ++ hid) w → Calls P f args w fun e w' => ∃ v H', e = .returned v ∧ RepH E (H' ++ hid) w' ∧ ao k P E ops Q rest ((d, v) :: t) H') :
    ao k P E ops Q (⟨some d, op, ty, pos, af, gd⟩ :: rest) t H := by
  intro m hm ex hid a w hx ht hh
  refine wpM_step fun K hK => ?_
  rw [if_pos (wants_of ht hw)]
  exact opM_enter (hv a w ht _ rfl rfl) (hc hid w hh) fun e w' ⟨v, H', he, hb, h⟩ => ⟨v, he, hK _ _ (h m hm ex hid _ w' hx (ht.put hd) hb)⟩

/-! The lexical walk of a region that draws its order. -/
theorem aq_nil (h : Q .normal t H) : aq P E ops Q [] t H := fun _ _ _ hx ht => ⟨hx, t, ht, h⟩

theorem aq_val {d : Nat} {op : Op} {ty : TypeId} {pos : String} {af : Array Edge} {gd : Option (Nat × Bool)} {v : Value}
    (hw : Wants ops t gd) (hv : OpV P E op ty t H v) (hd : Nat.blt d E.n = true) (h : aq P E ops Q rest ((d, v) :: t) H) :
    aq P E ops Q (⟨some d, op, ty, pos, af, gd⟩ :: rest) t H := by
  intro ex hid a hx ht
  refine wpQuiet_step fun K hK => ?_
  rw [if_pos (wants_of ht hw)]
  refine ⟨v, fun w hh => ?_, hK _ (h ex hid _ hx (ht.put hd))⟩
  unfold Oper.quietAt
  rw [hv a w ht hh.un _ rfl rfl]
  exact ⟨rfl, rfl⟩

theorem aq_skip {d : Nat} {op : Op} {ty : TypeId} {pos : String} {af : Array Edge} {gd : Option (Nat × Bool)}
    (hw : Not ops t gd) (hd : Nat.blt d E.n = true) (h : aq P E ops Q rest ((d, undef) :: t) H) :
    aq P E ops Q (⟨some d, op, ty, pos, af, gd⟩ :: rest) t H := by
  intro ex hid a hx ht
  refine wpQuiet_step fun K hK => ?_
  rw [if_neg (by rw [not_of ht hw]; exact Bool.false_ne_true)]
  exact hK _ (h ex hid _ hx (ht.put hd))

theorem aq_bool {d : Nat} {b : Bool} (hd : look t d = some (.bool b)) (ht : b = true → aq P E ops Q rest ((d, .bool true) :: t) H) (hf : b = false → aq P E ops Q rest ((d, .bool false) :: t) H) :
    aq P E ops Q rest t H := by
  have key : ∀ {b : Bool}, look t d = some (.bool b) → ∀ {a}, RepT E t a → RepT E ((d, .bool b) :: t) a := by
    intro b hb a h
    refine ⟨h.1, h.2.1, fun i v hi => ?_⟩
    by_cases e : d = i
    · subst e; rw [look_cons_eq] at hi; cases hi; exact h.2.2 d _ hb
    · rw [look_cons_ne e] at hi; exact h.2.2 i v hi
  intro ex hid a hx h1
  cases b with
  | true => exact ht rfl ex hid a hx (key hd h1)
  | false => exact hf rfl ex hid a hx (key hd h1)

theorem aq_gbool {d j : Nat} {b g : Bool} {dst : Option Tmp} {op : Op} {ty : TypeId} {pos : String} {af : Array Edge} (_hj : dstAt ops j = some d) (hd : look t d = some (.bool b))
    (ht : b = true → aq P E ops Q (⟨dst, op, ty, pos, af, some (j, g)⟩ :: rest) ((d, .bool true) :: t) H) (hf : b = false → aq P E ops Q (⟨dst, op, ty, pos, af, some (j, g)⟩ :: rest) ((d, .bool false) :: t) H) :
    aq P E ops Q (⟨dst, op, ty, pos, af, some (j, g)⟩ :: rest) t H := aq_bool hd ht hf

theorem aq_call {d : Nat} {op : Op} {ty : TypeId} {pos : String} {af : Array Edge} {gd : Option (Nat × Bool)} {v : Value} {f : FuncId} {args : Array Value}
    (hw : Wants ops t gd) (hv : OpCall P E op ty t f args) (hd : Nat.blt d E.n = true)
    (hc : ∀ w, RepH E H w → Calls P f args w fun e w' => e = .returned v ∧ Below w.heap.size w w')
    (h : aq P E ops Q rest ((d, v) :: t) H) :
    aq P E ops Q (⟨some d, op, ty, pos, af, gd⟩ :: rest) t H := by
  intro ex hid a hx ht
  refine wpQuiet_step fun K hK => ?_
  rw [if_pos (wants_of ht hw)]
  refine ⟨v, fun w hh => ?_, hK _ (h ex hid _ hx (ht.put hd))⟩
  unfold Oper.quietAt
  rw [hv a w ht _ rfl rfl]
  exact ⟨rfl, (hc w hh.un).mono fun e w' ⟨he, hb⟩ => ⟨he, hh.below' hb⟩⟩

/-! New memory, and stores into it. -/
theorem RepH.alloc {w : World} (h : RepH E H w) (o : Obj) : RepH E ((w.heap.size, o) :: H) (w.alloc o) := by
  have hB : E.B ≤ w.heap.size := Nat.le_trans h.base h.below.size
  refine ⟨h.below.alloc hB o, h.base, ?_, fun b p hm => ?_⟩
  · simp only [List.map_cons, List.nodup_cons]
    refine ⟨fun hm => ?_, h.nodup⟩
    obtain ⟨x, hx, e⟩ := List.mem_map.1 hm
    have := (Array.getElem?_eq_some_iff.1 (h.at_ x.1 x.2 hx).2).1
    omega
  · rcases List.mem_cons.1 hm with e | hm
    · cases e
      exact ⟨hB, by show (w.heap.push o)[w.heap.size]? = some o; simp⟩
    · obtain ⟨h1, h2⟩ := h.at_ b p hm
      refine ⟨h1, ?_⟩
      have hlt := (Array.getElem?_eq_some_iff.1 h2).1
      rw [Below.heap_alloc _ _ _ hlt]
      exact h2

/-- The operation lays this block and yields this value of its number. -/
def OpN (P : Program) (E : Env) (op : Op) (ty : TypeId) (t : Tm) (H : Hp) (o : Obj) (v : Nat → Value) : Prop :=
  ∀ a w, RepT E t a → RepH E H w → ∀ oo : Oper, oo.op = op → oo.type = ty → (execOp a.eval oo).run P w = .ok (.value (v w.heap.size)) (w.alloc o)

theorem ao_new {d : Nat} {op : Op} {ty : TypeId} {pos : String} {af : Array Edge} {gd : Option (Nat × Bool)} {o : Obj} {v : Nat → Value}
    (hw : Wants ops t gd) (hv : OpN P E op ty t H o v) (hd : Nat.blt d E.n = true)
    (h : ∀ b, ao k P E ops Q rest ((d, v b) :: t) ((b, o) :: H)) :
    ao k P E ops Q (⟨some d, op, ty, pos, af, gd⟩ :: rest) t H := by
  intro m hm ex hid a w hx ht hh
  refine wpM_step fun K hK => ?_
  rw [if_pos (wants_of ht hw)]
  exact opM_value (hv a w ht hh.un _ rfl rfl) (hK _ _ (h _ m hm ex hid _ _ hx (ht.put hd) (hh.alloc o)))

/-- Block b holds o. -/
def Has (H : Hp) (b : Nat) (o : Obj) : Prop := (b, o) ∈ H
theorem RepH.has {w : World} {b : Nat} {o : Obj} (h : RepH E H w) (hb : Has H b o) : E.B ≤ b ∧ w.heap[b]? = some o := h.at_ b o hb
theorem Has.head {b : Nat} {o : Obj} : Has ((b, o) :: H) b o := List.mem_cons_self
theorem Has.tail {b c : Nat} {o p : Obj} (h : Has H b o) : Has ((c, p) :: H) b o := List.mem_cons_of_mem _ h

/-- H with block b turned into o. -/
def Upd : Hp → Nat → Obj → Hp → Prop
  | x :: H, b, o, y :: H' => (x.1 = b ∧ y = (b, o) ∧ H' = H) ∨ (y = x ∧ Upd H b o H')
  | _, _, _, _ => False
theorem Upd.head (b : Nat) (o o' : Obj) (H : Hp) : Upd ((b, o) :: H) b o' ((b, o') :: H) := .inl ⟨rfl, rfl, rfl⟩
theorem Upd.tail {H H' : Hp} {b : Nat} {o' : Obj} (x : Nat × Obj) (h : Upd H b o' H') : Upd (x :: H) b o' (x :: H') := .inr ⟨rfl, h⟩

theorem Upd.app : ∀ {H H' : Hp} {b : Nat} {o : Obj} {R : Hp}, Upd H b o H' → Upd (H ++ R) b o (H' ++ R)
  | [], _, _, _, _, h => h.elim
  | _ :: _, [], _, _, _, h => h.elim
  | x :: H, y :: H', b, o, R, h => by
    rcases h with ⟨h1, h2, h3⟩ | ⟨h1, h2⟩
    · subst h3; exact .inl ⟨h1, h2, rfl⟩
    · exact .inr ⟨h1, h2.app⟩
theorem Upd.keys : ∀ {H H' : Hp} {b : Nat} {o : Obj}, Upd H b o H' → H'.map (·.1) = H.map (·.1)
  | [], _, _, _, h => h.elim
  | _ :: _, [], _, _, h => h.elim
  | x :: H, y :: H', b, o, h => by
    rcases h with ⟨h1, h2, h3⟩ | ⟨h1, h2⟩
    · subst h2 h3; simp [h1]
    · subst h1; simp [h2.keys]
theorem Upd.mem_key : ∀ {H H' : Hp} {b : Nat} {o : Obj}, Upd H b o H' → b ∈ H.map (·.1)
  | [], _, _, _, h => h.elim
  | _ :: _, [], _, _, h => h.elim
  | x :: H, y :: H', b, o, h => by
    rcases h with ⟨h1, h2, h3⟩ | ⟨h1, h2⟩
    · subst h1; exact List.mem_cons_self
    · exact List.mem_cons_of_mem _ h2.mem_key
theorem Upd.mem : ∀ {H H' : Hp} {b : Nat} {o : Obj}, Upd H b o H' → (H.map (·.1)).Nodup → ∀ c p, (c, p) ∈ H' → (c = b ∧ p = o) ∨ (c ≠ b ∧ (c, p) ∈ H)
  | [], _, _, _, h => h.elim
  | _ :: _, [], _, _, h => h.elim
  | x :: H, y :: H', b, o, h => by
    intro hn c p hm
    simp only [List.map_cons, List.nodup_cons] at hn
    rcases h with ⟨h1, h2, h3⟩ | ⟨h1, h2⟩
    · subst h2 h3
      rcases List.mem_cons.1 hm with e | hm2
      · cases e; exact .inl ⟨rfl, rfl⟩
      · refine .inr ⟨fun e => ?_, List.mem_cons_of_mem _ hm2⟩
        subst e
        rw [h1] at hn
        exact hn.1 (List.mem_map.2 ⟨(_, p), hm2, rfl⟩)
    · subst h1
      rcases List.mem_cons.1 hm with e | hm2
      · refine .inr ⟨fun e2 => ?_, by rw [← e]; exact List.mem_cons_self⟩
        subst e
        subst e2
        exact hn.1 h2.mem_key
      · rcases h2.mem hn.2 c p hm2 with h | ⟨h1, h3⟩
        · exact .inl h
        · exact .inr ⟨h1, List.mem_cons_of_mem _ h3⟩

theorem RepH.upd {w : World} {H' : Hp} {b : Nat} {o : Obj} (h : RepH E H w) (hu : Upd H b o H') : RepH E H' { w with heap := w.heap.setIfInBounds b o } := by
  have hb : E.B ≤ b := by
    obtain ⟨x, hx, e⟩ := List.mem_map.1 hu.mem_key
    have := (h.at_ x.1 x.2 hx).1
    omega
  refine ⟨h.below.trans ⟨rfl, rfl, rfl, by simp, fun k hk => by rw [Array.getElem?_setIfInBounds]; rw [if_neg (by omega)]⟩, h.base, by rw [hu.keys]; exact h.nodup, fun c p hm => ?_⟩
  rcases hu.mem h.nodup c p hm with ⟨rfl, rfl⟩ | ⟨hne, hm'⟩
  · obtain ⟨x, hx, e⟩ := List.mem_map.1 hu.mem_key
    have hlt := (Array.getElem?_eq_some_iff.1 (h.at_ x.1 x.2 hx).2).1
    have hlt' : c < w.heap.size := by omega
    refine ⟨hb, ?_⟩
    show (w.heap.setIfInBounds c p)[c]? = some p
    rw [Array.getElem?_setIfInBounds_self_of_lt hlt']
  · obtain ⟨h1, h2⟩ := h.at_ c p hm'
    refine ⟨h1, ?_⟩
    show (w.heap.setIfInBounds b o)[c]? = some p
    rw [Array.getElem?_setIfInBounds_ne (Ne.symm hne)]
    exact h2

/-- The operation turns block b into o and yields this. -/
def OpW (P : Program) (E : Env) (op : Op) (ty : TypeId) (t : Tm) (H : Hp) (b : Nat) (o : Obj) (v : Next) : Prop :=
  ∀ a w, RepT E t a → RepH E H w → ∀ oo : Oper, oo.op = op → oo.type = ty → (execOp a.eval oo).run P w = .ok v { w with heap := w.heap.setIfInBounds b o }

theorem ao_store {op : Op} {ty : TypeId} {pos : String} {af : Array Edge} {gd : Option (Nat × Bool)} {b : Nat} {o : Obj} {H' : Hp}
    (hw : Wants ops t gd) (hv : OpW P E op ty t H b o .skip) (hu : Upd H b o H')
    (h : ao k P E ops Q rest t H') : ao k P E ops Q (⟨none, op, ty, pos, af, gd⟩ :: rest) t H := by
  intro m hm ex hid a w hx ht hh
  refine wpM_step fun K hK => ?_
  rw [if_pos (wants_of ht hw)]
  exact opM_skip (hv a w ht hh.un _ rfl rfl) (hK _ _ (h m hm ex hid _ _ hx ht (hh.upd hu.app)))

theorem ao_valw {d : Nat} {op : Op} {ty : TypeId} {pos : String} {af : Array Edge} {gd : Option (Nat × Bool)} {b : Nat} {o : Obj} {H' : Hp} {v : Value}
    (hw : Wants ops t gd) (hv : OpW P E op ty t H b o (.value v)) (hd : Nat.blt d E.n = true) (hu : Upd H b o H')
    (h : ao k P E ops Q rest ((d, v) :: t) H') : ao k P E ops Q (⟨some d, op, ty, pos, af, gd⟩ :: rest) t H := by
  intro m hm ex hid a w hx ht hh
  refine wpM_step fun K hK => ?_
  rw [if_pos (wants_of ht hw)]
  exact opM_value (hv a w ht hh.un _ rfl rfl) (hK _ _ (h m hm ex hid _ _ hx (ht.put hd) (hh.upd hu.app)))
end ops

/-! A call's contract out of a walk of its body. -/
/-- The frame at the call. -/
def tmFrom : Nat → List Value → Tm
  | _, [] => []
  | k, v :: l => (k, v) :: tmFrom (k + 1) l
def tm0 (args : List Value) : Tm := tmFrom 0 args

/-- What the results' slots must hold. -/
def ret1 (r : Nat) (R : Value → Hp → Prop) : Exit → Tm → Hp → Prop
  | .ret, t, H | .normal, t, H => ∃ v, look t r = some v ∧ R v H
  | _, _, _ => False
def ret2 (r s : Nat) (R : Value → Value → Hp → Prop) : Exit → Tm → Hp → Prop
  | .ret, t, H | .normal, t, H => ∃ v u, look t r = some v ∧ look t s = some u ∧ R v u H
  | _, _, _ => False

theorem r1_ret {r : Nat} {R : Value → Hp → Prop} {t : Tm} {H : Hp} {v : Value} (h : look t r = some v) (hr : R v H) : ret1 r R .ret t H := ⟨v, h, hr⟩
theorem r1_normal {r : Nat} {R : Value → Hp → Prop} {t : Tm} {H : Hp} {v : Value} (h : look t r = some v) (hr : R v H) : ret1 r R .normal t H := ⟨v, h, hr⟩
theorem r2_ret {r s : Nat} {R : Value → Value → Hp → Prop} {t : Tm} {H : Hp} {v u : Value} (h : look t r = some v) (h2 : look t s = some u) (hr : R v u H) : ret2 r s R .ret t H := ⟨v, u, h, h2, hr⟩
theorem r2_normal {r s : Nat} {R : Value → Value → Hp → Prop} {t : Tm} {H : Hp} {v u : Value} (h : look t r = some v) (h2 : look t s = some u) (hr : R v u H) : ret2 r s R .normal t H := ⟨v, u, h, h2, hr⟩

def ret3 (r s u : Nat) (R : Value → Value → Value → Hp → Prop) : Exit → Tm → Hp → Prop
  | .ret, t, H | .normal, t, H => ∃ v1 v2 v3, look t r = some v1 ∧ look t s = some v2 ∧ look t u = some v3 ∧ R v1 v2 v3 H
  | _, _, _ => False
theorem r3_ret {r s u : Nat} {R : Value → Value → Value → Hp → Prop} {t : Tm} {H : Hp} {v1 v2 v3 : Value} (h : look t r = some v1) (h2 : look t s = some v2) (h3 : look t u = some v3) (hr : R v1 v2 v3 H) : ret3 r s u R .ret t H := ⟨v1, v2, v3, h, h2, h3, hr⟩
theorem r3_normal {r s u : Nat} {R : Value → Value → Value → Hp → Prop} {t : Tm} {H : Hp} {v1 v2 v3 : Value} (h : look t r = some v1) (h2 : look t s = some v2) (h3 : look t u = some v3) (hr : R v1 v2 v3 H) : ret3 r s u R .normal t H := ⟨v1, v2, v3, h, h2, h3, hr⟩

theorem repT_start {n : Nat} {B : Nat} {w0 : World} (args : List Value) (h : args.length ≤ n) :
    RepT ⟨B, w0, n⟩ (tm0 args) { tmps := args.toArray ++ Array.replicate (n - args.toArray.size) undef, defers := [] } := by
  refine ⟨trivial, by simp; omega, fun i v hi => ?_⟩
  have key : ∀ (l : List Value) (k i : Nat) (v : Value), look (tmFrom k l) i = some v → k ≤ i ∧ l[i - k]? = some v := by
    intro l
    induction l with
    | nil => intro k i v h; simp [look, tmFrom] at h
    | cons x l ih =>
      intro k i v h
      simp only [tmFrom] at h
      by_cases e : k = i
      · subst e
        rw [look_cons_eq] at h
        cases h
        simp
      · rw [look_cons_ne e] at h
        obtain ⟨h1, h2⟩ := ih _ _ _ h
        refine ⟨by omega, ?_⟩
        have : i - k = (i - (k + 1)) + 1 := by omega
        rw [this]
        simpa using h2
  obtain ⟨-, h2⟩ := key args 0 i v hi
  simp only [Nat.sub_zero] at h2
  have hlt := (List.getElem?_eq_some_iff.1 h2).1
  rw [Array.getD_eq_getD_getElem?, Array.getElem?_append_left (by simpa using hlt)]
  simp [h2]

/-- The marks among the deferred calls are come to, one by one. -/
theorem leaves_marks {P : Program} {fn : Func} {tmps : Array Value} {R : Ending → World → Prop} {E : Env} {v : Value} : ∀ (ms : List Nat) (H : Hp) (w : World), RepH E (H ++ markH ms) w →
    (∀ w', RepH E H w' → (results fn tmps).run P w' = .ok v w' ∧ R (.returned v) w') → LeavesInM (rdF none) 0 P fn tmps R (marks ms) .returning w
  | [], H, w, hh, h => by
    obtain ⟨h1, h2⟩ := h w (by simpa [markH] using hh)
    exact ⟨v, h1, h2⟩
  | D :: ms, H, w, hh, h => by
    have hp : (H ++ markH (D :: ms)).Perm ((D, .deferred (some [])) :: (H ++ markH ms)) := List.perm_middle
    have hh2 : RepH E ((D, .deferred (some [])) :: (H ++ markH ms)) w := ⟨hh.below, hh.base, (hp.map _).nodup_iff.1 hh.nodup, fun b o hm => hh.at_ b o (hp.mem_iff.2 hm)⟩
    have hD := (hh2.at_ D _ List.mem_cons_self).2
    refine ⟨by simp, .inl ⟨D, _, rfl, run_takeDeferred hD, ?_⟩⟩
    have hu : RepH E ((D, .deferred none) :: (H ++ markH ms)) (w.putObj D (.deferred none)) := hh2.upd (Upd.head _ _ _ _)
    exact leaves_marks ms H _ (hu.sub (List.sublist_cons_self _ _)) h
/-- The general way out of a walk. -/
theorem calls_of_aw {P : Program} {f : FuncId} {fn : Func} {c : Code} {args : List Value} {B : Nat} {w0 w : World} {H : Hp} {R : Ending → World → Prop} {n : Nat} {Q : Exit → Tm → Hp → Prop}
    (hf : P.funcs[f]? = some fn) (hb : fn.body = some c) (hn : fn.ntmps = n) (hl : Nat.ble args.length n = true)
    (h : aw P ⟨B, w0, n⟩ c Q (tm0 args) H) (hid : Hp) (hh : RepH ⟨B, w0, n⟩ (H ++ hid) w)
    (hQ : ∀ e a t' H', RepT ⟨B, w0, n⟩ t' a → Q e t' H' → (e = .normal ∨ e = .ret) ∧ ∃ v, ∀ w', RepH ⟨B, w0, n⟩ (H' ++ hid) w' → (results fn a.tmps).run P w' = .ok v w' ∧ R (.returned v) w') : Calls P f args.toArray w R := by
  refine (callsIn_wide (n := 0)).1 (callsIn_of_wp_marks hf hb trivial ?_)
  rw [hn]
  refine wpIn_mono (h none (.inl rfl) [] hid _ w rfl (repT_start args (by simpa [Nat.ble_eq] using hl)) hh) fun e a w' hq => ?_
  obtain ⟨ms, t', H', r1, rx, r2, q⟩ := hq
  obtain ⟨he, v, hv⟩ := hQ e a t' H' r1 q
  have key : LeavesInM (rdF none) 0 P fn a.tmps R a.defers .returning w' := by
    rw [rx, List.append_nil]
    refine leaves_marks ms (H' ++ hid) w' ?_ hv
    have hp : ((H' ++ hid) ++ markH ms).Perm (H' ++ (markH ms ++ hid)) := by
      rw [List.append_assoc]
      exact List.Perm.append_left H' List.perm_append_comm
    exact ⟨r2.below, r2.base, (hp.map _).nodup_iff.2 r2.nodup, fun b o hm => r2.at_ b o (hp.mem_iff.1 hm)⟩
  rcases he with rfl | rfl
  · exact key
  · exact key
/-- The same, of one whose own memory is new. -/
theorem calls_of_aw0 {P : Program} {f : FuncId} {fn : Func} {c : Code} {args : List Value} {w : World} {R : Ending → World → Prop} {n : Nat} {Q : Exit → Tm → Hp → Prop}
    (hf : P.funcs[f]? = some fn) (hb : fn.body = some c) (hn : fn.ntmps = n) (hl : Nat.ble args.length n = true)
    (h : aw P ⟨w.heap.size, w, n⟩ c Q (tm0 args) [])
    (hQ : ∀ e a t' H', RepT ⟨w.heap.size, w, n⟩ t' a → Q e t' H' → (e = .normal ∨ e = .ret) ∧ ∃ v, ∀ w', RepH ⟨w.heap.size, w, n⟩ H' w' → (results fn a.tmps).run P w' = .ok v w' ∧ R (.returned v) w') : Calls P f args.toArray w R :=
  calls_of_aw hf hb hn hl h [] ⟨Below.refl _ _, Nat.le_refl _, by simp, fun _ _ h => by cases h⟩ fun e a t' H' r1 q => by
    obtain ⟨he, v, hv⟩ := hQ e a t' H' r1 q
    exact ⟨he, v, fun w' hw => hv w' (by simpa using hw)⟩

theorem calls1 {P : Program} {f : FuncId} {fn : Func} {c : Code} {args : List Value} {w : World} {R : Ending → World → Prop} {n r : Nat}
    (hf : P.funcs[f]? = some fn) (hb : fn.body = some c) (hn : fn.ntmps = n) (hl : Nat.ble args.length n = true) (hr : fn.results = #[.tmp r])
    (h : aw P ⟨w.heap.size, w, n⟩ c (ret1 r fun v H => ∀ w', RepH ⟨w.heap.size, w, n⟩ H w' → R (.returned v) w') (tm0 args) []) : Calls P f args.toArray w R :=
  calls_of_aw0 hf hb hn hl h fun e a t' H' r1 q => by
    cases e with
    | normal =>
      obtain ⟨v, h1, h2⟩ := q
      exact ⟨.inl rfl, v, fun w' hw => ⟨by rw [results_tmp hr, r1.2.2 r v h1], h2 _ hw⟩⟩
    | ret =>
      obtain ⟨v, h1, h2⟩ := q
      exact ⟨.inr rfl, v, fun w' hw => ⟨by rw [results_tmp hr, r1.2.2 r v h1], h2 _ hw⟩⟩
    | exit _ => exact q.elim
    | goto _ => exact q.elim
    | panic _ => exact q.elim
    | outgrown => exact q.elim

theorem calls2 {P : Program} {f : FuncId} {fn : Func} {c : Code} {args : List Value} {w : World} {R : Ending → World → Prop} {n r s : Nat}
    (hf : P.funcs[f]? = some fn) (hb : fn.body = some c) (hn : fn.ntmps = n) (hl : Nat.ble args.length n = true) (hr : fn.results = #[.tmp r, .tmp s])
    (h : aw P ⟨w.heap.size, w, n⟩ c (ret2 r s fun v u H => ∀ w', RepH ⟨w.heap.size, w, n⟩ H w' → R (.returned (.tuple #[v, u])) w') (tm0 args) []) : Calls P f args.toArray w R :=
  calls_of_aw0 hf hb hn hl h fun e a t' H' r1 q => by
    cases e with
    | normal =>
      obtain ⟨v, u, h1, h2, h3⟩ := q
      exact ⟨.inl rfl, _, fun w' hw => ⟨by rw [results_tmp2 hr, r1.2.2 r v h1, r1.2.2 s u h2], h3 _ hw⟩⟩
    | ret =>
      obtain ⟨v, u, h1, h2, h3⟩ := q
      exact ⟨.inr rfl, _, fun w' hw => ⟨by rw [results_tmp2 hr, r1.2.2 r v h1, r1.2.2 s u h2], h3 _ hw⟩⟩
    | exit _ => exact q.elim
    | goto _ => exact q.elim
    | panic _ => exact q.elim
    | outgrown => exact q.elim
theorem calls3 {P : Program} {f : FuncId} {fn : Func} {c : Code} {args : List Value} {w : World} {R : Ending → World → Prop} {n r s u : Nat}
    (hf : P.funcs[f]? = some fn) (hb : fn.body = some c) (hn : fn.ntmps = n) (hl : Nat.ble args.length n = true) (hr : fn.results = #[.tmp r, .tmp s, .tmp u])
    (h : aw P ⟨w.heap.size, w, n⟩ c (ret3 r s u fun v1 v2 v3 H => ∀ w', RepH ⟨w.heap.size, w, n⟩ H w' → R (.returned (.tuple #[v1, v2, v3])) w') (tm0 args) []) : Calls P f args.toArray w R :=
  calls_of_aw0 hf hb hn hl h fun e a t' H' r1 q => by
    cases e with
    | normal =>
      obtain ⟨v1, v2, v3, h1, h2, h4, h3⟩ := q
      exact ⟨.inl rfl, _, fun w' hw => ⟨by rw [results_tmp3 hr, r1.2.2 r v1 h1, r1.2.2 s v2 h2, r1.2.2 u v3 h4], h3 _ hw⟩⟩
    | ret =>
      obtain ⟨v1, v2, v3, h1, h2, h4, h3⟩ := q
      exact ⟨.inr rfl, _, fun w' hw => ⟨by rw [results_tmp3 hr, r1.2.2 r v1 h1, r1.2.2 s v2 h2, r1.2.2 u v3 h4], h3 _ hw⟩⟩
    | exit _ => exact q.elim
    | goto _ => exact q.elim
    | panic _ => exact q.elim
    | outgrown => exact q.elim
/-! Loops, over a part of the frame. -/
def Sub (t' t : Tm) : Prop := ∀ i v, look t' i = some v → look t i = some v
theorem sub_nil {t : Tm} : Sub [] t := fun i v h => by simp [look] at h
theorem sub_cons {i : Nat} {v : Value} {t' t : Tm} (h : look t i = some v) (hs : Sub t' t) : Sub ((i, v) :: t') t := by
  intro j u hj
  by_cases e : i = j
  · subst e; rw [look_cons_eq] at hj; cases hj; exact h
  · rw [look_cons_ne e] at hj; exact hs j u hj
theorem Sub.rep {E : Env} {t' t : Tm} {a : Act} (hs : Sub t' t) (h : RepT E t a) : RepT E t' a := ⟨h.1, h.2.1, fun i v hi => h.2.2 i v (hs i v hi)⟩

theorem hs_app (l : Hp) {A B : Hp} (h : A.Sublist B) : (l ++ A).Sublist (l ++ B) := List.Sublist.append_left h l
theorem hs_app0 (l : Hp) {A B : Hp} (h : A.Sublist B) : A.Sublist (l ++ B) := h.trans (List.sublist_append_right l B)
theorem hs_keep (x : Nat × Obj) {A B : Hp} (h : A.Sublist B) : (x :: A).Sublist (x :: B) := List.Sublist.cons_cons x h
theorem hs_skip (x : Nat × Obj) {A B : Hp} (h : A.Sublist B) : A.Sublist (x :: B) := List.Sublist.cons x h

def loopQ (I : Nat → Tm → Hp → Prop) (m : Nat) (Q : Exit → Tm → Hp → Prop) : Exit → Tm → Hp → Prop
  | .normal, t, H => ∃ m' t' H', m' < m ∧ Sub t' t ∧ H'.Sublist H ∧ I m' t' H'
  | e, t, H => Q e t H

section loops
variable {P : Program} {E : Env} {Q : Exit → Tm → Hp → Prop} {t : Tm} {H : Hp} {k : Bool}
theorem lq_normal {I : Nat → Tm → Hp → Prop} {m m' : Nat} {t' : Tm} (hI : I m' t' H) (hm : m' < m) (hs : Sub t' t) : loopQ I m Q .normal t H := ⟨m', t', H, hm, hs, List.Sublist.refl _, hI⟩
theorem lq_normal' {I : Nat → Tm → Hp → Prop} {m m' : Nat} {t' : Tm} {H' : Hp} (hI : I m' t' H') (hm : m' < m) (hs : Sub t' t) (hh : H'.Sublist H) : loopQ I m Q .normal t H := ⟨m', t', H', hm, hs, hh, hI⟩
theorem aw_subH {c : Code} {H' : Hp} (hs : H'.Sublist H) (h : aw P E c Q t H') : aw P E c Q t H := fun rd ok ex hid a w hx ht hh => h rd ok ex hid a w hx ht (hh.sub (List.Sublist.append_right hs hid))
theorem lq_exit {I : Nat → Tm → Hp → Prop} {m id : Nat} (h : Q (.exit id) t H) : loopQ I m Q (.exit id) t H := h
theorem lq_ret {I : Nat → Tm → Hp → Prop} {m : Nat} (h : Q .ret t H) : loopQ I m Q .ret t H := h
theorem aw_sub {c : Code} {t' : Tm} (hs : Sub t' t) (h : aw P E c Q t' H) : aw P E c Q t H := fun rd ok ex hid a w hx ht hh => h rd ok ex hid a w hx (hs.rep ht) hh
theorem aw_for {c : Code} {t0 : Tm} (I : Nat → Tm → Hp → Prop) {m : Nat} (hI : I m t0 H) (hs : Sub t0 t)
    (round : ∀ m t H, I m t H → aw P E c (loopQ I m Q) t H) : aw P E (.loop c) Q t H :=
  aw_sub hs (aw_loop (fun m t H => ∃ t' H', Sub t' t ∧ H'.Sublist H ∧ I m t' H') m ⟨t0, H, fun _ _ h => h, List.Sublist.refl _, hI⟩ fun m t H ⟨t', H', hs, hh, hI⟩ =>
    aw_sub hs (aw_subH hh (aw_mono (round m t' H' hI) fun e t2 H2 hq => by
      cases e with
      | normal =>
        obtain ⟨m', t3, H3, h1, h2, h3, h4⟩ := hq
        exact ⟨m', h1, t3, H3, h2, h3, h4⟩
      | _ => exact hq)))
theorem aw_forH {c : Code} {t0 : Tm} {H0 : Hp} (I : Nat → Tm → Hp → Prop) {m : Nat} (hI : I m t0 H0) (hs : Sub t0 t) (hh : H0.Sublist H)
    (round : ∀ m t H, I m t H → aw P E c (loopQ I m Q) t H) : aw P E (.loop c) Q t H := aw_subH hh (aw_for I hI hs round)

/-! A Bool that the facts at hand decide. -/
theorem ao_gt {ops : Array Oper} {rest : List Oper} {d j : Nat} {b g : Bool} {dst : Option Tmp} {op : Op} {ty : TypeId} {pos : String} {af : Array Edge} (_hj : dstAt ops j = some d) (hd : look t d = some (.bool b)) (hb : b = true)
    (h : ao k P E ops Q (⟨dst, op, ty, pos, af, some (j, g)⟩ :: rest) ((d, .bool true) :: t) H) : ao k P E ops Q (⟨dst, op, ty, pos, af, some (j, g)⟩ :: rest) t H := ao_bool hd (fun _ => h) (fun e => by rw [hb] at e; cases e)
theorem ao_gf {ops : Array Oper} {rest : List Oper} {d j : Nat} {b g : Bool} {dst : Option Tmp} {op : Op} {ty : TypeId} {pos : String} {af : Array Edge} (_hj : dstAt ops j = some d) (hd : look t d = some (.bool b)) (hb : b = false)
    (h : ao k P E ops Q (⟨dst, op, ty, pos, af, some (j, g)⟩ :: rest) ((d, .bool false) :: t) H) : ao k P E ops Q (⟨dst, op, ty, pos, af, some (j, g)⟩ :: rest) t H := ao_bool hd (fun e => by rw [hb] at e; cases e) (fun _ => h)
theorem aq_gt {ops : Array Oper} {rest : List Oper} {d j : Nat} {b g : Bool} {dst : Option Tmp} {op : Op} {ty : TypeId} {pos : String} {af : Array Edge} (_hj : dstAt ops j = some d) (hd : look t d = some (.bool b)) (hb : b = true)
    (h : aq P E ops Q (⟨dst, op, ty, pos, af, some (j, g)⟩ :: rest) ((d, .bool true) :: t) H) : aq P E ops Q (⟨dst, op, ty, pos, af, some (j, g)⟩ :: rest) t H := aq_bool hd (fun _ => h) (fun e => by rw [hb] at e; cases e)
theorem aq_gf {ops : Array Oper} {rest : List Oper} {d j : Nat} {b g : Bool} {dst : Option Tmp} {op : Op} {ty : TypeId} {pos : String} {af : Array Edge} (_hj : dstAt ops j = some d) (hd : look t d = some (.bool b)) (hb : b = false)
    (h : aq P E ops Q (⟨dst, op, ty, pos, af, some (j, g)⟩ :: rest) ((d, .bool false) :: t) H) : aq P E ops Q (⟨dst, op, ty, pos, af, some (j, g)⟩ :: rest) t H := aq_bool hd (fun e => by rw [hb] at e; cases e) (fun _ => h)
theorem aw_ct {c : Operand} {x y : Code} {b : Bool} (hc : ev t c = some (.bool b)) (hb : b = true) (h : aw P E x Q t H) : aw P E (.cond c x y) Q t H :=
  aw_cond hc (fun _ => h) (fun e => by rw [hb] at e; cases e)
theorem aw_cf {c : Operand} {x y : Code} {b : Bool} (hc : ev t c = some (.bool b)) (hb : b = false) (h : aw P E y Q t H) : aw P E (.cond c x y) Q t H :=
  aw_cond hc (fun e => by rw [hb] at e; cases e) (fun _ => h)
/-- A cut behind a region: of the frame, this much is known. -/
def cutQ (t1 : Tm) (H1 : Hp) (Q : Exit → Tm → Hp → Prop) : Exit → Tm → Hp → Prop
  | .normal, t, H => Sub t1 t ∧ H = H1
  | e, t, H => Q e t H
theorem cq_normal {t1 : Tm} (hs : Sub t1 t) : cutQ t1 H Q .normal t H := ⟨hs, rfl⟩
theorem aw_cut_at {id : Nat} {ops : Array Oper} {b : Bool} {y : Code} (t1 : Tm) (h1 : aw P E (.region id ops b) (cutQ t1 H Q) t H) (h2 : aw P E y Q t1 H) : aw P E (.seq (.region id ops b) y) Q t H :=
  aw_seq (aw_mono h1 fun e t' H' hq => by
    cases e with
    | normal => obtain ⟨hs, rfl⟩ := hq; exact aw_sub hs h2
    | _ => exact hq)
theorem sub_cons' {i : Nat} {u v : Value} {t' t : Tm} (h : look t i = some u) (e : v = u) (hs : Sub t' t) : Sub ((i, v) :: t') t := sub_cons (by rw [e]; exact h) hs
theorem aw_is {c : Code} (h : aw P E c Q t H) : aw P E c Q t H := h
theorem ao_is {ops : Array Oper} {rest : List Oper} (h : ao k P E ops Q rest t H) : ao k P E ops Q rest t H := h
theorem aq_is {ops : Array Oper} {rest : List Oper} (h : aq P E ops Q rest t H) : aq P E ops Q rest t H := h
end loops
attribute [irreducible] Has Upd cutQ loopQ aw ao aq andThen inBlock ret1 ret2 ret3
end Sx
end Go.Proofs.Ytpenogailhlcaaa
