/- The walk of a call over a symbolic frame and a symbolic heap of the call's own: definitions and rules, over whatever program; conditions: none. -/
import Derived.WalkKit
import Derived.Deep.Quiet
import Derived.RangeFuncRecord
import Derived.OrdersIn
/- Sx: The walk of a call over a symbolic frame and a symbolic heap of the call's own: definitions and rules, over whatever program; conditions: none. -/
namespace Go.Proofs.YtkjjlppfomidbaaGreat
namespace Sx
open Go Go.RowKit
def look {α : Type} : List (Nat × α) → Nat → Option α
  | [], _ => none
  | (j, v) :: l, i => bif Nat.beq j i then some v else look l i
abbrev Tm := List (Nat × Value)
abbrev Hp := List (Nat × Obj)
structure Env where
  B : Nat
  w0 : World
  n : Nat
def RepT (E : Env) (t : Tm) (a : Act) : Prop :=
  True ∧ a.tmps.size = E.n ∧ ∀ i v, look t i = some v → a.tmps.getD i undef = v
structure RepH (E : Env) (H : Hp) (w : World) : Prop where
  below : Below E.B E.w0 w
  base : E.B ≤ E.w0.heap.size
  nodup : (H.map (·.1)).Nodup
  at_ : ∀ b o, (b, o) ∈ H → E.B ≤ b ∧ w.heap[b]? = some o
def ev (t : Tm) : Operand → Option Value
  | .tmp i => look t i
  | .const v => some v
  | .global g => some (.pointer (some ⟨g, 0, none⟩))
  | .func f => some (.func (.func f) #[] #[])
theorem ev_eval {E : Env} {t : Tm} {a : Act} {x : Operand} {v : Value} (h : RepT E t a) (hx : ev t x = some v) : a.eval x = v := by
  cases x with
  | tmp i => exact h.2.2 i v hx
  | const v => simpa [ev, Act.eval] using hx
  | global g => simpa [ev, Act.eval] using hx
  | func f => simpa [ev, Act.eval] using hx
theorem look_cons_eq {α : Type} (d : Nat) (v : α) (l : List (Nat × α)) : look ((d, v) :: l) d = some v := by simp [look]
theorem look_cons_ne {α : Type} {d i : Nat} (h : d ≠ i) (v : α) (l : List (Nat × α)) : look ((d, v) :: l) i = look l i := by
  have : Nat.beq d i = false := by
    cases hb : Nat.beq d i with
    | false => rfl
    | true => exact absurd (Nat.eq_of_beq_eq_true hb) h
  simp [look, this]
theorem RepT.put {E : Env} {t : Tm} {a : Act} {d : Nat} {v : Value} (h : RepT E t a) (hd : Nat.blt d E.n = true) : RepT E ((d, v) :: t) (a.put (some d) v) := by
  have hd' : d < E.n := by simpa [Nat.blt_eq] using hd
  refine ⟨h.1, by simp [Act.put, h.2.1], fun i u hi => ?_⟩
  by_cases e : d = i
  · subst e
    rw [look_cons_eq] at hi
    cases hi
    have : d < a.tmps.size := by rw [h.2.1]; exact hd'
    simp [Act.put, Array.getD, this]
  · rw [look_cons_ne e] at hi
    have := h.2.2 i u hi
    rw [← this]
    simp only [Act.put, Array.getD_eq_getD_getElem?, Array.getElem?_setIfInBounds]
    rw [if_neg e]
theorem RepT.put_none {E : Env} {t : Tm} {a : Act} {v : Value} (h : RepT E t a) : RepT E t (a.put none v) := h
def rdF (rd : Option Nat) : Fence := { Fence.wide with round := rd }
def marks (ms : List Nat) : List Deferred := ms.map fun D => { target := .collected D, args := #[] }
def markH (ms : List Nat) : Hp := ms.map fun D => (D, .deferred (some []))
theorem RepH.sub {E : Env} {H' H : Hp} {w : World} (hs : H'.Sublist H) (h : RepH E H w) : RepH E H' w :=
  ⟨h.below, h.base, h.nodup.sublist (hs.map _), fun b o hm => h.at_ b o (hs.subset hm)⟩
theorem RepH.un {E : Env} {H hid : Hp} {w : World} (h : RepH E (H ++ hid) w) : RepH E H w := h.sub (List.sublist_append_left H hid)
def post (E : Env) (ex : List Deferred) (hid : Hp) (Q : Exit → Tm → Hp → Prop) : Exit → Act → World → Prop :=
  fun e a w => ∃ ms t H, RepT E t a ∧ a.defers = marks ms ++ ex ∧ RepH E (H ++ (markH ms ++ hid)) w ∧ Q e t H
theorem post0 {E : Env} {ex : List Deferred} {hid H : Hp} {Q : Exit → Tm → Hp → Prop} {e : Exit} {a : Act} {w : World} {t : Tm} (hx : a.defers = ex) (ht : RepT E t a) (hh : RepH E (H ++ hid) w) (hq : Q e t H) : post E ex hid Q e a w := ⟨[], t, H, ht, hx, hh, hq⟩
theorem post_app {E : Env} {ex : List Deferred} {hid : Hp} {Q : Exit → Tm → Hp → Prop} {e : Exit} {a : Act} {w : World} {ms : List Nat} (h : post E (marks ms ++ ex) (markH ms ++ hid) Q e a w) : post E ex hid Q e a w := by
  obtain ⟨ns, t, H, h1, h2, h3, h4⟩ := h
  refine ⟨ns ++ ms, t, H, h1, ?_, ?_, h4⟩
  · rw [h2]; unfold marks; rw [List.map_append, List.append_assoc]
  · have e : markH (ns ++ ms) ++ hid = markH ns ++ (markH ms ++ hid) := by unfold markH; rw [List.map_append, List.append_assoc]
    rw [e]; exact h3
theorem post_mono {E : Env} {ex : List Deferred} {hid : Hp} {Q Q' : Exit → Tm → Hp → Prop} {e : Exit} {a : Act} {w : World} (h : post E ex hid Q e a w) (hq : ∀ e t H, Q e t H → Q' e t H) : post E ex hid Q' e a w := by
  obtain ⟨ms, t, H, h1, h2, h3, h4⟩ := h
  exact ⟨ms, t, H, h1, h2, h3, hq _ _ _ h4⟩
def noRF : Code → Bool
  | .seq a b => noRF a && noRF b
  | .cond _ a b => noRF a && noRF b
  | .block _ a => noRF a
  | .loop a => noRF a
  | .scope a => noRF a
  | .rangeFunc _ _ _ _ => false
  | _ => true
def okc (rd : Option Nat) (c : Code) : Prop := rd = none ∨ noRF c = true
def aw (P : Program) (E : Env) (c : Code) (Q : Exit → Tm → Hp → Prop) (t : Tm) (H : Hp) : Prop :=
  ∀ rd, okc rd c → ∀ (ex : List Deferred) (hid : Hp) (a : Act) (w : World), a.defers = ex → RepT E t a → RepH E (H ++ hid) w → c.wpIn (rdF rd) 0 P (post E ex hid Q) a w
def wpM (m : Option (Option Nat)) (P : Program) (ops : Array Oper) (Q : Exit → Act → World → Prop) (rest : List Oper) (a : Act) (w : World) : Prop :=
  match m with
  | none => wpList P ops Q rest a w
  | some rd => wpListIn (rdF rd) 0 P ops Q rest a w
def opM (m : Option (Option Nat)) (P : Program) (o : Oper) (a : Act) (w : World) (K : Act → World → Prop) (Q : Exit → Act → World → Prop) : Prop :=
  match m with
  | none => o.wp P a w K Q
  | some rd => o.wpIn (rdF rd) 0 P a w K Q
def okM (k : Bool) (m : Option (Option Nat)) : Prop := m = none → k = true
def ao (k : Bool) (P : Program) (E : Env) (ops : Array Oper) (Q : Exit → Tm → Hp → Prop) (rest : List Oper) (t : Tm) (H : Hp) : Prop :=
  ∀ m, okM k m → ∀ (ex : List Deferred) (hid : Hp) (a : Act) (w : World), a.defers = ex → RepT E t a → RepH E (H ++ hid) w → wpM m P ops (post E ex hid Q) rest a w
theorem wpM_nil {m : Option (Option Nat)} {P : Program} {ops : Array Oper} {Q : Exit → Act → World → Prop} {a : Act} {w : World} (h : Q .normal a w) : wpM m P ops Q [] a w := by
  cases m <;> exact h
theorem wpM_step {m : Option (Option Nat)} {P : Program} {ops : Array Oper} {Q : Exit → Act → World → Prop} {a : Act} {w : World} {o : Oper} {rest : List Oper}
    (h : ∀ K : Act → World → Prop, (∀ a w, wpM m P ops Q rest a w → K a w) → if Region.wanted o (yielded ops a.tmps) = true then opM m P o a w K Q else K (a.put o.dst undef) w) : wpM m P ops Q (o :: rest) a w := by
  cases m with
  | none => exact wpList_step fun K hK => h K hK
  | some rd =>
    refine wpListIn_step fun K hK => ?_
    have := h K hK
    split
    · rename_i hw
      rw [if_pos hw] at this
      exact this
    · rename_i hw
      rw [if_neg hw] at this
      exact ⟨fun _ _ => trivial, this⟩
theorem sem_of {rd : Option Nat} {P : Program} {a : Act} {o : Oper} {w w' : World} {n : Next} (h : (execOp a.eval o).run P w = .ok n w') (hn : ∀ d, n ≠ .defer d) : (o.semAt rd a.eval).run P w = .ok n w' := by
  rw [Oper.semAt_eq _ _ _ ?_]
  · exact h
  · intro c hc
    unfold execOp at h
    rw [hc] at h
    simp only [Sem.run_bind] at h
    cases hr : (resolve a.eval c o.type).run P w with
    | ok d w2 =>
      rw [hr] at h
      simp only [Result.andThen, Sem.run_pure] at h
      cases h
      exact hn _ rfl
    | halt x w2 =>
      rw [hr] at h
      simp only [Result.andThen] at h
      cases h
theorem opM_value {m : Option (Option Nat)} {P : Program} {o : Oper} {a : Act} {w w' : World} {K : Act → World → Prop} {Q : Exit → Act → World → Prop} {v : Value} (h : (execOp a.eval o).run P w = .ok (.value v) w') (hK : K (a.put o.dst v) w') : opM m P o a w K Q := by
  cases m with
  | none =>
    show o.wp P a w K Q
    unfold Oper.wp
    rw [h, Oper.upon_value]
    exact hK
  | some rd =>
    refine ⟨fun _ _ => trivial, ?_⟩
    rw [show (rdF rd).round = rd from rfl, sem_of h (fun d e => by cases e), Oper.uponIn_value]
    exact hK
theorem opM_skip {m : Option (Option Nat)} {P : Program} {o : Oper} {a : Act} {w w' : World} {K : Act → World → Prop} {Q : Exit → Act → World → Prop} (h : (execOp a.eval o).run P w = .ok .skip w') (hK : K (a.put o.dst undef) w') : opM m P o a w K Q := by
  cases m with
  | none =>
    show o.wp P a w K Q
    unfold Oper.wp
    rw [h, Oper.upon_skip]
    exact hK
  | some rd =>
    refine ⟨fun _ _ => trivial, ?_⟩
    rw [show (rdF rd).round = rd from rfl, sem_of h (fun d e => by cases e), Oper.uponIn_skip]
    exact hK
theorem callsIn_rd {rd : Option Nat} {n : Nat} {P : Program} {f : FuncId} {args : Array Value} {w : World} {R : Ending → World → Prop} (h : Calls P f args w R) : CallsIn (rdF rd) n P f args w R :=
  (callsIn_wide (n := n)).2 h
theorem opM_enter {m : Option (Option Nat)} {P : Program} {o : Oper} {a : Act} {w w' : World} {K : Act → World → Prop} {Q : Exit → Act → World → Prop} {f : FuncId} {args : Array Value} {R : Ending → World → Prop} (h : (execOp a.eval o).run P w = .ok (.enter f args) w') (hc : Calls P f args w' R)
    (hR : ∀ e w'', R e w'' → ∃ v, e = .returned v ∧ K (a.put o.dst v) w'') : opM m P o a w K Q := by
  cases m with
  | none =>
    show o.wp P a w K Q
    unfold Oper.wp
    rw [h, Oper.upon_enter]
    refine hc.mono fun e w'' hr => ?_
    obtain ⟨v, rfl, hk⟩ := hR e w'' hr
    exact hk
  | some rd =>
    refine ⟨fun _ _ => trivial, ?_⟩
    rw [show (rdF rd).round = rd from rfl, sem_of h (fun d e => by cases e), Oper.uponIn_enter]
    refine ⟨fun h => by simp [rdF, Fence.wide] at h, (callsIn_rd hc).mono fun e w'' hr => ?_⟩
    obtain ⟨v, rfl, hk⟩ := hR e w'' hr
    exact hk
def aq (P : Program) (E : Env) (ops : Array Oper) (Q : Exit → Tm → Hp → Prop) (rest : List Oper) (t : Tm) (H : Hp) : Prop :=
  ∀ (ex : List Deferred) (hid : Hp) (a : Act), a.defers = ex → RepT E t a → wpQuiet P ops (RepH E (H ++ hid)) (fun a' => a'.defers = ex ∧ ∃ t', RepT E t' a' ∧ Q .normal t' H) rest a
theorem opIn_of_quiet {P : Program} {rd : Option Nat} {C : World → Prop} {o : Oper} {a : Act} {K : Act → Prop} {K' : Act → World → Prop} {Q' : Exit → Act → World → Prop} {w : World} (hw : C w) (h : ∀ a w', C w' → K a → K' a w') (hh : o.quiet P a C K) : o.wpIn (rdF rd) 0 P a w K' Q' := by
  obtain ⟨v, h1, h2⟩ := hh
  have h3 := h1 w hw
  unfold Oper.quietAt at h3
  have key : ∀ {n : Next} {w' : World}, (execOp a.eval o).run P w = .ok n w' → (∀ d, n ≠ .defer d) → o.uponIn (rdF rd) 0 P a K' Q' (.ok n w') → o.wpIn (rdF rd) 0 P a w K' Q' := fun hr hn hu => ⟨fun _ _ => trivial, by rw [show (rdF rd).round = rd from rfl, sem_of hr hn]; exact hu⟩
  generalize hr : (execOp a.eval o).run P w = r at h3
  cases r with
  | ok n w' =>
    cases n <;> simp only [Oper.quietUpon] at h3
    case value u =>
      obtain ⟨e1, e2⟩ := h3
      subst e1 e2
      exact key hr (fun d e => by cases e) (h _ _ hw h2)
    case skip =>
      obtain ⟨e1, e2⟩ := h3
      subst e1 e2
      exact key hr (fun d e => by cases e) (h _ _ hw h2)
    case enter f args =>
      obtain ⟨e1, hc⟩ := h3
      subst e1
      refine key hr (fun d e => by cases e) ?_
      rw [Oper.uponIn_enter]
      refine ⟨fun h => by simp [rdF, Fence.wide] at h, (callsIn_rd hc).mono fun e w'' ⟨he, hw''⟩ => ?_⟩
      subst he
      exact h _ _ hw'' h2
  | halt x w' => simp only [Oper.quietUpon] at h3
theorem opAtIn_of_quiet {P : Program} {rd : Option Nat} {ops : Array Oper} {C : World → Prop} {i : Nat} {a : Act} {K : Act → Prop} {K' : Act → World → Prop} {Q' : Exit → Act → World → Prop} {w : World} (hC : C w) (h : ∀ a w', C w' → K a → K' a w') (hh : qOp P ops C i K a) : wpOpIn (rdF rd) 0 P ops Q' i K' a w := by
  unfold qOp at hh
  unfold wpOpIn
  split
  · rename_i ho; simp only [ho] at hh; exact h _ _ hC hh
  · rename_i o ho
    simp only [ho] at hh
    split
    · rename_i hw; simp only [hw, if_true] at hh; exact opIn_of_quiet hC h hh
    · rename_i hw; simp only [hw] at hh; exact ⟨fun _ _ => trivial, h _ _ hC hh⟩
theorem anyIn_of_quiet {P : Program} {rd : Option Nat} {md : Region.Mode} {ops : Array Oper} {C : World → Prop} {Q : Act → Prop} {Q' : Exit → Act → World → Prop} (hQ : ∀ a w, C w → Q a → Q' .normal a w) : ∀ (fuel : Nat) (listed : Array Bool) (a : Act) (w : World), C w →
    wpAnyQ P md ops C Q fuel listed a → wpAnyIn (rdF rd) 0 P md ops Q' fuel listed a w
  | 0, _, _, _, hw, h => ⟨h.1, hQ _ _ hw h.2⟩
  | fuel + 1, _, _, _, hw, h => ⟨fun h0 => hQ _ _ hw (h.1 h0), fun i hi => opAtIn_of_quiet hw (fun a' w' hw' => anyIn_of_quiet hQ fuel _ a' w' hw') (h.2 i hi)⟩
section code
variable {P : Program} {E : Env} {Q : Exit → Tm → Hp → Prop} {t : Tm} {H : Hp} {k : Bool}
theorem aw_mono {c : Code} {Q' : Exit → Tm → Hp → Prop} (h : aw P E c Q t H) (hq : ∀ e t H, Q e t H → Q' e t H) : aw P E c Q' t H :=
  fun rd ok ex hid a w hx ht hh => wpIn_mono (h rd ok ex hid a w hx ht hh) fun _ _ _ hp => post_mono hp hq
def andThen (P : Program) (E : Env) (y : Code) (Q : Exit → Tm → Hp → Prop) : Exit → Tm → Hp → Prop
  | .normal, t, H => aw P E y Q t H
  | e, t, H => Q e t H
theorem okc_and {rd : Option Nat} {x y : Bool} (h : rd = none ∨ (x && y) = true) : (rd = none ∨ x = true) ∧ (rd = none ∨ y = true) := by
  rcases h with h | h
  · exact ⟨.inl h, .inl h⟩
  · rw [Bool.and_eq_true] at h
    exact ⟨.inr h.1, .inr h.2⟩
theorem aw_seq {x y : Code} (h : aw P E x (andThen P E y Q) t H) : aw P E (.seq x y) Q t H := by
  intro rd ok ex hid a w hx ht hh
  obtain ⟨ok1, ok2⟩ := okc_and ok
  refine wpIn_seq (wpIn_mono (h rd ok1 ex hid a w hx ht hh) fun e a w hq => ?_)
  obtain ⟨ms, t', H', r1, rx, r2, q⟩ := hq
  cases e with
  | normal => exact wpIn_mono (q rd ok2 _ _ a w rx r1 r2) fun _ _ _ hp => post_app hp
  | _ => exact ⟨ms, t', H', r1, rx, r2, q⟩
def inBlock (id : Nat) (Q : Exit → Tm → Hp → Prop) : Exit → Tm → Hp → Prop
  | .exit id', t, H => bif Nat.beq id' id then Q .normal t H else Q (.exit id') t H
  | e, t, H => Q e t H
theorem aw_block {id : Nat} {c : Code} (h : aw P E c (inBlock id Q) t H) : aw P E (.block id c) Q t H := by
  intro rd ok ex hid a w hx ht hh
  refine wpIn_block (wpIn_mono (h rd ok ex hid a w hx ht hh) fun e a w hq => ?_)
  obtain ⟨ms, t', H', r1, rx, r2, q⟩ := hq
  cases e with
  | exit id' =>
    simp only [inBlock] at q
    simp only [Exit.inBlock]
    by_cases e : id' = id
    · subst e
      simp at q
      rw [if_pos rfl]
      exact ⟨ms, t', H', r1, rx, r2, q⟩
    · have : Nat.beq id' id = false := by
        cases hb : Nat.beq id' id with
        | false => rfl
        | true => exact absurd (Nat.eq_of_beq_eq_true hb) e
      rw [this] at q
      rw [if_neg e]
      exact ⟨ms, t', H', r1, rx, r2, q⟩
  | _ => exact ⟨ms, t', H', r1, rx, r2, q⟩
theorem at_normal {y : Code} (h : aw P E y Q t H) : andThen P E y Q .normal t H := h
theorem at_exit {y : Code} {id : Nat} (h : Q (.exit id) t H) : andThen P E y Q (.exit id) t H := h
theorem at_ret {y : Code} (h : Q .ret t H) : andThen P E y Q .ret t H := h
theorem ib_normal {id : Nat} (h : Q .normal t H) : inBlock id Q .normal t H := h
theorem ib_ret {id : Nat} (h : Q .ret t H) : inBlock id Q .ret t H := h
theorem ib_exit {id : Nat} (h : Q .normal t H) : inBlock id Q (.exit id) t H := by simpa [inBlock] using h
theorem ib_other {id id' : Nat} (h : Q (.exit id') t H) (hn : Nat.beq id' id = false := by rfl) : inBlock id Q (.exit id') t H := by simpa [inBlock, hn] using h
theorem aw_skip (h : Q .normal t H) : aw P E .skip Q t H := fun _ _ _ _ _ _ hx ht hh => wpIn_skip (post0 hx ht hh h)
theorem aw_exit {id : Nat} (h : Q (.exit id) t H) : aw P E (.exit id) Q t H := fun _ _ _ _ _ _ hx ht hh => wpIn_exit (post0 hx ht hh h)
theorem aw_ret (h : Q .ret t H) : aw P E .ret Q t H := fun _ _ _ _ _ _ hx ht hh => wpIn_ret (post0 hx ht hh h)
theorem aw_cond {c : Operand} {x y : Code} {b : Bool} (hc : ev t c = some (.bool b)) (ht : b = true → aw P E x Q t H) (hf : b = false → aw P E y Q t H) :
    aw P E (.cond c x y) Q t H :=
  fun rd ok ex hid a w hx r1 r2 => wpIn_cond_split (ev_eval r1 hc) (fun h => ht h rd (okc_and ok).1 ex hid a w hx r1 r2) (fun h => hf h rd (okc_and ok).2 ex hid a w hx r1 r2)
theorem aw_cond_t {c : Operand} {x y : Code} {v : Value} (hc0 : ev t c = some v) (hv : v = .bool true) (h : aw P E x Q t H) : aw P E (.cond c x y) Q t H :=
  aw_cond (hv ▸ hc0) (fun _ => h) (fun h => by cases h)
theorem aw_cond_f {c : Operand} {x y : Code} {v : Value} (hc0 : ev t c = some v) (hv : v = .bool false) (h : aw P E y Q t H) : aw P E (.cond c x y) Q t H :=
  aw_cond (hv ▸ hc0) (fun h => by cases h) (fun _ => h)
theorem aw_region {id : Nat} {l : List Oper} (h : ao false P E l.toArray Q l t H) : aw P E (.region id l.toArray false) Q t H :=
  fun rd _ ex hid a w hx ht hh => wpIn_region_lit (h (some rd) (fun e => by cases e) ex hid a w hx ht hh)
theorem RepH.drew {w : World} (h : RepH E H w) : RepH E H { w with drawn := w.drawn + 1 } :=
  ⟨Below.drew h.below, h.base, h.nodup, h.at_⟩
theorem aw_draw {id : Nat} {l : List Oper} (hm : P.follows .mixedOrders = true) (hB : Region.lexB .any l.toArray = true)
    (h : aq P E l.toArray Q l t H) : aw P E (.region id l.toArray true) Q t H := by
  intro rd _ ex hid a w hx ht hh
  simp only [Region.lexB, Bool.and_eq_true] at hB
  refine wpIn_region_any hm (anyIn_of_quiet (C := RepH E (H ++ hid)) (Q := fun a' => a'.defers = ex ∧ ∃ t', RepT E t' a' ∧ Q .normal t' H) (fun a' w' hw' ⟨h1, t', h2, h3⟩ => post0 h1 h2 hw' h3) _ _ _ _ hh.drew ?_)
  have := wpAnyQ_lex (md := .any) hB.1 l.toArray.toList 0 (Array.replicate l.toArray.size false) a (by simp) (by simpa using hB.2) (by simpa using h ex hid a hx ht)
  simpa using this
theorem aw_loop {c : Code} (I : Nat → Tm → Hp → Prop) (m : Nat) (h0 : I m t H)
    (round : ∀ m t H, I m t H → aw P E c (fun e t' H' => match e with | .normal => ∃ m', m' < m ∧ I m' t' H' | e => Q e t' H') t H) : aw P E (.loop c) Q t H := by
  intro rd ok ex hid a w hx ht hh b k cs hro hb hr
  have key : ∀ (m : Nat) (t : Tm) (H : Hp) (ex : List Deferred) (hid : Hp) (a : Act) (w : World), I m t H → a.defers = ex → RepT E t a → RepH E (H ++ hid) w →
      ∃ e a' w', post E ex hid Q e a' w' ∧ ArrivesIn (Machine.fenced P (rdF rd)) P (lone (b.atR a (.code c :: .inLoop c :: k)) cs w) b k cs e a' w' := by
    intro m
    induction m using Nat.strongRecOn with
    | _ m ih =>
      intro t H ex hid a w hI hx ht hh
      obtain ⟨e, a1, w1, hq, harr⟩ := round m t H hI rd ok ex hid a w hx ht hh b (.inLoop c :: k) cs hro hb hr
      obtain ⟨ms, t', H', r1, rx, r2, q⟩ := hq
      cases e with
      | normal =>
        obtain ⟨m', hm, hI'⟩ := q
        obtain ⟨e2, a2, w2, hq2, harr2⟩ := ih m' hm t' H' _ _ a1 w1 hI' rx r1 r2
        exact ⟨e2, a2, w2, post_app hq2, .of_steps (StepsIn.trans harr (.one (fenced_calm hb hr rfl) stepR_inLoop)) harr2⟩
      | exit id => exact ⟨_, a1, w1, ⟨ms, t', H', r1, rx, r2, q⟩, .pass (x := .inLoop c) rfl (fun _ _ => .inl (by simp)) harr⟩
      | goto l => exact ⟨_, a1, w1, ⟨ms, t', H', r1, rx, r2, q⟩, .pass (x := .inLoop c) rfl (fun _ _ => .inl (by simp)) harr⟩
      | ret => exact ⟨_, a1, w1, ⟨ms, t', H', r1, rx, r2, q⟩, .pass (x := .inLoop c) rfl (fun _ _ => .inl (by simp)) harr⟩
      | panic ch => exact ⟨_, a1, w1, ⟨ms, t', H', r1, rx, r2, q⟩, .pass (x := .inLoop c) rfl (fun _ _ => .inl (by simp)) harr⟩
      | outgrown => exact ⟨_, a1, w1, ⟨ms, t', H', r1, rx, r2, q⟩, .pass (x := .inLoop c) rfl (fun _ _ => .inl (by simp)) harr⟩
  obtain ⟨e, a', w', hq, harr⟩ := key m t H ex hid a w h0 hx ht hh
  exact ⟨e, a', w', hq, .of_steps (.one (fenced_calm hb hr rfl) stepR_loop) harr⟩
end code
def aggB (P : Program) (t : TypeId) : Bool :=
  match P.underlying t with
  | some (.struct _) | some (.array _ _) => true
  | some _ => false
  | none => true
class TyC (P : Program) (t : TypeId) : Prop where
  size : (P.info? t).map (·.size) = some 1
  agg : aggB P t = false
class TyA (P : Program) (t : TypeId) (n : outParam Nat) : Prop where
  size : (P.info? t).map (·.size) = some n
  agg : (P.underlying t).isSome = true ∧ aggB P t = true
class TyZ (P : Program) (t : TypeId) (z : outParam Value) : Prop where
  zero : (P.info? t).map (·.zero) = some (some z)
class TyU (P : Program) (t : TypeId) (d : outParam TypeDesc) : Prop where
  und : P.underlying t = some d
section ops
variable {P : Program} {E : Env} {Q : Exit → Tm → Hp → Prop} {t : Tm} {H : Hp} {ops : Array Oper} {rest : List Oper} {k : Bool}
def evL (t : Tm) : List Operand → Option (List Value)
  | [] => some []
  | x :: xs => match ev t x with
    | some v => match evL t xs with
      | some vs => some (v :: vs)
      | none => none
    | none => none
def evP (t : Tm) : List (Nat × Operand) → Option (List (Nat × Value))
  | [] => some []
  | (i, x) :: xs => match ev t x with
    | some v => match evP t xs with
      | some vs => some ((i, v) :: vs)
      | none => none
    | none => none
def sl : Nat → Nat → List Value → Option (List Value)
  | 0, 0, _ => some []
  | 0, n + 1, v :: cs => match sl 0 n cs with
    | some r => some (v :: r)
    | none => none
  | 0, _ + 1, [] => none
  | off + 1, n, _ :: cs => sl off n cs
  | _ + 1, _, [] => none
def setO : List Value → Nat → Value → Option (List Value)
  | [], _, _ => none
  | _ :: cs, 0, v => some (v :: cs)
  | c :: cs, i + 1, v => match setO cs i v with
    | some r => some (c :: r)
    | none => none
def setAllO : List Value → Nat → List Value → Option (List Value)
  | cs, _, [] => some cs
  | cs, off, v :: vs => match setO cs off v with
    | some r => setAllO r (off + 1) vs
    | none => none
theorem evL_eval {E : Env} {t : Tm} {a : Act} (ht : RepT E t a) : ∀ (xs : List Operand) (vs : List Value), evL t xs = some vs → xs.map a.eval = vs
  | [], vs, h => by simp only [evL, Option.some.injEq] at h; subst h; rfl
  | x :: xs, vs, h => by
    simp only [evL] at h
    cases h1 : ev t x with
    | none => rw [h1] at h; cases h
    | some v =>
      rw [h1] at h
      cases h2 : evL t xs with
      | none => rw [h2] at h; cases h
      | some us =>
        rw [h2] at h
        simp only [Option.some.injEq] at h
        subst h
        simp only [List.map_cons, evL_eval ht xs us h2, ev_eval ht h1]
theorem evP_eval {E : Env} {t : Tm} {a : Act} (ht : RepT E t a) : ∀ (xs : List (Nat × Operand)) (vs : List (Nat × Value)), evP t xs = some vs → xs.map (fun (i, x) => (i, a.eval x)) = vs
  | [], vs, h => by simp only [evP, Option.some.injEq] at h; subst h; rfl
  | (i, x) :: xs, vs, h => by
    simp only [evP] at h
    cases h1 : ev t x with
    | none => rw [h1] at h; cases h
    | some v =>
      rw [h1] at h
      cases h2 : evP t xs with
      | none => rw [h2] at h; cases h
      | some us =>
        rw [h2] at h
        simp only [Option.some.injEq] at h
        subst h
        simp only [List.map_cons, evP_eval ht xs us h2, ev_eval ht h1]
theorem sl_spec : ∀ (off n : Nat) (cs vs : List Value), sl off n cs = some vs → (cs.drop off).take n = vs ∧ vs.length = n
  | 0, 0, cs, vs, h => by simp only [sl, Option.some.injEq] at h; subst h; simp
  | 0, n + 1, v :: cs, vs, h => by
    simp only [sl] at h
    cases h1 : sl 0 n cs with
    | none => rw [h1] at h; cases h
    | some r =>
      rw [h1] at h
      simp only [Option.some.injEq] at h
      subst h
      have := sl_spec 0 n cs r h1
      simp only [List.drop_zero] at this
      simp [this.1, this.2]
  | 0, n + 1, [], vs, h => by simp [sl] at h
  | off + 1, n, c :: cs, vs, h => by
    simp only [sl] at h
    simpa using sl_spec off n cs vs h
  | off + 1, n, [], vs, h => by simp [sl] at h
theorem setO_spec : ∀ (cs : List Value) (i : Nat) (v : Value) (ds : List Value), setO cs i v = some ds → i < cs.length ∧ cs.set i v = ds
  | [], _, _, _, h => by simp [setO] at h
  | c :: cs, 0, v, ds, h => by simp only [setO, Option.some.injEq] at h; subst h; simp
  | c :: cs, i + 1, v, ds, h => by
    simp only [setO] at h
    cases h1 : setO cs i v with
    | none => rw [h1] at h; cases h
    | some r =>
      rw [h1] at h
      simp only [Option.some.injEq] at h
      subst h
      have := setO_spec cs i v r h1
      simp [this.1, this.2]
def dstL : List Oper → Nat → Option Nat
  | [], _ => none
  | o :: _, 0 => o.dst
  | _ :: l, n + 1 => dstL l n
def dstAt (ops : Array Oper) (j : Nat) : Option Nat := dstL ops.toList j
theorem dstL_eq : ∀ (l : List Oper) (j : Nat), dstL l j = (l[j]?).bind (·.dst)
  | [], _ => rfl
  | _ :: _, 0 => rfl
  | _ :: l, n + 1 => by simpa [dstL] using dstL_eq l n
theorem dstAt_eq {ops : Array Oper} {j : Nat} {d : Option Nat} (h : dstAt ops j = d) : (ops[j]?).bind (·.dst) = d := by
  rw [← h, dstAt, dstL_eq]; simp
def Wants (ops : Array Oper) (t : Tm) : Option (Nat × Bool) → Prop
  | none => True
  | some (j, b) => ∃ d v, dstAt ops j = some d ∧ look t d = some v ∧ v = .bool b
def Not (ops : Array Oper) (t : Tm) : Option (Nat × Bool) → Prop
  | none => False
  | some (j, true) => ∃ d v, dstAt ops j = some d ∧ look t d = some v ∧ (v = .bool false ∨ v = undef)
  | some (j, false) => ∃ d v, dstAt ops j = some d ∧ look t d = some v ∧ (v = .bool true ∨ v = undef)
theorem Not.to {ops : Array Oper} {t : Tm} {j : Nat} {b : Bool} (h : Not ops t (some (j, b))) : ∃ d, dstAt ops j = some d ∧ (look t d = some (.bool (!b)) ∨ look t d = some undef) := by
  cases b with
  | true =>
    obtain ⟨d, v, h1, h2, h3⟩ := h
    rcases h3 with rfl | rfl
    · exact ⟨d, h1, .inl h2⟩
    · exact ⟨d, h1, .inr h2⟩
  | false =>
    obtain ⟨d, v, h1, h2, h3⟩ := h
    rcases h3 with rfl | rfl
    · exact ⟨d, h1, .inl h2⟩
    · exact ⟨d, h1, .inr h2⟩
theorem getElem?_of_getD {a : Array Value} {d : Nat} {v : Value} (h : a.getD d undef = v) (hv : v ≠ undef) : a[d]? = some v := by
  by_cases hd : d < a.size
  · simp [Array.getD, hd] at h
    simp [hd, h]
  · simp [Array.getD, hd] at h
    exact absurd h.symm hv
theorem wants_of {a : Act} {gd : Option (Nat × Bool)} {dst : Option Tmp} {op : Op} {ty : TypeId} {pos : String} {af : Array Edge} (ht : RepT E t a) (h : Wants ops t gd) :
    Region.wanted ⟨dst, op, ty, pos, af, gd⟩ (yielded ops a.tmps) = true := by
  cases gd with
  | none => rfl
  | some x =>
    obtain ⟨j, b⟩ := x
    obtain ⟨d, _, h1, h2, rfl⟩ := h
    have h3 := getElem?_of_getD (ht.2.2 d _ h2) (by intro h; cases h)
    have h4 : (ops[j]?).bind (·.dst) = some d := dstAt_eq h1
    simp only [Region.wanted, yielded, h4, Option.bind_some, h3]
    simp
theorem not_of {a : Act} {gd : Option (Nat × Bool)} {dst : Option Tmp} {op : Op} {ty : TypeId} {pos : String} {af : Array Edge} (ht : RepT E t a) (h : Not ops t gd) :
    Region.wanted ⟨dst, op, ty, pos, af, gd⟩ (yielded ops a.tmps) = false := by
  cases gd with
  | none => exact h.elim
  | some x =>
    obtain ⟨j, b⟩ := x
    obtain ⟨d, h1, h2⟩ := h.to
    have h4 : (ops[j]?).bind (·.dst) = some d := dstAt_eq h1
    rcases h2 with h2 | h2
    · have h3 := getElem?_of_getD (ht.2.2 d _ h2) (by intro h; cases h)
      simp only [Region.wanted, yielded, h4, Option.bind_some, h3]
      cases b <;> rfl
    · have h3 := ht.2.2 d _ h2
      by_cases hd : d < a.tmps.size
      · have : a.tmps[d]? = some undef := by
          simp [Array.getD, hd] at h3
          simp [hd, h3]
        simp only [Region.wanted, yielded, h4, Option.bind_some, this]
        rfl
      · have : a.tmps[d]? = none := by simp [hd]
        simp only [Region.wanted, yielded, h4, Option.bind_some, this]
        rfl
def OpV (P : Program) (E : Env) (op : Op) (ty : TypeId) (t : Tm) (H : Hp) (v : Value) : Prop :=
  ∀ a w, RepT E t a → RepH E H w → ∀ o : Oper, o.op = op → o.type = ty → (execOp a.eval o).run P w = .ok (.value v) w
theorem ao_nil (h : Q .normal t H) : ao k P E ops Q [] t H := fun _ _ _ _ _ _ hx ht hh => wpM_nil (post0 hx ht hh h)
theorem ao_val {d : Nat} {op : Op} {ty : TypeId} {pos : String} {af : Array Edge} {gd : Option (Nat × Bool)} {v : Value}
    (hw : Wants ops t gd) (hv : OpV P E op ty t H v) (hd : Nat.blt d E.n = true) (h : ao k P E ops Q rest ((d, v) :: t) H) :
    ao k P E ops Q (⟨some d, op, ty, pos, af, gd⟩ :: rest) t H := by
  intro m hm ex hid a w hx ht hh
  refine wpM_step fun K hK => ?_
  rw [if_pos (wants_of ht hw)]
  exact opM_value (hv a w ht hh.un _ rfl rfl) (hK _ _ (h m hm ex hid _ w hx (ht.put hd) hh))
theorem ao_skip {d : Nat} {op : Op} {ty : TypeId} {pos : String} {af : Array Edge} {gd : Option (Nat × Bool)}
    (hw : Not ops t gd) (hd : Nat.blt d E.n = true) (h : ao k P E ops Q rest ((d, undef) :: t) H) :
    ao k P E ops Q (⟨some d, op, ty, pos, af, gd⟩ :: rest) t H := by
  intro m hm ex hid a w hx ht hh
  refine wpM_step fun K hK => ?_
  rw [if_neg (by rw [not_of ht hw]; exact Bool.false_ne_true)]
  exact hK _ _ (h m hm ex hid _ w hx (ht.put hd) hh)
theorem ao_skip0 {op : Op} {ty : TypeId} {pos : String} {af : Array Edge} {gd : Option (Nat × Bool)}
    (hw : Not ops t gd) (h : ao k P E ops Q rest t H) : ao k P E ops Q (⟨none, op, ty, pos, af, gd⟩ :: rest) t H := by
  intro m hm ex hid a w hx ht hh
  refine wpM_step fun K hK => ?_
  rw [if_neg (by rw [not_of ht hw]; exact Bool.false_ne_true)]
  exact hK _ _ (h m hm ex hid _ w hx ht hh)
theorem ao_bool {d : Nat} {b : Bool} (hd : look t d = some (.bool b)) (ht : b = true → ao k P E ops Q rest ((d, .bool true) :: t) H) (hf : b = false → ao k P E ops Q rest ((d, .bool false) :: t) H) :
    ao k P E ops Q rest t H := by
  have key : ∀ {b : Bool}, look t d = some (.bool b) → ∀ {a}, RepT E t a → RepT E ((d, .bool b) :: t) a := by
    intro b hb a h
    refine ⟨h.1, h.2.1, fun i v hi => ?_⟩
    by_cases e : d = i
    · subst e; rw [look_cons_eq] at hi; cases hi; exact h.2.2 d _ hb
    · rw [look_cons_ne e] at hi; exact h.2.2 i v hi
  intro m hm ex hid a w hx h1 h2
  cases b with
  | true => exact ht rfl m hm ex hid a w hx (key hd h1) h2
  | false => exact hf rfl m hm ex hid a w hx (key hd h1) h2
theorem ao_gbool {d j : Nat} {b g : Bool} {dst : Option Tmp} {op : Op} {ty : TypeId} {pos : String} {af : Array Edge} (_hj : dstAt ops j = some d) (hd : look t d = some (.bool b))
    (ht : b = true → ao k P E ops Q (⟨dst, op, ty, pos, af, some (j, g)⟩ :: rest) ((d, .bool true) :: t) H) (hf : b = false → ao k P E ops Q (⟨dst, op, ty, pos, af, some (j, g)⟩ :: rest) ((d, .bool false) :: t) H) :
    ao k P E ops Q (⟨dst, op, ty, pos, af, some (j, g)⟩ :: rest) t H := ao_bool hd ht hf
theorem ao_glit {d j : Nat} {b g : Bool} {v : Value} {dst : Option Tmp} {op : Op} {ty : TypeId} {pos : String} {af : Array Edge} (_hj : dstAt ops j = some d) (_hd : look t d = some v) (_hv : v = .bool b)
    (h : ao k P E ops Q (⟨dst, op, ty, pos, af, some (j, g)⟩ :: rest) t H) : ao k P E ops Q (⟨dst, op, ty, pos, af, some (j, g)⟩ :: rest) t H := h
theorem aq_glit {d j : Nat} {b g : Bool} {v : Value} {dst : Option Tmp} {op : Op} {ty : TypeId} {pos : String} {af : Array Edge} (_hj : dstAt ops j = some d) (_hd : look t d = some v) (_hv : v = .bool b)
    (h : aq P E ops Q (⟨dst, op, ty, pos, af, some (j, g)⟩ :: rest) t H) : aq P E ops Q (⟨dst, op, ty, pos, af, some (j, g)⟩ :: rest) t H := h
theorem RepH.below' {w w' : World} (h : RepH E H w) (hb : Below w.heap.size w w') : RepH E H w' := by
  refine ⟨h.below.trans (hb.mono (Nat.le_trans h.base h.below.size)), h.base, h.nodup, fun b o hm => ?_⟩
  obtain ⟨h1, h2⟩ := h.at_ b o hm
  refine ⟨h1, ?_⟩
  rw [hb.block b ?_]
  · exact h2
  · exact (Array.getElem?_eq_some_iff.1 h2).1
def OpCall (P : Program) (E : Env) (op : Op) (ty : TypeId) (t : Tm) (f : FuncId) (args : Array Value) : Prop :=
  ∀ a w, RepT E t a → ∀ o : Oper, o.op = op → o.type = ty → (execOp a.eval o).run P w = .ok (.enter f args) w
theorem ao_call {d : Nat} {op : Op} {ty : TypeId} {pos : String} {af : Array Edge} {gd : Option (Nat × Bool)} {v : Value} {f : FuncId} {args : Array Value}
    (hw : Wants ops t gd) (hv : OpCall P E op ty t f args) (hd : Nat.blt d E.n = true)
    (hc : ∀ w, RepH E H w → Calls P f args w fun e w' => e = .returned v ∧ Below w.heap.size w w')
    (h : ao k P E ops Q rest ((d, v) :: t) H) :
    ao k P E ops Q (⟨some d, op, ty, pos, af, gd⟩ :: rest) t H := by
  intro m hm ex hid a w hx ht hh
  refine wpM_step fun K hK => ?_
  rw [if_pos (wants_of ht hw)]
  exact opM_enter (hv a w ht _ rfl rfl) (hc w hh.un) fun e w' ⟨he, hb⟩ => ⟨v, he, hK _ _ (h m hm ex hid _ w' hx (ht.put hd) (hh.below' hb))⟩
theorem ao_callx {d : Nat} {op : Op} {ty : TypeId} {pos : String} {af : Array Edge} {gd : Option (Nat × Bool)} {f : FuncId} {args : Array Value}
    (hw : Wants ops t gd) (hv : OpCall P E op ty t f args) (hd : Nat.blt d E.n = true)
    (hc : ∀ hid w, RepH E (H ++ hid) w → Calls P f args w fun e w' => ∃ v H', e = .returned v ∧ RepH E (H' ++ hid) w' ∧ ao k P E ops Q rest ((d, v) :: t) H') :
    ao k P E ops Q (⟨some d, op, ty, pos, af, gd⟩ :: rest) t H := by
  intro m hm ex hid a w hx ht hh
  refine wpM_step fun K hK => ?_
  rw [if_pos (wants_of ht hw)]
  exact opM_enter (hv a w ht _ rfl rfl) (hc hid w hh) fun e w' ⟨v, H', he, hb, h⟩ => ⟨v, he, hK _ _ (h m hm ex hid _ w' hx (ht.put hd) hb)⟩
theorem aq_nil (h : Q .normal t H) : aq P E ops Q [] t H := fun _ _ _ hx ht => ⟨hx, t, ht, h⟩
theorem aq_val {d : Nat} {op : Op} {ty : TypeId} {pos : String} {af : Array Edge} {gd : Option (Nat × Bool)} {v : Value}
    (hw : Wants ops t gd) (hv : OpV P E op ty t H v) (hd : Nat.blt d E.n = true) (h : aq P E ops Q rest ((d, v) :: t) H) :
    aq P E ops Q (⟨some d, op, ty, pos, af, gd⟩ :: rest) t H := by
  intro ex hid a hx ht
  refine wpQuiet_step fun K hK => ?_
  rw [if_pos (wants_of ht hw)]
  refine ⟨v, fun w hh => ?_, hK _ (h ex hid _ hx (ht.put hd))⟩
  unfold Oper.quietAt
  rw [hv a w ht hh.un _ rfl rfl]
  exact ⟨rfl, rfl⟩
theorem aq_skip {d : Nat} {op : Op} {ty : TypeId} {pos : String} {af : Array Edge} {gd : Option (Nat × Bool)}
    (hw : Not ops t gd) (hd : Nat.blt d E.n = true) (h : aq P E ops Q rest ((d, undef) :: t) H) :
    aq P E ops Q (⟨some d, op, ty, pos, af, gd⟩ :: rest) t H := by
  intro ex hid a hx ht
  refine wpQuiet_step fun K hK => ?_
  rw [if_neg (by rw [not_of ht hw]; exact Bool.false_ne_true)]
  exact hK _ (h ex hid _ hx (ht.put hd))
theorem aq_bool {d : Nat} {b : Bool} (hd : look t d = some (.bool b)) (ht : b = true → aq P E ops Q rest ((d, .bool true) :: t) H) (hf : b = false → aq P E ops Q rest ((d, .bool false) :: t) H) :
    aq P E ops Q rest t H := by
  have key : ∀ {b : Bool}, look t d = some (.bool b) → ∀ {a}, RepT E t a → RepT E ((d, .bool b) :: t) a := by
    intro b hb a h
    refine ⟨h.1, h.2.1, fun i v hi => ?_⟩
    by_cases e : d = i
    · subst e; rw [look_cons_eq] at hi; cases hi; exact h.2.2 d _ hb
    · rw [look_cons_ne e] at hi; exact h.2.2 i v hi
  intro ex hid a hx h1
  cases b with
  | true => exact ht rfl ex hid a hx (key hd h1)
  | false => exact hf rfl ex hid a hx (key hd h1)
theorem aq_gbool {d j : Nat} {b g : Bool} {dst : Option Tmp} {op : Op} {ty : TypeId} {pos : String} {af : Array Edge} (_hj : dstAt ops j = some d) (hd : look t d = some (.bool b))
    (ht : b = true → aq P E ops Q (⟨dst, op, ty, pos, af, some (j, g)⟩ :: rest) ((d, .bool true) :: t) H) (hf : b = false → aq P E ops Q (⟨dst, op, ty, pos, af, some (j, g)⟩ :: rest) ((d, .bool false) :: t) H) :
    aq P E ops Q (⟨dst, op, ty, pos, af, some (j, g)⟩ :: rest) t H := aq_bool hd ht hf
theorem aq_call {d : Nat} {op : Op} {ty : TypeId} {pos : String} {af : Array Edge} {gd : Option (Nat × Bool)} {v : Value} {f : FuncId} {args : Array Value}
    (hw : Wants ops t gd) (hv : OpCall P E op ty t f args) (hd : Nat.blt d E.n = true)
    (hc : ∀ w, RepH E H w → Calls P f args w fun e w' => e = .returned v ∧ Below w.heap.size w w')
    (h : aq P E ops Q rest ((d, v) :: t) H) :
    aq P E ops Q (⟨some d, op, ty, pos, af, gd⟩ :: rest) t H := by
  intro ex hid a hx ht
  refine wpQuiet_step fun K hK => ?_
  rw [if_pos (wants_of ht hw)]
  refine ⟨v, fun w hh => ?_, hK _ (h ex hid _ hx (ht.put hd))⟩
  unfold Oper.quietAt
  rw [hv a w ht _ rfl rfl]
  exact ⟨rfl, (hc w hh.un).mono fun e w' ⟨he, hb⟩ => ⟨he, hh.below' hb⟩⟩
theorem RepH.alloc {w : World} (h : RepH E H w) (o : Obj) : RepH E ((w.heap.size, o) :: H) (w.alloc o) := by
  have hB : E.B ≤ w.heap.size := Nat.le_trans h.base h.below.size
  refine ⟨h.below.alloc hB o, h.base, ?_, fun b p hm => ?_⟩
  · simp only [List.map_cons, List.nodup_cons]
    refine ⟨fun hm => ?_, h.nodup⟩
    obtain ⟨x, hx, e⟩ := List.mem_map.1 hm
    have := (Array.getElem?_eq_some_iff.1 (h.at_ x.1 x.2 hx).2).1
    omega
  · rcases List.mem_cons.1 hm with e | hm
    · cases e
      exact ⟨hB, by show (w.heap.push o)[w.heap.size]? = some o; simp⟩
    · obtain ⟨h1, h2⟩ := h.at_ b p hm
      refine ⟨h1, ?_⟩
      have hlt := (Array.getElem?_eq_some_iff.1 h2).1
      rw [Below.heap_alloc _ _ _ hlt]
      exact h2
def OpN (P : Program) (E : Env) (op : Op) (ty : TypeId) (t : Tm) (H : Hp) (o : Obj) (v : Nat → Value) : Prop :=
  ∀ a w, RepT E t a → RepH E H w → ∀ oo : Oper, oo.op = op → oo.type = ty → (execOp a.eval oo).run P w = .ok (.value (v w.heap.size)) (w.alloc o)
theorem ao_new {d : Nat} {op : Op} {ty : TypeId} {pos : String} {af : Array Edge} {gd : Option (Nat × Bool)} {o : Obj} {v : Nat → Value}
    (hw : Wants ops t gd) (hv : OpN P E op ty t H o v) (hd : Nat.blt d E.n = true)
    (h : ∀ b, ao k P E ops Q rest ((d, v b) :: t) ((b, o) :: H)) :
    ao k P E ops Q (⟨some d, op, ty, pos, af, gd⟩ :: rest) t H := by
  intro m hm ex hid a w hx ht hh
  refine wpM_step fun K hK => ?_
  rw [if_pos (wants_of ht hw)]
  exact opM_value (hv a w ht hh.un _ rfl rfl) (hK _ _ (h _ m hm ex hid _ _ hx (ht.put hd) (hh.alloc o)))
def Has (H : Hp) (b : Nat) (o : Obj) : Prop := (b, o) ∈ H
theorem RepH.has {w : World} {b : Nat} {o : Obj} (h : RepH E H w) (hb : Has H b o) : E.B ≤ b ∧ w.heap[b]? = some o := h.at_ b o hb
theorem Has.head {b : Nat} {o : Obj} : Has ((b, o) :: H) b o := List.mem_cons_self
theorem Has.tail {b c : Nat} {o p : Obj} (h : Has H b o) : Has ((c, p) :: H) b o := List.mem_cons_of_mem _ h
def Upd : Hp → Nat → Obj → Hp → Prop
  | x :: H, b, o, y :: H' => (x.1 = b ∧ y = (b, o) ∧ H' = H) ∨ (y = x ∧ Upd H b o H')
  | _, _, _, _ => False
theorem Upd.head (b : Nat) (o o' : Obj) (H : Hp) : Upd ((b, o) :: H) b o' ((b, o') :: H) := .inl ⟨rfl, rfl, rfl⟩
theorem Upd.tail {H H' : Hp} {b : Nat} {o' : Obj} (x : Nat × Obj) (h : Upd H b o' H') : Upd (x :: H) b o' (x :: H') := .inr ⟨rfl, h⟩
theorem Upd.app : ∀ {H H' : Hp} {b : Nat} {o : Obj} {R : Hp}, Upd H b o H' → Upd (H ++ R) b o (H' ++ R)
  | [], _, _, _, _, h => h.elim
  | _ :: _, [], _, _, _, h => h.elim
  | x :: H, y :: H', b, o, R, h => by
    rcases h with ⟨h1, h2, h3⟩ | ⟨h1, h2⟩
    · subst h3; exact .inl ⟨h1, h2, rfl⟩
    · exact .inr ⟨h1, h2.app⟩
theorem Upd.keys : ∀ {H H' : Hp} {b : Nat} {o : Obj}, Upd H b o H' → H'.map (·.1) = H.map (·.1)
  | [], _, _, _, h => h.elim
  | _ :: _, [], _, _, h => h.elim
  | x :: H, y :: H', b, o, h => by
    rcases h with ⟨h1, h2, h3⟩ | ⟨h1, h2⟩
    · subst h2 h3; simp [h1]
    · subst h1; simp [h2.keys]
theorem Upd.mem_key : ∀ {H H' : Hp} {b : Nat} {o : Obj}, Upd H b o H' → b ∈ H.map (·.1)
  | [], _, _, _, h => h.elim
  | _ :: _, [], _, _, h => h.elim
  | x :: H, y :: H', b, o, h => by
    rcases h with ⟨h1, h2, h3⟩ | ⟨h1, h2⟩
    · subst h1; exact List.mem_cons_self
    · exact List.mem_cons_of_mem _ h2.mem_key
theorem Upd.mem : ∀ {H H' : Hp} {b : Nat} {o : Obj}, Upd H b o H' → (H.map (·.1)).Nodup → ∀ c p, (c, p) ∈ H' → (c = b ∧ p = o) ∨ (c ≠ b ∧ (c, p) ∈ H)
  | [], _, _, _, h => h.elim
  | _ :: _, [], _, _, h => h.elim
  | x :: H, y :: H', b, o, h => by
    intro hn c p hm
    simp only [List.map_cons, List.nodup_cons] at hn
    rcases h with ⟨h1, h2, h3⟩ | ⟨h1, h2⟩
    · subst h2 h3
      rcases List.mem_cons.1 hm with e | hm2
      · cases e; exact .inl ⟨rfl, rfl⟩
      · refine .inr ⟨fun e => ?_, List.mem_cons_of_mem _ hm2⟩
        subst e
        rw [h1] at hn
        exact hn.1 (List.mem_map.2 ⟨(_, p), hm2, rfl⟩)
    · subst h1
      rcases List.mem_cons.1 hm with e | hm2
      · refine .inr ⟨fun e2 => ?_, by rw [← e]; exact List.mem_cons_self⟩
        subst e
        subst e2
        exact hn.1 h2.mem_key
      · rcases h2.mem hn.2 c p hm2 with h | ⟨h1, h3⟩
        · exact .inl h
        · exact .inr ⟨h1, List.mem_cons_of_mem _ h3⟩
theorem RepH.upd {w : World} {H' : Hp} {b : Nat} {o : Obj} (h : RepH E H w) (hu : Upd H b o H') : RepH E H' { w with heap := w.heap.setIfInBounds b o } := by
  have hb : E.B ≤ b := by
    obtain ⟨x, hx, e⟩ := List.mem_map.1 hu.mem_key
    have := (h.at_ x.1 x.2 hx).1
    omega
  refine ⟨h.below.trans ⟨rfl, rfl, rfl, by simp, fun k hk => by rw [Array.getElem?_setIfInBounds]; rw [if_neg (by omega)]⟩, h.base, by rw [hu.keys]; exact h.nodup, fun c p hm => ?_⟩
  rcases hu.mem h.nodup c p hm with ⟨rfl, rfl⟩ | ⟨hne, hm'⟩
  · obtain ⟨x, hx, e⟩ := List.mem_map.1 hu.mem_key
    have hlt := (Array.getElem?_eq_some_iff.1 (h.at_ x.1 x.2 hx).2).1
    have hlt' : c < w.heap.size := by omega
    refine ⟨hb, ?_⟩
    show (w.heap.setIfInBounds c p)[c]? = some p
    rw [Array.getElem?_setIfInBounds_self_of_lt hlt']
  · obtain ⟨h1, h2⟩ := h.at_ c p hm'
    refine ⟨h1, ?_⟩
    show (w.heap.setIfInBounds b o)[c]? = some p
    rw [Array.getElem?_setIfInBounds_ne (Ne.symm hne)]
    exact h2
def OpW (P : Program) (E : Env) (op : Op) (ty : TypeId) (t : Tm) (H : Hp) (b : Nat) (o : Obj) (v : Next) : Prop :=
  ∀ a w, RepT E t a → RepH E H w → ∀ oo : Oper, oo.op = op → oo.type = ty → (execOp a.eval oo).run P w = .ok v { w with heap := w.heap.setIfInBounds b o }
theorem ao_store {op : Op} {ty : TypeId} {pos : String} {af : Array Edge} {gd : Option (Nat × Bool)} {b : Nat} {o : Obj} {H' : Hp}
    (hw : Wants ops t gd) (hv : OpW P E op ty t H b o .skip) (hu : Upd H b o H')
    (h : ao k P E ops Q rest t H') : ao k P E ops Q (⟨none, op, ty, pos, af, gd⟩ :: rest) t H := by
  intro m hm ex hid a w hx ht hh
  refine wpM_step fun K hK => ?_
  rw [if_pos (wants_of ht hw)]
  exact opM_skip (hv a w ht hh.un _ rfl rfl) (hK _ _ (h m hm ex hid _ _ hx ht (hh.upd hu.app)))
theorem ao_valw {d : Nat} {op : Op} {ty : TypeId} {pos : String} {af : Array Edge} {gd : Option (Nat × Bool)} {b : Nat} {o : Obj} {H' : Hp} {v : Value}
    (hw : Wants ops t gd) (hv : OpW P E op ty t H b o (.value v)) (hd : Nat.blt d E.n = true) (hu : Upd H b o H')
    (h : ao k P E ops Q rest ((d, v) :: t) H') : ao k P E ops Q (⟨some d, op, ty, pos, af, gd⟩ :: rest) t H := by
  intro m hm ex hid a w hx ht hh
  refine wpM_step fun K hK => ?_
  rw [if_pos (wants_of ht hw)]
  exact opM_value (hv a w ht hh.un _ rfl rfl) (hK _ _ (h m hm ex hid _ _ hx (ht.put hd) (hh.upd hu.app)))
end ops
def tmFrom : Nat → List Value → Tm
  | _, [] => []
  | k, v :: l => (k, v) :: tmFrom (k + 1) l
def tm0 (args : List Value) : Tm := tmFrom 0 args
def ret1 (r : Nat) (R : Value → Hp → Prop) : Exit → Tm → Hp → Prop
  | .ret, t, H | .normal, t, H => ∃ v, look t r = some v ∧ R v H
  | _, _, _ => False
def ret2 (r s : Nat) (R : Value → Value → Hp → Prop) : Exit → Tm → Hp → Prop
  | .ret, t, H | .normal, t, H => ∃ v u, look t r = some v ∧ look t s = some u ∧ R v u H
  | _, _, _ => False
theorem r1_ret {r : Nat} {R : Value → Hp → Prop} {t : Tm} {H : Hp} {v : Value} (h : look t r = some v) (hr : R v H) : ret1 r R .ret t H := ⟨v, h, hr⟩
theorem r1_normal {r : Nat} {R : Value → Hp → Prop} {t : Tm} {H : Hp} {v : Value} (h : look t r = some v) (hr : R v H) : ret1 r R .normal t H := ⟨v, h, hr⟩
theorem r2_ret {r s : Nat} {R : Value → Value → Hp → Prop} {t : Tm} {H : Hp} {v u : Value} (h : look t r = some v) (h2 : look t s = some u) (hr : R v u H) : ret2 r s R .ret t H := ⟨v, u, h, h2, hr⟩
theorem r2_normal {r s : Nat} {R : Value → Value → Hp → Prop} {t : Tm} {H : Hp} {v u : Value} (h : look t r = some v) (h2 : look t s = some u) (hr : R v u H) : ret2 r s R .normal t H := ⟨v, u, h, h2, hr⟩
def ret3 (r s u : Nat) (R : Value → Value → Value → Hp → Prop) : Exit → Tm → Hp → Prop
  | .ret, t, H | .normal, t, H => ∃ v1 v2 v3, look t r = some v1 ∧ look t s = some v2 ∧ look t u = some v3 ∧ R v1 v2 v3 H
  | _, _, _ => False
theorem r3_ret {r s u : Nat} {R : Value → Value → Value → Hp → Prop} {t : Tm} {H : Hp} {v1 v2 v3 : Value} (h : look t r = some v1) (h2 : look t s = some v2) (h3 : look t u = some v3) (hr : R v1 v2 v3 H) : ret3 r s u R .ret t H := ⟨v1, v2, v3, h, h2, h3, hr⟩
theorem r3_normal {r s u : Nat} {R : Value → Value → Value → Hp → Prop} {t : Tm} {H : Hp} {v1 v2 v3 : Value} (h : look t r = some v1) (h2 : look t s = some v2) (h3 : look t u = some v3) (hr : R v1 v2 v3 H) : ret3 r s u R .normal t H := ⟨v1, v2, v3, h, h2, h3, hr⟩
theorem repT_start {n : Nat} {B : Nat} {w0 : World} (args : List Value) (h : args.length ≤ n) :
    RepT ⟨B, w0, n⟩ (tm0 args) { tmps := args.toArray ++ Array.replicate (n - args.toArray.size) undef, defers := [] } := by
  refine ⟨trivial, by simp; omega, fun i v hi => ?_⟩
  have key : ∀ (l : List Value) (k i : Nat) (v : Value), look (tmFrom k l) i = some v → k ≤ i ∧ l[i - k]? = some v := by
    intro l
    induction l with
    | nil => intro k i v h; simp [look, tmFrom] at h
    | cons x l ih =>
      intro k i v h
      simp only [tmFrom] at h
      by_cases e : k = i
      · subst e
        rw [look_cons_eq] at h
        cases h
        simp
      · rw [look_cons_ne e] at h
        obtain ⟨h1, h2⟩ := ih _ _ _ h
        refine ⟨by omega, ?_⟩
        have : i - k = (i - (k + 1)) + 1 := by omega
        rw [this]
        simpa using h2
  obtain ⟨-, h2⟩ := key args 0 i v hi
  simp only [Nat.sub_zero] at h2
  have hlt := (List.getElem?_eq_some_iff.1 h2).1
  rw [Array.getD_eq_getD_getElem?, Array.getElem?_append_left (by simpa using hlt)]
  simp [h2]
theorem leaves_marks {P : Program} {fn : Func} {tmps : Array Value} {R : Ending → World → Prop} {E : Env} {v : Value} : ∀ (ms : List Nat) (H : Hp) (w : World), RepH E (H ++ markH ms) w →
    (∀ w', RepH E H w' → (results fn tmps).run P w' = .ok v w' ∧ R (.returned v) w') → LeavesInM (rdF none) 0 P fn tmps R (marks ms) .returning w
  | [], H, w, hh, h => by
    obtain ⟨h1, h2⟩ := h w (by simpa [markH] using hh)
    exact ⟨v, h1, h2⟩
  | D :: ms, H, w, hh, h => by
    have hp : (H ++ markH (D :: ms)).Perm ((D, .deferred (some [])) :: (H ++ markH ms)) := List.perm_middle
    have hh2 : RepH E ((D, .deferred (some [])) :: (H ++ markH ms)) w := ⟨hh.below, hh.base, (hp.map _).nodup_iff.1 hh.nodup, fun b o hm => hh.at_ b o (hp.mem_iff.2 hm)⟩
    have hD := (hh2.at_ D _ List.mem_cons_self).2
    refine ⟨by simp, .inl ⟨D, _, rfl, run_takeDeferred hD, ?_⟩⟩
    have hu : RepH E ((D, .deferred none) :: (H ++ markH ms)) (w.putObj D (.deferred none)) := hh2.upd (Upd.head _ _ _ _)
    exact leaves_marks ms H _ (hu.sub (List.sublist_cons_self _ _)) h
theorem calls_of_aw {P : Program} {f : FuncId} {fn : Func} {c : Code} {args : List Value} {B : Nat} {w0 w : World} {H : Hp} {R : Ending → World → Prop} {n : Nat} {Q : Exit → Tm → Hp → Prop}
    (hf : P.funcs[f]? = some fn) (hb : fn.body = some c) (hn : fn.ntmps = n) (hl : Nat.ble args.length n = true)
    (h : aw P ⟨B, w0, n⟩ c Q (tm0 args) H) (hid : Hp) (hh : RepH ⟨B, w0, n⟩ (H ++ hid) w)
    (hQ : ∀ e a t' H', RepT ⟨B, w0, n⟩ t' a → Q e t' H' → (e = .normal ∨ e = .ret) ∧ ∃ v, ∀ w', RepH ⟨B, w0, n⟩ (H' ++ hid) w' → (results fn a.tmps).run P w' = .ok v w' ∧ R (.returned v) w') : Calls P f args.toArray w R := by
  refine (callsIn_wide (n := 0)).1 (callsIn_of_wp_marks hf hb trivial ?_)
  rw [hn]
  refine wpIn_mono (h none (.inl rfl) [] hid _ w rfl (repT_start args (by simpa [Nat.ble_eq] using hl)) hh) fun e a w' hq => ?_
  obtain ⟨ms, t', H', r1, rx, r2, q⟩ := hq
  obtain ⟨he, v, hv⟩ := hQ e a t' H' r1 q
  have key : LeavesInM (rdF none) 0 P fn a.tmps R a.defers .returning w' := by
    rw [rx, List.append_nil]
    refine leaves_marks ms (H' ++ hid) w' ?_ hv
    have hp : ((H' ++ hid) ++ markH ms).Perm (H' ++ (markH ms ++ hid)) := by
      rw [List.append_assoc]
      exact List.Perm.append_left H' List.perm_append_comm
    exact ⟨r2.below, r2.base, (hp.map _).nodup_iff.2 r2.nodup, fun b o hm => r2.at_ b o (hp.mem_iff.1 hm)⟩
  rcases he with rfl | rfl
  · exact key
  · exact key
theorem calls_of_aw0 {P : Program} {f : FuncId} {fn : Func} {c : Code} {args : List Value} {w : World} {R : Ending → World → Prop} {n : Nat} {Q : Exit → Tm → Hp → Prop}
    (hf : P.funcs[f]? = some fn) (hb : fn.body = some c) (hn : fn.ntmps = n) (hl : Nat.ble args.length n = true)
    (h : aw P ⟨w.heap.size, w, n⟩ c Q (tm0 args) [])
    (hQ : ∀ e a t' H', RepT ⟨w.heap.size, w, n⟩ t' a → Q e t' H' → (e = .normal ∨ e = .ret) ∧ ∃ v, ∀ w', RepH ⟨w.heap.size, w, n⟩ H' w' → (results fn a.tmps).run P w' = .ok v w' ∧ R (.returned v) w') : Calls P f args.toArray w R :=
  calls_of_aw hf hb hn hl h [] ⟨Below.refl _ _, Nat.le_refl _, by simp, fun _ _ h => by cases h⟩ fun e a t' H' r1 q => by
    obtain ⟨he, v, hv⟩ := hQ e a t' H' r1 q
    exact ⟨he, v, fun w' hw => hv w' (by simpa using hw)⟩
theorem calls1 {P : Program} {f : FuncId} {fn : Func} {c : Code} {args : List Value} {w : World} {R : Ending → World → Prop} {n r : Nat}
    (hf : P.funcs[f]? = some fn) (hb : fn.body = some c) (hn : fn.ntmps = n) (hl : Nat.ble args.length n = true) (hr : fn.results = #[.tmp r])
    (h : aw P ⟨w.heap.size, w, n⟩ c (ret1 r fun v H => ∀ w', RepH ⟨w.heap.size, w, n⟩ H w' → R (.returned v) w') (tm0 args) []) : Calls P f args.toArray w R :=
  calls_of_aw0 hf hb hn hl h fun e a t' H' r1 q => by
    cases e with
    | normal =>
      obtain ⟨v, h1, h2⟩ := q
      exact ⟨.inl rfl, v, fun w' hw => ⟨by rw [results_tmp hr, r1.2.2 r v h1], h2 _ hw⟩⟩
    | ret =>
      obtain ⟨v, h1, h2⟩ := q
      exact ⟨.inr rfl, v, fun w' hw => ⟨by rw [results_tmp hr, r1.2.2 r v h1], h2 _ hw⟩⟩
    | exit _ => exact q.elim
    | goto _ => exact q.elim
    | panic _ => exact q.elim
    | outgrown => exact q.elim
theorem calls2 {P : Program} {f : FuncId} {fn : Func} {c : Code} {args : List Value} {w : World} {R : Ending → World → Prop} {n r s : Nat}
    (hf : P.funcs[f]? = some fn) (hb : fn.body = some c) (hn : fn.ntmps = n) (hl : Nat.ble args.length n = true) (hr : fn.results = #[.tmp r, .tmp s])
    (h : aw P ⟨w.heap.size, w, n⟩ c (ret2 r s fun v u H => ∀ w', RepH ⟨w.heap.size, w, n⟩ H w' → R (.returned (.tuple #[v, u])) w') (tm0 args) []) : Calls P f args.toArray w R :=
  calls_of_aw0 hf hb hn hl h fun e a t' H' r1 q => by
    cases e with
    | normal =>
      obtain ⟨v, u, h1, h2, h3⟩ := q
      exact ⟨.inl rfl, _, fun w' hw => ⟨by rw [results_tmp2 hr, r1.2.2 r v h1, r1.2.2 s u h2], h3 _ hw⟩⟩
    | ret =>
      obtain ⟨v, u, h1, h2, h3⟩ := q
      exact ⟨.inr rfl, _, fun w' hw => ⟨by rw [results_tmp2 hr, r1.2.2 r v h1, r1.2.2 s u h2], h3 _ hw⟩⟩
    | exit _ => exact q.elim
    | goto _ => exact q.elim
    | panic _ => exact q.elim
    | outgrown => exact q.elim
def Sub (t' t : Tm) : Prop := ∀ i v, look t' i = some v → look t i = some v
theorem sub_nil {t : Tm} : Sub [] t := fun i v h => by simp [look] at h
theorem sub_cons {i : Nat} {v : Value} {t' t : Tm} (h : look t i = some v) (hs : Sub t' t) : Sub ((i, v) :: t') t := by
  intro j u hj
  by_cases e : i = j
  · subst e; rw [look_cons_eq] at hj; cases hj; exact h
  · rw [look_cons_ne e] at hj; exact hs j u hj
theorem Sub.rep {E : Env} {t' t : Tm} {a : Act} (hs : Sub t' t) (h : RepT E t a) : RepT E t' a := ⟨h.1, h.2.1, fun i v hi => h.2.2 i v (hs i v hi)⟩
theorem hs_app (l : Hp) {A B : Hp} (h : A.Sublist B) : (l ++ A).Sublist (l ++ B) := List.Sublist.append_left h l
theorem hs_app0 (l : Hp) {A B : Hp} (h : A.Sublist B) : A.Sublist (l ++ B) := h.trans (List.sublist_append_right l B)
theorem hs_keep (x : Nat × Obj) {A B : Hp} (h : A.Sublist B) : (x :: A).Sublist (x :: B) := List.Sublist.cons_cons x h
theorem hs_skip (x : Nat × Obj) {A B : Hp} (h : A.Sublist B) : A.Sublist (x :: B) := List.Sublist.cons x h
def loopQ (I : Nat → Tm → Hp → Prop) (m : Nat) (Q : Exit → Tm → Hp → Prop) : Exit → Tm → Hp → Prop
  | .normal, t, H => ∃ m' t' H', m' < m ∧ Sub t' t ∧ H'.Sublist H ∧ I m' t' H'
  | e, t, H => Q e t H
section loops
variable {P : Program} {E : Env} {Q : Exit → Tm → Hp → Prop} {t : Tm} {H : Hp} {k : Bool}
theorem lq_normal {I : Nat → Tm → Hp → Prop} {m m' : Nat} {t' : Tm} (hI : I m' t' H) (hm : m' < m) (hs : Sub t' t) : loopQ I m Q .normal t H := ⟨m', t', H, hm, hs, List.Sublist.refl _, hI⟩
theorem lq_normal' {I : Nat → Tm → Hp → Prop} {m m' : Nat} {t' : Tm} {H' : Hp} (hI : I m' t' H') (hm : m' < m) (hs : Sub t' t) (hh : H'.Sublist H) : loopQ I m Q .normal t H := ⟨m', t', H', hm, hs, hh, hI⟩
theorem aw_subH {c : Code} {H' : Hp} (hs : H'.Sublist H) (h : aw P E c Q t H') : aw P E c Q t H := fun rd ok ex hid a w hx ht hh => h rd ok ex hid a w hx ht (hh.sub (List.Sublist.append_right hs hid))
theorem lq_exit {I : Nat → Tm → Hp → Prop} {m id : Nat} (h : Q (.exit id) t H) : loopQ I m Q (.exit id) t H := h
theorem lq_ret {I : Nat → Tm → Hp → Prop} {m : Nat} (h : Q .ret t H) : loopQ I m Q .ret t H := h
theorem aw_sub {c : Code} {t' : Tm} (hs : Sub t' t) (h : aw P E c Q t' H) : aw P E c Q t H := fun rd ok ex hid a w hx ht hh => h rd ok ex hid a w hx (hs.rep ht) hh
theorem aw_for {c : Code} {t0 : Tm} (I : Nat → Tm → Hp → Prop) {m : Nat} (hI : I m t0 H) (hs : Sub t0 t)
    (round : ∀ m t H, I m t H → aw P E c (loopQ I m Q) t H) : aw P E (.loop c) Q t H :=
  aw_sub hs (aw_loop (fun m t H => ∃ t' H', Sub t' t ∧ H'.Sublist H ∧ I m t' H') m ⟨t0, H, fun _ _ h => h, List.Sublist.refl _, hI⟩ fun m t H ⟨t', H', hs, hh, hI⟩ =>
    aw_sub hs (aw_subH hh (aw_mono (round m t' H' hI) fun e t2 H2 hq => by
      cases e with
      | normal =>
        obtain ⟨m', t3, H3, h1, h2, h3, h4⟩ := hq
        exact ⟨m', h1, t3, H3, h2, h3, h4⟩
      | _ => exact hq)))
theorem aw_forH {c : Code} {t0 : Tm} {H0 : Hp} (I : Nat → Tm → Hp → Prop) {m : Nat} (hI : I m t0 H0) (hs : Sub t0 t) (hh : H0.Sublist H)
    (round : ∀ m t H, I m t H → aw P E c (loopQ I m Q) t H) : aw P E (.loop c) Q t H := aw_subH hh (aw_for I hI hs round)
theorem ao_gt {ops : Array Oper} {rest : List Oper} {d j : Nat} {b g : Bool} {dst : Option Tmp} {op : Op} {ty : TypeId} {pos : String} {af : Array Edge} (_hj : dstAt ops j = some d) (hd : look t d = some (.bool b)) (hb : b = true)
    (h : ao k P E ops Q (⟨dst, op, ty, pos, af, some (j, g)⟩ :: rest) ((d, .bool true) :: t) H) : ao k P E ops Q (⟨dst, op, ty, pos, af, some (j, g)⟩ :: rest) t H := ao_bool hd (fun _ => h) (fun e => by rw [hb] at e; cases e)
theorem ao_gf {ops : Array Oper} {rest : List Oper} {d j : Nat} {b g : Bool} {dst : Option Tmp} {op : Op} {ty : TypeId} {pos : String} {af : Array Edge} (_hj : dstAt ops j = some d) (hd : look t d = some (.bool b)) (hb : b = false)
    (h : ao k P E ops Q (⟨dst, op, ty, pos, af, some (j, g)⟩ :: rest) ((d, .bool false) :: t) H) : ao k P E ops Q (⟨dst, op, ty, pos, af, some (j, g)⟩ :: rest) t H := ao_bool hd (fun e => by rw [hb] at e; cases e) (fun _ => h)
theorem aq_gt {ops : Array Oper} {rest : List Oper} {d j : Nat} {b g : Bool} {dst : Option Tmp} {op : Op} {ty : TypeId} {pos : String} {af : Array Edge} (_hj : dstAt ops j = some d) (hd : look t d = some (.bool b)) (hb : b = true)
    (h : aq P E ops Q (⟨dst, op, ty, pos, af, some (j, g)⟩ :: rest) ((d, .bool true) :: t) H) : aq P E ops Q (⟨dst, op, ty, pos, af, some (j, g)⟩ :: rest) t H := aq_bool hd (fun _ => h) (fun e => by rw [hb] at e; cases e)
theorem aq_gf {ops : Array Oper} {rest : List Oper} {d j : Nat} {b g : Bool} {dst : Option Tmp} {op : Op} {ty : TypeId} {pos : String} {af : Array Edge} (_hj : dstAt ops j = some d) (hd : look t d = some (.bool b)) (hb : b = false)
    (h : aq P E ops Q (⟨dst, op, ty, pos, af, some (j, g)⟩ :: rest) ((d, .bool false) :: t) H) : aq P E ops Q (⟨dst, op, ty, pos, af, some (j, g)⟩ :: rest) t H := aq_bool hd (fun e => by rw [hb] at e; cases e) (fun _ => h)
theorem aw_ct {c : Operand} {x y : Code} {b : Bool} (hc : ev t c = some (.bool b)) (hb : b = true) (h : aw P E x Q t H) : aw P E (.cond c x y) Q t H :=
  aw_cond hc (fun _ => h) (fun e => by rw [hb] at e; cases e)
theorem aw_cf {c : Operand} {x y : Code} {b : Bool} (hc : ev t c = some (.bool b)) (hb : b = false) (h : aw P E y Q t H) : aw P E (.cond c x y) Q t H :=
  aw_cond hc (fun e => by rw [hb] at e; cases e) (fun _ => h)
def cutQ (t1 : Tm) (H1 : Hp) (Q : Exit → Tm → Hp → Prop) : Exit → Tm → Hp → Prop
  | .normal, t, H => Sub t1 t ∧ H = H1
  | e, t, H => Q e t H
theorem cq_normal {t1 : Tm} (hs : Sub t1 t) : cutQ t1 H Q .normal t H := ⟨hs, rfl⟩
theorem aw_cut_at {id : Nat} {ops : Array Oper} {b : Bool} {y : Code} (t1 : Tm) (h1 : aw P E (.region id ops b) (cutQ t1 H Q) t H) (h2 : aw P E y Q t1 H) : aw P E (.seq (.region id ops b) y) Q t H :=
  aw_seq (aw_mono h1 fun e t' H' hq => by
    cases e with
    | normal => obtain ⟨hs, rfl⟩ := hq; exact aw_sub hs h2
    | _ => exact hq)
theorem sub_cons' {i : Nat} {u v : Value} {t' t : Tm} (h : look t i = some u) (e : v = u) (hs : Sub t' t) : Sub ((i, v) :: t') t := sub_cons (by rw [e]; exact h) hs
theorem aw_is {c : Code} (h : aw P E c Q t H) : aw P E c Q t H := h
theorem ao_is {ops : Array Oper} {rest : List Oper} (h : ao k P E ops Q rest t H) : ao k P E ops Q rest t H := h
theorem aq_is {ops : Array Oper} {rest : List Oper} (h : aq P E ops Q rest t H) : aq P E ops Q rest t H := h
end loops
attribute [irreducible] Has Upd cutQ loopQ aw ao aq andThen inBlock ret1 ret2 ret3
end Sx
end Go.Proofs.YtkjjlppfomidbaaGreat
/- Sxv: What single operations yield in the symbolic walk, over whatever program; conditions: none. -/
namespace Go.Proofs.YtkjjlppfomidbaaGreat
namespace Sx
open Go Go.RowKit
abbrev S (l : List UInt8) : Value := .string ⟨l.toArray⟩
abbrev I (n : Int) : Value := .int .i64 n
section
variable {P : Program} {E : Env} {t : Tm} {H : Hp} {ty : TypeId}
theorem ov_move {x : Operand} {v : Value} (hx : ev t x = some v) : OpV P E (.move x) ty t H v := by
  intro a w ht _ o ho _
  simp only [execOp, ho, ev_eval ht hx]; rfl
theorem ov_assign {x : Operand} {v : Value} (hx : ev t x = some v) : OpV P E (.assign x) ty t H v := by
  intro a w ht _ o ho _
  simp only [execOp, ho, ev_eval ht hx]; rfl
theorem ov_pick_t {c x y : Operand} {u v : Value} (hc0 : ev t c = some u) (hu : u = .bool true) (hx : ev t x = some v) : OpV P E (.pick c x y) ty t H v := by
  intro a w ht _ o ho _
  subst hu
  simp only [execOp, ho, ev_eval ht hc0, ev_eval ht hx]; rfl
theorem ov_pick_f {c x y : Operand} {u v : Value} (hc0 : ev t c = some u) (hu : u = .bool false) (hx : ev t y = some v) : OpV P E (.pick c x y) ty t H v := by
  intro a w ht _ o ho _
  subst hu
  simp only [execOp, ho, ev_eval ht hc0, ev_eval ht hx]; rfl
theorem ov_of {op : Op} {v : Value} (h : ∀ a w, RepT E t a → RepH E H w → ∀ o : Oper, o.op = op → o.type = ty → ∃ s : Sem Value, execOp a.eval o = (do pure (.value (← s))) ∧ s.run P w = .ok v w) : OpV P E op ty t H v := by
  intro a w ht hh o ho hty
  obtain ⟨s, h1, h2⟩ := h a w ht hh o ho hty
  rw [h1, Sem.run_bind, h2]
  rfl
theorem ov_int {op : BinOp} {x y : Operand} {xt yt : TypeId} {k : IntKind} {p q : Int} {v : Value} (hx : ev t x = some (.int k p)) (hy : ev t y = some (.int k q))
    (h : ∀ w, (binOp op xt (.int k p) (.int k q)).run P w = .ok v w) : OpV P E (.binOp op xt x y yt) ty t H v := by
  refine ov_of fun a w ht _ o ho _ => ⟨_, by simp only [execOp, ho]; rfl, ?_⟩
  rw [ev_eval ht hx, ev_eval ht hy, Sem.run_bind]
  have : (eqGuard op xt x y (.int k p) (.int k q)).run P w = .ok () w := by
    unfold eqGuard
    split <;> rfl
  rw [this]
  exact h w
theorem ov_add {x y : Operand} {xt yt : TypeId} {k : IntKind} {p q : Int} (hx : ev t x = some (.int k p)) (hy : ev t y = some (.int k q)) : OpV P E (.binOp .add xt x y yt) ty t H (.int k (k.wrap (p + q))) :=
  ov_int hx hy fun w => by simp [binOp, Op.intArith]
theorem ov_sub {x y : Operand} {xt yt : TypeId} {k : IntKind} {p q : Int} (hx : ev t x = some (.int k p)) (hy : ev t y = some (.int k q)) : OpV P E (.binOp .sub xt x y yt) ty t H (.int k (k.wrap (p - q))) :=
  ov_int hx hy fun w => by simp [binOp, Op.intArith]
theorem ov_mul {x y : Operand} {xt yt : TypeId} {k : IntKind} {p q : Int} (hx : ev t x = some (.int k p)) (hy : ev t y = some (.int k q)) : OpV P E (.binOp .mul xt x y yt) ty t H (.int k (k.wrap (p * q))) :=
  ov_int hx hy fun w => by simp [binOp, Op.intArith]
theorem ov_quo {x y : Operand} {xt yt : TypeId} {k : IntKind} {p q : Int} (hx : ev t x = some (.int k p)) (hy : ev t y = some (.int k q)) (h0 : q ≠ 0) : OpV P E (.binOp .quo xt x y yt) ty t H (.int k (k.wrap (p.tdiv q))) :=
  ov_int hx hy fun w => by simp [binOp, Op.intDiv, h0]
theorem ov_rem {x y : Operand} {xt yt : TypeId} {k : IntKind} {p q : Int} (hx : ev t x = some (.int k p)) (hy : ev t y = some (.int k q)) (h0 : q ≠ 0) : OpV P E (.binOp .rem xt x y yt) ty t H (.int k (p.tmod q)) :=
  ov_int hx hy fun w => by simp [binOp, Op.intDiv, h0]
theorem ov_eql {x y : Operand} {xt yt : TypeId} {k : IntKind} {p q : Int} (hx : ev t x = some (.int k p)) (hy : ev t y = some (.int k q)) : OpV P E (.binOp .eql xt x y yt) ty t H (.bool (p == q)) :=
  ov_int hx hy fun w => by simp [binOp, Op.intCmp]
theorem ov_neq {x y : Operand} {xt yt : TypeId} {k : IntKind} {p q : Int} (hx : ev t x = some (.int k p)) (hy : ev t y = some (.int k q)) : OpV P E (.binOp .neq xt x y yt) ty t H (.bool (p != q)) :=
  ov_int hx hy fun w => by simp [binOp, Op.intCmp]
theorem ov_lss {x y : Operand} {xt yt : TypeId} {k : IntKind} {p q : Int} (hx : ev t x = some (.int k p)) (hy : ev t y = some (.int k q)) : OpV P E (.binOp .lss xt x y yt) ty t H (.bool (decide (p < q))) :=
  ov_int hx hy fun w => by simp [binOp, Op.intCmp]
theorem ov_leq {x y : Operand} {xt yt : TypeId} {k : IntKind} {p q : Int} (hx : ev t x = some (.int k p)) (hy : ev t y = some (.int k q)) : OpV P E (.binOp .leq xt x y yt) ty t H (.bool (decide (p ≤ q))) :=
  ov_int hx hy fun w => by simp [binOp, Op.intCmp]
theorem ov_gtr {x y : Operand} {xt yt : TypeId} {k : IntKind} {p q : Int} (hx : ev t x = some (.int k p)) (hy : ev t y = some (.int k q)) : OpV P E (.binOp .gtr xt x y yt) ty t H (.bool (decide (q < p))) :=
  ov_int hx hy fun w => by simp [binOp, Op.intCmp]
theorem ov_geq {x y : Operand} {xt yt : TypeId} {k : IntKind} {p q : Int} (hx : ev t x = some (.int k p)) (hy : ev t y = some (.int k q)) : OpV P E (.binOp .geq xt x y yt) ty t H (.bool (decide (q ≤ p))) :=
  ov_int hx hy fun w => by simp [binOp, Op.intCmp]
theorem ov_add_in {x y : Operand} {xt yt : TypeId} {p q : Int} (hx : ev t x = some (I p)) (hy : ev t y = some (I q)) (h : -9223372036854775808 ≤ p + q ∧ p + q ≤ 9223372036854775807) : OpV P E (.binOp .add xt x y yt) ty t H (I (p + q)) := by
  have := ov_add (P := P) (E := E) (H := H) (ty := ty) (xt := xt) (yt := yt) hx hy
  rwa [IntWalk.i64_in _ h] at this
theorem ov_sub_in {x y : Operand} {xt yt : TypeId} {p q : Int} (hx : ev t x = some (I p)) (hy : ev t y = some (I q)) (h : -9223372036854775808 ≤ p - q ∧ p - q ≤ 9223372036854775807) : OpV P E (.binOp .sub xt x y yt) ty t H (I (p - q)) := by
  have := ov_sub (P := P) (E := E) (H := H) (ty := ty) (xt := xt) (yt := yt) hx hy
  rwa [IntWalk.i64_in _ h] at this
theorem ov_not {x : Operand} {xt : TypeId} {b : Bool} (hx : ev t x = some (.bool b)) : OpV P E (.unOp .not xt x) ty t H (.bool (!b)) := by
  refine ov_of fun a w ht _ o ho _ => ⟨_, by simp only [execOp, ho]; rfl, ?_⟩
  rw [ev_eval ht hx]; rfl
theorem ov_neg {x : Operand} {xt : TypeId} {k : IntKind} {n : Int} (hx : ev t x = some (.int k n)) : OpV P E (.unOp .neg xt x) ty t H (.int k (k.wrap (0 - n))) := by
  refine ov_of fun a w ht _ o ho _ => ⟨_, by simp only [execOp, ho]; rfl, ?_⟩
  rw [ev_eval ht hx]; rfl
theorem ov_str {op : BinOp} {x y : Operand} {xt yt : TypeId} {p q : List UInt8} {v : Value} (hx : ev t x = some (S p)) (hy : ev t y = some (S q))
    (h : ∀ w, (binOp op xt (S p) (S q)).run P w = .ok v w) : OpV P E (.binOp op xt x y yt) ty t H v := by
  refine ov_of fun a w ht _ o ho _ => ⟨_, by simp only [execOp, ho]; rfl, ?_⟩
  rw [ev_eval ht hx, ev_eval ht hy, Sem.run_bind]
  have : (eqGuard op xt x y (S p) (S q)).run P w = .ok () w := by
    unfold eqGuard
    split <;> rfl
  rw [this]
  exact h w
theorem ov_seql {x y : Operand} {xt yt : TypeId} {p q : List UInt8} (hx : ev t x = some (S p)) (hy : ev t y = some (S q)) : OpV P E (.binOp .eql xt x y yt) ty t H (.bool (p == q)) :=
  ov_str hx hy fun w => by simp [binOp, Op.stringOp, pure]
theorem ov_sneq {x y : Operand} {xt yt : TypeId} {p q : List UInt8} (hx : ev t x = some (S p)) (hy : ev t y = some (S q)) : OpV P E (.binOp .neq xt x y yt) ty t H (.bool (!(p == q))) :=
  ov_str hx hy fun w => by simp [binOp, Op.stringOp, pure]
theorem ov_slss {x y : Operand} {xt yt : TypeId} {p q : List UInt8} (hx : ev t x = some (S p)) (hy : ev t y = some (S q)) : OpV P E (.binOp .lss xt x y yt) ty t H (.bool (Op.bytesLess p q)) :=
  ov_str hx hy fun w => by simp [binOp, Op.stringOp, pure]
theorem bytes_append (p q : List UInt8) : (⟨p.toArray⟩ ++ ⟨q.toArray⟩ : ByteArray) = ⟨(p ++ q).toArray⟩ := by
  apply ByteArray.ext
  rw [ByteArray.data_append]
  simp
theorem ov_sadd {x y : Operand} {xt yt : TypeId} {p q : List UInt8} (hx : ev t x = some (S p)) (hy : ev t y = some (S q)) (h : p.length + q.length ≤ 9223372036854775807) : OpV P E (.binOp .add xt x y yt) ty t H (S (p ++ q)) :=
  ov_str hx hy fun w => by
    have h1 : (⟨p.toArray⟩ : ByteArray).size = p.length := rfl
    have h2 : (⟨q.toArray⟩ : ByteArray).size = q.length := rfl
    have h3 : ¬ ((((⟨p.toArray⟩ : ByteArray).size + (⟨q.toArray⟩ : ByteArray).size : Nat) : Int) > IntKind.i64.max) := by
      rw [h1, h2]
      have : IntKind.i64.max = 9223372036854775807 := by decide
      rw [this]
      omega
    simp only [binOp, Op.stringOp]
    rw [if_neg h3, bytes_append]
    rfl
theorem ov_len {x : Operand} {at_ : TypeId} {l : List UInt8} [TyU P at_ .string] (hx : ev t x = some (S l)) : OpV P E (.call ⟨.builtin .len, #[x], #[at_]⟩) ty t H (I l.length) := by
  intro a w ht _ o ho _
  have hu := TyU.und (P := P) (t := at_)
  simp [execOp, ho, resolve, invoke, builtin, Builtin.len_, ev_eval ht hx, run_underlying hu, Sem.run, pure, goInt]
  rfl
theorem ov_sindex {x y : Operand} {xt : TypeId} {l : List UInt8} {k : IntKind} {i : Int} {j : Nat} {c : UInt8} [TyU P xt .string] (hx : ev t x = some (S l)) (hy : ev t y = some (.int k i))
    (hc : l[j]? = some c) (hi : i = (j : Int)) : OpV P E (.index xt x y) ty t H (.int .u8 c.toNat) := by
  subst hi
  refine ov_of fun a w ht _ o ho _ => ⟨_, by simp only [execOp, ho]; rfl, ?_⟩
  rw [ev_eval ht hx, ev_eval ht hy]
  have hu := TyU.und (P := P) (t := xt)
  have hlt := (List.getElem?_eq_some_iff.1 hc).1
  have hg : (⟨l.toArray⟩ : ByteArray)[j]? = some c := by
    have hs : j < (⟨l.toArray⟩ : ByteArray).size := hlt
    rw [getElem?_pos (⟨l.toArray⟩ : ByteArray) j hs]
    have := (List.getElem?_eq_some_iff.1 hc).2
    rw [← this]; rfl
  simp [Instr.index, asIntOf, run_underlying hu, Sem.run, pure, hg]
theorem ov_extract {x : Operand} {i : Nat} {vs : List Value} {v : Value} (hx : ev t x = some (.tuple vs.toArray)) (hv : vs[i]? = some v) : OpV P E (.extract x i) ty t H v := by
  refine ov_of fun a w ht _ o ho _ => ⟨_, by simp only [execOp, ho]; rfl, ?_⟩
  rw [ev_eval ht hx]
  simp [Instr.extract, hv]
end
end Sx
end Go.Proofs.YtkjjlppfomidbaaGreat
/- Sxm: What operations on memory of the call's own yield in the symbolic walk, over whatever program; conditions: none. -/
namespace Go.Proofs.YtkjjlppfomidbaaGreat
namespace Sx
open Go Go.RowKit
set_option linter.unusedSimpArgs false
class TyS (P : Program) (t : TypeId) (pl : outParam (List (Nat × Nat))) : Prop where
  fields : ∃ fs : Array Field, P.underlying t = some (.struct fs) ∧ ∀ w, (fs.mapM fun f => do pure (f.offset, ← sizeOf f.type) : Sem (Array (Nat × Nat))).run P w = .ok pl.toArray w
class TyF (P : Program) (t : TypeId) (f : Nat) (ft : outParam TypeId) (off : outParam Nat) : Prop where
  field : ∃ fs : Array Field, ∃ fl : Field, P.underlying t = some (.struct fs) ∧ fs[f]? = some fl ∧ fl.type = ft ∧ fl.offset = off ∧ ∃ m, (P.info? ft).map (·.size) = some (m + 1)
class TyArr (P : Program) (t : TypeId) (len : outParam Nat) (e : outParam TypeId) : Prop where
  arr : P.underlying t = some (.array len e)
section
variable {P : Program} {E : Env} {t : Tm} {H : Hp} {ty : TypeId}
theorem run_sizeOf {t : TypeId} {n : Nat} (h : (P.info? t).map (·.size) = some n) (w : World) : (sizeOf t).run P w = .ok n w := by
  cases hi : P.info? t with
  | none => rw [hi] at h; cases h
  | some i =>
    rw [hi] at h
    simp only [Option.map_some, Option.some.injEq] at h
    simp [sizeOf, typeInfo, program, Sem.run, pure, hi, h, Result.andThen]
theorem run_isAgg {t : TypeId} {b : Bool} (h0 : (P.underlying t).isSome = true) (h : aggB P t = b) (w : World) : (isAgg t).run P w = .ok b w := by
  cases hu : P.underlying t with
  | none => rw [hu] at h0; cases h0
  | some d =>
    unfold aggB at h
    rw [hu] at h
    simp only [isAgg, Sem.run_bind, run_underlying hu, Result.andThen]
    cases d <;> simp_all [pure, Sem.run]
theorem und_of_aggB {t : TypeId} (h : aggB P t = false) : (P.underlying t).isSome = true := by
  unfold aggB at h
  cases hu : P.underlying t with
  | none => rw [hu] at h; cases h
  | some d => rfl
theorem cell_of {w : World} {b off : Nat} {cs : List Value} {e : TypeId} {fz : Nat × Nat} (h : w.heap[b]? = some (.cells cs.toArray e fz)) : w.cell? ⟨b, off, none⟩ = cs[off]? := by
  simp [World.cell?, h]
theorem run_loadCellsFrom {w : World} {b off : Nat} : ∀ (n i : Nat) (acc : Array Value) (vs : List Value), vs.length = n → (∀ j v, vs[j]? = some v → w.cell? ⟨b, off + i + j, none⟩ = some v) →
    (loadCellsFrom ⟨b, off, none⟩ i n acc).run P w = .ok (acc ++ vs.toArray) w
  | 0, i, acc, vs, hl, _ => by
    have : vs = [] := List.eq_nil_of_length_eq_zero hl
    subst this
    simp [loadCellsFrom, pure, Sem.run]
  | n + 1, i, acc, vs, hl, h => by
    cases vs with
    | nil => simp at hl
    | cons v vs =>
      have h0 := h 0 v rfl
      have ha : (⟨b, off, none⟩ : Addr).add i = ⟨b, off + i, none⟩ := by
        unfold Addr.add
        by_cases e : i = 0
        · rw [if_pos e]; subst e; rfl
        · rw [if_neg e]
      have hr : (load ((⟨b, off, none⟩ : Addr).add i)).run P w = .ok v w := by
        rw [ha]; simp only [load, Sem.run]; rw [show off + i = off + i + 0 from rfl, h0]
      unfold loadCellsFrom
      rw [Sem.run_bind, hr]
      have := run_loadCellsFrom n (i + 1) (acc.push v) vs (by simpa using hl) (fun j u hj => by
        have := h (j + 1) u (by simpa using hj)
        rw [show off + (i + 1) + j = off + i + (j + 1) by omega]
        exact this)
      simp only [Result.andThen]
      rw [this]
      simp
theorem run_load_cell {w : World} {lt : TypeId} {b off : Nat} {v : Value} [TyC P lt] (h : w.cell? ⟨b, off, none⟩ = some v) : (Instr.loadAt lt (.pointer (some ⟨b, off, none⟩))).run P w = .ok v w := by
  have h1 := TyC.agg (P := P) (t := lt)
  simp only [Instr.loadAt, Instr.sureAddr, Sem.run_bind, pure, Sem.run, Result.andThen, loadVar, run_isAgg (und_of_aggB h1) h1]
  simp [load, Sem.run, h]
theorem run_load_agg {w : World} {lt : TypeId} {n b off : Nat} {vs : List Value} [TyA P lt n] (hl : vs.length = n) (h : ∀ j v, vs[j]? = some v → w.cell? ⟨b, off + j, none⟩ = some v) :
    (Instr.loadAt lt (.pointer (some ⟨b, off, none⟩))).run P w = .ok (.agg vs.toArray) w := by
  have h1 := TyA.agg (P := P) (t := lt)
  have h2 := TyA.size (P := P) (t := lt)
  simp only [Instr.loadAt, Instr.sureAddr, Sem.run_bind, pure, Sem.run, Result.andThen, loadVar, run_isAgg h1.1 h1.2]
  simp only [if_true, Sem.run_bind, run_sizeOf h2, Result.andThen, loadCells]
  rw [run_loadCellsFrom n 0 #[] vs hl (fun j v hj => by simpa using h j v hj)]
  simp [pure, Sem.run]
theorem ov_load {x : Operand} {lt : TypeId} {b off : Nat} {cs : List Value} {e : TypeId} {fz : Nat × Nat} {v : Value} [TyC P lt] (hx : ev t x = some (.pointer (some ⟨b, off, none⟩)))
    (hb : Has H b (.cells cs.toArray e fz)) (hc : cs[off]? = some v) : OpV P E (.load lt x) ty t H v := by
  refine ov_of fun a w ht hh o ho _ => ⟨_, by simp only [execOp, ho]; rfl, ?_⟩
  rw [ev_eval ht hx]
  exact run_load_cell (by rw [cell_of (hh.has hb).2, hc])
theorem ov_loada {x : Operand} {lt : TypeId} {n b off : Nat} {cs vs : List Value} {e : TypeId} {fz : Nat × Nat} [TyA P lt n] (hx : ev t x = some (.pointer (some ⟨b, off, none⟩)))
    (hb : Has H b (.cells cs.toArray e fz)) (hs : sl off n cs = some vs) : OpV P E (.load lt x) ty t H (.agg vs.toArray) := by
  obtain ⟨hv, hl⟩ := sl_spec _ _ _ _ hs
  refine ov_of fun a w ht hh o ho _ => ⟨_, by simp only [execOp, ho]; rfl, ?_⟩
  rw [ev_eval ht hx]
  refine run_load_agg hl fun j v hj => ?_
  rw [cell_of (hh.has hb).2]
  subst hv
  have hlt := (List.getElem?_eq_some_iff.1 hj).1
  simp only [List.length_take] at hlt
  rw [List.getElem?_take_of_lt (by omega), List.getElem?_drop] at hj
  exact hj
theorem setCell_heap {w : World} {b off : Nat} {cs : List Value} {e : TypeId} {fz : Nat × Nat} {v : Value} (h : w.heap[b]? = some (.cells cs.toArray e fz)) :
    w.setCell ⟨b, off, none⟩ v = { w with heap := w.heap.setIfInBounds b (.cells (cs.set off v).toArray e fz) } := by
  simp only [World.setCell]
  congr 1
  have hlt := (Array.getElem?_eq_some_iff.1 h).1
  have hb := (Array.getElem?_eq_some_iff.1 h).2
  apply Array.ext_getElem?
  intro i
  rw [Array.getElem?_modify, Array.getElem?_setIfInBounds]
  by_cases e : b = i
  · subst e
    simp [hb, hlt]
  · simp [e]
def flat (v : Value) : Bool :=
  match v with
  | .agg _ | .tuple _ => false
  | _ => true
theorem run_store1 {w : World} {b off : Nat} {cs : List Value} {e : TypeId} {v : Value} (h : w.heap[b]? = some (.cells cs.toArray e (0, 0))) (hlt : off < cs.length) (hf : flat v = true) :
    (store ⟨b, off, none⟩ v).run P w = .ok () { w with heap := w.heap.setIfInBounds b (.cells (cs.set off v).toArray e (0, 0)) } := by
  have hc : w.cell? ⟨b, off, none⟩ = some (cs[off]) := by rw [cell_of h]; simp [hlt]
  have hz : w.frozen? ⟨b, off, none⟩ = false := by simp [World.frozen?, h]
  rw [← setCell_heap h]
  cases v <;> simp_all [store, flat, Sem.run]
def setAll : List Value → Nat → List Value → List Value
  | cs, _, [] => cs
  | cs, off, v :: vs => setAll (cs.set off v) (off + 1) vs
theorem setAllO_spec : ∀ (vs cs : List Value) (off : Nat) (ds : List Value), setAllO cs off vs = some ds → (vs = [] ∨ off + vs.length ≤ cs.length) ∧ setAll cs off vs = ds
  | [], cs, off, ds, h => by simp only [setAllO, Option.some.injEq] at h; subst h; exact ⟨.inl rfl, rfl⟩
  | v :: vs, cs, off, ds, h => by
    simp only [setAllO] at h
    cases h1 : setO cs off v with
    | none => rw [h1] at h; cases h
    | some r =>
      rw [h1] at h
      obtain ⟨h2, h3⟩ := setO_spec _ _ _ _ h1
      obtain ⟨h4, h5⟩ := setAllO_spec vs r (off + 1) ds h
      subst h3
      refine ⟨.inr ?_, by simpa [setAll] using h5⟩
      rcases h4 with h4 | h4
      · subst h4; simp; omega
      · simp at h4 ⊢; omega
theorem run_storeCells {b off : Nat} {e : TypeId} : ∀ (vs cs : List Value) (i : Nat) (w : World), w.heap[b]? = some (.cells cs.toArray e (0, 0)) → off + i + vs.length ≤ cs.length → (vs.all flat) = true →
    (storeCells ⟨b, off, none⟩ vs i).run P w = .ok () { w with heap := w.heap.setIfInBounds b (.cells (setAll cs (off + i) vs).toArray e (0, 0)) }
  | [], cs, i, w, h, _, _ => by
    have hlt := (Array.getElem?_eq_some_iff.1 h).1
    have : w.heap.setIfInBounds b (.cells cs.toArray e (0, 0)) = w.heap := by
      apply Array.ext_getElem?
      intro j
      rw [Array.getElem?_setIfInBounds]
      by_cases e : b = j
      · subst e; rw [h]; simp [hlt]
      · simp [e]
    simp only [storeCells, setAll, pure, Sem.run]
    rw [this]
  | v :: vs, cs, i, w, h, hl, hf => by
    simp only [List.all_cons, Bool.and_eq_true] at hf
    simp only [List.length_cons] at hl
    have ha : (⟨b, off, none⟩ : Addr).add i = ⟨b, off + i, none⟩ := by
      unfold Addr.add
      by_cases e : i = 0
      · rw [if_pos e]; subst e; rfl
      · rw [if_neg e]
    have hlt := (Array.getElem?_eq_some_iff.1 h).1
    unfold storeCells
    rw [Sem.run_bind, ha, run_store1 h (by omega) hf.1]
    simp only [Result.andThen]
    rw [run_storeCells (e := e) vs (cs.set (off + i) v) (i + 1) _ (by simp [hlt]) (by simp; omega) hf.2]
    simp only [setAll]
    rw [show off + (i + 1) = off + i + 1 by omega]
    simp
theorem ow_store {x y : Operand} {st : TypeId} {b off : Nat} {cs cs' : List Value} {e : TypeId} {v : Value} [TyC P st] (hx : ev t x = some (.pointer (some ⟨b, off, none⟩))) (hy : ev t y = some v)
    (hb : Has H b (.cells cs.toArray e (0, 0))) (hset : setO cs off v = some cs') (hf : flat v = true) : OpW P E (.store st x y) ty t H b (.cells cs'.toArray e (0, 0)) .skip := by
  intro a w ht hh o ho _
  obtain ⟨hlt, hcs⟩ := setO_spec _ _ _ _ hset
  subst hcs
  have h2 := TyC.size (P := P) (t := st)
  have hc : v.cells = #[v] := by cases v <;> first | rfl | (simp [flat] at hf)
  simp only [execOp, ho, Sem.run_bind, Instr.storeAt, Instr.sureAddr, ev_eval ht hx, ev_eval ht hy, pure, Sem.run, Result.andThen, storeVar, run_sizeOf h2, hc]
  simp only [List.size_toArray, List.length_cons, List.length_nil, Nat.zero_add, ne_eq, not_true_eq_false, if_false]
  rw [run_storeCells [v] cs 0 w (hh.has hb).2 (by simp; omega) (by simp [hf])]
  simp [setAll]
theorem ow_storea {x y : Operand} {st : TypeId} {n b off : Nat} {cs cs' vs : List Value} {e : TypeId} [TyA P st n] (hx : ev t x = some (.pointer (some ⟨b, off, none⟩))) (hy : ev t y = some (.agg vs.toArray))
    (hb : Has H b (.cells cs.toArray e (0, 0))) (hn : Nat.beq vs.length n = true) (hne : vs.isEmpty = false) (hf : vs.all flat = true) (hset : setAllO cs off vs = some cs') :
    OpW P E (.store st x y) ty t H b (.cells cs'.toArray e (0, 0)) .skip := by
  intro a w ht hh o ho _
  obtain ⟨hlt, hcs⟩ := setAllO_spec _ _ _ _ hset
  subst hcs
  have h2 := TyA.size (P := P) (t := st)
  have hn' := Nat.eq_of_beq_eq_true hn
  subst hn'
  simp only [execOp, ho, Sem.run_bind, Instr.storeAt, Instr.sureAddr, ev_eval ht hx, ev_eval ht hy, pure, Sem.run, Result.andThen, storeVar, run_sizeOf h2, Value.cells]
  simp only [List.size_toArray, ne_eq, not_true_eq_false, if_false]
  rw [run_storeCells vs cs 0 w (hh.has hb).2 (by rcases hlt with h | h; (subst h; simp at hne); omega) hf]
  simp
theorem on_box {x : Operand} {e : TypeId} {v : Value} (hx : ev t x = some v) : OpN P E (.box e x) ty t H (.cells v.cells e) (fun b => .pointer (some ⟨b, 0, none⟩)) := by
  intro a w ht _ o ho _
  simp only [execOp, ho, ev_eval ht hx, Instr.box, newVar, newRow, newObj, Sem.run_bind, Sem.run, pure, Result.andThen]
  rfl
theorem on_alloc {e : TypeId} {z : Value} [TyZ P e z] : OpN P E (.alloc e) ty t H (.cells z.cells e) (fun b => .pointer (some ⟨b, 0, none⟩)) := by
  intro a w ht _ o ho _
  have hz := TyZ.zero (P := P) (t := e)
  cases hi : P.info? e with
  | none => rw [hi] at hz; cases hz
  | some i =>
    rw [hi] at hz
    simp only [Option.map_some, Option.some.injEq] at hz
    simp only [execOp, ho, Instr.alloc, zeroValue, typeInfo, program, newVar, newRow, newObj, Sem.run_bind, Sem.run, pure, Result.andThen, hi, hz]
    rfl
def fillL (pl : List (Nat × Nat)) : List Value → List (Nat × Value) → Option (List Value)
  | cs, [] => some cs
  | cs, (i, v) :: rest =>
    match pl[i]? with
    | none => none
    | some (off, size) => bif Nat.beq v.cells.toList.length size && Nat.ble (off + v.cells.toList.length) cs.length then (match setAllO cs off v.cells.toList with | some r => fillL pl r rest | none => none) else none
theorem fold_setAll : ∀ (vs cs : List Value) (off k : Nat), ((vs.zipIdx k).foldl (fun cs (c, j) => cs.setIfInBounds (off + j) c) cs.toArray) = (setAll cs (off + k) vs).toArray
  | [], cs, off, k => rfl
  | v :: vs, cs, off, k => by
    simp only [List.zipIdx_cons, List.foldl_cons, setAll]
    have := fold_setAll vs (cs.set (off + k) v) off (k + 1)
    simpa [Nat.add_assoc] using this
theorem fill_of {pl : List (Nat × Nat)} : ∀ (vs : List (Nat × Value)) (cs ds : List Value), fillL pl cs vs = some ds → Instr.fill (fun i => pl[i]?) cs.toArray vs = some ds.toArray
  | [], cs, ds, h => by
    simp only [fillL, Option.some.injEq] at h
    subst h
    rfl
  | (i, v) :: vs, cs, ds, h => by
    simp only [fillL] at h
    unfold Instr.fill
    cases hp : pl[i]? with
    | none => rw [hp] at h; cases h
    | some x =>
      obtain ⟨off, size⟩ := x
      rw [hp] at h
      simp only at h
      cases hb : (Nat.beq v.cells.toList.length size && Nat.ble (off + v.cells.toList.length) cs.length) with
      | false => rw [hb] at h; cases h
      | true =>
        rw [hb] at h
        simp only [cond_true] at h
        simp only [Bool.and_eq_true, Nat.ble_eq] at hb
        have h1 := Nat.eq_of_beq_eq_true hb.1
        simp only [Array.length_toList] at h1 hb
        have hc : ¬ ((decide (v.cells.size ≠ size) || decide (off + v.cells.size > cs.toArray.size)) = true) := by
          simp [h1]
          have := hb.2
          omega
        simp only []
        rw [if_neg hc]
        have hf := fold_setAll v.cells.toList cs off 0
        have hz : v.cells.zipIdx.foldl (fun cs (c, j) => cs.setIfInBounds (off + j) c) cs.toArray = (setAll cs off v.cells.toList).toArray := by
          rw [← Array.foldl_toList, Array.toList_zipIdx]
          simpa using hf
        rw [hz]
        cases hs : setAllO cs off v.cells.toList with
        | none => rw [hs] at h; cases h
        | some r =>
          rw [hs] at h
          rw [(setAllO_spec _ _ _ _ hs).2]
          exact fill_of vs r ds h
theorem ov_build {bt : TypeId} {ps : List (Nat × Operand)} {vs : List (Nat × Value)} {zs cs : List Value} {pl : List (Nat × Nat)} [TyS P bt pl] [TyZ P bt (.agg zs.toArray)]
    (hv : evP t ps = some vs) (hf0 : fillL pl zs vs = some cs) : OpV P E (.build bt ps.toArray) ty t H (.agg cs.toArray) := by
  refine ov_of fun a w ht hh o ho _ => ⟨_, by simp only [execOp, ho]; rfl, ?_⟩
  have hz := TyZ.zero (P := P) (t := bt)
  obtain ⟨fs, hu, hm⟩ := TyS.fields (P := P) (t := bt)
  have he := evP_eval ht ps vs hv
  have hf := fill_of vs zs cs hf0
  cases hi : P.info? bt with
  | none => rw [hi] at hz; cases hz
  | some i =>
    rw [hi] at hz
    simp only [Option.map_some, Option.some.injEq] at hz
    have hpl : (fun x : Nat => (pl.toArray)[x]?) = fun i => pl[i]? := by funext i; simp
    simp only [Instr.build, zeroValue, typeInfo, program, Sem.run_bind, Sem.run, pure, Result.andThen, hi, hz, run_underlying hu, hm, Value.cells]
    rw [List.map_toArray, he]
    have hm' := hm w
    simp only [pure] at hm'
    simp only [hm', hpl, hf]
    simp [pure, Sem.run]
theorem run_part_cell {w : World} {pt : TypeId} {cs : List Value} {off : Nat} {v : Value} [TyC P pt] (h : cs[off]? = some v) : (part pt cs.toArray off).run P w = .ok v w := by
  have h1 := TyC.agg (P := P) (t := pt)
  simp only [part, Sem.run_bind, run_isAgg (und_of_aggB h1) h1, Result.andThen]
  simp [h, pure, Sem.run]
theorem run_part_agg {w : World} {pt : TypeId} {cs : List Value} {off n : Nat} [TyA P pt n] : (part pt cs.toArray off).run P w = .ok (.agg ((cs.drop off).take n).toArray) w := by
  have h1 := TyA.agg (P := P) (t := pt)
  have h2 := TyA.size (P := P) (t := pt)
  simp only [part, Sem.run_bind, run_isAgg h1.1 h1.2, Result.andThen, if_true, run_sizeOf h2]
  simp [pure, Sem.run]
theorem ov_field {x : Operand} {xt ft : TypeId} {f off : Nat} {cs : List Value} {v : Value} [TyF P xt f ft off] [TyC P ft] (hx : ev t x = some (.agg cs.toArray)) (hv : cs[off]? = some v) : OpV P E (.field xt x f) ty t H v := by
  refine ov_of fun a w ht hh o ho _ => ⟨_, by simp only [execOp, ho]; rfl, ?_⟩
  obtain ⟨fs, fl, hu, hf, e1, e2, _⟩ := TyF.field (P := P) (t := xt) (f := f)
  subst e1 e2
  rw [ev_eval ht hx]
  simp only [Instr.field, Sem.run_bind, run_underlying hu, Result.andThen, hf, asAgg, pure, Sem.run]
  exact run_part_cell hv
theorem ov_fielda {x : Operand} {xt ft : TypeId} {f off n : Nat} {cs vs : List Value} [TyF P xt f ft off] [TyA P ft n] (hx : ev t x = some (.agg cs.toArray)) (hs : sl off n cs = some vs) : OpV P E (.field xt x f) ty t H (.agg vs.toArray) := by
  obtain ⟨hv, -⟩ := sl_spec _ _ _ _ hs
  refine ov_of fun a w ht hh o ho _ => ⟨_, by simp only [execOp, ho]; rfl, ?_⟩
  obtain ⟨fs, fl, hu, hf, e1, e2, _⟩ := TyF.field (P := P) (t := xt) (f := f)
  subst e1 e2 hv
  rw [ev_eval ht hx]
  simp only [Instr.field, Sem.run_bind, run_underlying hu, Result.andThen, hf, asAgg, pure, Sem.run]
  exact run_part_agg
theorem add_off (b off n : Nat) : (⟨b, off, none⟩ : Addr).add n = ⟨b, off + n, none⟩ := by
  unfold Addr.add
  by_cases e : n = 0
  · rw [if_pos e]; subst e; rfl
  · rw [if_neg e]
theorem ov_fieldAddr {x : Operand} {xt ft : TypeId} {f off b o1 : Nat} [TyF P xt f ft off] (hx : ev t x = some (.pointer (some ⟨b, o1, none⟩))) : OpV P E (.fieldAddr xt x f) ty t H (.pointer (some ⟨b, o1 + off, none⟩)) := by
  refine ov_of fun a w ht hh o ho _ => ⟨_, by simp only [execOp, ho]; rfl, ?_⟩
  obtain ⟨fs, fl, hu, hf, e1, e2, m, e3⟩ := TyF.field (P := P) (t := xt) (f := f)
  subst e1 e2
  rw [ev_eval ht hx]
  have h0 : ¬ m + 1 = 0 := by omega
  simp only [Instr.fieldAt, Sem.run_bind, run_underlying hu, Result.andThen, hf, Instr.sureAddr, pure, Sem.run, fieldPlace, run_sizeOf e3, h0, if_false, add_off]
theorem ov_arrAddr {x y : Operand} {xt e : TypeId} {len b o1 n : Nat} {k : IntKind} {i : Int} {j : Nat} [TyArr P xt len e] (hs : (P.info? e).map (·.size) = some n) (hx : ev t x = some (.pointer (some ⟨b, o1, none⟩))) (hy : ev t y = some (.int k i))
    (hi : i = (j : Int)) (hj : j < len) : OpV P E (.indexAddr xt x y) ty t H (.pointer (some ⟨b, o1 + j * n, none⟩)) := by
  subst hi
  refine ov_of fun a w ht hh o ho _ => ⟨_, by simp only [execOp, ho]; rfl, ?_⟩
  have hu := TyArr.arr (P := P) (t := xt)
  rw [ev_eval ht hx, ev_eval ht hy]
  have hc : (0 : Int) ≤ (j : Int) ∧ (j : Int) < (len : Int) := ⟨by omega, by omega⟩
  simp only [Instr.indexAt, asIntOf, Sem.run_bind, run_underlying hu, Result.andThen, Instr.sureAddr, pure, Sem.run, hc, and_self, if_true, run_sizeOf hs, Int.toNat_natCast, add_off]
theorem ov_arrAddr_s {x y : Operand} {xt e : TypeId} {len b o1 n : Nat} {k : IntKind} {i : Int} [TyArr P xt len e] [TyA P e n] (hx : ev t x = some (.pointer (some ⟨b, o1, none⟩))) (hy : ev t y = some (.int k i))
    (h0 : 0 ≤ i) (h1 : i < (len : Int)) : OpV P E (.indexAddr xt x y) ty t H (.pointer (some ⟨b, o1 + i.toNat * n, none⟩)) :=
  ov_arrAddr (TyA.size (P := P) (t := e)) hx hy (j := i.toNat) (by omega) (by omega)
theorem ov_arrAddr_c {x y : Operand} {xt e : TypeId} {len b o1 n : Nat} {k : IntKind} {i : Int} [TyArr P xt len e] [TyA P e n] (hx : ev t x = some (.pointer (some ⟨b, o1, none⟩))) (hy : ev t y = some (.int k i))
    (h0 : decide (0 ≤ i) = true) (h1 : Nat.blt i.toNat len = true) : OpV P E (.indexAddr xt x y) ty t H (.pointer (some ⟨b, o1 + i.toNat * n, none⟩)) := by
  have h0' : 0 ≤ i := of_decide_eq_true h0
  exact ov_arrAddr (TyA.size (P := P) (t := e)) hx hy (j := i.toNat) (by omega) (by simpa [Nat.blt_eq] using h1)
theorem ov_arrAddr_cc {x y : Operand} {xt e : TypeId} {len b o1 : Nat} {k : IntKind} {i : Int} [TyArr P xt len e] [TyC P e] (hx : ev t x = some (.pointer (some ⟨b, o1, none⟩))) (hy : ev t y = some (.int k i))
    (h0 : decide (0 ≤ i) = true) (h1 : Nat.blt i.toNat len = true) : OpV P E (.indexAddr xt x y) ty t H (.pointer (some ⟨b, o1 + i.toNat * 1, none⟩)) := by
  have h0' : 0 ≤ i := of_decide_eq_true h0
  exact ov_arrAddr (TyC.size (P := P) (t := e)) hx hy (j := i.toNat) (by omega) (by simpa [Nat.blt_eq] using h1)
end
end Sx
end Go.Proofs.YtkjjlppfomidbaaGreat
/- Sxc: Calls, equality of structs, a range over a string, in the symbolic walk, over whatever program; conditions: none. -/
namespace Go.Proofs.YtkjjlppfomidbaaGreat
namespace Sx
open Go Go.RowKit
set_option linter.unusedSimpArgs false
class FnB (P : Program) (f : FuncId) : Prop where
  fn : ∃ fn, P.funcs[f]? = some fn ∧ (fn.name == "runtime.NumGoroutine") = false ∧ fn.body.isNone = false
class TyEq (P : Program) (t : TypeId) (ds : outParam (List TypeDesc)) : Prop where
  guard : P.eqGuardType P.depth t = false
  held : P.stoodInHeld t = false
  und : P.underlying t = some (.struct (P.fieldsOf t))
  parts : (P.fieldsOf t).toList.map (fun f => (f.name == "_", f.offset, P.underlying f.type, aggB P f.type)) = ds.zipIdx.map (fun x => (false, x.2, some x.1, false))
def eqB : Value → Value → Bool
  | .string a, .string b => a.data.toList == b.data.toList
  | .int _ a, .int _ b => a == b
  | .bool a, .bool b => a == b
  | _, _ => false
def fitB : TypeDesc → Value → Bool
  | .string, .string _ => true
  | .int k, .int k' _ => k == k'
  | .bool, .bool _ => true
  | _, _ => false
def eqAll : List Value → List Value → Bool
  | [x], [y] => eqB x y
  | x :: xs, y :: ys => eqB x y && eqAll xs ys
  | _, _ => true
def fitAll : List TypeDesc → List Value → Bool
  | [], [] => true
  | d :: ds, x :: xs => fitB d x && fitAll ds xs
  | _, _ => false
section
variable {P : Program} {E : Env} {t : Tm} {H : Hp} {ty : TypeId}
theorem oc_func {f : FuncId} {xs : List Operand} {ats : Array TypeId} {vs : List Value} [FnB P f] (hv : evL t xs = some vs) : OpCall P E (.call ⟨.value (.func f), xs.toArray, ats⟩) ty t f vs.toArray := by
  intro a w ht o ho _
  obtain ⟨fn, hf, hn, hb⟩ := FnB.fn (P := P) (f := f)
  have he := evL_eval ht xs vs hv
  simp only [execOp, ho, resolve, Act.eval, Deferred.ofValue, Sem.run_bind, Sem.run, pure, Result.andThen, invoke, callFunc, program, hf, hn, hb, List.map_toArray, he]
  simp [Sem.run, pure]
theorem run_eq_fit {w : World} {d : Nat} {ft : TypeId} {desc : TypeDesc} {x y : Value} (h3 : P.underlying ft = some desc) (hx : fitB desc x = true) (hy : fitB desc y = true) :
    (Op.equalIn (d + 1) ft x y).run P w = .ok (eqB x y) w := by
  unfold fitB at hx hy
  split at hx
  · split at hy
    · rw [run_equalIn_string w d ft _ _ h3]
      simp [eqB, ByteArray.toList_eq]
    all_goals first | (exfalso; simp at *; done) | contradiction
  · split at hy
    · contradiction
    · rename_i h; cases h
      have e1 := eq_of_beq hx
      have e2 := eq_of_beq hy
      subst e1
      subst e2
      rw [run_equalIn_int w d ft _ _ _ _ h3]
      simp [eqB]
    · contradiction
    · cases hy
  · split at hy
    · contradiction
    · contradiction
    · rw [run_equalIn_bool' w d ft _ _ h3]
      simp [eqB]
    · cases hy
  · cases hx
theorem run_eqFields {w : World} {d : Nat} : ∀ (fs : List Field) (ds : List TypeDesc) (k : Nat) (xs ys : List Value) (as bs : List Value),
    fs.map (fun f => (f.name == "_", f.offset, P.underlying f.type, aggB P f.type)) = (ds.zipIdx k).map (fun x => (false, x.2, some x.1, false)) → fitAll ds xs = true → fitAll ds ys = true →
    as.drop k = xs → bs.drop k = ys → (Op.eqFields (d + 1) as.toArray bs.toArray fs).run P w = .ok (eqAll xs ys) w
  | [], [], k, xs, ys, as, bs, _, hx, hy, _, _ => by
    cases xs with
    | nil => cases ys with
      | nil => rfl
      | cons y ys => simp [fitAll] at hy
    | cons x xs => simp [fitAll] at hx
  | [], _ :: _, _, _, _, _, _, h, _, _, _, _ => by simp at h
  | _ :: _, [], _, _, _, _, _, h, _, _, _, _ => by simp at h
  | f :: fs, t :: ds, k, [], ys, as, bs, h, hx, hy, ha, hb => by simp [fitAll] at hx
  | f :: fs, t :: ds, k, x :: xs, [], as, bs, h, hx, hy, ha, hb => by simp [fitAll] at hy
  | f :: fs, t :: ds, k, x :: xs, y :: ys, as, bs, h, hx, hy, ha, hb => by
    simp only [List.map_cons, List.zipIdx_cons, List.cons.injEq, Prod.mk.injEq] at h
    obtain ⟨⟨h1, h2, h3, h4⟩, h5⟩ := h
    simp only [fitAll, Bool.and_eq_true] at hx hy
    have hak : as[k]? = some x := by
      have := congrArg (fun l => l[0]?) ha
      simpa using this
    have hbk : bs[k]? = some y := by
      have := congrArg (fun l => l[0]?) hb
      simpa using this
    have ha' : as.drop (k + 1) = xs := by rw [← List.drop_drop, ha]; rfl
    have hb' : bs.drop (k + 1) = ys := by rw [← List.drop_drop, hb]; rfl
    have hpa : (part f.type as.toArray f.offset).run P w = .ok x w := by
      simp only [part, Sem.run_bind, run_isAgg (und_of_aggB h4) h4, Result.andThen, h2]
      simp [hak, pure, Sem.run]
    have hpb : (part f.type bs.toArray f.offset).run P w = .ok y w := by
      simp only [part, Sem.run_bind, run_isAgg (und_of_aggB h4) h4, Result.andThen, h2]
      simp [hbk, pure, Sem.run]
    have he := run_eq_fit (w := w) (d := d) h3 hx.1 hy.1
    have ih := run_eqFields (w := w) (d := d) fs ds (k + 1) xs ys as bs h5 hx.2 hy.2 ha' hb'
    have hn : f.name ≠ "_" := by simpa using h1
    simp only [Op.eqFields, ne_eq, hn, not_false_eq_true, if_true, Sem.run_bind, hpa, hpb, he, Result.andThen]
    cases hq : eqB x y with
    | true =>
      simp only [Bool.not_true, Bool.false_eq_true, if_false, ih]
      cases xs with
      | nil => cases ys with
        | nil => simp [eqAll, hq]
        | cons _ _ => cases ds <;> simp [fitAll] at hx hy
      | cons _ _ => cases ys with
        | nil => cases ds <;> simp [fitAll] at hx hy
        | cons _ _ => simp [eqAll, hq]
    | false =>
      simp only [Bool.not_false, if_true, pure, Sem.run]
      cases xs with
      | nil => cases ys with
        | nil => simp [eqAll, hq]
        | cons _ _ => cases ds <;> simp [fitAll] at hx hy
      | cons _ _ => cases ys with
        | nil => cases ds <;> simp [fitAll] at hx hy
        | cons _ _ => simp [eqAll, hq]
theorem ov_eqs {x y : Operand} {xt yt : TypeId} {xs ys : List Value} {ds : List TypeDesc} [TyEq P xt ds] (hx : ev t x = some (.agg xs.toArray)) (hy : ev t y = some (.agg ys.toArray))
    (h1 : fitAll ds xs = true) (h2 : fitAll ds ys = true) : OpV P E (.binOp .eql xt x y yt) ty t H (.bool (eqAll xs ys)) := by
  refine ov_of fun a w ht _ o ho _ => ⟨_, by simp only [execOp, ho]; rfl, ?_⟩
  have hg := TyEq.guard (P := P) (t := xt)
  have hp := TyEq.held (P := P) (t := xt)
  have hu := TyEq.und (P := P) (t := xt)
  have hps := TyEq.parts (P := P) (t := xt)
  rw [ev_eval ht hx, ev_eval ht hy, Sem.run_bind, run_eqGuard_agg w _ _ _ _ _ _ hg]
  simp only [Result.andThen]
  rw [run_eql_struct, run_equalIn_struct w 9999 xt _ _ hu hp, run_eqFields (d := 9998) _ ds 0 xs ys xs ys hps h1 h2 rfl rfl]
  rfl
theorem ov_neqs {x y : Operand} {xt yt : TypeId} {xs ys : List Value} {ds : List TypeDesc} [TyEq P xt ds] (hx : ev t x = some (.agg xs.toArray)) (hy : ev t y = some (.agg ys.toArray))
    (h1 : fitAll ds xs = true) (h2 : fitAll ds ys = true) : OpV P E (.binOp .neq xt x y yt) ty t H (.bool (!(eqAll xs ys))) := by
  refine ov_of fun a w ht _ o ho _ => ⟨_, by simp only [execOp, ho]; rfl, ?_⟩
  have hg := TyEq.guard (P := P) (t := xt)
  have hp := TyEq.held (P := P) (t := xt)
  have hu := TyEq.und (P := P) (t := xt)
  have hps := TyEq.parts (P := P) (t := xt)
  rw [ev_eval ht hx, ev_eval ht hy, Sem.run_bind, run_eqGuard_agg w _ _ _ _ _ _ hg]
  simp only [Result.andThen]
  rw [run_neq_struct, run_equalIn_struct w 9999 xt _ _ hu hp, run_eqFields (d := 9998) _ ds 0 xs ys xs ys hps h1 h2 rfl rfl]
  rfl
theorem ov_beql {x y : Operand} {xt yt : TypeId} {p q : Bool} [TyU P xt .bool] (hx : ev t x = some (.bool p)) (hy : ev t y = some (.bool q)) : OpV P E (.binOp .eql xt x y yt) ty t H (.bool (p == q)) := by
  refine ov_of fun a w ht _ o ho _ => ⟨_, by simp only [execOp, ho]; rfl, ?_⟩
  have hu := TyU.und (P := P) (t := xt)
  rw [ev_eval ht hx, ev_eval ht hy, Sem.run_bind]
  have : (eqGuard .eql xt x y (.bool p) (.bool q)).run P w = .ok () w := by
    unfold eqGuard
    split <;> rfl
  rw [this]
  simp only [Result.andThen, binOp, Op.equal, Op.maxDepth, Sem.run_bind]
  rw [run_equalIn_bool' w 9999 xt _ _ hu]
  rfl
theorem ov_bneq {x y : Operand} {xt yt : TypeId} {p q : Bool} [TyU P xt .bool] (hx : ev t x = some (.bool p)) (hy : ev t y = some (.bool q)) : OpV P E (.binOp .neq xt x y yt) ty t H (.bool (!(p == q))) := by
  refine ov_of fun a w ht _ o ho _ => ⟨_, by simp only [execOp, ho]; rfl, ?_⟩
  have hu := TyU.und (P := P) (t := xt)
  rw [ev_eval ht hx, ev_eval ht hy, Sem.run_bind]
  have : (eqGuard .neq xt x y (.bool p) (.bool q)).run P w = .ok () w := by
    unfold eqGuard
    split <;> rfl
  rw [this]
  simp only [Result.andThen, binOp, Op.equal, Op.maxDepth, Sem.run_bind]
  rw [run_equalIn_bool' w 9999 xt _ _ hu]
  rfl
def retC1 (r n : Nat) (R : List Value → Hp → Prop) : Exit → Tm → Hp → Prop
  | .ret, t, H | .normal, t, H => ∃ b cs vs e fz, look t r = some (.pointer (some ⟨b, 0, none⟩)) ∧ Has H b (.cells cs e fz) ∧ sl 0 n cs.toList = some vs ∧ R vs H
  | _, _, _ => False
def retC2 (r n s : Nat) (R : List Value → Value → Hp → Prop) : Exit → Tm → Hp → Prop
  | .ret, t, H | .normal, t, H => ∃ b cs vs e fz u, look t r = some (.pointer (some ⟨b, 0, none⟩)) ∧ Has H b (.cells cs e fz) ∧ sl 0 n cs.toList = some vs ∧ look t s = some u ∧ R vs u H
  | _, _, _ => False
theorem rc1_ret {r n b : Nat} {R : List Value → Hp → Prop} {t : Tm} {H : Hp} {cs : Array Value} {vs : List Value} {e : TypeId} {fz : Nat × Nat} (h1 : look t r = some (.pointer (some ⟨b, 0, none⟩))) (h2 : Has H b (.cells cs e fz)) (h3 : sl 0 n cs.toList = some vs) (hr : R vs H) : retC1 r n R .ret t H := ⟨b, cs, vs, e, fz, h1, h2, h3, hr⟩
theorem rc2_ret {r n s b : Nat} {R : List Value → Value → Hp → Prop} {t : Tm} {H : Hp} {cs : Array Value} {vs : List Value} {e : TypeId} {fz : Nat × Nat} {u : Value} (h1 : look t r = some (.pointer (some ⟨b, 0, none⟩))) (h2 : Has H b (.cells cs e fz)) (h3 : sl 0 n cs.toList = some vs) (h4 : look t s = some u) (hr : R vs u H) : retC2 r n s R .ret t H := ⟨b, cs, vs, e, fz, u, h1, h2, h3, h4, hr⟩
theorem run_cellvar {w : World} {a : Act} {r rt n b : Nat} {cs : Array Value} {vs : List Value} {e : TypeId} {fz : Nat × Nat} [TyA P rt n] (ht : RepT E t a) (hh : RepH E H w)
    (h1 : look t r = some (.pointer (some ⟨b, 0, none⟩))) (h2 : Has H b (.cells cs e fz)) (h3 : sl 0 n cs.toList = some vs) :
    a.tmps[r]?.getD undef = .pointer (some ⟨b, 0, none⟩) ∧ (loadVar rt ⟨b, 0, none⟩).run P w = .ok (.agg vs.toArray) w := by
  have h0 := ht.2.2 r _ h1
  rw [Array.getD_eq_getD_getElem?] at h0
  refine ⟨h0, ?_⟩
  obtain ⟨hv, hl⟩ := sl_spec _ _ _ _ h3
  have hb := (hh.has h2).2
  have hb' : w.heap[b]? = some (.cells cs.toList.toArray e fz) := by simpa using hb
  have := run_load_agg (P := P) (w := w) (lt := rt) (b := b) (off := 0) (vs := vs) hl (fun j v hj => by
    rw [cell_of hb']
    subst hv
    have hlt := (List.getElem?_eq_some_iff.1 hj).1
    simp only [List.length_take] at hlt
    rw [List.getElem?_take_of_lt (by omega), List.getElem?_drop] at hj
    exact hj)
  simpa only [Instr.loadAt, Instr.sureAddr, Sem.run_bind, pure, Sem.run, Result.andThen] using this
theorem results_c1 {fn : Func} {w : World} {a : Act} {r rt n b : Nat} {cs : Array Value} {vs : List Value} {e : TypeId} {fz : Nat × Nat} [TyA P rt n] (hr : fn.results = #[.cell r rt]) (ht : RepT E t a) (hh : RepH E H w)
    (h1 : look t r = some (.pointer (some ⟨b, 0, none⟩))) (h2 : Has H b (.cells cs e fz)) (h3 : sl 0 n cs.toList = some vs) : (results fn a.tmps).run P w = .ok (.agg vs.toArray) w := by
  obtain ⟨h0, hc⟩ := run_cellvar (P := P) ht hh h1 h2 h3 (rt := rt)
  simp only [results, hr]
  simp [Sem.run_bind, h0, hc, asAddr]
theorem results_c2 {fn : Func} {w : World} {a : Act} {r rt n s b : Nat} {cs : Array Value} {vs : List Value} {e : TypeId} {fz : Nat × Nat} {u : Value} [TyA P rt n] (hr : fn.results = #[.cell r rt, .tmp s]) (ht : RepT E t a) (hh : RepH E H w)
    (h1 : look t r = some (.pointer (some ⟨b, 0, none⟩))) (h2 : Has H b (.cells cs e fz)) (h3 : sl 0 n cs.toList = some vs) (h4 : look t s = some u) : (results fn a.tmps).run P w = .ok (.tuple #[.agg vs.toArray, u]) w := by
  obtain ⟨h0, hc⟩ := run_cellvar (P := P) ht hh h1 h2 h3 (rt := rt)
  have hu := ht.2.2 s _ h4
  rw [Array.getD_eq_getD_getElem?] at hu
  simp only [results, hr]
  simp [Sem.run_bind, h0, hc, hu, asAddr]
theorem callsC1 {P : Program} {f : FuncId} {fn : Func} {c : Code} {args : List Value} {w : World} {R : Ending → World → Prop} {n r rt m : Nat} [TyA P rt m]
    (hf : P.funcs[f]? = some fn) (hb : fn.body = some c) (hn : fn.ntmps = n) (hl : Nat.ble args.length n = true) (hr : fn.results = #[.cell r rt])
    (h : aw P ⟨w.heap.size, w, n⟩ c (retC1 r m fun vs H => ∀ w', RepH ⟨w.heap.size, w, n⟩ H w' → R (.returned (.agg vs.toArray)) w') (tm0 args) []) : Calls P f args.toArray w R := by
  refine calls_of_aw0 hf hb hn hl h fun e a t' H' r1 q => ?_
  cases e with
  | normal => obtain ⟨b, cs, vs, e, fz, h1, h2, h3, h4⟩ := q; exact ⟨.inl rfl, _, fun w' r2 => ⟨results_c1 hr r1 r2 h1 h2 h3, h4 _ r2⟩⟩
  | ret => obtain ⟨b, cs, vs, e, fz, h1, h2, h3, h4⟩ := q; exact ⟨.inr rfl, _, fun w' r2 => ⟨results_c1 hr r1 r2 h1 h2 h3, h4 _ r2⟩⟩
  | exit _ => exact q.elim
  | goto _ => exact q.elim
  | panic _ => exact q.elim
  | outgrown => exact q.elim
theorem callsC2 {P : Program} {f : FuncId} {fn : Func} {c : Code} {args : List Value} {w : World} {R : Ending → World → Prop} {n r rt m s : Nat} [TyA P rt m]
    (hf : P.funcs[f]? = some fn) (hb : fn.body = some c) (hn : fn.ntmps = n) (hl : Nat.ble args.length n = true) (hr : fn.results = #[.cell r rt, .tmp s])
    (h : aw P ⟨w.heap.size, w, n⟩ c (retC2 r m s fun vs u H => ∀ w', RepH ⟨w.heap.size, w, n⟩ H w' → R (.returned (.tuple #[.agg vs.toArray, u])) w') (tm0 args) []) : Calls P f args.toArray w R := by
  refine calls_of_aw0 hf hb hn hl h fun e a t' H' r1 q => ?_
  cases e with
  | normal => obtain ⟨b, cs, vs, e, fz, u, h1, h2, h3, h5, h4⟩ := q; exact ⟨.inl rfl, _, fun w' r2 => ⟨results_c2 hr r1 r2 h1 h2 h3 h5, h4 _ r2⟩⟩
  | ret => obtain ⟨b, cs, vs, e, fz, u, h1, h2, h3, h5, h4⟩ := q; exact ⟨.inr rfl, _, fun w' r2 => ⟨results_c2 hr r1 r2 h1 h2 h3 h5, h4 _ r2⟩⟩
  | exit _ => exact q.elim
  | goto _ => exact q.elim
  | panic _ => exact q.elim
  | outgrown => exact q.elim
attribute [irreducible] retC1 retC2
class FnX (P : Program) (f : FuncId) (e : outParam (Array Value → Sem Value)) : Prop where
  fn : ∃ fn, P.funcs[f]? = some fn ∧ (fn.name == "runtime.NumGoroutine") = false ∧ fn.body.isNone = true ∧ Extern.findNext fn = none ∧ Extern.find fn = some e
theorem ov_ext {f : FuncId} {xs : List Operand} {ats : Array TypeId} {vs : List Value} {e : Array Value → Sem Value} {v : Value} [FnX P f e] (hv : evL t xs = some vs) (hr : ∀ w, (e vs.toArray).run P w = .ok v w) :
    OpV P E (.call ⟨.value (.func f), xs.toArray, ats⟩) ty t H v := by
  intro a w ht _ o ho _
  obtain ⟨fn, hf, hn, hb, hn2, he⟩ := FnX.fn (P := P) (f := f)
  have hev := evL_eval ht xs vs hv
  simp only [execOp, ho, resolve, Act.eval, Deferred.ofValue, Sem.run_bind, Sem.run, pure, Result.andThen, invoke, List.map_toArray, hev]
  have := run_callFunc_extern hf hn hb hn2 he vs.toArray w
  simp only [hr, Result.andThen] at this
  simpa using this
theorem run_bound {k : IntKind} {i y : Nat} {code : BoundsCode} {w : World} (h : i ≤ y) : (Instr.sliceBound (.int k (i : Int)) y code).run P w = .ok i w := by
  have c : (0 : Int) ≤ (i : Int) ∧ (i : Int) ≤ (y : Int) := ⟨by omega, by omega⟩
  simp only [Instr.sliceBound, asIntOf, Sem.run_bind, pure, Sem.run, Result.andThen, c, and_self, if_true, Int.toNat_natCast]
theorem run_bounds {lo hi : Option Value} {n i j : Nat} {w : World} (hl : (lo = none ∧ i = 0) ∨ ∃ k x, lo = some (.int k x) ∧ x = (i : Int)) (hh : (hi = none ∧ j = n) ∨ ∃ k x, hi = some (.int k x) ∧ x = (j : Int)) (h1 : i ≤ j) (h2 : j ≤ n) :
    (Instr.sliceBounds false n n lo hi none).run P w = .ok (i, j, n) w := by
  rcases hl with ⟨rfl, rfl⟩ | ⟨k, x, rfl, rfl⟩ <;> rcases hh with ⟨rfl, rfl⟩ | ⟨k2, x2, rfl, rfl⟩ <;>
    simp [Instr.sliceBounds, Sem.run_bind, pure, Sem.run, Result.andThen, run_bound, h1, h2]
theorem on_srange {x : Operand} {xt : TypeId} {l : List UInt8} [TyU P xt .string] (hx : ev t x = some (S l)) : OpN P E (.range xt x) ty t H (.stringIter ⟨l.toArray⟩ 0) (fun b => .pointer (some ⟨b, 0, none⟩)) := by
  intro a w ht _ o ho _
  have hu := TyU.und (P := P) (t := xt)
  simp only [execOp, ho, ev_eval ht hx, Instr.range, Sem.run_bind, run_underlying hu, Result.andThen, newObj, pure, Sem.run]
  rfl
theorem ov_snext_end {x : Operand} {b pos : Nat} {l : List UInt8} (hx : ev t x = some (.pointer (some ⟨b, 0, none⟩))) (hb : Has H b (.stringIter ⟨l.toArray⟩ pos)) (hp : l.length ≤ pos) :
    OpV P E (.next x true) ty t H (.tuple #[.bool false]) := by
  refine ov_of fun a w ht hh o ho _ => ⟨_, by simp only [execOp, ho]; rfl, ?_⟩
  have h1 : ¬ pos < (⟨l.toArray⟩ : ByteArray).size := by
    show ¬ pos < l.length
    omega
  rw [ev_eval ht hx]
  simp only [Instr.next, getObj, Sem.run_bind, Sem.run, (hh.has hb).2, Result.andThen, pure, h1, if_false]
theorem ow_snext {x : Operand} {b pos : Nat} {l : List UInt8} (hx : ev t x = some (.pointer (some ⟨b, 0, none⟩))) (hb : Has H b (.stringIter ⟨l.toArray⟩ pos)) {r wd : Nat} (hp : pos < l.length) (hd : Utf8.decode ⟨l.toArray⟩ pos = (r, wd)) :
    OpW P E (.next x true) ty t H b (.stringIter ⟨l.toArray⟩ (pos + wd)) (.value (.tuple #[.bool true, I pos, .int .i32 r])) := by
  intro a w ht hh o ho _
  have h1 : pos < (⟨l.toArray⟩ : ByteArray).size := hp
  simp only [execOp, ho, ev_eval ht hx, Instr.next, getObj, setObj, Sem.run_bind, Sem.run, (hh.has hb).2, Result.andThen, pure, h1, if_true, goInt, hd]
end
end Sx
end Go.Proofs.YtkjjlppfomidbaaGreat
