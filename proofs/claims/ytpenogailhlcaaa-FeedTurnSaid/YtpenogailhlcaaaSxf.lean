/- Ranges over functions: the statement, a round, a call of yield; closures with bound arguments; conditions: no range over a function within a round. -/
import Derived.Test.YtpenogailhlcaaaSxk
import Derived.Test.YtpenogailhlcaaaSxw
namespace Go.Proofs.Ytpenogailhlcaaa
namespace Sx
open Go Go.RowKit
set_option linter.unusedSimpArgs false

section
variable {P : Program} {E : Env} {t : Tm} {H : Hp} {ty : TypeId}
/-- A load of cells that every such world has. -/
theorem ov_load_w {x : Operand} {lt : TypeId} {n g off : Nat} {vs : List Value} [TyA P lt n] (hx : ev t x = some (.pointer (some ⟨g, off, none⟩))) (hn : vs.length = n) (hc : ∀ w, RepH E H w → ∀ (j : Nat) v, vs[j]? = some v → w.cell? ⟨g, off + j, none⟩ = some v) :
    OpV P E (.load lt x) ty t H (.agg vs.toArray) := by
  intro a w ht hh o ho _
  have := run_load_agg (P := P) (w := w) (lt := lt) (b := g) (off := off) (vs := vs) hn (hc w hh)
  simp only [execOp, ho, ev_eval ht hx, Instr.loadAt, Instr.sureAddr, Sem.run_bind, pure, Sem.run, Result.andThen] at this ⊢
  rw [this]
theorem ov_load_w1 {x : Operand} {lt : TypeId} {g off : Nat} {v : Value} [TyC P lt] (hx : ev t x = some (.pointer (some ⟨g, off, none⟩))) (hc : ∀ w, RepH E H w → w.cell? ⟨g, off, none⟩ = some v) : OpV P E (.load lt x) ty t H v := by
  intro a w ht hh o ho _
  have := run_load_cell (P := P) (w := w) (lt := lt) (b := g) (off := off) (v := v) (hc w hh)
  simp only [execOp, ho, ev_eval ht hx, Instr.loadAt, Instr.sureAddr, Sem.run_bind, pure, Sem.run, Result.andThen] at this ⊢
  rw [this]
end
theorem perm_tail {α : Type} (l k : List α) : (l ++ k).Perm (k ++ (l ++ [])) := by rw [List.append_nil]; exact List.perm_append_comm
/-- A loop's record. -/
abbrev Lp (r : Loop) (st : LoopState) (pe : Option Code) : Obj := .loop { r with state := st, pending := pe }
/-- What a frame's temporaries hold. -/
def RepTs (E : Env) (t : Tm) (a : Array Value) : Prop := a.size = E.n ∧ ∀ i v, look t i = some v → a.getD i undef = v
theorem RepTs.rep {E : Env} {t : Tm} {a : Array Value} {ds : List Deferred} (h : RepTs E t a) : RepT E t { tmps := a, defers := ds } := ⟨trivial, h.1, h.2⟩
theorem RepTs.put {E : Env} {t : Tm} {a : Array Value} {d : Nat} {v : Value} (h : RepTs E t a) (hd : Nat.blt d E.n = true) : RepTs E ((d, v) :: t) (a.setIfInBounds d v) := by
  have := RepT.put (a := { tmps := a, defers := [] }) (v := v) h.rep hd
  exact ⟨this.2.1, this.2.2⟩
/-- A round's frame, with what it is handed. -/
def putTm : List Nat → List Value → Tm → Tm
  | p :: ps, v :: vs, t => putTm ps vs ((p, v) :: t)
  | _, _, t => t
theorem RepTs.puts {E : Env} : ∀ (ps : List Nat) (vs : List Value) (t : Tm) (a : Array Value), (ps.all fun p => Nat.blt p E.n) = true → RepTs E t a →
    RepTs E (putTm ps vs t) ((ps.zip vs).foldl (fun tmps (x : Nat × Value) => tmps.setIfInBounds x.1 x.2) a)
  | [], vs, t, a, _, h => by cases vs <;> exact h
  | p :: ps, [], t, a, _, h => h
  | p :: ps, v :: vs, t, a, hp, h => by
    rw [List.all_cons, Bool.and_eq_true] at hp
    exact RepTs.puts ps vs _ _ hp.2 (h.put hp.1)

/-- What a round does: it hands back whether it goes on. -/
def RoundH (P : Program) (E : Env) (l : Nat) (r : Loop) (args : List Value) (H : Hp) (K : Value → Hp → Prop) : Prop :=
  ∀ hid w, RepH ⟨E.B, E.w0, 0⟩ (H ++ hid) w → RoundIn (rdF none) 0 P l r.fn ((r.params.zip args.toArray).foldl (fun tmps (t, a) => tmps.setIfInBounds t a) r.tmps) r.assign r.body w fun e w' => ∃ v H', e = .returned v ∧ RepH ⟨E.B, E.w0, 0⟩ (H' ++ hid) w' ∧ K v H'
theorem RepH.n0 {E : Env} {H : Hp} {w : World} (h : RepH E H w) : RepH ⟨E.B, E.w0, 0⟩ H w := ⟨h.below, h.base, h.nodup, h.at_⟩
theorem RepH.of0 {E : Env} {H : Hp} {w : World} (h : RepH ⟨E.B, E.w0, 0⟩ H w) : RepH E H w := ⟨h.below, h.base, h.nodup, h.at_⟩
theorem RoundH.perm {P : Program} {E : Env} {l : Nat} {r : Loop} {args : List Value} {H H' : Hp} {K : Value → Hp → Prop} (hp : H.Perm H') (h : RoundH P E l r args H' K) : RoundH P E l r args H K := fun hid w hh => h hid w (hh.perm (hp.append_right hid))
theorem CallsH.mono {P : Program} {E : Env} {f : FuncId} {args : List Value} {H : Hp} {K K' : Value → Hp → Prop} (h : CallsH P E f args H K) (hk : ∀ v H', K v H' → K' v H') : CallsH P E f args H K' := fun hid w hh =>
  (h hid w hh).mono fun _ _ ⟨v, H', h1, h2, h3⟩ => ⟨v, H', h1, h2, hk v H' h3⟩
/-- How a round's body may be left. -/
def endsR : Exit → Option (Option Code)
  | .normal => some none
  | .ret => some (some .ret)
  | .exit id => some (some (.exit id))
  | .goto t => some (some (.goto t))
  | _ => none
def rdQ (l : Nat) (r : Loop) (K : Value → Hp → Prop) : Exit → Tm → Hp → Prop := fun e _ H =>
  ∃ pe H' H2, endsR e = some pe ∧ Has H l (Lp r .busy none) ∧ Upd H l (Lp r (if pe.isNone then .ready else .done) pe) H' ∧ H2.Sublist H' ∧ K (.bool pe.isNone) H2
def asgQ (P : Program) (E : Env) (l : Nat) (r : Loop) (body : Code) (K : Value → Hp → Prop) : Exit → Tm → Hp → Prop := fun e t H =>
  e = .normal ∧ Has H l (Lp r .ready none) ∧ ∃ H', Upd H l (Lp r .busy none) H' ∧ aw P E body (rdQ l r K) t H'
section
variable {P : Program} {E : Env} {Q : Exit → Tm → Hp → Prop} {t : Tm} {H H' : Hp}
theorem asg_done {l : Nat} {r : Loop} {body : Code} {K : Value → Hp → Prop} (hh : Has H l (Lp r .ready none)) (hu : Upd H l (Lp r .busy none) H') (h : aw P E body (rdQ l r K) t H') : asgQ P E l r body K .normal t H := ⟨rfl, hh, H', hu, h⟩
theorem rq_normal {l : Nat} {r : Loop} {K : Value → Hp → Prop} {H2 : Hp} (hh : Has H l (Lp r .busy none)) (hu : Upd H l (Lp r .ready none) H') (hs : H2.Sublist H') (h : K (.bool true) H2) : rdQ l r K .normal t H := ⟨none, H', H2, rfl, hh, hu, hs, h⟩
theorem rq_ret {l : Nat} {r : Loop} {K : Value → Hp → Prop} {H2 : Hp} (hh : Has H l (Lp r .busy none)) (hu : Upd H l (Lp r .done (some .ret)) H') (hs : H2.Sublist H') (h : K (.bool false) H2) : rdQ l r K .ret t H := ⟨some .ret, H', H2, rfl, hh, hu, hs, h⟩
theorem rq_exit {l id : Nat} {r : Loop} {K : Value → Hp → Prop} {H2 : Hp} (hh : Has H l (Lp r .busy none)) (hu : Upd H l (Lp r .done (some (.exit id))) H') (hs : H2.Sublist H') (h : K (.bool false) H2) : rdQ l r K (.exit id) t H := ⟨some (.exit id), H', H2, rfl, hh, hu, hs, h⟩

theorem roundH_of {l : Nat} {r : Loop} {args : List Value} {K : Value → Hp → Prop} {ps : List Nat} {t0 : Tm} (hps : r.params = ps.toArray) (hp : (ps.all fun p => Nat.blt p E.n) = true) (hno : noRF r.assign = true) (hnb : noRF r.body = true) (ht0 : RepTs E t0 r.tmps)
    (h : aw P E r.assign (asgQ P E l r r.body K) (putTm ps args t0) H) : RoundH P E l r args H K := by
  intro hid w hh0
  have hh : RepH E (H ++ hid) w := hh0.of0
  unfold aw at h
  refine roundIn_of_wpIn (l := l) (F := rdF none) trivial ?_
  have hr : RepTs E (putTm ps args t0) ((r.params.zip args.toArray).foldl (fun tmps (x : Nat × Value) => tmps.setIfInBounds x.1 x.2) r.tmps) := by
    have := RepTs.puts (E := E) ps args t0 r.tmps hp ht0
    rw [hps, List.zip_toArray, List.foldl_toArray]
    exact this
  refine wpIn_mono (h (some l) (.inr hno) [] hid _ w rfl hr.rep hh) fun e a w1 hq => ?_
  obtain ⟨ms, t', H1, r1, rx, r2, rfl, hHas, H2, hu, hb⟩ := hq
  have hl := (r2.un.has hHas).2
  refine ⟨_, run_beginRound hl rfl, ?_⟩
  have r3 : RepH E (H2 ++ (markH ms ++ hid)) (w1.putObj l (Lp r .busy none)) := r2.upd hu.app
  unfold aw at hb
  refine wpIn_mono (hb (some l) (.inr hnb) _ _ a _ rx r1 r3) fun e2 a2 w2 hq2 => ?_
  obtain ⟨ns, t2, H3, s1, sx, s2, pe, H40, H4, he, hHas2, hu2, hsu, hk⟩ := hq2
  have hl2 := (s2.un.has hHas2).2
  have s3 : RepH E (H40 ++ (markH ns ++ (markH ms ++ hid))) (w2.putObj l (Lp r (if pe.isNone then .ready else .done) pe)) := s2.upd hu2.app
  have s4 : RepH E (H4 ++ hid) (w2.putObj l (Lp r (if pe.isNone then .ready else .done) pe)) := s3.sub (List.Sublist.append hsu ((List.sublist_append_right (markH ms) hid).trans (List.sublist_append_right (markH ns) _)))
  have hend := run_endRound (P := P) pe hl2
  cases e2 with
  | normal => cases he; exact ⟨_, _, hend, _, H4, rfl, s4.n0, hk⟩
  | ret => cases he; exact ⟨_, _, hend, _, H4, rfl, s4.n0, hk⟩
  | exit id => cases he; exact ⟨_, _, hend, _, H4, rfl, s4.n0, hk⟩
  | goto x => cases he; exact ⟨_, _, hend, _, H4, rfl, s4.n0, hk⟩
  | panic ch => cases he
  | outgrown => cases he

/-- A call of yield. -/
theorem ao_yield {ops : Array Oper} {rest : List Oper} {d l : Nat} {x : Operand} {xs : List Operand} {ats : Array TypeId} {ty : TypeId} {pos : String} {af : Array Edge} {gd : Option (Nat × Bool)} {vs : List Value} {r : Loop} {K : Value → Hp → Prop}
    (hw : Wants ops t gd) (hx : ev t x = some (.func (.yield l) #[] #[])) (hv : evL t xs = some vs) (hd : Nat.blt d E.n = true) {R : Hp} (hcut : H.Perm (H' ++ R)) (hl : Has H' l (.loop r)) (hn : vs.length = r.params.size) (hc : RoundH P E l r vs H' K)
    (h : ∀ v H', K v H' → ao false P E ops Q rest ((d, v) :: t) (H' ++ R)) : ao false P E ops Q (⟨some d, .call ⟨.value x, xs.toArray, ats⟩, ty, pos, af, gd⟩ :: rest) t H := by
  unfold ao at h ⊢
  intro m hm ex hid a w hdx ht hh
  refine wpM_step fun K2 hK => ?_
  rw [if_pos (wants_of ht hw)]
  have hh2 : RepH E (H' ++ (R ++ hid)) w := by rw [← List.append_assoc]; exact hh.perm (hcut.append_right hid)
  have hrec := (hh2.un.has hl).2
  have he := evL_eval ht xs vs hv
  have hrun : (execOp a.eval ⟨some d, .call ⟨.value x, xs.toArray, ats⟩, ty, pos, af, gd⟩).run P w = .ok (.round l r.fn ((r.params.zip vs.toArray).foldl (fun tmps (t, a) => tmps.setIfInBounds t a) r.tmps) r.assign r.body) w := by
    have hy := run_yield (P := P) (args := vs.toArray) hrec (by simpa using hn)
    simp only [execOp, resolve, ev_eval ht hx, Deferred.ofValue, Sem.run_bind, Sem.run, pure, Result.andThen, invoke, List.map_toArray, he, Array.empty_append]
    exact hy
  cases m with
  | none => exact absurd (hm rfl) (by simp)
  | some rd =>
    refine ⟨fun _ _ => trivial, ?_⟩
    rw [show (rdF rd).round = rd from rfl, sem_of hrun (fun d e => by cases e), Oper.uponIn_round]
    refine ⟨fun h => by simp [rdF, Fence.wide] at h, ?_⟩
    have hcc : RoundIn (rdF rd) 0 P l r.fn ((r.params.zip vs.toArray).foldl (fun tmps (t, a) => tmps.setIfInBounds t a) r.tmps) r.assign r.body w fun e w' => ∃ v H1, e = .returned v ∧ RepH ⟨E.B, E.w0, 0⟩ (H1 ++ (R ++ hid)) w' ∧ K v H1 := hc (R ++ hid) w hh2.n0
    refine hcc.mono fun e w' ⟨v, H1, hev, hr, hk⟩ => ?_
    subst hev
    exact hK _ _ (h v H1 hk (some rd) (fun e => by cases e) ex hid _ w' hdx (ht.put hd) (by rw [List.append_assoc]; exact hr.of0))

/-- What the statement leaves, by how the last round was left. -/
def jumpQ (Q : Exit → Tm → Hp → Prop) (t : Tm) (H : Hp) : Option Code → Prop
  | none => Q .normal t H
  | some .ret => Q .ret t H
  | some (.exit id) => Q (.exit id) t H
  | some (.goto l) => Q (.goto l) t H
  | _ => False
/-- A range over a function: the function's contract, at this loop's record; behind it the record goes. -/
theorem aw_range {g : Operand} {ps : Array Tmp} {asg body : Code} {gf : FuncId} {bs lb : List Value} [FnB P gf] (hg : ev t g = some (.func (.func gf) bs.toArray lb.toArray))
    (h : ∀ (l : Nat) (r : Loop), r.params = ps → r.assign = asg → r.body = body → RepTs E t r.tmps →
      CallsH P E gf (bs ++ .func (.yield l) #[] #[] :: lb) ((l, Lp r .ready none) :: H) fun _ H' => ∃ st pe H1, st ≠ .busy ∧ H'.Perm ((l, Lp r st pe) :: H1) ∧ jumpQ Q t H1 pe) : aw P E (.rangeFunc g ps asg body) Q t H := by
  unfold aw
  intro rd ok ex hid a w hx ht hh
  obtain rfl : rd = none := ok.resolve_right (by simp [noRF])
  refine wpIn_rangeFunc fun fn _ => ?_
  obtain ⟨gfn, hf, hname, hbody⟩ := FnB.fn (P := P) (f := gf)
  obtain ⟨r, hr⟩ : ∃ r : Loop, r = { state := .ready, pending := none, fn, tmps := a.tmps, params := ps, assign := asg, body, defers := w.heap.size } := ⟨_, rfl⟩
  have hl : (w.alloc (.deferred (some []))).heap.size = w.heap.size + 1 := World.size_alloc _ _
  have h1 : RepH E (((w.alloc (.deferred (some []))).heap.size, Lp r .ready none) :: ((w.heap.size, .deferred (some [])) :: (H ++ hid))) ((w.alloc (.deferred (some []))).alloc (Lp r .ready none)) := (hh.alloc _).alloc _
  rw [hl] at h1
  have h2 : RepH E (((w.heap.size + 1, Lp r .ready none) :: H) ++ (markH [w.heap.size] ++ hid)) ((w.alloc (.deferred (some []))).alloc (Lp r .ready none)) := by
    refine h1.perm (List.Perm.cons _ ?_)
    exact (List.perm_middle (l₁ := H)).symm
  have hcall := h (w.heap.size + 1) r (by rw [hr]) (by rw [hr]) (by rw [hr]) ⟨by rw [hr]; exact ht.2.1, by rw [hr]; exact ht.2.2⟩ (markH [w.heap.size] ++ hid) _ h2
  refine ⟨w.heap.size + 1, [{ target := .collected w.heap.size, args := #[] }], ((w.alloc (.deferred (some []))).alloc (.loop { state := .ready, pending := none, fn, tmps := a.tmps, params := ps, assign := asg, body, defers := w.heap.size })), { target := .fn (.func gf) lb.toArray, args := bs.toArray ++ #[.func (.yield (w.heap.size + 1)) #[] #[]] }, ((w.alloc (.deferred (some []))).alloc (.loop { state := .ready, pending := none, fn, tmps := a.tmps, params := ps, assign := asg, body, defers := w.heap.size })), gf, bs.toArray ++ #[.func (.yield (w.heap.size + 1)) #[] #[]] ++ lb.toArray, ((w.alloc (.deferred (some []))).alloc (.loop { state := .ready, pending := none, fn, tmps := a.tmps, params := ps, assign := asg, body, defers := w.heap.size })), run_enterLoop_outer _ _ _ _ _, ?_, fun _ _ => trivial, ?_, fun h => by simp [rdF, Fence.wide] at h, ?_⟩
  · simp only [resolve, rangeCall, ev_eval ht hg, Deferred.ofValue]
    simp [Sem.run, pure, Act.eval]
  · simp only [invoke, callFunc, program, Sem.run_bind, Sem.run, pure, Result.andThen, hf, hname, hbody]
    simp [Sem.run, pure]
  · have hcall2 := callsIn_rd (rd := none) (n := 0 - 1) hcall
    have hargs : bs.toArray ++ #[Value.func (.yield (w.heap.size + 1)) #[] #[]] ++ lb.toArray = (bs ++ Value.func (.yield (w.heap.size + 1)) #[] #[] :: lb).toArray := by simp
    rw [hargs]
    have hW : (w.alloc (.deferred (some []))).alloc (.loop { state := .ready, pending := none, fn, tmps := a.tmps, params := ps, assign := asg, body, defers := w.heap.size }) = (w.alloc (.deferred (some []))).alloc (Lp r .ready none) := by rw [hr]
    rw [hW]
    refine hcall2.mono fun e w3 ⟨v, H', he, hr3, st, pe, H1, hst, hp, hq⟩ => ?_
    subst he
    have h3 : RepH E ((w.heap.size + 1, Lp r st pe) :: (H1 ++ (markH [w.heap.size] ++ hid))) w3 := hr3.perm (hp.append_right _)
    have hrec := (h3.at_ _ _ List.mem_cons_self).2
    have hend := run_endLoop (P := P) hrec hst
    have h4 : RepH E (H1 ++ (markH [w.heap.size] ++ hid)) (w3.putObj (w.heap.size + 1) (.loop { { r with state := st, pending := pe } with state := .exhausted })) := (h3.upd (Upd.head _ _ _ _)).sub (List.sublist_cons_self _ _)
    have hpost : ∀ e, Q e t H1 → post E ex hid Q e { a with defers := [{ target := .collected w.heap.size, args := #[] }] ++ a.defers } (w3.putObj (w.heap.size + 1) (.loop { { r with state := st, pending := pe } with state := .exhausted })) := fun e hqe => ⟨[w.heap.size], t, H1, ⟨trivial, ht.2.1, ht.2.2⟩, by rw [← hx]; rfl, h4, hqe⟩
    refine ⟨pe, _, hend, ?_⟩
    cases pe with
    | none => exact hpost _ hq
    | some c =>
      cases c with
      | ret => exact wpIn_ret (hpost _ hq)
      | exit id => exact wpIn_exit (hpost _ hq)
      | goto x => exact wpIn_goto (hpost _ hq)
      | _ => exact hq.elim
end
end Sx
end Go.Proofs.Ytpenogailhlcaaa
