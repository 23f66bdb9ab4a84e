/- Ranges over functions: the statement, a round, a call of yield; closures with bound arguments; conditions: no range over a function within a round. -/
import Derived.Test.YtkjjlppfomidbaaGreatSxk
import Derived.Test.YtkjjlppfomidbaaGreatSxw
import Derived.MapKept
import Derived.Laws.IdiomRangeMap
/- Sxf: Ranges over functions: the statement, a round, a call of yield; closures with bound arguments; conditions: no range over a function within a round. -/
namespace Go.Proofs.YtkjjlppfomidbaaGreat
namespace Sx
open Go Go.RowKit
set_option linter.unusedSimpArgs false
section
variable {P : Program} {E : Env} {t : Tm} {H : Hp} {ty : TypeId}
theorem ov_load_w {x : Operand} {lt : TypeId} {n g off : Nat} {vs : List Value} [TyA P lt n] (hx : ev t x = some (.pointer (some ⟨g, off, none⟩))) (hn : vs.length = n) (hc : ∀ w, RepH E H w → ∀ (j : Nat) v, vs[j]? = some v → w.cell? ⟨g, off + j, none⟩ = some v) :
    OpV P E (.load lt x) ty t H (.agg vs.toArray) := by
  intro a w ht hh o ho _
  have := run_load_agg (P := P) (w := w) (lt := lt) (b := g) (off := off) (vs := vs) hn (hc w hh)
  simp only [execOp, ho, ev_eval ht hx, Instr.loadAt, Instr.sureAddr, Sem.run_bind, pure, Sem.run, Result.andThen] at this ⊢
  rw [this]
theorem ov_load_w1 {x : Operand} {lt : TypeId} {g off : Nat} {v : Value} [TyC P lt] (hx : ev t x = some (.pointer (some ⟨g, off, none⟩))) (hc : ∀ w, RepH E H w → w.cell? ⟨g, off, none⟩ = some v) : OpV P E (.load lt x) ty t H v := by
  intro a w ht hh o ho _
  have := run_load_cell (P := P) (w := w) (lt := lt) (b := g) (off := off) (v := v) (hc w hh)
  simp only [execOp, ho, ev_eval ht hx, Instr.loadAt, Instr.sureAddr, Sem.run_bind, pure, Sem.run, Result.andThen] at this ⊢
  rw [this]
end
theorem perm_tail {α : Type} (l k : List α) : (l ++ k).Perm (k ++ (l ++ [])) := by rw [List.append_nil]; exact List.perm_append_comm
abbrev Lp (r : Loop) (st : LoopState) (pe : Option Code) : Obj := .loop { r with state := st, pending := pe }
def RepTs (E : Env) (t : Tm) (a : Array Value) : Prop := a.size = E.n ∧ ∀ i v, look t i = some v → a.getD i undef = v
theorem RepTs.rep {E : Env} {t : Tm} {a : Array Value} {ds : List Deferred} (h : RepTs E t a) : RepT E t { tmps := a, defers := ds } := ⟨trivial, h.1, h.2⟩
theorem RepTs.put {E : Env} {t : Tm} {a : Array Value} {d : Nat} {v : Value} (h : RepTs E t a) (hd : Nat.blt d E.n = true) : RepTs E ((d, v) :: t) (a.setIfInBounds d v) := by
  have := RepT.put (a := { tmps := a, defers := [] }) (v := v) h.rep hd
  exact ⟨this.2.1, this.2.2⟩
def putTm : List Nat → List Value → Tm → Tm
  | p :: ps, v :: vs, t => putTm ps vs ((p, v) :: t)
  | _, _, t => t
theorem RepTs.puts {E : Env} : ∀ (ps : List Nat) (vs : List Value) (t : Tm) (a : Array Value), (ps.all fun p => Nat.blt p E.n) = true → RepTs E t a →
    RepTs E (putTm ps vs t) ((ps.zip vs).foldl (fun tmps (x : Nat × Value) => tmps.setIfInBounds x.1 x.2) a)
  | [], vs, t, a, _, h => by cases vs <;> exact h
  | p :: ps, [], t, a, _, h => h
  | p :: ps, v :: vs, t, a, hp, h => by
    rw [List.all_cons, Bool.and_eq_true] at hp
    exact RepTs.puts ps vs _ _ hp.2 (h.put hp.1)
def RoundH (P : Program) (E : Env) (l : Nat) (r : Loop) (args : List Value) (H : Hp) (K : Value → Hp → Prop) : Prop :=
  ∀ hid w, RepH ⟨E.B, E.w0, 0⟩ (H ++ hid) w → RoundIn (rdF none) 0 P l r.fn ((r.params.zip args.toArray).foldl (fun tmps (t, a) => tmps.setIfInBounds t a) r.tmps) r.assign r.body w fun e w' => ∃ v H', e = .returned v ∧ RepH ⟨E.B, E.w0, 0⟩ (H' ++ hid) w' ∧ K v H'
theorem RepH.n0 {E : Env} {H : Hp} {w : World} (h : RepH E H w) : RepH ⟨E.B, E.w0, 0⟩ H w := ⟨h.below, h.base, h.nodup, h.at_⟩
theorem RepH.of0 {E : Env} {H : Hp} {w : World} (h : RepH ⟨E.B, E.w0, 0⟩ H w) : RepH E H w := ⟨h.below, h.base, h.nodup, h.at_⟩
theorem RoundH.perm {P : Program} {E : Env} {l : Nat} {r : Loop} {args : List Value} {H H' : Hp} {K : Value → Hp → Prop} (hp : H.Perm H') (h : RoundH P E l r args H' K) : RoundH P E l r args H K := fun hid w hh => h hid w (hh.perm (hp.append_right hid))
theorem CallsH.mono {P : Program} {E : Env} {f : FuncId} {args : List Value} {H : Hp} {K K' : Value → Hp → Prop} (h : CallsH P E f args H K) (hk : ∀ v H', K v H' → K' v H') : CallsH P E f args H K' := fun hid w hh =>
  (h hid w hh).mono fun _ _ ⟨v, H', h1, h2, h3⟩ => ⟨v, H', h1, h2, hk v H' h3⟩
def endsR : Exit → Option (Option Code)
  | .normal => some none
  | .ret => some (some .ret)
  | .exit id => some (some (.exit id))
  | .goto t => some (some (.goto t))
  | _ => none
def rdQ (l : Nat) (r : Loop) (K : Value → Hp → Prop) : Exit → Tm → Hp → Prop := fun e _ H =>
  ∃ pe H' H2, endsR e = some pe ∧ Has H l (Lp r .busy none) ∧ Upd H l (Lp r (if pe.isNone then .ready else .done) pe) H' ∧ H2.Sublist H' ∧ K (.bool pe.isNone) H2
def asgQ (P : Program) (E : Env) (l : Nat) (r : Loop) (body : Code) (K : Value → Hp → Prop) : Exit → Tm → Hp → Prop := fun e t H =>
  e = .normal ∧ Has H l (Lp r .ready none) ∧ ∃ H', Upd H l (Lp r .busy none) H' ∧ aw P E body (rdQ l r K) t H'
section
variable {P : Program} {E : Env} {Q : Exit → Tm → Hp → Prop} {t : Tm} {H H' : Hp}
theorem asg_done {l : Nat} {r : Loop} {body : Code} {K : Value → Hp → Prop} (hh : Has H l (Lp r .ready none)) (hu : Upd H l (Lp r .busy none) H') (h : aw P E body (rdQ l r K) t H') : asgQ P E l r body K .normal t H := ⟨rfl, hh, H', hu, h⟩
theorem rq_normal {l : Nat} {r : Loop} {K : Value → Hp → Prop} {H2 : Hp} (hh : Has H l (Lp r .busy none)) (hu : Upd H l (Lp r .ready none) H') (hs : H2.Sublist H') (h : K (.bool true) H2) : rdQ l r K .normal t H := ⟨none, H', H2, rfl, hh, hu, hs, h⟩
theorem rq_ret {l : Nat} {r : Loop} {K : Value → Hp → Prop} {H2 : Hp} (hh : Has H l (Lp r .busy none)) (hu : Upd H l (Lp r .done (some .ret)) H') (hs : H2.Sublist H') (h : K (.bool false) H2) : rdQ l r K .ret t H := ⟨some .ret, H', H2, rfl, hh, hu, hs, h⟩
theorem roundH_of {l : Nat} {r : Loop} {args : List Value} {K : Value → Hp → Prop} {ps : List Nat} {t0 : Tm} (hps : r.params = ps.toArray) (hp : (ps.all fun p => Nat.blt p E.n) = true) (hno : noRF r.assign = true) (hnb : noRF r.body = true) (ht0 : RepTs E t0 r.tmps)
    (h : aw P E r.assign (asgQ P E l r r.body K) (putTm ps args t0) H) : RoundH P E l r args H K := by
  intro hid w hh0
  have hh : RepH E (H ++ hid) w := hh0.of0
  unfold aw at h
  refine roundIn_of_wpIn (l := l) (F := rdF none) trivial ?_
  have hr : RepTs E (putTm ps args t0) ((r.params.zip args.toArray).foldl (fun tmps (x : Nat × Value) => tmps.setIfInBounds x.1 x.2) r.tmps) := by
    have := RepTs.puts (E := E) ps args t0 r.tmps hp ht0
    rw [hps, List.zip_toArray, List.foldl_toArray]
    exact this
  refine wpIn_mono (h (some l) (.inr hno) [] hid _ w rfl hr.rep hh) fun e a w1 hq => ?_
  obtain ⟨ms, t', H1, r1, rx, r2, rfl, hHas, H2, hu, hb⟩ := hq
  have hl := (r2.un.has hHas).2
  refine ⟨_, run_beginRound hl rfl, ?_⟩
  have r3 : RepH E (H2 ++ (markH ms ++ hid)) (w1.putObj l (Lp r .busy none)) := r2.upd hu.app
  unfold aw at hb
  refine wpIn_mono (hb (some l) (.inr hnb) _ _ a _ rx r1 r3) fun e2 a2 w2 hq2 => ?_
  obtain ⟨ns, t2, H3, s1, sx, s2, pe, H40, H4, he, hHas2, hu2, hsu, hk⟩ := hq2
  have hl2 := (s2.un.has hHas2).2
  have s3 : RepH E (H40 ++ (markH ns ++ (markH ms ++ hid))) (w2.putObj l (Lp r (if pe.isNone then .ready else .done) pe)) := s2.upd hu2.app
  have s4 : RepH E (H4 ++ hid) (w2.putObj l (Lp r (if pe.isNone then .ready else .done) pe)) := s3.sub (List.Sublist.append hsu ((List.sublist_append_right (markH ms) hid).trans (List.sublist_append_right (markH ns) _)))
  have hend := run_endRound (P := P) pe hl2
  cases e2 with
  | normal => cases he; exact ⟨_, _, hend, _, H4, rfl, s4.n0, hk⟩
  | ret => cases he; exact ⟨_, _, hend, _, H4, rfl, s4.n0, hk⟩
  | exit id => cases he; exact ⟨_, _, hend, _, H4, rfl, s4.n0, hk⟩
  | goto x => cases he; exact ⟨_, _, hend, _, H4, rfl, s4.n0, hk⟩
  | panic ch => cases he
  | outgrown => cases he
theorem ao_yield {ops : Array Oper} {rest : List Oper} {d l : Nat} {x : Operand} {xs : List Operand} {ats : Array TypeId} {ty : TypeId} {pos : String} {af : Array Edge} {gd : Option (Nat × Bool)} {vs : List Value} {r : Loop} {K : Value → Hp → Prop}
    (hw : Wants ops t gd) (hx : ev t x = some (.func (.yield l) #[] #[])) (hv : evL t xs = some vs) (hd : Nat.blt d E.n = true) {R : Hp} (hcut : H.Perm (H' ++ R)) (hl : Has H' l (.loop r)) (hn : vs.length = r.params.size) (hc : RoundH P E l r vs H' K)
    (h : ∀ v H', K v H' → ao false P E ops Q rest ((d, v) :: t) (H' ++ R)) : ao false P E ops Q (⟨some d, .call ⟨.value x, xs.toArray, ats⟩, ty, pos, af, gd⟩ :: rest) t H := by
  unfold ao at h ⊢
  intro m hm ex hid a w hdx ht hh
  refine wpM_step fun K2 hK => ?_
  rw [if_pos (wants_of ht hw)]
  have hh2 : RepH E (H' ++ (R ++ hid)) w := by rw [← List.append_assoc]; exact hh.perm (hcut.append_right hid)
  have hrec := (hh2.un.has hl).2
  have he := evL_eval ht xs vs hv
  have hrun : (execOp a.eval ⟨some d, .call ⟨.value x, xs.toArray, ats⟩, ty, pos, af, gd⟩).run P w = .ok (.round l r.fn ((r.params.zip vs.toArray).foldl (fun tmps (t, a) => tmps.setIfInBounds t a) r.tmps) r.assign r.body) w := by
    have hy := run_yield (P := P) (args := vs.toArray) hrec (by simpa using hn)
    simp only [execOp, resolve, ev_eval ht hx, Deferred.ofValue, Sem.run_bind, Sem.run, pure, Result.andThen, invoke, List.map_toArray, he, Array.empty_append]
    exact hy
  cases m with
  | none => exact absurd (hm rfl) (by simp)
  | some rd =>
    refine ⟨fun _ _ => trivial, ?_⟩
    rw [show (rdF rd).round = rd from rfl, sem_of hrun (fun d e => by cases e), Oper.uponIn_round]
    refine ⟨fun h => by simp [rdF, Fence.wide] at h, ?_⟩
    have hcc : RoundIn (rdF rd) 0 P l r.fn ((r.params.zip vs.toArray).foldl (fun tmps (t, a) => tmps.setIfInBounds t a) r.tmps) r.assign r.body w fun e w' => ∃ v H1, e = .returned v ∧ RepH ⟨E.B, E.w0, 0⟩ (H1 ++ (R ++ hid)) w' ∧ K v H1 := hc (R ++ hid) w hh2.n0
    refine hcc.mono fun e w' ⟨v, H1, hev, hr, hk⟩ => ?_
    subst hev
    exact hK _ _ (h v H1 hk (some rd) (fun e => by cases e) ex hid _ w' hdx (ht.put hd) (by rw [List.append_assoc]; exact hr.of0))
def jumpQ (Q : Exit → Tm → Hp → Prop) (t : Tm) (H : Hp) : Option Code → Prop
  | none => Q .normal t H
  | some .ret => Q .ret t H
  | some (.exit id) => Q (.exit id) t H
  | some (.goto l) => Q (.goto l) t H
  | _ => False
theorem aw_range {g : Operand} {ps : Array Tmp} {asg body : Code} {gf : FuncId} {bs lb : List Value} [FnB P gf] (hg : ev t g = some (.func (.func gf) bs.toArray lb.toArray))
    (h : ∀ (l : Nat) (r : Loop), r.params = ps → r.assign = asg → r.body = body → RepTs E t r.tmps →
      CallsH P E gf (bs ++ .func (.yield l) #[] #[] :: lb) ((l, Lp r .ready none) :: H) fun _ H' => ∃ st pe H1, st ≠ .busy ∧ H'.Perm ((l, Lp r st pe) :: H1) ∧ jumpQ Q t H1 pe) : aw P E (.rangeFunc g ps asg body) Q t H := by
  unfold aw
  intro rd ok ex hid a w hx ht hh
  obtain rfl : rd = none := ok.resolve_right (by simp [noRF])
  refine wpIn_rangeFunc fun fn _ => ?_
  obtain ⟨gfn, hf, hname, hbody⟩ := FnB.fn (P := P) (f := gf)
  obtain ⟨r, hr⟩ : ∃ r : Loop, r = { state := .ready, pending := none, fn, tmps := a.tmps, params := ps, assign := asg, body, defers := w.heap.size } := ⟨_, rfl⟩
  have hl : (w.alloc (.deferred (some []))).heap.size = w.heap.size + 1 := World.size_alloc _ _
  have h1 : RepH E (((w.alloc (.deferred (some []))).heap.size, Lp r .ready none) :: ((w.heap.size, .deferred (some [])) :: (H ++ hid))) ((w.alloc (.deferred (some []))).alloc (Lp r .ready none)) := (hh.alloc _).alloc _
  rw [hl] at h1
  have h2 : RepH E (((w.heap.size + 1, Lp r .ready none) :: H) ++ (markH [w.heap.size] ++ hid)) ((w.alloc (.deferred (some []))).alloc (Lp r .ready none)) := by
    refine h1.perm (List.Perm.cons _ ?_)
    exact (List.perm_middle (l₁ := H)).symm
  have hcall := h (w.heap.size + 1) r (by rw [hr]) (by rw [hr]) (by rw [hr]) ⟨by rw [hr]; exact ht.2.1, by rw [hr]; exact ht.2.2⟩ (markH [w.heap.size] ++ hid) _ h2
  refine ⟨w.heap.size + 1, [{ target := .collected w.heap.size, args := #[] }], ((w.alloc (.deferred (some []))).alloc (.loop { state := .ready, pending := none, fn, tmps := a.tmps, params := ps, assign := asg, body, defers := w.heap.size })), { target := .fn (.func gf) lb.toArray, args := bs.toArray ++ #[.func (.yield (w.heap.size + 1)) #[] #[]] }, ((w.alloc (.deferred (some []))).alloc (.loop { state := .ready, pending := none, fn, tmps := a.tmps, params := ps, assign := asg, body, defers := w.heap.size })), gf, bs.toArray ++ #[.func (.yield (w.heap.size + 1)) #[] #[]] ++ lb.toArray, ((w.alloc (.deferred (some []))).alloc (.loop { state := .ready, pending := none, fn, tmps := a.tmps, params := ps, assign := asg, body, defers := w.heap.size })), run_enterLoop_outer _ _ _ _ _, ?_, fun _ _ => trivial, ?_, fun h => by simp [rdF, Fence.wide] at h, ?_⟩
  · simp only [resolve, rangeCall, ev_eval ht hg, Deferred.ofValue]
    simp [Sem.run, pure, Act.eval]
  · simp only [invoke, callFunc, program, Sem.run_bind, Sem.run, pure, Result.andThen, hf, hname, hbody]
    simp [Sem.run, pure]
  · have hcall2 := callsIn_rd (rd := none) (n := 0 - 1) hcall
    have hargs : bs.toArray ++ #[Value.func (.yield (w.heap.size + 1)) #[] #[]] ++ lb.toArray = (bs ++ Value.func (.yield (w.heap.size + 1)) #[] #[] :: lb).toArray := by simp
    rw [hargs]
    have hW : (w.alloc (.deferred (some []))).alloc (.loop { state := .ready, pending := none, fn, tmps := a.tmps, params := ps, assign := asg, body, defers := w.heap.size }) = (w.alloc (.deferred (some []))).alloc (Lp r .ready none) := by rw [hr]
    rw [hW]
    refine hcall2.mono fun e w3 ⟨v, H', he, hr3, st, pe, H1, hst, hp, hq⟩ => ?_
    subst he
    have h3 : RepH E ((w.heap.size + 1, Lp r st pe) :: (H1 ++ (markH [w.heap.size] ++ hid))) w3 := hr3.perm (hp.append_right _)
    have hrec := (h3.at_ _ _ List.mem_cons_self).2
    have hend := run_endLoop (P := P) hrec hst
    have h4 : RepH E (H1 ++ (markH [w.heap.size] ++ hid)) (w3.putObj (w.heap.size + 1) (.loop { { r with state := st, pending := pe } with state := .exhausted })) := (h3.upd (Upd.head _ _ _ _)).sub (List.sublist_cons_self _ _)
    have hpost : ∀ e, Q e t H1 → post E ex hid Q e { a with defers := [{ target := .collected w.heap.size, args := #[] }] ++ a.defers } (w3.putObj (w.heap.size + 1) (.loop { { r with state := st, pending := pe } with state := .exhausted })) := fun e hqe => ⟨[w.heap.size], t, H1, ⟨trivial, ht.2.1, ht.2.2⟩, by rw [← hx]; rfl, h4, hqe⟩
    refine ⟨pe, _, hend, ?_⟩
    cases pe with
    | none => exact hpost _ hq
    | some c =>
      cases c with
      | ret => exact wpIn_ret (hpost _ hq)
      | exit id => exact wpIn_exit (hpost _ hq)
      | goto x => exact wpIn_goto (hpost _ hq)
      | _ => exact hq.elim
end
end Sx
end Go.Proofs.YtkjjlppfomidbaaGreat
/- Sxp: Maps with keys that are integers, in the call's own memory: made, filled, asked; conditions: none. -/
namespace Go.Proofs.YtkjjlppfomidbaaGreat
namespace Sx
open Go Go.RowKit Go.MapKept
section
variable {P : Program} {E : Env} {t : Tm} {H : Hp} {ty mt kt et : TypeId} {kk : IntKind}
theorem on_makeMap : OpN P E (.makeMap mt none) ty t H (.map #[] 0) (fun b => .map (some b)) := by
  intro a w ht _ o ho _
  simp only [execOp, ho, Option.map_none, Instr.makeMap, newObj, Sem.run_bind, Sem.run, pure, Result.andThen]
  rfl
end
end Sx
end Go.Proofs.YtkjjlppfomidbaaGreat
/- Sxy: Maps by keys of whatever kind, in the call's own memory or older: made, filled, asked, counted, taken from, ranged over; conditions: none. -/
namespace Go.Proofs.YtkjjlppfomidbaaGreat
namespace Sx
open Go Go.RowKit Go.MapKept
abbrev En (κ : Type) := κ × Value × Nat
def ent {κ : Type} (enc : κ → Value) (x : En κ) : MapEntry := { key := enc x.1, val := x.2.1, born := x.2.2 }
def mapO {κ : Type} (enc : κ → Value) (es : List (En κ)) (c : Nat) : Obj := .map (es.map (ent enc)).toArray c
def fndK {κ : Type} [DecidableEq κ] (k : κ) : List (En κ) → Nat → Option (Nat × Value)
  | [], _ => none
  | x :: es, i => if k = x.1 then some (i, x.2.1) else fndK k es (i + 1)
class KeyK (P : Program) (kt : TypeId) {κ : Type} [DecidableEq κ] (enc : κ → Value) : Prop where
  check : ∀ (b : Bool) (w : World) (k : κ), (Instr.checkKey b 10000 kt (enc k)).run P w = .ok () w
  find : ∀ (w : World) (k : κ) (es : List (En κ)), (Instr.findKey kt (enc k) (es.map (ent enc))).run P w = .ok (fndK k es 0) w
  stays : ∀ (w : World) (k : κ), (Instr.keyThatStays (enc k) (enc k)).run P w = .ok (enc k) w
class TyMapT (P : Program) (t : TypeId) (k e : outParam TypeId) : Prop where
  map : P.underlying t = some (.map k e)
theorem run_equal_struct {P : Program} {kt : TypeId} {ds : List TypeDesc} [TyEq P kt ds] {xs ys : List Value} (h1 : fitAll ds xs = true) (h2 : fitAll ds ys = true) (w : World) : (Op.equal kt (.agg xs.toArray) (.agg ys.toArray)).run P w = .ok (eqAll xs ys) w := by
  have hp := TyEq.held (P := P) (t := kt)
  have hu := TyEq.und (P := P) (t := kt)
  have hps := TyEq.parts (P := P) (t := kt)
  show (Op.equalIn 10000 kt _ _).run P w = _
  rw [run_equalIn_struct w 9999 kt _ _ hu hp, run_eqFields (d := 9998) _ ds 0 xs ys xs ys hps h1 h2 rfl rfl]
theorem run_checkPart {P : Program} {b : Bool} {n : Nat} {ft : TypeId} {d : TypeDesc} {x : Value} {w : World} (hd : P.underlying ft = some d) (hx : fitB d x = true) : (Instr.checkKey b (n + 1) ft x).run P w = .ok () w := by
  unfold fitB at hx
  unfold Instr.checkKey
  simp only [Sem.run_bind, run_underlying hd, Result.andThen]
  split at hx <;> first | rfl | cases hx
theorem run_checkFields {P : Program} {w : World} (us : List Value) (f0 : Field → Unit → Sem (ForInStep Unit)) : ∀ (fs : List Field) (ds : List TypeDesc) (k : Nat) (xs : List Value),
    (∀ f x d, f ∈ fs → (f.name == "_") = false → P.underlying f.type = some d → fitB d x = true → (part f.type us.toArray f.offset).run P w = .ok x w → (f0 f ()).run P w = .ok (.yield ()) w) →
    fs.map (fun f => (f.name == "_", f.offset, P.underlying f.type, aggB P f.type)) = (ds.zipIdx k).map (fun x => (false, x.2, some x.1, false)) → fitAll ds xs = true →
    us.drop k = xs → (forIn fs () f0).run P w = .ok () w
  | [], [], k, xs, _, _, _, _ => rfl
  | [], _ :: _, _, _, _, h, _, _ => by simp at h
  | _ :: _, [], _, _, _, h, _, _ => by simp at h
  | f :: fs, d :: ds, k, [], _, h, hx, ha => by simp [fitAll] at hx
  | f :: fs, d :: ds, k, x :: xs, h0, h, hx, ha => by
    simp only [List.map_cons, List.zipIdx_cons, List.cons.injEq, Prod.mk.injEq] at h
    obtain ⟨⟨h1, h2, h3, h4⟩, h5⟩ := h
    simp only [fitAll, Bool.and_eq_true] at hx
    have hak : us[k]? = some x := by
      have := congrArg (fun l => l[0]?) ha
      simpa using this
    have ha' : us.drop (k + 1) = xs := by rw [← List.drop_drop, ha]; rfl
    have hpa : (part f.type us.toArray f.offset).run P w = .ok x w := by
      simp only [part, Sem.run_bind, run_isAgg (und_of_aggB h4) h4, Result.andThen, h2]
      simp [hak, pure]
    rw [List.forIn_cons, Sem.run_bind, h0 f x d List.mem_cons_self h1 h3 hx.1 hpa]
    exact run_checkFields us f0 fs ds (k + 1) xs (fun g y e hg => h0 g y e (List.mem_cons_of_mem f hg)) h5 hx.2 ha'
theorem run_checkKey_struct {P : Program} {kt : TypeId} {ds : List TypeDesc} [TyEq P kt ds] {xs : List Value} (h : fitAll ds xs = true) (b : Bool) (w : World) : (Instr.checkKey b 10000 kt (.agg xs.toArray)).run P w = .ok () w := by
  have hu := TyEq.und (P := P) (t := kt)
  have hps := TyEq.parts (P := P) (t := kt)
  show (Instr.checkKey b (9999 + 1) kt (.agg xs.toArray)).run P w = .ok () w
  unfold Instr.checkKey
  simp only [Sem.run_bind, run_underlying hu, Result.andThen]
  rw [← Array.forIn_toList]
  have key : ∀ f0 : Field → Unit → Sem (ForInStep Unit), (∀ f x d, f ∈ (P.fieldsOf kt).toList → (f.name == "_") = false → P.underlying f.type = some d → fitB d x = true → (part f.type xs.toArray f.offset).run P w = .ok x w → (f0 f ()).run P w = .ok (.yield ()) w) → (forIn (P.fieldsOf kt).toList () f0).run P w = .ok () w :=
    fun f0 h0 => run_checkFields xs f0 _ ds 0 xs h0 hps h rfl
  rw [key]
  · rfl
  intro f x d _ hn hd hx hp
  have hn2 : f.name ≠ "_" := by simpa using hn
  simp only [ne_eq, hn2, not_false_eq_true, if_true, Sem.run_bind, hp, Result.andThen, run_checkPart (n := 9998) hd hx]
  rfl
theorem run_findAsking {P : Program} {κ : Type} [DecidableEq κ] {enc : κ → Value} {kt : TypeId} {w : World} (h : ∀ a b : κ, (Op.equal kt (enc a) (enc b)).run P w = .ok (decide (a = b)) w) (k : κ) : ∀ (es : List (En κ)) (i : Nat), (Instr.findAsking kt (enc k) (es.map (ent enc)) i).run P w = .ok (fndK k es i) w
  | [], _ => rfl
  | x :: es, i => by
    have ih := run_findAsking h k es (i + 1)
    simp only [List.map_cons, Instr.findAsking, Sem.run_bind]
    have h1 : (Op.equal kt (enc k) (ent enc x).key).run P w = .ok (decide (k = x.1)) w := h k x.1
    simp only [h1, Result.andThen]
    unfold fndK
    by_cases e : k = x.1
    · simp only [decide_eq_true e, if_true, if_pos e]
      rfl
    · simp only [decide_eq_false e, if_neg e, Bool.false_eq_true, if_false]
      exact ih
theorem keyK_struct {P : Program} {kt : TypeId} {ds : List TypeDesc} [TyEq P kt ds] {κ : Type} [DecidableEq κ] (cells : κ → List Value) (hf : ∀ k, fitAll ds (cells k) = true) (he : ∀ a b, eqAll (cells a) (cells b) = decide (a = b)) (hs : ∀ k, Instr.sameBits 10000 (.agg (cells k).toArray) (.agg (cells k).toArray) = true) : KeyK P kt fun k => .agg (cells k).toArray where
  check b w k := run_checkKey_struct (hf k) b w
  find w k es := by
    have hu := TyEq.und (P := P) (t := kt)
    simp only [Instr.findKey, Sem.run_bind, run_underlying hu, Result.andThen]
    have h := run_findAsking (P := P) (kt := kt) (w := w) (enc := fun k => .agg (cells k).toArray) (fun a b => by rw [run_equal_struct (hf a) (hf b), he]) k es 0
    cases es with
    | nil => rfl
    | cons x es => exact h
  stays w k := by
    simp only [Instr.keyThatStays, hs k, if_true]
    rfl
def setK {κ : Type} [DecidableEq κ] (k : κ) (u : Value) : List (En κ) → List (En κ)
  | [] => []
  | x :: es => if k = x.1 then (k, u, x.2.2) :: es else x :: setK k u es
def delK {κ : Type} [DecidableEq κ] (k : κ) : List (En κ) → List (En κ)
  | [] => []
  | x :: es => if k = x.1 then es else x :: delK k es
section
variable {κ : Type} [DecidableEq κ] {enc : κ → Value} {k : κ}
theorem fndK_none : ∀ {es : List (En κ)} {i : Nat}, fndK k es i = none ↔ ∀ x ∈ es, x.1 ≠ k
  | [], i => by simp [fndK]
  | x :: es, i => by
    unfold fndK
    by_cases e : k = x.1
    · rw [if_pos e]; simp [e]
    · rw [if_neg e, fndK_none]
      constructor
      · intro h y hy
        rcases List.mem_cons.1 hy with rfl | hy
        · exact fun h => e h.symm
        · exact h y hy
      · exact fun h y hy => h y (List.mem_cons_of_mem x hy)
theorem fndK_some : ∀ {es : List (En κ)} {i j : Nat} {u : Value}, fndK k es i = some (j, u) → i ≤ j ∧ ∃ b, es[j - i]? = some (k, u, b)
  | [], i, j, u, h => by simp [fndK] at h
  | x :: es, i, j, u, h => by
    unfold fndK at h
    by_cases e : k = x.1
    · rw [if_pos e] at h
      simp only [Option.some.injEq, Prod.mk.injEq] at h
      obtain ⟨rfl, rfl⟩ := h
      refine ⟨Nat.le_refl _, x.2.2, ?_⟩
      rw [Nat.sub_self, e]
      rfl
    · rw [if_neg e] at h
      obtain ⟨h1, b, h2⟩ := fndK_some h
      refine ⟨by omega, b, ?_⟩
      rw [show j - i = (j - (i + 1)) + 1 by omega, List.getElem?_cons_succ]
      exact h2
theorem modify_setK : ∀ {es : List (En κ)} {i j : Nat} {u v : Value}, fndK k es i = some (j, v) → (es.map (ent enc)).modify (j - i) (fun e => { e with key := enc k, val := u }) = (setK k u es).map (ent enc)
  | [], i, j, u, v, h => by simp [fndK] at h
  | x :: es, i, j, u, v, h => by
    unfold fndK at h
    unfold setK
    by_cases e : k = x.1
    · rw [if_pos e] at h ⊢
      simp only [Option.some.injEq, Prod.mk.injEq] at h
      obtain ⟨rfl, rfl⟩ := h
      rw [Nat.sub_self]
      rfl
    · rw [if_neg e] at h ⊢
      have h1 := (fndK_some h).1
      have ih := modify_setK (u := u) h
      rw [show j - i = (j - (i + 1)) + 1 by omega, List.map_cons, List.modify_succ_cons, ih]
      rfl
theorem erase_delK : ∀ {es : List (En κ)} {i j : Nat} {v : Value}, fndK k es i = some (j, v) → (es.map (ent enc)).eraseIdx (j - i) = (delK k es).map (ent enc)
  | [], i, j, v, h => by simp [fndK] at h
  | x :: es, i, j, v, h => by
    unfold fndK at h
    unfold delK
    by_cases e : k = x.1
    · rw [if_pos e] at h ⊢
      simp only [Option.some.injEq, Prod.mk.injEq] at h
      obtain ⟨rfl, rfl⟩ := h
      rw [Nat.sub_self]
      rfl
    · rw [if_neg e] at h ⊢
      have h1 := (fndK_some h).1
      have ih := erase_delK h
      rw [show j - i = (j - (i + 1)) + 1 by omega, List.map_cons, List.eraseIdx_cons_succ, ih]
      rfl
theorem delK_none : ∀ {es : List (En κ)}, (∀ x ∈ es, x.1 ≠ k) → delK k es = es
  | [], _ => rfl
  | x :: es, h => by
    unfold delK
    rw [if_neg fun e => h x List.mem_cons_self e.symm, delK_none fun y hy => h y (List.mem_cons_of_mem x hy)]
theorem delK_sub : ∀ {es : List (En κ)}, (delK k es).Sublist es
  | [] => List.Sublist.refl _
  | x :: es => by
    unfold delK
    split
    · exact List.sublist_cons_self x es
    · exact delK_sub.cons_cons x
theorem delK_mem {y : En κ} : ∀ {es : List (En κ)}, (es.map (·.1)).Nodup → (y ∈ delK k es ↔ y ∈ es ∧ y.1 ≠ k)
  | [], _ => by simp [delK]
  | x :: es, hn => by
    rw [List.map_cons, List.nodup_cons] at hn
    unfold delK
    by_cases e : k = x.1
    · rw [if_pos e]
      constructor
      · intro h
        refine ⟨List.mem_cons_of_mem x h, fun e2 => hn.1 ?_⟩
        rw [← e, ← e2]
        exact List.mem_map.2 ⟨y, h, rfl⟩
      · rintro ⟨h, h2⟩
        rcases List.mem_cons.1 h with rfl | h
        · exact absurd e.symm h2
        · exact h
    · rw [if_neg e, List.mem_cons, delK_mem hn.2, List.mem_cons]
      constructor
      · rintro (rfl | ⟨h, h2⟩)
        · exact ⟨.inl rfl, fun h => e h.symm⟩
        · exact ⟨.inr h, h2⟩
      · rintro ⟨h | h, h2⟩
        · exact .inl h
        · exact .inr ⟨h, h2⟩
theorem setK_keys {u : Value} : ∀ {es : List (En κ)}, (setK k u es).map (·.1) = es.map (·.1)
  | [] => rfl
  | x :: es => by
    unfold setK
    by_cases e : k = x.1
    · rw [if_pos e, List.map_cons, List.map_cons, e]
    · rw [if_neg e, List.map_cons, setK_keys, List.map_cons]
theorem setK_born {u : Value} : ∀ {es : List (En κ)}, (setK k u es).map (·.2.2) = es.map (·.2.2)
  | [] => rfl
  | x :: es => by
    unfold setK
    by_cases e : k = x.1
    · rw [if_pos e, List.map_cons, List.map_cons]
    · rw [if_neg e, List.map_cons, setK_born, List.map_cons]
end
section
variable {P : Program} {E : Env} {kd : Bool} {Q : Exit → Tm → Hp → Prop} {t : Tm} {H : Hp} {ops : Array Oper} {rest : List Oper} {ty mt kt et : TypeId} {κ : Type} [DecidableEq κ] {enc : κ → Value}
def MapAt (E : Env) (H : Hp) (enc : κ → Value) (b : Nat) (es : List (En κ)) (c : Nat) : Prop := ∀ w, RepH E H w → w.heap[b]? = some (mapO enc es c)
omit [DecidableEq κ] in
theorem mapAt_has {b c : Nat} {es : List (En κ)} (h : Has H b (mapO enc es c)) : MapAt E H enc b es c := fun _ hh => (hh.has h).2
omit [DecidableEq κ] in
theorem mapAt_old {b c : Nat} {es : List (En κ)} (h : E.w0.heap[b]? = some (mapO enc es c)) (hb : b < E.B) : MapAt E H enc b es c := fun _ hh => by rw [hh.below.block b hb]; exact h
theorem ov_mget {x y : Operand} {b c i : Nat} {k : κ} {u : Value} {es : List (En κ)} (ok : Bool) [KeyK P kt enc] [TyMapT P mt kt et] (hx : ev t x = some (.map (some b))) (hk : ev t y = some (enc k)) (hb : MapAt E H enc b es c)
    (hn : fndK k es 0 = some (i, u)) : OpV P E (.lookup mt x y ok) ty t H (if ok then .tuple #[u, .bool true] else u) := by
  refine ov_of fun a w ht hh o ho _ => ⟨_, by simp only [execOp, ho]; rfl, ?_⟩
  have hg := hb w hh
  have hm := TyMapT.map (P := P) (t := mt)
  simp only [ev_eval ht hx, ev_eval ht hk, Instr.lookup, Sem.run_bind, run_underlying hm, Result.andThen, MapKept.run_getObj_map hg, pure, Sem.run, KeyK.check (enc := enc), KeyK.find (enc := enc), hn]
theorem ov_mget0 {x y : Operand} {b c : Nat} {k : κ} {z : Value} {es : List (En κ)} (ok : Bool) [KeyK P kt enc] [TyMapT P mt kt et] [TyZ P et z] (hx : ev t x = some (.map (some b))) (hk : ev t y = some (enc k)) (hb : MapAt E H enc b es c)
    (hn : fndK k es 0 = none) : OpV P E (.lookup mt x y ok) ty t H (if ok then .tuple #[z, .bool false] else z) := by
  refine ov_of fun a w ht hh o ho _ => ⟨_, by simp only [execOp, ho]; rfl, ?_⟩
  have hg := hb w hh
  have hm := TyMapT.map (P := P) (t := mt)
  have hz := TyZ.zero (P := P) (t := et)
  obtain ⟨i, hi, hz2⟩ := Option.map_eq_some_iff.1 hz
  simp only [ev_eval ht hx, ev_eval ht hk, Instr.lookup, Sem.run_bind, run_underlying hm, Result.andThen, MapKept.run_getObj_map hg, pure, Sem.run, KeyK.check (enc := enc), KeyK.find (enc := enc), hn, zeroValue, typeInfo, program, hi, hz2]
theorem ov_mgetn {x y : Operand} {k : κ} {z : Value} (ok : Bool) [KeyK P kt enc] [TyMapT P mt kt et] [TyZ P et z] (hx : ev t x = some (.map none)) (hk : ev t y = some (enc k)) : OpV P E (.lookup mt x y ok) ty t H (if ok then .tuple #[z, .bool false] else z) := by
  refine ov_of fun a w ht hh o ho _ => ⟨_, by simp only [execOp, ho]; rfl, ?_⟩
  have hm := TyMapT.map (P := P) (t := mt)
  have hz := TyZ.zero (P := P) (t := et)
  obtain ⟨i, hi, hz2⟩ := Option.map_eq_some_iff.1 hz
  have hf := KeyK.find (P := P) (kt := kt) (enc := enc) w k []
  simp only [List.map_nil] at hf
  simp only [ev_eval ht hx, ev_eval ht hk, Instr.lookup, Sem.run_bind, run_underlying hm, Result.andThen, pure, Sem.run, KeyK.check (enc := enc), hf, fndK, zeroValue, typeInfo, program, hi, hz2]
theorem ow_mput {x y z : Operand} {b c : Nat} {k : κ} {u : Value} {es : List (En κ)} [KeyK P kt enc] [TyMapT P mt kt et] (hx : ev t x = some (.map (some b))) (hk : ev t y = some (enc k)) (hv : ev t z = some u) (hb : MapAt E H enc b es c)
    (hn : fndK k es 0 = none) : OpW P E (.mapUpdate mt x y z) ty t H b (mapO enc (es ++ [(k, u, c)]) (c + 1)) .skip := by
  intro a w ht hh o ho _
  have hg := hb w hh
  have hm := TyMapT.map (P := P) (t := mt)
  simp only [execOp, ho, ev_eval ht hx, ev_eval ht hk, ev_eval ht hv, Instr.mapUpdate, Sem.run_bind, run_underlying hm, MapKept.run_getObj_map hg, KeyK.check (enc := enc), KeyK.find (enc := enc), hn, MapKept.run_setObj_map _ hg, Result.andThen, pure, Sem.run]
  simp [mapO, ent]
theorem ow_mset {x y z : Operand} {b c i : Nat} {k : κ} {u v : Value} {es : List (En κ)} [KeyK P kt enc] [TyMapT P mt kt et] (hx : ev t x = some (.map (some b))) (hk : ev t y = some (enc k)) (hv : ev t z = some u) (hb : MapAt E H enc b es c)
    (hn : fndK k es 0 = some (i, v)) : OpW P E (.mapUpdate mt x y z) ty t H b (mapO enc (setK k u es) c) .skip := by
  intro a w ht hh o ho _
  have hg := hb w hh
  have hm := TyMapT.map (P := P) (t := mt)
  obtain ⟨-, bo, hi⟩ := fndK_some hn
  rw [Nat.sub_zero] at hi
  have hmod := modify_setK (enc := enc) (u := u) hn
  rw [Nat.sub_zero] at hmod
  have hkey : (((es.map (ent enc)).toArray[i]?).map (·.key)).getD (enc k) = enc k := by
    rw [List.getElem?_toArray, List.getElem?_map, hi]
    rfl
  simp only [execOp, ho, ev_eval ht hx, ev_eval ht hk, ev_eval ht hv, Instr.mapUpdate, Sem.run_bind, run_underlying hm, MapKept.run_getObj_map hg, KeyK.check (enc := enc), KeyK.find (enc := enc), hn, Result.andThen, hkey, KeyK.stays (P := P) (kt := kt) (enc := enc), MapKept.run_setObj_map _ hg, pure, Sem.run]
  simp only [mapO, ← hmod, List.modify_toArray]
theorem ao_valw0 {op : Op} {ty : TypeId} {pos : String} {af : Array Edge} {gd : Option (Nat × Bool)} {b : Nat} {o : Obj} {H' : Hp} {v : Value}
    (hw : Wants ops t gd) (hv : OpW P E op ty t H b o (.value v)) (hu : Upd H b o H')
    (h : ao kd P E ops Q rest t H') : ao kd P E ops Q (⟨none, op, ty, pos, af, gd⟩ :: rest) t H := by
  unfold ao at h ⊢
  intro m0 hm0 ex hid a w hdx ht hh
  refine wpM_step fun K hK => ?_
  rw [if_pos (wants_of ht hw)]
  exact opM_value (hv a w ht hh.un _ rfl rfl) (hK _ _ (h m0 hm0 ex hid _ _ hdx ht.put_none (hh.upd hu.app)))
theorem ow_mdel {x y : Operand} {b c : Nat} {k : κ} {es : List (En κ)} [KeyK P kt enc] [TyMapT P mt kt et] (hx : ev t x = some (.map (some b))) (hk : ev t y = some (enc k)) (hb : MapAt E H enc b es c) :
    OpW P E (.call ⟨.builtin .delete, #[x, y], #[mt, kt]⟩) ty t H b (mapO enc (delK k es) c) (.value (.tuple #[])) := by
  intro a w ht hh o ho _
  have hg := hb w hh
  have hm := TyMapT.map (P := P) (t := mt)
  cases hf : fndK k es 0 with
  | none =>
    rw [delK_none (fndK_none.1 hf)]
    simp [execOp, ho, resolve, invoke, builtin, Builtin.delete_, ev_eval ht hx, ev_eval ht hk, run_underlying hm, MapKept.run_getObj_map hg, KeyK.check (enc := enc), KeyK.find (enc := enc), hf, MapKept.run_setObj_map _ hg, Result.andThen, mapO]
  | some p =>
    obtain ⟨i, v⟩ := p
    have her := erase_delK (enc := enc) hf
    rw [Nat.sub_zero] at her
    simp [execOp, ho, resolve, invoke, builtin, Builtin.delete_, ev_eval ht hx, ev_eval ht hk, run_underlying hm, MapKept.run_getObj_map hg, KeyK.check (enc := enc), KeyK.find (enc := enc), hf, MapKept.run_setObj_map _ hg, Result.andThen, mapO, her]
omit [DecidableEq κ] in
theorem ov_mlen {x : Operand} {b c : Nat} {es : List (En κ)} [TyMapT P mt kt et] (hx : ev t x = some (.map (some b))) (hb : MapAt E H enc b es c) : OpV P E (.call ⟨.builtin .len, #[x], #[mt]⟩) ty t H (I es.length) := by
  intro a w ht hh o ho _
  have hg := hb w hh
  have hm := TyMapT.map (P := P) (t := mt)
  simp [execOp, ho, resolve, invoke, builtin, Builtin.len_, ev_eval ht hx, run_underlying hm, MapKept.run_getObj_map hg, Result.andThen, goInt]
omit [DecidableEq κ] in
theorem ov_mlen0 {x : Operand} [TyMapT P mt kt et] (hx : ev t x = some (.map none)) : OpV P E (.call ⟨.builtin .len, #[x], #[mt]⟩) ty t H (I 0) := by
  intro a w ht hh o ho _
  have hm := TyMapT.map (P := P) (t := mt)
  simp [execOp, ho, resolve, invoke, builtin, Builtin.len_, ev_eval ht hx, run_underlying hm, Result.andThen, goInt]
end
section
variable {P : Program} {E : Env} {kd : Bool} {Q : Exit → Tm → Hp → Prop} {t : Tm} {H : Hp} {ops : Array Oper} {rest : List Oper} {ty mt kt et : TypeId} {κ : Type} {enc : κ → Value}
theorem on_mrange {x : Operand} {b c : Nat} {es : List (En κ)} [TyMapT P mt kt et] (hx : ev t x = some (.map (some b))) (hb : MapAt E H enc b es c) : OpN P E (.range mt x) ty t H (.mapIter (some b) c #[] c) (fun b => .pointer (some ⟨b, 0, none⟩)) := by
  intro a w ht hh o ho _
  have hg := hb w hh
  have hm := TyMapT.map (P := P) (t := mt)
  simp only [execOp, ho, ev_eval ht hx, Instr.range, Sem.run_bind, run_underlying hm, MapKept.run_getObj_map hg, Result.andThen, newObj, pure, Sem.run]
  rfl
theorem on_mrange0 {x : Operand} [TyMapT P mt kt et] (hx : ev t x = some (.map none)) : OpN P E (.range mt x) ty t H (.mapIter none 0 #[] 0) (fun b => .pointer (some ⟨b, 0, none⟩)) := by
  intro a w ht hh o ho _
  have hm := TyMapT.map (P := P) (t := mt)
  simp only [execOp, ho, ev_eval ht hx, Instr.range, Sem.run_bind, run_underlying hm, Result.andThen, newObj, pure, Sem.run]
  rfl
theorem ov_mnext0 {x : Operand} {bi : Nat} {s : Array Nat} {a0 b0 : Nat} (hx : ev t x = some (.pointer (some ⟨bi, 0, none⟩))) (hi : Has H bi (.mapIter none a0 s b0)) : OpV P E (.next x false) ty t H (.tuple #[.bool false]) := by
  refine ov_of fun a w ht hh o ho _ => ⟨_, by simp only [execOp, ho]; rfl, ?_⟩
  simp only [ev_eval ht hx, Instr.next, getObj, Sem.run_bind, Sem.run, (hh.has hi).2, Result.andThen]
  rfl
theorem ao_mnext {d : Nat} {x : Operand} {pos : String} {af : Array Edge} {gd : Option (Nat × Bool)} {bi b c since last : Nat} {seen : Array Nat} {es : List (En κ)} {H' : Nat → Hp}
    (hw : Wants ops t gd) (hx : ev t x = some (.pointer (some ⟨bi, 0, none⟩))) (hi : Has H bi (.mapIter (some b) since seen last)) (hb : MapAt E H enc b es c)
    (hold : ∀ y ∈ es, y.2.2 < since) (hsc : since ≤ last) (hd : Nat.blt d E.n = true) (hu : ∀ z, Upd H bi (.mapIter (some b) since (seen.push z) c) (H' z))
    (h0 : (∀ y ∈ es, y.2.2 ∈ seen) → ao kd P E ops Q rest ((d, .tuple #[.bool false]) :: t) H)
    (h1 : ∀ y ∈ es, y.2.2 ∉ seen → ao kd P E ops Q rest ((d, .tuple #[.bool true, enc y.1, y.2.1]) :: t) (H' y.2.2)) :
    ao kd P E ops Q (⟨some d, .next x false, ty, pos, af, gd⟩ :: rest) t H := by
  unfold ao at h0 h1 ⊢
  intro m0 hm0 ex hid a w hdx ht hh
  have hg := hb w hh.un
  have hit := (hh.un.has hi).2
  unfold mapO at hg
  have htest : (!seen.isEmpty && !(es.map (ent enc)).toArray.isEmpty && (es.map (ent enc)).toArray.all (fun x => decide (x.born ≥ last))) = false := next_test_false seen _ since last (fun y hy => by
    simp only [List.mem_map] at hy
    obtain ⟨z, hz, rfl⟩ := hy
    exact hold z hz) hsc
  -- the entries that are left
  have hL : ∀ y ∈ ((es.map (ent enc)).toArray.filter fun e => !seen.contains e.born).toList, ∃ z ∈ es, z.2.2 ∉ seen ∧ y = ent enc z := fun y hy => by
    rw [Array.toList_filter] at hy
    obtain ⟨h2, h3⟩ := List.mem_filter.1 hy
    simp only [List.mem_map] at h2
    obtain ⟨z, hz, rfl⟩ := h2
    refine ⟨z, hz, ?_, rfl⟩
    simpa [ent] using h3
  have hE : ((es.map (ent enc)).toArray.filter fun e => !seen.contains e.born).size = 0 → ∀ y ∈ es, y.2.2 ∈ seen := fun h y hy => by
    have h2 := Array.eq_empty_of_size_eq_zero h
    rw [Array.filter_eq_empty_iff] at h2
    have := h2 (ent enc y) (by simp only [List.mem_toArray, List.mem_map]; exact ⟨y, hy, rfl⟩)
    simpa [ent] using this
  generalize hLe : ((es.map (ent enc)).toArray.filter fun e => !seen.contains e.born) = L at hL hE
  have e1 : L.filter (fun x => decide (x.born < since)) = L := Array.filter_eq_self.2 (fun x hx => by
    obtain ⟨z, hz, -, rfl⟩ := hL x (Array.mem_toList_iff.2 hx)
    exact decide_eq_true (hold z hz))
  have e2 : L.filter (fun x => decide (x.born ≥ since)) = #[] := by
    rw [Array.filter_eq_empty_iff]
    intro x hx
    obtain ⟨z, hz, -, rfl⟩ := hL x (Array.mem_toList_iff.2 hx)
    have := hold z hz
    simp [ent]
    omega
  refine wpM_step fun K hK => ?_
  rw [if_pos (wants_of ht hw)]
  by_cases hz : L.size = 0
  · have hem : L = #[] := Array.eq_empty_of_size_eq_zero hz
    subst hem
    refine opM_value (v := .tuple #[.bool false]) (w' := w) ?_ (hK _ _ (h0 (hE hz) m0 hm0 ex hid _ _ hdx (ht.put hd) hh))
    simp only [execOp, ev_eval ht hx, Instr.next, getObj, Sem.run_bind, Sem.run, hit, hg, Result.andThen, htest, Bool.false_eq_true, if_false, hLe, e1, e2, Array.append_empty, Array.isEmpty_empty, if_true, Array.map_empty, choose, Question.forced]
    rfl
  · have hne : L.isEmpty = false := by simp [Array.isEmpty, hz]
    obtain ⟨j, w1, hj, hh1, hrun⟩ : ∃ (j : Nat) (w1 : World), j < L.size ∧ RepH E (H ++ hid) w1 ∧ (choose (Question.mapNext L.size)).run P w = .ok j w1 := by
      by_cases hf : L.size ≤ 1
      · exact ⟨0, w, by omega, hh, by simp [choose, Sem.run, Question.forced, hf]⟩
      · exact ⟨_, { w with drawn := w.drawn + 1 }, Nat.mod_lt _ (by omega), hh.drew, by
          simp only [choose, Sem.run, Question.forced, decide_eq_true_eq, hf, if_false, Question.cut]
          rfl⟩
    have hmem : L[j] ∈ L.toList := Array.mem_toList_iff.2 (Array.getElem_mem hj)
    obtain ⟨y, hy, hns, hey⟩ := hL _ hmem
    have hit1 := (hh1.un.has hi).2
    have hup := hh1.upd (hu y.2.2).app
    refine opM_value (v := .tuple #[.bool true, enc y.1, y.2.1]) ?_ (hK _ _ (h1 y hy hns m0 hm0 ex hid _ _ hdx (ht.put hd) hup))
    simp only [execOp, ev_eval ht hx, Instr.next, getObj, Sem.run_bind, Sem.run, hit, hg, Result.andThen, htest, Bool.false_eq_true, if_false, hLe, e1, e2, Array.append_empty, hne, Array.empty_append, Array.size_map, hrun, Array.getElem?_map, Array.getElem?_eq_getElem hj, Option.map_some, setObj, hit1, pure]
    rw [hey]
    rfl
theorem ov_entry {x : Operand} {bi b c since : Nat} {seen : Array Nat} {es : List (En κ)} {y : En κ} (hx : ev t x = some (.pointer (some ⟨bi, 0, none⟩))) (hi : Has H bi (.mapIter (some b) since (seen.push y.2.2) c)) (hb : MapAt E H enc b es c)
    (hn : (es.map (·.2.2)).Nodup) (hy : y ∈ es) : OpV P E (.entry x) ty t H (.tuple #[enc y.1, y.2.1]) := by
  refine ov_of fun a w ht hh o ho _ => ⟨_, by simp only [execOp, ho]; rfl, ?_⟩
  have hg := hb w hh
  have hit := (hh.has hi).2
  unfold mapO at hg
  have hf : (es.map (ent enc)).toArray.find? (fun e => e.born == y.2.2) = some (ent enc y) := by
    rw [List.find?_toArray]
    exact find_born (ent enc y) _ (by rw [List.map_map]; exact hn) (List.mem_map.2 ⟨y, hy, rfl⟩)
  simp only [ev_eval ht hx, Instr.entry, getObj, Sem.run_bind, Sem.run, hit, hg, Result.andThen, Array.back?_push, bne_self_eq_false, Bool.false_eq_true, if_false, hf, pure]
  rfl
def MapOf (E : Env) (H : Hp) (enc : κ → Value) (mo : Option Nat) (es : List (En κ)) (c : Nat) : Prop := match mo with | none => es = [] ∧ c = 0 | some b => MapAt E H enc b es c
theorem on_mrangeO {x : Operand} {mo : Option Nat} {c : Nat} {es : List (En κ)} [TyMapT P mt kt et] (hx : ev t x = some (.map mo)) (hb : MapOf E H enc mo es c) : OpN P E (.range mt x) ty t H (.mapIter mo c #[] c) (fun b => .pointer (some ⟨b, 0, none⟩)) := by
  cases mo with
  | none =>
    obtain ⟨-, rfl⟩ := hb
    exact on_mrange0 hx
  | some b => exact on_mrange hx hb
theorem ao_mnextO {d : Nat} {x : Operand} {pos : String} {af : Array Edge} {gd : Option (Nat × Bool)} {bi c since last : Nat} {mo : Option Nat} {seen : Array Nat} {es : List (En κ)} {R : Hp}
    (hw : Wants ops t gd) (hx : ev t x = some (.pointer (some ⟨bi, 0, none⟩))) (hc : Cut H [(bi, .mapIter mo since seen last)] R) (hb : MapOf E ((bi, .mapIter mo since seen last) :: R) enc mo es c)
    (hold : ∀ y ∈ es, y.2.2 < since) (hsc : since ≤ last) (hd : Nat.blt d E.n = true)
    (h0 : (∀ y ∈ es, y.2.2 ∈ seen) → ao kd P E ops Q rest ((d, .tuple #[.bool false]) :: t) ((bi, .mapIter mo since seen last) :: R))
    (h1 : ∀ y ∈ es, y.2.2 ∉ seen → ao kd P E ops Q rest ((d, .tuple #[.bool true, enc y.1, y.2.1]) :: t) ((bi, .mapIter mo since (seen.push y.2.2) c) :: R)) :
    ao kd P E ops Q (⟨some d, .next x false, ty, pos, af, gd⟩ :: rest) t H := by
  have key : ao kd P E ops Q (⟨some d, .next x false, ty, pos, af, gd⟩ :: rest) t ((bi, .mapIter mo since seen last) :: R) := by
    cases mo with
    | none =>
      obtain ⟨rfl, -⟩ := hb
      exact ao_val hw (ov_mnext0 hx Has.head) hd (h0 fun _ h => by cases h)
    | some b => exact ao_mnext hw hx Has.head hb hold hsc hd (fun z => Upd.head _ _ _ _) h0 h1
  exact ao_permH hc key
theorem ov_entryO {x : Operand} {bi c since : Nat} {mo : Option Nat} {seen : Array Nat} {es : List (En κ)} {y : En κ} (hx : ev t x = some (.pointer (some ⟨bi, 0, none⟩))) (hi : Has H bi (.mapIter mo since (seen.push y.2.2) c)) (hb : MapOf E H enc mo es c)
    (hn : (es.map (·.2.2)).Nodup) (hy : y ∈ es) : OpV P E (.entry x) ty t H (.tuple #[enc y.1, y.2.1]) := by
  cases mo with
  | none => rw [hb.1] at hy; cases hy
  | some b => exact ov_entry hx hi hb hn hy
theorem perm_mem {α : Type} : ∀ {l m : List α}, l.Nodup → m.Nodup → (∀ x, x ∈ l ↔ x ∈ m) → l.Perm m
  | [], m, _, _, h => by
    cases m with
    | nil => exact List.Perm.refl _
    | cons a m => exact absurd ((h a).2 List.mem_cons_self) (by simp)
  | a :: l, m, hl, hm, h => by
    obtain ⟨s, u, rfl⟩ := List.append_of_mem ((h a).1 List.mem_cons_self)
    rw [List.nodup_cons] at hl
    have h2 : (a :: (s ++ u)).Nodup := List.perm_middle.nodup_iff.1 hm
    rw [List.nodup_cons] at h2
    refine (List.Perm.cons a (perm_mem hl.2 h2.2 fun x => ?_)).trans List.perm_middle.symm
    have hx := h x
    simp only [List.mem_cons, List.mem_append] at hx ⊢
    constructor
    · intro hxl
      rcases hx.1 (.inr hxl) with h3 | h3 | h3
      · exact .inl h3
      · exact absurd (h3 ▸ hxl) hl.1
      · exact .inr h3
    · intro hxm
      have h3 : x ∈ s ∨ x = a ∨ x ∈ u := hxm.imp id .inr
      rcases hx.2 h3 with h4 | h4
      · exact absurd (h4 ▸ List.mem_append.2 hxm) h2.1
      · exact h4
theorem left_less {α : Type} (f : α → Nat) {seen : Array Nat} {X : List α} {x : α} (hx : x ∈ X) (hn : f x ∉ seen) : (X.filter fun y => !(seen.push (f x)).contains (f y)).length < (X.filter fun y => !seen.contains (f y)).length := by
  refine filter_lt (fun y => !seen.contains (f y)) (fun y => !(seen.push (f x)).contains (f y)) (fun y hy => ?_) x ?_ ?_ X hx
  · rw [contains_push] at hy
    cases hc : seen.contains (f y)
    · rfl
    · rw [hc, Bool.true_or] at hy; cases hy
  · have : seen.contains (f x) = false := by
      cases hc : seen.contains (f x)
      · rfl
      · exact absurd (Array.contains_iff_mem.1 hc) hn
    rw [this]; rfl
  · rw [contains_push, beq_self_eq_true, Bool.or_true]; rfl
theorem run_eqGuard_map {w : World} {op : BinOp} {xt : TypeId} {x y : Operand} {a b : Option Nat} : (eqGuard op xt x y (.map a) (.map b)).run P w = .ok () w := by
  unfold eqGuard
  split <;> rfl
theorem ov_meqn {x y : Operand} {yt : TypeId} {a : Option Nat} [TyMapT P mt kt et] (hx : ev t x = some (.map a)) (hy : ev t y = some (.map none)) : OpV P E (.binOp .eql mt x y yt) ty t H (.bool a.isNone) := by
  refine ov_of fun c w ht _ o ho _ => ⟨_, by simp only [execOp, ho]; rfl, ?_⟩
  have hm := TyMapT.map (P := P) (t := mt)
  have h : ∀ d, (Op.equalIn (d + 1) mt (.map a) (.map none)).run P w = .ok a.isNone w := fun d => by
    unfold Op.equalIn
    simp only [Sem.run_bind, run_underlying hm, Result.andThen]
    cases a <;> rfl
  rw [ev_eval ht hx, ev_eval ht hy, Sem.run_bind, run_eqGuard_map]
  simp only [Result.andThen, binOp, Op.equal, Op.maxDepth, Sem.run_bind]
  rw [h 9999]
  rfl
class TyPtr (P : Program) (t : TypeId) (e : outParam TypeId) : Prop where
  und : P.underlying t = some (.pointer e)
theorem run_eqGuard_ptr {w : World} {op : BinOp} {xt : TypeId} {x y : Operand} {a b : Option Addr} : (eqGuard op xt x y (.pointer a) (.pointer b)).run P w = .ok () w := by
  unfold eqGuard
  split <;> rfl
theorem ov_peqn {x y : Operand} {pt yt : TypeId} {a : Option Addr} [TyPtr P pt et] (hx : ev t x = some (.pointer a)) (hy : ev t y = some (.pointer none)) : OpV P E (.binOp .eql pt x y yt) ty t H (.bool a.isNone) := by
  refine ov_of fun c w ht _ o ho _ => ⟨_, by simp only [execOp, ho]; rfl, ?_⟩
  have hm := TyPtr.und (P := P) (t := pt)
  have h : ∀ d, (Op.equalIn (d + 1) pt (.pointer a) (.pointer none)).run P w = .ok a.isNone w := fun d => by
    unfold Op.equalIn
    simp only [Sem.run_bind, run_underlying hm, Result.andThen]
    cases a <;> rfl
  rw [ev_eval ht hx, ev_eval ht hy, Sem.run_bind, run_eqGuard_ptr]
  simp only [Result.andThen, binOp, Op.equal, Op.maxDepth, Sem.run_bind]
  rw [h 9999]
  rfl
theorem ov_peqs {x y : Operand} {pt yt : TypeId} {a : Addr} [TyPtr P pt et] (hx : ev t x = some (.pointer (some a))) (hy : ev t y = some (.pointer none)) : OpV P E (.binOp .eql pt x y yt) ty t H (.bool false) := ov_peqn hx hy
theorem ov_peq0 {x y : Operand} {pt yt : TypeId} [TyPtr P pt et] (hx : ev t x = some (.pointer none)) (hy : ev t y = some (.pointer none)) : OpV P E (.binOp .eql pt x y yt) ty t H (.bool true) := ov_peqn hx hy
theorem ov_meqs {x y : Operand} {yt : TypeId} {a : Nat} [TyMapT P mt kt et] (hx : ev t x = some (.map (some a))) (hy : ev t y = some (.map none)) : OpV P E (.binOp .eql mt x y yt) ty t H (.bool false) := ov_meqn hx hy
theorem ov_meq0 {x y : Operand} {yt : TypeId} [TyMapT P mt kt et] (hx : ev t x = some (.map none)) (hy : ev t y = some (.map none)) : OpV P E (.binOp .eql mt x y yt) ty t H (.bool true) := ov_meqn hx hy
end
end Sx
end Go.Proofs.YtkjjlppfomidbaaGreat
