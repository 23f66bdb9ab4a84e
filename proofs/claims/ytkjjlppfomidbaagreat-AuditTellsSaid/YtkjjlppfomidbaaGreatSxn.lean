/- What contracts of several layers share: results that lie in memory, calls that leave the own heap in another order, rows in the own heap; conditions: none. -/
import Derived.Test.YtkjjlppfomidbaaGreatSxy
import Derived.Test.YtkjjlppfomidbaaGreatTy
import Derived.Test.YtkjjlppfomidbaaGreatFrame
/- Sxh: What contracts of several layers share: results that lie in memory, calls that leave the own heap in another order, rows in the own heap; conditions: none. -/
namespace Go.Proofs.YtkjjlppfomidbaaGreat
namespace Sx
open Go Go.RowKit
attribute [local irreducible] Go.Calls
set_option linter.unusedSimpArgs false
theorem ov_nilcheck {P : Program} {E : Env} {t : Tm} {H : Hp} {ty : TypeId} {x : Operand} {a : Addr} (hx : ev t x = some (.pointer (some a))) : OpV P E (.nilCheck x) ty t H (.pointer (some a)) := by
  refine ov_of fun b w ht _ o ho _ => ⟨pure (.pointer (some a)), ?_, rfl⟩
  simp only [execOp, ho, ev_eval ht hx]
  rfl
theorem callsH1p {P : Program} {B m : Nat} {w0 : World} {f : FuncId} {fn : Func} {c : Code} {args : List Value} {n r : Nat} {H : Hp} {K : Value → Hp → Prop}
    (hf : P.funcs[f]? = some fn) (hb : fn.body = some c) (hn : fn.ntmps = n) (hl : Nat.ble args.length n = true) (hr : fn.results = #[.tmp r])
    (h : aw P ⟨B, w0, n⟩ c (ret1 r fun v H' => ∃ H2 H1 : Hp, H2.Sublist H' ∧ H2.Perm H1 ∧ K v H1) (tm0 args) H) : CallsH P ⟨B, w0, m⟩ f args H K := by
  refine callsH_of_aw hf hb hn hl h fun e a t' H' r1 q => ?_
  unfold ret1 at q
  cases e with
  | normal =>
    obtain ⟨v, h1, H2, H1, hs, hp, hk⟩ := q
    exact ⟨.inl rfl, _, H1, H2, fun w' _ => by rw [results_tmp hr, r1.2.2 r v h1], hs, hp, hk⟩
  | ret =>
    obtain ⟨v, h1, H2, H1, hs, hp, hk⟩ := q
    exact ⟨.inr rfl, _, H1, H2, fun w' _ => by rw [results_tmp hr, r1.2.2 r v h1], hs, hp, hk⟩
  | exit _ => exact q.elim
  | goto _ => exact q.elim
  | panic _ => exact q.elim
  | outgrown => exact q.elim
theorem openB {e : TypeId} {sz : Nat} {v : Value} {l : Hp} {α : Type} {f : α → List Value} {es : List α} (hf : ∀ a, (f a).length = sz) (h : RowB e sz v l es.length (es.flatMap f)) (hn : 0 < es.length) :
    ∃ g cap cs, v = .slice (some ⟨g, 0, none⟩) es.length cap ∧ l = [(g, .cells (List.toArray cs) e (0, 0))] ∧ es.length ≤ cap ∧ cs.length = cap * sz ∧ cs.take (es.length * sz) = es.flatMap f ∧
      ∀ (i : Nat) (x : α) (z : Int) (r : Nat) u, es[i]? = some x → z = (i : Int) → (f x)[r]? = some u → cs[0 + z.toNat * sz + r]? = some u := by
  obtain ⟨g, cap, cs, h1, h2, h3, h4, h5⟩ := h.open hn
  refine ⟨g, cap, cs, h1, h2, h3, h4, h5, fun i x z r u hi hz hu => ?_⟩
  rw [hz, Int.toNat_natCast, Nat.zero_add]
  exact row_cell h5 (flat_at hf es i r x u hi hu)
def retCS (r : Nat) (R : Value → Hp → Prop) : Exit → Tm → Hp → Prop
  | .ret, t, H | .normal, t, H => ∃ b v e fz, Sx.look t r = some (.pointer (some ⟨b, 0, none⟩)) ∧ Has H b (.cells #[v] e fz) ∧ R v H
  | _, _, _ => False
theorem rcs_ret {r b : Nat} {R : Value → Hp → Prop} {t : Tm} {H : Hp} {v : Value} {e : TypeId} {fz : Nat × Nat} (h1 : Sx.look t r = some (.pointer (some ⟨b, 0, none⟩))) (h2 : Has H b (.cells #[v] e fz)) (hr : R v H) : retCS r R .ret t H := ⟨b, v, e, fz, h1, h2, hr⟩
theorem results_cs {P : Program} {E : Env} {H : Hp} {t : Tm} {fn : Func} {w : World} {a : Act} {r rt b : Nat} {v : Value} {e : TypeId} {fz : Nat × Nat} [TyC P rt] (hr : fn.results = #[.cell r rt]) (ht : RepT E t a) (hh : RepH E H w)
    (h1 : Sx.look t r = some (.pointer (some ⟨b, 0, none⟩))) (h2 : Has H b (.cells #[v] e fz)) : (results fn a.tmps).run P w = .ok v w := by
  have h0 := ht.2.2 r _ h1
  rw [Array.getD_eq_getD_getElem?] at h0
  have hb := (hh.has h2).2
  have hb' : w.heap[b]? = some (.cells [v].toArray e fz) := by simpa using hb
  have := run_load_cell (P := P) (w := w) (lt := rt) (b := b) (off := 0) (v := v) (by rw [cell_of hb']; rfl)
  have h3 : (loadVar rt ⟨b, 0, none⟩).run P w = .ok v w := by simpa only [Instr.loadAt, Instr.sureAddr, Sem.run_bind, pure, Sem.run, Result.andThen] using this
  simp only [results, hr]
  simp [h0, h3, asAddr]
theorem callsCS {P : Program} {f : FuncId} {fn : Func} {c : Code} {args : List Value} {w : World} {R : Ending → World → Prop} {n r rt : Nat} [TyC P rt]
    (hf : P.funcs[f]? = some fn) (hb : fn.body = some c) (hn : fn.ntmps = n) (hl : Nat.ble args.length n = true) (hr : fn.results = #[.cell r rt])
    (h : aw P ⟨w.heap.size, w, n⟩ c (retCS r fun v H => ∀ w', RepH ⟨w.heap.size, w, n⟩ H w' → R (.returned v) w') (tm0 args) []) : Calls P f args.toArray w R := by
  refine calls_of_aw0 hf hb hn hl h fun e a t' H' r1 q => ?_
  cases e with
  | normal => obtain ⟨b, v, e, fz, h1, h2, h4⟩ := q; exact ⟨.inl rfl, _, fun w' r2 => ⟨results_cs hr r1 r2 h1 h2, h4 _ r2⟩⟩
  | ret => obtain ⟨b, v, e, fz, h1, h2, h4⟩ := q; exact ⟨.inr rfl, _, fun w' r2 => ⟨results_cs hr r1 r2 h1 h2, h4 _ r2⟩⟩
  | exit _ => exact q.elim
  | goto _ => exact q.elim
  | panic _ => exact q.elim
  | outgrown => exact q.elim
theorem has_perm {H M : Hp} {b : Nat} {o : Obj} (h : H.Perm M) (hm : Has M b o) : Has H b o := by
  unfold Has at hm ⊢
  exact h.mem_iff.2 hm
theorem ov_lenr {P : Program} {E : Env} {t : Tm} {H : Hp} {ty : TypeId} {x : Operand} {at_ e e2 : TypeId} {sz sz2 by_ n : Nat} {v : Value} {l : Hp} {xs : List Value} [TySl P at_ e sz by_] (hx : ev t x = some v) (hr : RowB e2 sz2 v l n xs) : OpV P E (.call ⟨.builtin .len, #[x], #[at_]⟩) ty t H (I n) := by
  obtain ⟨a, c, rfl⟩ := hr.len
  exact ov_sllen hx
def Lies (w : World) (l : Hp) : Prop := ∀ b o, (b, o) ∈ l → w.heap[b]? = some o
theorem lies_of {E : Env} {H l R : Hp} {w : World} (h : RepH E H w) (hc : Cut H l R) : Lies w l := fun b o hm => ((h.perm hc).at_ b o (List.mem_append_left _ hm)).2
theorem lies_lt {w : World} {l : Hp} {b : Nat} {o : Obj} (h : Lies w l) (hm : (b, o) ∈ l) : b < w.heap.size := (Array.getElem?_eq_some_iff.1 (h b o hm)).1
theorem old_lies {w : World} {l : Hp} {e : TypeId} {sz n : Nat} {v : Value} {xs : List Value} (h : Lies w l) (hr : RowB e sz v l n xs) : OldRow w sz v n xs := by
  refine ⟨hr.1, ?_⟩
  rcases hr.2 with ⟨rfl, h0, _⟩ | ⟨g, cap, cur, rfl, rfl, hnc, hcs, htake⟩
  · exact ⟨none, 0, by rw [h0], fun h => by omega⟩
  · refine ⟨_, _, rfl, fun _ => ⟨g, 0, rfl, lies_lt h List.mem_cons_self, fun j u hj => ?_⟩⟩
    have hg := h g _ List.mem_cons_self
    have hg2 : w.heap[g]? = some (.cells cur.toList.toArray e (0, 0)) := by simpa using hg
    rw [cell_of hg2, Nat.zero_add]
    rw [← htake] at hj
    have hlt := (List.getElem?_eq_some_iff.1 hj).1
    simp only [List.length_take] at hlt
    rwa [List.getElem?_take_of_lt (by omega)] at hj
theorem Lies.sub {w : World} {l m : Hp} (h : Lies w l) (hs : ∀ x ∈ m, x ∈ l) : Lies w m := fun b o hm => h b o (hs _ hm)
theorem callsH2 {P : Program} {B m : Nat} {w0 : World} {f : FuncId} {fn : Func} {c : Code} {args : List Value} {n r s : Nat} {H : Hp} {K : Value → Hp → Prop}
    (hf : P.funcs[f]? = some fn) (hb : fn.body = some c) (hn : fn.ntmps = n) (hl : Nat.ble args.length n = true) (hr : fn.results = #[.tmp r, .tmp s])
    (h : aw P ⟨B, w0, n⟩ c (ret2 r s fun v u H' => ∃ H2 H1 : Hp, H2.Sublist H' ∧ H2.Perm H1 ∧ K (.tuple #[v, u]) H1) (tm0 args) H) : CallsH P ⟨B, w0, m⟩ f args H K := by
  refine callsH_of_aw hf hb hn hl h fun e a t' H' r1 q => ?_
  unfold ret2 at q
  cases e with
  | normal =>
    obtain ⟨v, u, h1, h2, H2, H1, hs, hp, hk⟩ := q
    exact ⟨.inl rfl, _, H1, H2, fun w' _ => by rw [results_tmp2 hr, r1.2.2 r v h1, r1.2.2 s u h2], hs, hp, hk⟩
  | ret =>
    obtain ⟨v, u, h1, h2, H2, H1, hs, hp, hk⟩ := q
    exact ⟨.inr rfl, _, H1, H2, fun w' _ => by rw [results_tmp2 hr, r1.2.2 r v h1, r1.2.2 s u h2], hs, hp, hk⟩
  | exit _ => exact q.elim
  | goto _ => exact q.elim
  | panic _ => exact q.elim
  | outgrown => exact q.elim
theorem aw_fact {P : Program} {E : Env} {Q : Exit → Tm → Hp → Prop} {c : Code} {t : Tm} {H : Hp} {φ : Prop} (hf : ∀ w, RepH E H w → φ) (h : φ → aw P E c Q t H) : aw P E c Q t H := by
  unfold aw at *
  exact fun rd ok ex hid a w hx ht hh => h (hf w (hh.sub (List.sublist_append_left H hid))) rd ok ex hid a w hx ht hh
theorem perm_m {x : Nat × Obj} {l R : Hp} : (l ++ x :: R).Perm (x :: l ++ R) := List.perm_middle
end Sx
end Go.Proofs.YtkjjlppfomidbaaGreat
/- Sxn: What is asked of a pointer that is none, and of memory without cells; conditions: none. -/
namespace Go.Proofs.YtkjjlppfomidbaaGreat
namespace Sx
open Go Go.RowKit
section
variable {P : Program} {E : Env} {t : Tm} {H : Hp} {ty : TypeId}
end
theorem old_blk {E : Env} {H : Hp} {w : World} {b n sz : Nat} {xs : List Value} {e : TypeId} {fz : Nat × Nat} (h : RepH E H w) (hb : Has H b (.cells xs.toArray e fz)) (hn : xs.length = n * sz) : OldRow w sz (.slice (some ⟨b, 0, none⟩) n n) n xs := by
  have hg := (h.has hb).2
  refine ⟨hn, _, _, rfl, fun _ => ⟨b, 0, rfl, (Array.getElem?_eq_some_iff.1 hg).1, fun j u hj => ?_⟩⟩
  rw [cell_of hg, Nat.zero_add]
  exact hj
theorem rep_lies {E : Env} {H l : Hp} {w : World} (hw : RepH E H w) (hs : ∀ x ∈ l, x ∈ H) : Lies w l := fun b o hm => (hw.at_ b o (hs _ hm)).2
theorem lies_cell {w : World} {l : Hp} {b j : Nat} {cs : List Value} {T : TypeId} {fz : Nat × Nat} {u : Value} (hl : Lies w l) (hm : (b, .cells cs.toArray T fz) ∈ l) (hj : cs[j]? = some u) : w.cell? ⟨b, j, none⟩ = some u := by
  rw [cell_of (hl b _ hm)]
  exact hj
end Sx
end Go.Proofs.YtkjjlppfomidbaaGreat
