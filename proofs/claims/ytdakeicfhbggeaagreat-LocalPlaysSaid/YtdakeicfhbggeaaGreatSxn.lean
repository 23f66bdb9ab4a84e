/- What contracts of several layers share: results that lie in memory, calls that leave the own heap in another order, rows in the own heap; conditions: none. -/
import Derived.Test.YtdakeicfhbggeaaGreatSxy
import Derived.Test.YtdakeicfhbggeaaGreatTy
import Derived.Test.YtdakeicfhbggeaaGreatFrame
/- Sxh: What contracts of several layers share: results that lie in memory, calls that leave the own heap in another order, rows in the own heap; conditions: none. -/
namespace Go.Proofs.YtdakeicfhbggeaaGreat
namespace Sx
open Go Go.RowKit
attribute [local irreducible] Go.Calls
set_option linter.unusedSimpArgs false
theorem ov_nilcheck {P : Program} {E : Env} {t : Tm} {H : Hp} {ty : TypeId} {x : Operand} {a : Addr} (hx : ev t x = some (.pointer (some a))) : OpV P E (.nilCheck x) ty t H (.pointer (some a)) := by
  refine ov_of fun b w ht _ o ho _ => ⟨pure (.pointer (some a)), ?_, rfl⟩
  simp only [execOp, ho, ev_eval ht hx]
  rfl
theorem callsH1p {P : Program} {B m : Nat} {w0 : World} {f : FuncId} {fn : Func} {c : Code} {args : List Value} {n r : Nat} {H : Hp} {K : Value → Hp → Prop}
    (hf : P.funcs[f]? = some fn) (hb : fn.body = some c) (hn : fn.ntmps = n) (hl : Nat.ble args.length n = true) (hr : fn.results = #[.tmp r])
    (h : aw P ⟨B, w0, n⟩ c (ret1 r fun v H' => ∃ H2 H1 : Hp, H2.Sublist H' ∧ H2.Perm H1 ∧ K v H1) (tm0 args) H) : CallsH P ⟨B, w0, m⟩ f args H K := by
  refine callsH_of_aw hf hb hn hl h fun e a t' H' r1 q => ?_
  unfold ret1 at q
  cases e with
  | normal =>
    obtain ⟨v, h1, H2, H1, hs, hp, hk⟩ := q
    exact ⟨.inl rfl, _, H1, H2, fun w' _ => by rw [results_tmp hr, r1.2.2 r v h1], hs, hp, hk⟩
  | ret =>
    obtain ⟨v, h1, H2, H1, hs, hp, hk⟩ := q
    exact ⟨.inr rfl, _, H1, H2, fun w' _ => by rw [results_tmp hr, r1.2.2 r v h1], hs, hp, hk⟩
  | exit _ => exact q.elim
  | goto _ => exact q.elim
  | panic _ => exact q.elim
  | outgrown => exact q.elim
theorem has_perm {H M : Hp} {b : Nat} {o : Obj} (h : H.Perm M) (hm : Has M b o) : Has H b o := by
  unfold Has at hm ⊢
  exact h.mem_iff.2 hm
theorem ov_lenr {P : Program} {E : Env} {t : Tm} {H : Hp} {ty : TypeId} {x : Operand} {at_ e e2 : TypeId} {sz sz2 by_ n : Nat} {v : Value} {l : Hp} {xs : List Value} [TySl P at_ e sz by_] (hx : ev t x = some v) (hr : RowB e2 sz2 v l n xs) : OpV P E (.call ⟨.builtin .len, #[x], #[at_]⟩) ty t H (I n) := by
  obtain ⟨a, c, rfl⟩ := hr.len
  exact ov_sllen hx
def Lies (w : World) (l : Hp) : Prop := ∀ b o, (b, o) ∈ l → w.heap[b]? = some o
theorem lies_of {E : Env} {H l R : Hp} {w : World} (h : RepH E H w) (hc : Cut H l R) : Lies w l := fun b o hm => ((h.perm hc).at_ b o (List.mem_append_left _ hm)).2
theorem lies_lt {w : World} {l : Hp} {b : Nat} {o : Obj} (h : Lies w l) (hm : (b, o) ∈ l) : b < w.heap.size := (Array.getElem?_eq_some_iff.1 (h b o hm)).1
theorem old_lies {w : World} {l : Hp} {e : TypeId} {sz n : Nat} {v : Value} {xs : List Value} (h : Lies w l) (hr : RowB e sz v l n xs) : OldRow w sz v n xs := by
  refine ⟨hr.1, ?_⟩
  rcases hr.2 with ⟨rfl, h0, _⟩ | ⟨g, cap, cur, rfl, rfl, hnc, hcs, htake⟩
  · exact ⟨none, 0, by rw [h0], fun h => by omega⟩
  · refine ⟨_, _, rfl, fun _ => ⟨g, 0, rfl, lies_lt h List.mem_cons_self, fun j u hj => ?_⟩⟩
    have hg := h g _ List.mem_cons_self
    have hg2 : w.heap[g]? = some (.cells cur.toList.toArray e (0, 0)) := by simpa using hg
    rw [cell_of hg2, Nat.zero_add]
    rw [← htake] at hj
    have hlt := (List.getElem?_eq_some_iff.1 hj).1
    simp only [List.length_take] at hlt
    rwa [List.getElem?_take_of_lt (by omega)] at hj
theorem Lies.sub {w : World} {l m : Hp} (h : Lies w l) (hs : ∀ x ∈ m, x ∈ l) : Lies w m := fun b o hm => h b o (hs _ hm)
theorem callsH2 {P : Program} {B m : Nat} {w0 : World} {f : FuncId} {fn : Func} {c : Code} {args : List Value} {n r s : Nat} {H : Hp} {K : Value → Hp → Prop}
    (hf : P.funcs[f]? = some fn) (hb : fn.body = some c) (hn : fn.ntmps = n) (hl : Nat.ble args.length n = true) (hr : fn.results = #[.tmp r, .tmp s])
    (h : aw P ⟨B, w0, n⟩ c (ret2 r s fun v u H' => ∃ H2 H1 : Hp, H2.Sublist H' ∧ H2.Perm H1 ∧ K (.tuple #[v, u]) H1) (tm0 args) H) : CallsH P ⟨B, w0, m⟩ f args H K := by
  refine callsH_of_aw hf hb hn hl h fun e a t' H' r1 q => ?_
  unfold ret2 at q
  cases e with
  | normal =>
    obtain ⟨v, u, h1, h2, H2, H1, hs, hp, hk⟩ := q
    exact ⟨.inl rfl, _, H1, H2, fun w' _ => by rw [results_tmp2 hr, r1.2.2 r v h1, r1.2.2 s u h2], hs, hp, hk⟩
  | ret =>
    obtain ⟨v, u, h1, h2, H2, H1, hs, hp, hk⟩ := q
    exact ⟨.inr rfl, _, H1, H2, fun w' _ => by rw [results_tmp2 hr, r1.2.2 r v h1, r1.2.2 s u h2], hs, hp, hk⟩
  | exit _ => exact q.elim
  | goto _ => exact q.elim
  | panic _ => exact q.elim
  | outgrown => exact q.elim
theorem aw_fact {P : Program} {E : Env} {Q : Exit → Tm → Hp → Prop} {c : Code} {t : Tm} {H : Hp} {φ : Prop} (hf : ∀ w, RepH E H w → φ) (h : φ → aw P E c Q t H) : aw P E c Q t H := by
  unfold aw at *
  exact fun rd ok ex hid a w hx ht hh => h (hf w (hh.sub (List.sublist_append_left H hid))) rd ok ex hid a w hx ht hh
end Sx
end Go.Proofs.YtdakeicfhbggeaaGreat
/- Sxn: What is asked of a pointer that is none, and of memory without cells; conditions: none. -/
namespace Go.Proofs.YtdakeicfhbggeaaGreat
namespace Sx
open Go Go.RowKit
section
variable {P : Program} {E : Env} {t : Tm} {H : Hp} {ty : TypeId}
end
theorem old_blk {E : Env} {H : Hp} {w : World} {b n sz : Nat} {xs : List Value} {e : TypeId} {fz : Nat × Nat} (h : RepH E H w) (hb : Has H b (.cells xs.toArray e fz)) (hn : xs.length = n * sz) : OldRow w sz (.slice (some ⟨b, 0, none⟩) n n) n xs := by
  have hg := (h.has hb).2
  refine ⟨hn, _, _, rfl, fun _ => ⟨b, 0, rfl, (Array.getElem?_eq_some_iff.1 hg).1, fun j u hj => ?_⟩⟩
  rw [cell_of hg, Nat.zero_add]
  exact hj
end Sx
end Go.Proofs.YtdakeicfhbggeaaGreat
