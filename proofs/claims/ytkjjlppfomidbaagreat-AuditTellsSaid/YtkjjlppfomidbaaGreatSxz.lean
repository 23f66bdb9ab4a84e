/- Slices of the call's own in the symbolic walk: rows that grow, are read, and are written, over whatever program; conditions: none. -/
import Derived.Test.YtkjjlppfomidbaaGreatSxc
import Derived.Laws.Shifts
import Derived.Laws.BytesArg
import Derived.Laws.IdiomStrings
import Derived.Laws.MakeOwn
import Derived.OrdersHeld
import Derived.Scope
import Derived.WalkSmall
import Derived.LaidLaws
import Derived.Lib.LaidTab
import Derived.Sort.Grow
import Derived.Deep.Draws
import Derived.OpenShut
/- Sxr: Slices of the call's own in the symbolic walk: rows that grow, are read, and are written, over whatever program; conditions: none. -/
namespace Go.Proofs.YtkjjlppfomidbaaGreat
namespace Sx
open Go Go.RowKit
set_option linter.unusedSimpArgs false
class TySl (P : Program) (t : TypeId) (e : outParam TypeId) (sz by_ : outParam Nat) : Prop where
  sl : ∃ i z, P.underlying t = some (.slice e) ∧ P.info? e = some i ∧ i.zero = some z ∧ i.size = sz ∧ i.bytes = by_ ∧ z.cells.size = sz
def RowB (e : TypeId) (sz : Nat) (v : Value) (l : Hp) (n : Nat) (xs : List Value) : Prop :=
  xs.length = n * sz ∧ ((v = .slice none 0 0 ∧ n = 0 ∧ l = []) ∨
    ∃ g cap cur, v = .slice (some ⟨g, 0, none⟩) n cap ∧ l = [(g, .cells cur e (0, 0))] ∧ n ≤ cap ∧ cur.size = cap * sz ∧ cur.toList.take (n * sz) = xs)
theorem RowB.nil {e : TypeId} {sz : Nat} : RowB e sz (.slice none 0 0) [] 0 [] := ⟨by simp, .inl ⟨rfl, rfl, rfl⟩⟩
theorem RowB.lit {e : TypeId} {sz n g : Nat} {cs : List Value} (h : cs.length = n * sz) : RowB e sz (.slice (some ⟨g, 0, none⟩) n n) [(g, .cells cs.toArray e (0, 0))] n cs :=
  ⟨h, .inr ⟨g, n, cs.toArray, rfl, rfl, Nat.le_refl _, by simpa using h, by rw [← h]; simp⟩⟩
theorem RowB.open {e : TypeId} {sz : Nat} {v : Value} {l : Hp} {n : Nat} {xs : List Value} (h : RowB e sz v l n xs) (hn : 0 < n) :
    ∃ g cap cs, v = .slice (some ⟨g, 0, none⟩) n cap ∧ l = [(g, .cells (List.toArray cs) e (0, 0))] ∧ n ≤ cap ∧ cs.length = cap * sz ∧ cs.take (n * sz) = xs := by
  rcases h.2 with ⟨_, h0, _⟩ | ⟨g, cap, cur, h1, h2, h3, h4, h5⟩
  · omega
  · exact ⟨g, cap, cur.toList, h1, by simpa using h2, h3, by simpa using h4, h5⟩
theorem RowB.len {e : TypeId} {sz : Nat} {v : Value} {l : Hp} {n : Nat} {xs : List Value} (h : RowB e sz v l n xs) : ∃ a c, v = .slice a n c := by
  rcases h.2 with ⟨rfl, rfl, _⟩ | ⟨g, cap, cur, rfl, _⟩
  · exact ⟨_, _, rfl⟩
  · exact ⟨_, _, rfl⟩
def Cut (H l R : Hp) : Prop := H.Perm (l ++ R)
theorem Cut.nil {H : Hp} : Cut H [] H := List.Perm.refl _
theorem Cut.here {l R : Hp} : Cut (l ++ R) l R := List.Perm.refl _
theorem Cut.here1 {x : Nat × Obj} {R : Hp} : Cut (x :: R) [x] R := List.Perm.refl _
theorem Cut.skip {H l R : Hp} (x : Nat × Obj) (h : Cut H l R) : Cut (x :: H) l (x :: R) :=
  (List.Perm.cons x h).trans List.perm_middle.symm
theorem Cut.skipA {H l R : Hp} (k : Hp) (h : Cut H l R) : Cut (k ++ H) l (k ++ R) := by
  refine (List.Perm.append_left k h).trans ?_
  rw [← List.append_assoc, ← List.append_assoc]
  exact List.Perm.append_right R List.perm_append_comm
section
variable {P : Program} {E : Env} {kd : Bool} {Q : Exit → Tm → Hp → Prop} {t : Tm} {H : Hp} {ops : Array Oper} {rest : List Oper} {ty : TypeId}
theorem RepH.perm {H' : Hp} {w : World} (hp : H.Perm H') (h : RepH E H w) : RepH E H' w :=
  ⟨h.below, h.base, (hp.map _).nodup_iff.1 h.nodup, fun b o hm => h.at_ b o (hp.mem_iff.2 hm)⟩
theorem ao_permH {H' : Hp} (hp : H.Perm H') (h : ao kd P E ops Q rest t H') : ao kd P E ops Q rest t H := by
  unfold ao at h ⊢
  exact fun m hm ex hid a w hx ht hh => h m hm ex hid a w hx ht (hh.perm (hp.append_right hid))
theorem aw_permH {c : Code} {H' : Hp} (hp : H.Perm H') (h : aw P E c Q t H') : aw P E c Q t H := by
  unfold aw at h ⊢
  exact fun rd ok ex hid a w hx ht hh => h rd ok ex hid a w hx ht (hh.perm (hp.append_right hid))
theorem RepH.right {l R : Hp} {w : World} (h : RepH E (l ++ R) w) : RepH E R w := h.sub (List.sublist_append_right l R)
theorem RepH.drewn {w : World} (h : RepH E H w) : RepH E H w.drew := ⟨Below.drew h.below, h.base, h.nodup, h.at_⟩
theorem Has.appR {b : Nat} {o : Obj} (l : Hp) (h : Has H b o) : Has (l ++ H) b o := by
  unfold Has at *
  exact List.mem_append_right l h
theorem flat_one {u : Value} (h : flat u = true) : u.oneCell' = true := by
  cases u <;> first | rfl | (simp [flat] at h)
theorem ao_append_g {d : Nat} {x y : Operand} {t1 ty2 e : TypeId} {sz by_ : Nat} {pos : String} {af : Array Edge} {gd : Option (Nat × Bool)} {v : Value} {l R : Hp} {n m c2 b2 o2 : Nat} {xs news : List Value} [TySl P t1 e sz by_]
    (hw : Wants ops t gd) (hx : ev t x = some v) (hrow : RowB e sz v l n xs) (hy : ev t y = some (.slice (some ⟨b2, o2, none⟩) m c2)) (hcut : Cut H l R)
    (hl2 : news.length = m * sz) (hnews0 : ∀ w, RepH E H w → ∀ (j : Nat) u, news[j]? = some u → w.cell? ((⟨b2, o2, none⟩ : Addr).add j) = some u) (hf : news.all flat = true) (hm : 0 < m) (hbd : (n + m) * by_ ≤ 140737488355328) (h63 : n + m ≤ 9223372036854775807) (hd : Nat.blt d E.n = true)
    (h : ∀ v' l', RowB e sz v' l' (n + m) (xs ++ news) → ao kd P E ops Q rest ((d, v') :: t) (l' ++ R)) :
    ao kd P E ops Q (⟨some d, .call ⟨.builtin .append, #[x, y], #[t1, t1]⟩, ty2, pos, af, gd⟩ :: rest) t H := by
  unfold ao at h ⊢
  intro m0 hm0 ex hid a w hdx ht hh
  refine wpM_step fun K hK => ?_
  rw [if_pos (wants_of ht hw)]
  obtain ⟨i, z, hu, hi, hz, rfl, rfl, hzs⟩ := TySl.sl (P := P) (t := t1)
  have hnews := hnews0 w hh.un
  have h1 : ∀ u ∈ news, u.oneCell' = true := fun u hm => flat_one (List.all_eq_true.1 hf u hm)
  have hpm : RepH E (l ++ (R ++ hid)) w := by rw [← List.append_assoc]; exact hh.perm (hcut.append_right hid)
  obtain ⟨RR, hRR⟩ : ∃ RR, RR = R ++ hid := ⟨_, rfl⟩
  rw [← hRR] at hpm
  have hev : ∀ r : Result Value, (Builtin.append_ #[t1, t1] ty2 #[v, .slice (some ⟨b2, o2, none⟩) m c2]).run P w = r →
      (execOp a.eval ⟨some d, .call ⟨.builtin .append, #[x, y], #[t1, t1]⟩, ty2, pos, af, gd⟩).run P w = r.andThen fun v w' => .ok (.value v) w' := fun r hr => by
    subst hr
    simp only [execOp, resolve, List.map_toArray, List.map_cons, List.map_nil, ev_eval ht hx, ev_eval ht hy, Sem.run_bind, Sem.run, pure, Result.andThen, invoke, builtin]
  -- the end: a world that holds the new row
  have fin : ∀ (v' : Value) (l' : Hp) (w' : World), (Builtin.append_ #[t1, t1] ty2 #[v, .slice (some ⟨b2, o2, none⟩) m c2]).run P w = .ok v' w' → RowB e i.size v' l' (n + m) (xs ++ news) → RepH E (l' ++ RR) w' →
      opM m0 P ⟨some d, .call ⟨.builtin .append, #[x, y], #[t1, t1]⟩, ty2, pos, af, gd⟩ a w K (post E ex hid Q) := fun v' l' w' hr hrow' hrep =>
    opM_value (by rw [hev _ hr]; rfl) (hK _ _ (h v' l' hrow' m0 hm0 ex hid _ w' hdx (ht.put hd) (by rw [List.append_assoc, ← hRR]; exact hrep)))
  have hlen : (xs ++ news).length = (n + m) * i.size := by rw [List.length_append, hrow.1, hl2, Nat.add_mul]
  have grown : ∀ old, old < n + m → RowB e i.size (.slice (some ⟨w.heap.size, 0, none⟩) (n + m) (grownCap w (n + m) old e))
      [(w.heap.size, .cells (xs.toArray ++ news.toArray ++ Builtin.zeroCells z.cells (grownCap w (n + m) old e - (n + m))) e (0, 0))] (n + m) (xs ++ news) ∧
      RepH E ([(w.heap.size, .cells (xs.toArray ++ news.toArray ++ Builtin.zeroCells z.cells (grownCap w (n + m) old e - (n + m))) e (0, 0))] ++ RR) (w.drew.alloc (.cells (xs.toArray ++ news.toArray ++ Builtin.zeroCells z.cells (grownCap w (n + m) old e - (n + m))) e)) := fun old ho => by
    have hge := grownCap_ge w (n + m) old e
    refine ⟨⟨hlen, .inr ⟨_, _, _, rfl, rfl, hge, ?_, ?_⟩⟩, hpm.right.drewn.alloc _⟩
    · simp only [Array.size_append, List.size_toArray, size_zeroCells, hzs, hrow.1, hl2, ← Nat.add_mul]
      congr 1
      omega
    · simp only [Array.toList_append, List.append_assoc]
      rw [← List.append_assoc, ← hlen]
      exact List.take_left
  rcases hrow.2 with ⟨rfl, rfl, rfl⟩ | ⟨g, cap, cur, rfl, rfl, hnc, hcs, htake⟩
  · have hx0 : xs = [] := List.eq_nil_of_length_eq_zero (by simpa using hrow.1)
    subst hx0
    have hr := run_append_nil (P := P) w t1 ty2 e i z hu hi hz ⟨b2, o2, none⟩ m c2 news hl2 hnews hm (by omega) (by simp only [Nat.zero_add] at hbd; omega)
    have hg := grown 0 (by omega)
    simp only [Nat.zero_add, List.nil_append, Array.empty_append] at hg hr fin ⊢
    exact fin _ _ _ hr hg.1 hg.2
  · have hgr := hpm.at_ g _ (List.mem_append_left _ List.mem_cons_self)
    by_cases hroom : n + m ≤ cap
    · have hfit : n * i.size + news.length ≤ cur.size := by rw [hl2, hcs, ← Nat.add_mul]; exact Nat.mul_le_mul_right _ hroom
      have hr := run_append_room (P := P) w t1 ty2 e i hu hi g n cap cur hgr.2 ⟨b2, o2, none⟩ m c2 news hl2 hnews h1 hroom hfit
      refine fin _ [(g, .cells (cur.toList.take (n * i.size) ++ news ++ cur.toList.drop (n * i.size + news.length)).toArray e (0, 0))] _ hr ⟨hlen, .inr ⟨g, cap, _, rfl, rfl, hroom, ?_, ?_⟩⟩ ?_
      · simp only [List.size_toArray, List.length_append, List.length_take, List.length_drop, Array.length_toList]
        omega
      · rw [htake, ← hlen]
        exact List.take_left
      · have hset : w.setRow g (cur.toList.take (n * i.size) ++ news ++ cur.toList.drop (n * i.size + news.length)).toArray = { w with heap := w.heap.setIfInBounds g (.cells (cur.toList.take (n * i.size) ++ news ++ cur.toList.drop (n * i.size + news.length)).toArray e (0, 0)) } := by
          unfold World.setRow
          congr 1
          have hlt := (Array.getElem?_eq_some_iff.1 hgr.2).1
          have hv := (Array.getElem?_eq_some_iff.1 hgr.2).2
          apply Array.ext_getElem?
          intro j
          rw [Array.getElem?_modify, Array.getElem?_setIfInBounds]
          by_cases e : g = j
          · subst e; simp [hv, hlt]
          · simp [e]
        rw [hset]
        have hu2 : Upd ([(g, .cells cur e (0, 0))] ++ RR) g (.cells (cur.toList.take (n * i.size) ++ news ++ cur.toList.drop (n * i.size + news.length)).toArray e (0, 0)) ([(g, .cells (cur.toList.take (n * i.size) ++ news ++ cur.toList.drop (n * i.size + news.length)).toArray e (0, 0))] ++ RR) := Upd.head _ _ _ _
        exact hpm.upd hu2
    · have holds : ∀ j u, xs[j]? = some u → w.cell? ((⟨g, 0, none⟩ : Addr).add j) = some u := fun j u hj => by
        rw [add_off]
        have hg2 : w.heap[g]? = some (.cells cur.toList.toArray e (0, 0)) := by simpa using hgr.2
        rw [cell_of hg2, Nat.zero_add]
        rw [← htake] at hj
        have hlt := (List.getElem?_eq_some_iff.1 hj).1
        simp only [List.length_take] at hlt
        rwa [List.getElem?_take_of_lt (by omega)] at hj
      have hr := run_append_grow (P := P) w t1 ty2 e i z hu hi hz ⟨g, 0, none⟩ n cap xs hrow.1 holds ⟨b2, o2, none⟩ m c2 news hl2 hnews (by omega) (by omega) (growslice_fits (by omega) hbd)
      have hg := grown cap (by omega)
      exact fin _ _ _ hr hg.1 hg.2
theorem ao_append {d : Nat} {x y : Operand} {t1 ty2 e : TypeId} {sz by_ : Nat} {pos : String} {af : Array Edge} {gd : Option (Nat × Bool)} {v : Value} {l R : Hp} {n m c2 b2 o2 : Nat} {xs news : List Value} {cs2 : List Value} {e2 : TypeId} {fz : Nat × Nat} [TySl P t1 e sz by_]
    (hw : Wants ops t gd) (hx : ev t x = some v) (hrow : RowB e sz v l n xs) (hy : ev t y = some (.slice (some ⟨b2, o2, none⟩) m c2)) (hcut : Cut H l R)
    (hb : Has H b2 (.cells cs2.toArray e2 fz)) (hs : sl o2 (m * sz) cs2 = some news) (hf : news.all flat = true) (hm : 0 < m) (hbd : (n + m) * by_ ≤ 140737488355328) (h63 : n + m ≤ 9223372036854775807) (hd : Nat.blt d E.n = true)
    (h : ∀ v' l', RowB e sz v' l' (n + m) (xs ++ news) → ao kd P E ops Q rest ((d, v') :: t) (l' ++ R)) :
    ao kd P E ops Q (⟨some d, .call ⟨.builtin .append, #[x, y], #[t1, t1]⟩, ty2, pos, af, gd⟩ :: rest) t H :=
  ao_append_g hw hx hrow hy hcut (sl_spec _ _ _ _ hs).2 (fun w hh j u hj => by
    obtain ⟨hv2, hl2⟩ := sl_spec _ _ _ _ hs
    rw [add_off, cell_of (hh.has hb).2]
    subst hv2
    have hlt := (List.getElem?_eq_some_iff.1 hj).1
    simp only [List.length_take] at hlt
    rw [List.getElem?_take_of_lt (by omega), List.getElem?_drop] at hj
    exact hj) hf hm hbd h63 hd h
theorem Upd.appR {H' : Hp} {b : Nat} {o : Obj} : ∀ (l : Hp), Upd H b o H' → Upd (l ++ H) b o (l ++ H')
  | [], h => h
  | x :: l, h => Upd.tail x (Upd.appR l h)
theorem wrap_u64 {n : Int} (h0 : 0 ≤ n) (h1 : n < 18446744073709551616) : IntKind.u64.wrap n = n := by
  simp only [IntKind.wrap, IntKind.signed, IntKind.bits]
  simp only [Bool.false_and, Bool.false_eq_true, if_false]
  omega
theorem wrap_u64_mod (n : Int) : IntKind.u64.wrap n = n % 18446744073709551616 := by
  simp only [IntKind.wrap, IntKind.signed, IntKind.bits]
  simp only [Bool.false_and, Bool.false_eq_true, if_false]
  omega
theorem wrap_i64 {n : Int} (h0 : -9223372036854775808 ≤ n) (h1 : n ≤ 9223372036854775807) : IntKind.i64.wrap n = n := IntWalk.i64_in _ ⟨h0, h1⟩
theorem ov_conv {x : Operand} {src dst : TypeId} {k k2 : IntKind} {n : Int} [TyU P src (.int k2)] [TyU P dst (.int k)] (hx : ev t x = some (.int k2 n)) : OpV P E (.convert src dst x) ty t H (.int k (k.wrap n)) := by
  refine ov_of fun a w ht hh o ho _ => ⟨_, by simp only [execOp, ho]; rfl, ?_⟩
  have h1 := TyU.und (P := P) (t := src)
  have h2 := TyU.und (P := P) (t := dst)
  rw [ev_eval ht hx]
  simp only [convert, Sem.run_bind, run_underlying h1, run_underlying h2, Result.andThen, Conv.intToInt, pure, Sem.run]
theorem ov_conv_i64 {x : Operand} {src dst : TypeId} {k2 : IntKind} {n : Int} [TyU P src (.int k2)] [TyU P dst (.int .i64)] (hx : ev t x = some (.int k2 n)) (h : -9223372036854775808 ≤ n ∧ n ≤ 9223372036854775807) : OpV P E (.convert src dst x) ty t H (I n) := by
  have := ov_conv (P := P) (E := E) (H := H) (ty := ty) (src := src) (dst := dst) hx
  rwa [wrap_i64 h.1 h.2] at this
theorem ov_conv_u64 {x : Operand} {src dst : TypeId} {k2 : IntKind} {n : Int} [TyU P src (.int k2)] [TyU P dst (.int .u64)] (hx : ev t x = some (.int k2 n)) (h : 0 ≤ n ∧ n < 18446744073709551616) : OpV P E (.convert src dst x) ty t H (.int .u64 n) := by
  have := ov_conv (P := P) (E := E) (H := H) (ty := ty) (src := src) (dst := dst) hx
  rwa [wrap_u64 h.1 h.2] at this
theorem ov_conv_u64m {x : Operand} {src dst : TypeId} {k2 : IntKind} {n : Int} [TyU P src (.int k2)] [TyU P dst (.int .u64)] (hx : ev t x = some (.int k2 n)) : OpV P E (.convert src dst x) ty t H (.int .u64 (n % 18446744073709551616)) := by
  have := ov_conv (P := P) (E := E) (H := H) (ty := ty) (src := src) (dst := dst) hx
  rwa [wrap_u64_mod] at this
theorem ov_rem_in {x y : Operand} {xt yt : TypeId} {k : IntKind} {p q : Int} (hx : ev t x = some (.int k p)) (hy : ev t y = some (.int k q)) (h : 0 ≤ p ∧ 0 < q) : OpV P E (.binOp .rem xt x y yt) ty t H (.int k (p % q)) := by
  have := ov_rem (P := P) (E := E) (H := H) (ty := ty) (xt := xt) (yt := yt) hx hy (by omega)
  rwa [Int.tmod_eq_emod_of_nonneg h.1] at this
theorem ov_quo_u64 {x y : Operand} {xt yt : TypeId} {p q : Int} (hx : ev t x = some (.int .u64 p)) (hy : ev t y = some (.int .u64 q)) (h : 0 ≤ p ∧ 0 < q ∧ p < 18446744073709551616) : OpV P E (.binOp .quo xt x y yt) ty t H (.int .u64 (p / q)) := by
  have := ov_quo (P := P) (E := E) (H := H) (ty := ty) (xt := xt) (yt := yt) hx hy (by omega)
  rw [Int.tdiv_eq_ediv_of_nonneg h.1, wrap_u64 (Int.ediv_nonneg h.1 (by omega)) (Int.lt_of_le_of_lt (Int.ediv_le_self _ h.1) h.2.2)] at this
  exact this
theorem ov_quo_i64 {x y : Operand} {xt yt : TypeId} {p q : Int} (hx : ev t x = some (I p)) (hy : ev t y = some (I q)) (h : 0 ≤ p ∧ 0 < q ∧ p ≤ 9223372036854775807) : OpV P E (.binOp .quo xt x y yt) ty t H (I (p / q)) := by
  have := ov_quo (P := P) (E := E) (H := H) (ty := ty) (xt := xt) (yt := yt) hx hy (by omega)
  rw [Int.tdiv_eq_ediv_of_nonneg h.1, wrap_i64 (by have := Int.ediv_nonneg h.1 (b := q) (by omega); omega) (Int.le_trans (Int.ediv_le_self _ h.1) h.2.2)] at this
  exact this
theorem ov_add_u64 {x y : Operand} {xt yt : TypeId} {p q : Int} (hx : ev t x = some (.int .u64 p)) (hy : ev t y = some (.int .u64 q)) (h : 0 ≤ p + q ∧ p + q < 18446744073709551616) : OpV P E (.binOp .add xt x y yt) ty t H (.int .u64 (p + q)) := by
  have := ov_add (P := P) (E := E) (H := H) (ty := ty) (xt := xt) (yt := yt) hx hy
  rwa [wrap_u64 h.1 h.2] at this
theorem ov_mul_u64 {x y : Operand} {xt yt : TypeId} {p q : Int} (hx : ev t x = some (.int .u64 p)) (hy : ev t y = some (.int .u64 q)) (h : 0 ≤ p * q ∧ p * q < 18446744073709551616) : OpV P E (.binOp .mul xt x y yt) ty t H (.int .u64 (p * q)) := by
  have := ov_mul (P := P) (E := E) (H := H) (ty := ty) (xt := xt) (yt := yt) hx hy
  rwa [wrap_u64 h.1 h.2] at this
theorem ov_mul_in {x y : Operand} {xt yt : TypeId} {p q : Int} (hx : ev t x = some (I p)) (hy : ev t y = some (I q)) (h : -9223372036854775808 ≤ p * q ∧ p * q ≤ 9223372036854775807) : OpV P E (.binOp .mul xt x y yt) ty t H (I (p * q)) := by
  have := ov_mul (P := P) (E := E) (H := H) (ty := ty) (xt := xt) (yt := yt) hx hy
  rwa [wrap_i64 h.1 h.2] at this
theorem ov_slAddr {x y : Operand} {xt e : TypeId} {sz by_ n cap g o1 : Nat} {k : IntKind} {i : Int} [TySl P xt e sz by_] (hx : ev t x = some (.slice (some ⟨g, o1, none⟩) n cap)) (hy : ev t y = some (.int k i))
    (h0 : 0 ≤ i) (h1 : i < (n : Int)) : OpV P E (.indexAddr xt x y) ty t H (.pointer (some ⟨g, o1 + i.toNat * sz, none⟩)) := by
  refine ov_of fun a w ht hh o ho _ => ⟨_, by simp only [execOp, ho]; rfl, ?_⟩
  obtain ⟨i', z, hu, hi, hz, rfl, rfl, hzs⟩ := TySl.sl (P := P) (t := xt)
  have hs : (P.info? e).map (·.size) = some i'.size := by rw [hi]; rfl
  rw [ev_eval ht hx, ev_eval ht hy]
  simp only [Instr.indexAt, asIntOf, Sem.run_bind, run_underlying hu, Result.andThen, pure, Sem.run, h0, h1, and_self, if_true, run_sizeOf hs, add_off]
theorem ov_sllen {x : Operand} {at_ e : TypeId} {sz by_ n c : Nat} {b : Option Addr} [TySl P at_ e sz by_] (hx : ev t x = some (.slice b n c)) : OpV P E (.call ⟨.builtin .len, #[x], #[at_]⟩) ty t H (I n) := by
  intro a w ht _ o ho _
  obtain ⟨i', z, hu, hi, hz, rfl, rfl, hzs⟩ := TySl.sl (P := P) (t := at_)
  simp [execOp, ho, resolve, invoke, builtin, Builtin.len_, ev_eval ht hx, run_underlying hu, Sem.run, pure, goInt]
theorem row_cell {cs xs : List Value} {n : Nat} {k : Nat} {v : Value} (h : cs.take n = xs) (hk : xs[k]? = some v) : cs[k]? = some v := by
  rw [← h] at hk
  have hlt := (List.getElem?_eq_some_iff.1 hk).1
  simp only [List.length_take] at hlt
  rwa [List.getElem?_take_of_lt (by omega)] at hk
theorem ow_store_s {x y : Operand} {st : TypeId} {b off : Nat} {cs : List Value} {e : TypeId} {v : Value} [TyC P st] (hx : ev t x = some (.pointer (some ⟨b, off, none⟩))) (hy : ev t y = some v)
    (hb : Has H b (.cells cs.toArray e (0, 0))) (hlt : off < cs.length) (hf : flat v = true) : OpW P E (.store st x y) ty t H b (.cells (cs.set off v).toArray e (0, 0)) .skip := by
  intro a w ht hh o ho _
  have h2 := TyC.size (P := P) (t := st)
  have hc : v.cells = #[v] := by cases v <;> first | rfl | (simp [flat] at hf)
  simp only [execOp, ho, Sem.run_bind, Instr.storeAt, Instr.sureAddr, ev_eval ht hx, ev_eval ht hy, pure, Sem.run, Result.andThen, storeVar, run_sizeOf h2, hc]
  simp only [List.size_toArray, List.length_cons, List.length_nil, Nat.zero_add, ne_eq, not_true_eq_false, if_false]
  rw [run_storeCells [v] cs 0 w (hh.has hb).2 (by simp; omega) (by simp [hf])]
  simp [setAll]
def fillF (place : Nat → Option (Nat × Nat)) : List Value → List (Nat × Value) → Option (List Value)
  | cs, [] => some cs
  | cs, (i, v) :: rest =>
    match place i with
    | none => none
    | some (off, size) => bif Nat.beq v.cells.toList.length size && Nat.ble (off + v.cells.toList.length) cs.length then (match setAllO cs off v.cells.toList with | some r => fillF place r rest | none => none) else none
theorem fillF_of {place : Nat → Option (Nat × Nat)} : ∀ (vs : List (Nat × Value)) (cs ds : List Value), fillF place cs vs = some ds → Instr.fill place cs.toArray vs = some ds.toArray
  | [], cs, ds, h => by
    simp only [fillF, Option.some.injEq] at h
    subst h
    rfl
  | (i, v) :: vs, cs, ds, h => by
    simp only [fillF] at h
    unfold Instr.fill
    cases hp : place i with
    | none => rw [hp] at h; cases h
    | some x =>
      obtain ⟨off, size⟩ := x
      rw [hp] at h
      simp only at h
      cases hb : (Nat.beq v.cells.toList.length size && Nat.ble (off + v.cells.toList.length) cs.length) with
      | false => rw [hb] at h; cases h
      | true =>
        rw [hb] at h
        simp only [cond_true] at h
        simp only [Bool.and_eq_true, Nat.ble_eq] at hb
        have h1 := Nat.eq_of_beq_eq_true hb.1
        simp only [Array.length_toList] at h1 hb
        have hc : ¬ ((decide (v.cells.size ≠ size) || decide (off + v.cells.size > cs.toArray.size)) = true) := by
          simp [h1]
          have := hb.2
          omega
        simp only []
        rw [if_neg hc]
        have hf := fold_setAll v.cells.toList cs off 0
        have hz : v.cells.zipIdx.foldl (fun cs (c, j) => cs.setIfInBounds (off + j) c) cs.toArray = (setAll cs off v.cells.toList).toArray := by
          rw [← Array.foldl_toList, Array.toList_zipIdx]
          simpa using hf
        rw [hz]
        cases hs : setAllO cs off v.cells.toList with
        | none => rw [hs] at h; cases h
        | some r =>
          rw [hs] at h
          rw [(setAllO_spec _ _ _ _ hs).2]
          exact fillF_of vs r ds h
class TyZs (P : Program) (t : TypeId) (len : Nat) (zs : outParam (List Value)) : Prop where
  zs : ∃ e i z, P.underlying t = some (.slice e) ∧ P.info? e = some i ∧ i.zero = some z ∧ Nat.ble (len * i.size) 1000 = true ∧ Nat.beq (len * i.size) 0 = false ∧ ((Array.range (len * i.size)).map (z.cells[· % z.cells.size]!)) = zs.toArray
theorem on_bslice {bt e : TypeId} {sz by_ len : Nat} {ps : List (Nat × Operand)} {vs : List (Nat × Value)} {zs cs : List Value} [TySl P bt e sz by_] [TyZs P bt len zs] (hv : evP t ps = some vs) (hf : fillF (fun i => some (i * sz, sz)) zs vs = some cs) :
    OpN P E (.buildSlice bt len ps.toArray) ty t H (.cells cs.toArray e (0, 0)) (fun b => .slice (some ⟨b, 0, none⟩) len len) := by
  intro a w ht _ o ho _
  obtain ⟨i, z, hu, hi, hz, rfl, rfl, hzs⟩ := TySl.sl (P := P) (t := bt)
  obtain ⟨e', i2, z2, hu2, hi2, hz2, hle0, hne0, hzz⟩ := TyZs.zs (P := P) (t := bt) (len := len)
  rw [hu] at hu2
  cases hu2
  rw [hi] at hi2
  cases hi2
  rw [hz] at hz2
  cases hz2
  have he := evP_eval ht ps vs hv
  have hff := fillF_of vs zs cs hf
  have hs : (P.info? e).map (·.size) = some i.size := by rw [hi]; rfl
  have hle : len * i.size ≤ 1000 := Nat.le_of_ble_eq_true hle0
  have hne : ¬ (len * i.size = 0) := fun h => by rw [h] at hne0; cases hne0
  have hb : ¬ (len * i.size > 2 ^ 24) := by omega
  simp only [execOp, ho, Instr.buildSlice, Sem.run_bind, run_underlying hu, Result.andThen, run_sizeOf hs, hb, hne, if_false, zeroValue, typeInfo, program, Sem.run, pure, hi, hz, hzz, List.map_toArray]
  rw [show (List.map (fun x : Nat × Operand => (x.1, a.eval x.2)) ps) = vs from he]
  simp only [hff, newRow, newObj, Sem.run_bind, Sem.run, pure, Result.andThen]
  rfl
def OldRow (w : World) (sz : Nat) (v : Value) (n : Nat) (xs : List Value) : Prop :=
  xs.length = n * sz ∧ ∃ a c, v = .slice a n c ∧ (0 < n → ∃ g o, a = some ⟨g, o, none⟩ ∧ g < w.heap.size ∧ ∀ j u, xs[j]? = some u → w.cell? ⟨g, o + j, none⟩ = some u)
def NewRow (e : TypeId) (sz : Nat) (w w' : World) (v : Value) (n : Nat) (xs : List Value) : Prop :=
  Below w.heap.size w w' ∧ ∃ l, RowB e sz v l n xs ∧ ∀ b o, (b, o) ∈ l → w.heap.size ≤ b ∧ w'.heap[b]? = some o
theorem OldRow.nil {w : World} {sz c : Nat} {a : Option Addr} : OldRow w sz (.slice a 0 c) 0 [] := ⟨by simp, a, c, rfl, fun h => by omega⟩
theorem RepH.old {w : World} {l R : Hp} {e : TypeId} {sz n : Nat} {v : Value} {xs : List Value} (h : RepH E H w) (hc : Cut H l R) (hr : RowB e sz v l n xs) : OldRow w sz v n xs := by
  refine ⟨hr.1, ?_⟩
  rcases hr.2 with ⟨rfl, h0, _⟩ | ⟨g, cap, cur, rfl, rfl, hnc, hcs, htake⟩
  · exact ⟨none, 0, by rw [h0], fun h => by omega⟩
  · refine ⟨_, _, rfl, fun _ => ⟨g, 0, rfl, ?_, fun j u hj => ?_⟩⟩
    · have := ((h.perm hc).at_ g _ (List.mem_append_left _ List.mem_cons_self)).2
      exact (Array.getElem?_eq_some_iff.1 this).1
    · have hg := ((h.perm hc).at_ g _ (List.mem_append_left _ List.mem_cons_self)).2
      have hg2 : w.heap[g]? = some (.cells cur.toList.toArray e (0, 0)) := by simpa using hg
      rw [cell_of hg2, Nat.zero_add]
      rw [← htake] at hj
      have hlt := (List.getElem?_eq_some_iff.1 hj).1
      simp only [List.length_take] at hlt
      rwa [List.getElem?_take_of_lt (by omega)] at hj
theorem OldRow.open {w : World} {sz n : Nat} {v : Value} {xs : List Value} (h : OldRow w sz v n xs) (hn : 0 < n) : ∃ g o c, v = .slice (some ⟨g, o, none⟩) n c ∧ g < w.heap.size ∧ ∀ j u, xs[j]? = some u → w.cell? ⟨g, o + j, none⟩ = some u := by
  obtain ⟨_, a, c, rfl, h2⟩ := h
  obtain ⟨g, o, rfl, h3, h4⟩ := h2 hn
  exact ⟨g, o, c, rfl, h3, h4⟩
theorem OldRow.len {w : World} {sz n : Nat} {v : Value} {xs : List Value} (h : OldRow w sz v n xs) : ∃ a c, v = .slice a n c := by
  obtain ⟨_, a, c, rfl, _⟩ := h
  exact ⟨a, c, rfl⟩
theorem OldRow.below {w w' : World} {sz n : Nat} {v : Value} {xs : List Value} (h : OldRow w sz v n xs) (hb : Below w.heap.size w w') : OldRow w' sz v n xs := by
  obtain ⟨h1, a, c, rfl, h2⟩ := h
  refine ⟨h1, a, c, rfl, fun hn => ?_⟩
  obtain ⟨g, o, rfl, h3, h4⟩ := h2 hn
  exact ⟨g, o, rfl, Nat.lt_of_lt_of_le h3 hb.size, fun j u hj => (hb.cell (p := ⟨g, o + j, none⟩) h3).trans (h4 j u hj)⟩
theorem ov_load_o {x : Operand} {lt : TypeId} {b off : Nat} {v : Value} [TyC P lt] (hx : ev t x = some (.pointer (some ⟨b, off, none⟩))) (hb : b < E.B) (hc : E.w0.cell? ⟨b, off, none⟩ = some v) : OpV P E (.load lt x) ty t H v := by
  refine ov_of fun a w ht hh o ho _ => ⟨_, by simp only [execOp, ho]; rfl, ?_⟩
  rw [ev_eval ht hx]
  exact run_load_cell ((hh.below.cell (p := ⟨b, off, none⟩) hb).trans hc)
theorem ov_load_oa {x : Operand} {lt : TypeId} {n b off : Nat} {vs : List Value} [TyA P lt n] (hx : ev t x = some (.pointer (some ⟨b, off, none⟩))) (hb : b < E.B) (hc : ∀ j v, vs[j]? = some v → E.w0.cell? ⟨b, off + j, none⟩ = some v) (hl : vs.length = n) : OpV P E (.load lt x) ty t H (.agg vs.toArray) := by
  refine ov_of fun a w ht hh o ho _ => ⟨_, by simp only [execOp, ho]; rfl, ?_⟩
  rw [ev_eval ht hx]
  exact run_load_agg hl fun j v hj => (hh.below.cell (p := ⟨b, off + j, none⟩) hb).trans (hc j v hj)
theorem RepH.newRow {w w' : World} {e : TypeId} {sz n : Nat} {v : Value} {xs : List Value} (h : RepH E H w) (hn : NewRow e sz w w' v n xs) : ∃ l, RowB e sz v l n xs ∧ RepH E (l ++ H) w' := by
  obtain ⟨hb, l, hr, hl⟩ := hn
  refine ⟨l, hr, ?_⟩
  have h' := h.below' hb
  have hB : E.B ≤ w.heap.size := Nat.le_trans h.base h.below.size
  refine ⟨h'.below, h'.base, ?_, fun b o hm => ?_⟩
  · rcases hr.2 with ⟨_, _, rfl⟩ | ⟨g, cap, cur, _, rfl, _⟩
    · simpa using h'.nodup
    · simp only [List.cons_append, List.nil_append, List.map_cons, List.nodup_cons]
      refine ⟨fun hm => ?_, h'.nodup⟩
      obtain ⟨x, hx, ex⟩ := List.mem_map.1 hm
      have h1 := (Array.getElem?_eq_some_iff.1 (h.at_ x.1 x.2 hx).2).1
      have h2 := (hl g _ List.mem_cons_self).1
      omega
  · rcases List.mem_append.1 hm with hm | hm
    · exact ⟨Nat.le_trans hB (hl b o hm).1, (hl b o hm).2⟩
    · exact h'.at_ b o hm
theorem ao_callr {d : Nat} {op : Op} {ty2 : TypeId} {pos : String} {af : Array Edge} {gd : Option (Nat × Bool)} {f : FuncId} {args : Array Value} {e : TypeId} {sz n : Nat} {xs : List Value}
    (hw : Wants ops t gd) (hv : OpCall P E op ty2 t f args) (hd : Nat.blt d E.n = true)
    (hc : ∀ w, RepH E H w → Calls P f args w fun en w' => ∃ v, en = .returned v ∧ NewRow e sz w w' v n xs)
    (h : ∀ v l, RowB e sz v l n xs → ao kd P E ops Q rest ((d, v) :: t) (l ++ H)) :
    ao kd P E ops Q (⟨some d, op, ty2, pos, af, gd⟩ :: rest) t H :=
  ao_callx hw hv hd fun hid w hh => (hc w hh.un).mono fun en w' ⟨v, he, hn⟩ => by
    obtain ⟨l, hr, hrep⟩ := hh.newRow hn
    exact ⟨v, l ++ H, he, by rw [List.append_assoc]; exact hrep, h v l hr⟩
theorem ao_callr2 {d : Nat} {op : Op} {ty2 : TypeId} {pos : String} {af : Array Edge} {gd : Option (Nat × Bool)} {f : FuncId} {args : Array Value} {e : TypeId} {sz n : Nat} {xs : List Value} {u : Value}
    (hw : Wants ops t gd) (hv : OpCall P E op ty2 t f args) (hd : Nat.blt d E.n = true)
    (hc : ∀ w, RepH E H w → Calls P f args w fun en w' => ∃ v, en = .returned (.tuple #[v, u]) ∧ NewRow e sz w w' v n xs)
    (h : ∀ v l, RowB e sz v l n xs → ao kd P E ops Q rest ((d, .tuple #[v, u]) :: t) (l ++ H)) :
    ao kd P E ops Q (⟨some d, op, ty2, pos, af, gd⟩ :: rest) t H :=
  ao_callx hw hv hd fun hid w hh => (hc w hh.un).mono fun en w' ⟨v, he, hn⟩ => by
    obtain ⟨l, hr, hrep⟩ := hh.newRow hn
    exact ⟨_, l ++ H, he, by rw [List.append_assoc]; exact hrep, h v l hr⟩
end
end Sx
end Go.Proofs.YtkjjlppfomidbaaGreat
/- Sxe: Shifts, bits, closures, calls that write into the caller's own memory, make, cuts of arrays, texts of bytes, in the symbolic walk, over whatever program; conditions: none. -/
namespace Go.Proofs.YtkjjlppfomidbaaGreat
namespace Sx
open Go Go.RowKit
set_option linter.unusedSimpArgs false
section
variable {P : Program} {E : Env} {kd : Bool} {Q : Exit → Tm → Hp → Prop} {t : Tm} {H : Hp} {ops : Array Oper} {rest : List Oper} {ty : TypeId}
theorem ov_sub_u64 {x y : Operand} {xt yt : TypeId} {p q : Int} (hx : ev t x = some (.int .u64 p)) (hy : ev t y = some (.int .u64 q)) (h : 0 ≤ p - q ∧ p - q < 18446744073709551616) : OpV P E (.binOp .sub xt x y yt) ty t H (.int .u64 (p - q)) := by
  have := ov_sub (P := P) (E := E) (H := H) (ty := ty) (xt := xt) (yt := yt) hx hy
  rwa [wrap_u64 h.1 h.2] at this
theorem ov_shl {x y : Operand} {xt yt : TypeId} {k k2 : IntKind} {p q : Int} (hx : ev t x = some (.int k p)) (hy : ev t y = some (.int k2 q)) (n : Nat) (hq : q = (n : Int)) (hn : n ≤ 64) (hk : k.bits = 64) :
    OpV P E (.binOp .shl xt x y yt) ty t H (.int k (k.wrap (p * 2 ^ n))) := by
  refine ov_of fun a w ht _ o ho _ => ⟨_, by simp only [execOp, ho]; rfl, ?_⟩
  rw [ev_eval ht hx, ev_eval ht hy, Sem.run_bind]
  have : (eqGuard .shl xt x y (.int k p) (.int k2 q)).run P w = .ok () w := rfl
  rw [this]
  subst hq
  simp only [Result.andThen, binOp]
  rw [shift_shl_any _ _ _ _ (by omega), hk, Int.toNat_natCast, Nat.min_eq_left hn]
  rfl
theorem ov_shr {x y : Operand} {xt yt : TypeId} {k k2 : IntKind} {p q : Int} (hx : ev t x = some (.int k p)) (hy : ev t y = some (.int k2 q)) (n : Nat) (hq : q = (n : Int)) (hn : n ≤ 64) (hk : k.bits = 64) :
    OpV P E (.binOp .shr xt x y yt) ty t H (.int k (p / 2 ^ n)) := by
  refine ov_of fun a w ht _ o ho _ => ⟨_, by simp only [execOp, ho]; rfl, ?_⟩
  rw [ev_eval ht hx, ev_eval ht hy, Sem.run_bind]
  have : (eqGuard .shr xt x y (.int k p) (.int k2 q)).run P w = .ok () w := rfl
  rw [this]
  subst hq
  simp only [Result.andThen, binOp]
  rw [shift_shr_any _ _ _ _ (by omega), hk, Int.toNat_natCast, Nat.min_eq_left hn]
  rfl
theorem or_add {n : Nat} (hn : n ≤ 64) {p q : Int} (hp : p % 2 ^ n = 0) (hq : 0 ≤ q ∧ q < 2 ^ n) : ((BitVec.ofInt 64 p ||| BitVec.ofInt 64 q).toNat : Int) = (p + q) % 18446744073709551616 := by
  obtain ⟨m, rfl⟩ : ∃ m : Nat, q = m := ⟨q.toNat, by omega⟩
  obtain ⟨z, rfl⟩ : ∃ z : Int, p = 2 ^ n * z := ⟨p / 2 ^ n, (Int.mul_ediv_cancel' (Int.dvd_of_emod_eq_zero hp)).symm⟩
  have hm : m < 2 ^ n := by
    have := hq.2
    have e : ((2 : Int) ^ n) = ((2 ^ n : Nat) : Int) := by simp
    rw [e] at this
    omega
  have e64 : (2 : Nat) ^ 64 = 2 ^ n * 2 ^ (64 - n) := by rw [← Nat.pow_add]; congr 1; omega
  have i64 : (18446744073709551616 : Int) = 2 ^ n * 2 ^ (64 - n) := by rw [← Int.pow_add]; rw [show n + (64 - n) = 64 by omega]; rfl
  have hm64 : m < 2 ^ 64 := Nat.lt_of_lt_of_le hm (Nat.pow_le_pow_right (by decide) hn)
  have h1 : (BitVec.ofInt 64 (2 ^ n * z)).toNat = 2 ^ n * (z % 2 ^ (64 - n)).toNat := by
    rw [BitVec.toNat_ofInt]
    have : ((2 ^ 64 : Nat) : Int) = 2 ^ n * 2 ^ (64 - n) := by rw [← i64]; rfl
    rw [this, Int.mul_emod_mul_of_pos _ _ (Int.pow_pos (by decide))]
    have h0 : 0 ≤ z % 2 ^ (64 - n) := Int.emod_nonneg _ (Int.ne_of_gt (Int.pow_pos (by decide)))
    obtain ⟨y, hy⟩ : ∃ y : Nat, z % 2 ^ (64 - n) = y := ⟨(z % 2 ^ (64 - n)).toNat, by omega⟩
    rw [hy, Int.toNat_natCast]
    have e : ((2 : Int) ^ n) * (y : Int) = ((2 ^ n * y : Nat) : Int) := by simp
    rw [e, Int.toNat_natCast]
  have h2 : (BitVec.ofInt 64 (m : Int)).toNat = m := by
    rw [BitVec.toNat_ofInt]
    have : ((m : Int) % ((2 ^ 64 : Nat) : Int)) = m := Int.emod_eq_of_lt (by omega) (by omega)
    rw [this, Int.toNat_natCast]
  rw [BitVec.toNat_or, h1, h2, ← Nat.two_pow_add_eq_or_of_lt hm]
  have h0 : 0 ≤ z % 2 ^ (64 - n) := Int.emod_nonneg _ (Int.ne_of_gt (Int.pow_pos (by decide)))
  have hlt : z % 2 ^ (64 - n) < 2 ^ (64 - n) := Int.emod_lt_of_pos _ (Int.pow_pos (by decide))
  have e3 : ((2 ^ n * (z % 2 ^ (64 - n)).toNat + m : Nat) : Int) = 2 ^ n * (z % 2 ^ (64 - n)) + m := by
    push_cast
    rw [Int.toNat_of_nonneg h0]
  rw [e3]
  have e4 : (2 ^ n * z + (m : Int)) % 18446744073709551616 = 2 ^ n * (z % 2 ^ (64 - n)) + m := by
    have hz := Int.mul_ediv_add_emod z (2 ^ (64 - n))
    have e5 : 2 ^ n * z + (m : Int) = (2 ^ n * (z % 2 ^ (64 - n)) + m) + 18446744073709551616 * (z / 2 ^ (64 - n)) := by
      rw [i64, Int.mul_assoc]
      have e6 : (2 : Int) ^ n * z = 2 ^ n * (2 ^ (64 - n) * (z / 2 ^ (64 - n)) + z % 2 ^ (64 - n)) := by rw [hz]
      rw [e6, Int.mul_add]
      omega
    rw [e5, Int.add_mul_emod_self_left]
    have hmi : (m : Int) < 2 ^ n := hq.2
    have hb : 2 ^ n * (z % 2 ^ (64 - n)) + (m : Int) < 18446744073709551616 := by
      rw [i64]
      have h7 : 2 ^ n * (z % 2 ^ (64 - n) + 1) ≤ (2 : Int) ^ n * 2 ^ (64 - n) := Int.mul_le_mul_of_nonneg_left (by omega) (Int.le_of_lt (Int.pow_pos (by decide)))
      rw [Int.mul_add] at h7
      omega
    have hge : 0 ≤ 2 ^ n * (z % 2 ^ (64 - n)) + (m : Int) := by
      have h8 : (0 : Int) < 2 ^ n := Int.pow_pos (by decide)
      have := Int.mul_nonneg (Int.le_of_lt h8) h0
      omega
    exact Int.emod_eq_of_lt hge hb
  rw [e4]
theorem wrap_mod_u64 (n : Int) : IntKind.u64.wrap (n % 18446744073709551616) = IntKind.u64.wrap n := by rw [wrap_u64_mod, wrap_u64_mod]; omega
theorem ov_or_u {x y : Operand} {xt yt : TypeId} {p q : Int} (n : Nat) (hn : n ≤ 64) (hx : ev t x = some (.int .u64 p)) (hy : ev t y = some (.int .u64 q)) (hp : p % 2 ^ n = 0) (hq : 0 ≤ q ∧ q < 2 ^ n) :
    OpV P E (.binOp .or xt x y yt) ty t H (.int .u64 ((p + q) % 18446744073709551616)) :=
  ov_int hx hy fun w => by
    have e : (BitVec.ofInt IntKind.u64.bits p ||| BitVec.ofInt IntKind.u64.bits q).toNat = (BitVec.ofInt 64 p ||| BitVec.ofInt 64 q).toNat := rfl
    simp only [binOp, Op.intBits, ne_eq, not_true_eq_false, if_false]
    rw [e, or_add hn hp hq, wrap_mod_u64, wrap_u64_mod]
    rfl
theorem ov_and_low {x y : Operand} {xt yt : TypeId} {p q : Int} (n : Nat) (hn : n ≤ 64) (hx : ev t x = some (.int .u64 p)) (hy : ev t y = some (.int .u64 q)) (hp : 0 ≤ p ∧ p < 18446744073709551616) (hq : q = 2 ^ n - 1) :
    OpV P E (.binOp .and xt x y yt) ty t H (.int .u64 (p % 2 ^ n)) :=
  ov_int hx hy fun w => by
    subst hq
    obtain ⟨m, rfl⟩ : ∃ m : Nat, p = m := ⟨p.toNat, by omega⟩
    have h1 : (BitVec.ofInt 64 (m : Int)).toNat = m := by
      rw [BitVec.toNat_ofInt]
      have : ((m : Int) % ((2 ^ 64 : Nat) : Int)) = m := Int.emod_eq_of_lt (by omega) (by omega)
      rw [this, Int.toNat_natCast]
    have hpos : 0 < 2 ^ n := Nat.pow_pos (by decide)
    have hle : 2 ^ n ≤ 2 ^ 64 := Nat.pow_le_pow_right (by decide) hn
    have e2 : ((2 : Int) ^ n - 1) = ((2 ^ n - 1 : Nat) : Int) := by
      rw [Int.ofNat_sub (by omega)]; simp
    have h2 : (BitVec.ofInt 64 ((2 : Int) ^ n - 1)).toNat = 2 ^ n - 1 := by
      rw [e2, BitVec.toNat_ofInt]
      have : (((2 ^ n - 1 : Nat) : Int) % ((2 ^ 64 : Nat) : Int)) = ((2 ^ n - 1 : Nat) : Int) := Int.emod_eq_of_lt (by omega) (by omega)
      rw [this, Int.toNat_natCast]
    have h3 : (BitVec.ofInt IntKind.u64.bits (m : Int) &&& BitVec.ofInt IntKind.u64.bits ((2 : Int) ^ n - 1)).toNat = m % 2 ^ n := by
      show (BitVec.ofInt 64 (m : Int) &&& BitVec.ofInt 64 ((2 : Int) ^ n - 1)).toNat = m % 2 ^ n
      rw [BitVec.toNat_and, h1, h2, Nat.and_two_pow_sub_one_eq_mod]
    simp only [binOp, Op.intBits, ne_eq, not_true_eq_false, if_false]
    rw [h3]
    have h4 : ((m % 2 ^ n : Nat) : Int) = (m : Int) % 2 ^ n := by simp
    have h5 : (m : Int) % 2 ^ n ≤ m := by rw [← h4]; exact_mod_cast Nat.mod_le _ _
    have h6 : 0 ≤ (m : Int) % 2 ^ n := by rw [← h4]; omega
    rw [h4, wrap_u64 h6 (by omega)]
    rfl
theorem ov_convR {x : Operand} {src dst : TypeId} {k k2 : IntKind} {n : Int} (r : Int) [TyU P src (.int k2)] [TyU P dst (.int k)] (hx : ev t x = some (.int k2 n)) (hr : k.wrap n = r) : OpV P E (.convert src dst x) ty t H (.int k r) := by
  have := ov_conv (P := P) (E := E) (H := H) (ty := ty) (src := src) (dst := dst) hx
  rwa [hr] at this
theorem ov_addR {x y : Operand} {xt yt : TypeId} {k : IntKind} {p q : Int} (r : Int) (hx : ev t x = some (.int k p)) (hy : ev t y = some (.int k q)) (hr : k.wrap (p + q) = r) : OpV P E (.binOp .add xt x y yt) ty t H (.int k r) := by
  have := ov_add (P := P) (E := E) (H := H) (ty := ty) (xt := xt) (yt := yt) hx hy
  rwa [hr] at this
theorem wrap_u8 {n : Int} (h0 : 0 ≤ n) (h1 : n < 256) : IntKind.u8.wrap n = n := by
  simp only [IntKind.wrap, IntKind.signed, IntKind.bits]
  simp only [Bool.false_and, Bool.false_eq_true, if_false]
  omega
theorem ov_neg_in {x : Operand} {xt : TypeId} {n : Int} (hx : ev t x = some (I n)) (h : -9223372036854775807 ≤ n ∧ n ≤ 9223372036854775807) : OpV P E (.unOp .neg xt x) ty t H (I (-n)) := by
  have := ov_neg (P := P) (E := E) (H := H) (ty := ty) (xt := xt) hx
  rwa [wrap_i64 (by omega) (by omega), Int.zero_sub] at this
theorem ov_maxR {x y : Operand} {ats : Array TypeId} {k : IntKind} {p q : Int} (r : Int) (hx : ev t x = some (.int k p)) (hy : ev t y = some (.int k q)) (hr : (if q > p then q else p) = r) : OpV P E (.call ⟨.builtin .max, #[x, y], ats⟩) ty t H (.int k r) := by
  intro a w ht _ o ho _
  subst hr
  simp [execOp, ho, resolve, invoke, builtin, Builtin.max_, Builtin.max2, ev_eval ht hx, ev_eval ht hy, Sem.run, pure]
theorem ov_shlR {x y : Operand} {xt yt : TypeId} {k2 : IntKind} {p q : Int} (n : Nat) (r : Int) (hx : ev t x = some (.int .u64 p)) (hy : ev t y = some (.int k2 q)) (hq : q = (n : Int)) (hn : n ≤ 64) (hr : p * 2 ^ n % 18446744073709551616 = r) :
    OpV P E (.binOp .shl xt x y yt) ty t H (.int .u64 r) := by
  have := ov_shl (P := P) (E := E) (H := H) (ty := ty) (xt := xt) (yt := yt) hx hy n hq hn rfl
  rwa [wrap_u64_mod, hr] at this
theorem ov_shrR {x y : Operand} {xt yt : TypeId} {k2 : IntKind} {p q : Int} (n : Nat) (r : Int) (hx : ev t x = some (.int .u64 p)) (hy : ev t y = some (.int k2 q)) (hq : q = (n : Int)) (hn : n ≤ 64) (hr : p / 2 ^ n = r) :
    OpV P E (.binOp .shr xt x y yt) ty t H (.int .u64 r) := by
  have := ov_shr (P := P) (E := E) (H := H) (ty := ty) (xt := xt) (yt := yt) hx hy n hq hn rfl
  rwa [hr] at this
theorem ov_orR {x y : Operand} {xt yt : TypeId} {p q : Int} (n : Nat) (r : Int) (hn : n ≤ 64) (hx : ev t x = some (.int .u64 p)) (hy : ev t y = some (.int .u64 q)) (hp : p % 2 ^ n = 0) (hq : 0 ≤ q ∧ q < 2 ^ n) (hr : (p + q) % 18446744073709551616 = r) :
    OpV P E (.binOp .or xt x y yt) ty t H (.int .u64 r) := by
  have := ov_or_u (P := P) (E := E) (H := H) (ty := ty) (xt := xt) (yt := yt) n hn hx hy hp hq
  rwa [hr] at this
theorem ov_andR {x y : Operand} {xt yt : TypeId} {p q : Int} (n : Nat) (r : Int) (hn : n ≤ 64) (hx : ev t x = some (.int .u64 p)) (hy : ev t y = some (.int .u64 q)) (hp : 0 ≤ p ∧ p < 18446744073709551616) (hq : q = 2 ^ n - 1) (hr : p % 2 ^ n = r) :
    OpV P E (.binOp .and xt x y yt) ty t H (.int .u64 r) := by
  have := ov_and_low (P := P) (E := E) (H := H) (ty := ty) (xt := xt) (yt := yt) n hn hx hy hp hq
  rwa [hr] at this
theorem ov_subR {x y : Operand} {xt yt : TypeId} {p q : Int} (r : Int) (hx : ev t x = some (.int .u64 p)) (hy : ev t y = some (.int .u64 q)) (hr : (p - q) % 18446744073709551616 = r) : OpV P E (.binOp .sub xt x y yt) ty t H (.int .u64 r) := by
  have := ov_sub (P := P) (E := E) (H := H) (ty := ty) (xt := xt) (yt := yt) hx hy
  rwa [wrap_u64_mod, hr] at this
theorem ov_mul_u64m {x y : Operand} {xt yt : TypeId} {p q : Int} (hx : ev t x = some (.int .u64 p)) (hy : ev t y = some (.int .u64 q)) : OpV P E (.binOp .mul xt x y yt) ty t H (.int .u64 (p * q % 18446744073709551616)) := by
  have := ov_mul (P := P) (E := E) (H := H) (ty := ty) (xt := xt) (yt := yt) hx hy
  rwa [wrap_u64_mod] at this
theorem ov_add_u64m {x y : Operand} {xt yt : TypeId} {p q : Int} (hx : ev t x = some (.int .u64 p)) (hy : ev t y = some (.int .u64 q)) : OpV P E (.binOp .add xt x y yt) ty t H (.int .u64 ((p + q) % 18446744073709551616)) := by
  have := ov_add (P := P) (E := E) (H := H) (ty := ty) (xt := xt) (yt := yt) hx hy
  rwa [wrap_u64_mod] at this
abbrev addX : Array Value → Sem Value := (Extern.MathBitsCarry.rows.get ⟨0, by decide⟩).2
abbrev subX : Array Value → Sem Value := (Extern.MathBitsCarry.rows.get ⟨1, by decide⟩).2
theorem ov_add64 {f : FuncId} {xs : List Operand} {ats : Array TypeId} {x y c : Int} [FnX P f addX] (hv : evL t xs = some [.int .u64 x, .int .u64 y, .int .u64 c]) (h : 0 ≤ x ∧ 0 ≤ y ∧ 0 ≤ c ∧ c ≤ 1) :
    OpV P E (.call ⟨.value (.func f), xs.toArray, ats⟩) ty t H (.tuple #[.int .u64 ((x + y + c) % 18446744073709551616), .int .u64 ((x + y + c) / 18446744073709551616)]) :=
  ov_ext hv fun w => by
    obtain ⟨a, rfl⟩ : ∃ m : Nat, x = m := ⟨x.toNat, by omega⟩
    obtain ⟨b, rfl⟩ : ∃ m : Nat, y = m := ⟨y.toNat, by omega⟩
    obtain ⟨d, rfl⟩ : ∃ m : Nat, c = m := ⟨c.toNat, by omega⟩
    have hd : ¬ d > 1 := by omega
    have h3 : Extern.MathBitsCarry.three "Add64" #[.int .u64 (a : Int), .int .u64 (b : Int), .int .u64 (d : Int)] = (do
        let c := (← asInt (.int .u64 (d : Int))).toNat
        if c > 1 then unsupported (.noEntry ("extern/math/bits." ++ "Add64" ++ ": a carry that is neither 0 nor 1"))
        pure ((← asInt (.int .u64 (a : Int))).toNat, (← asInt (.int .u64 (b : Int))).toNat, c)) := rfl
    simp only [addX, Extern.MathBitsCarry.rows, List.get, h3, Sem.run_bind, asInt, asIntOf, pure, Sem.run, Result.andThen, Int.toNat_natCast, hd, if_false, Extern.MathBitsCarry.pair, Extern.MathBitsCarry.m64]
    have h1 : Int.ofNat ((a + b + d) % 2 ^ 64) = ((a : Int) + b + d) % 18446744073709551616 := by simp
    have h2 : Int.ofNat ((a + b + d) / 2 ^ 64) = ((a : Int) + b + d) / 18446744073709551616 := by simp
    rw [h1, h2]
theorem ov_sub64 {f : FuncId} {xs : List Operand} {ats : Array TypeId} {x y c : Int} [FnX P f subX] (hv : evL t xs = some [.int .u64 x, .int .u64 y, .int .u64 c]) (h : 0 ≤ x ∧ x < 18446744073709551616 ∧ 0 ≤ y ∧ y < 18446744073709551616 ∧ 0 ≤ c ∧ c ≤ 1) :
    OpV P E (.call ⟨.value (.func f), xs.toArray, ats⟩) ty t H (.tuple #[.int .u64 ((x - y - c) % 18446744073709551616), .int .u64 (if x < y + c then 1 else 0)]) :=
  ov_ext hv fun w => by
    obtain ⟨a, rfl⟩ : ∃ m : Nat, x = m := ⟨x.toNat, by omega⟩
    obtain ⟨b, rfl⟩ : ∃ m : Nat, y = m := ⟨y.toNat, by omega⟩
    obtain ⟨d, rfl⟩ : ∃ m : Nat, c = m := ⟨c.toNat, by omega⟩
    have hd : ¬ d > 1 := by omega
    have h3 : Extern.MathBitsCarry.three "Sub64" #[.int .u64 (a : Int), .int .u64 (b : Int), .int .u64 (d : Int)] = (do
        let c := (← asInt (.int .u64 (d : Int))).toNat
        if c > 1 then unsupported (.noEntry ("extern/math/bits." ++ "Sub64" ++ ": a carry that is neither 0 nor 1"))
        pure ((← asInt (.int .u64 (a : Int))).toNat, (← asInt (.int .u64 (b : Int))).toNat, c)) := rfl
    simp only [subX, Extern.MathBitsCarry.rows, List.get, h3, Sem.run_bind, asInt, asIntOf, pure, Sem.run, Result.andThen, Int.toNat_natCast, hd, if_false, Extern.MathBitsCarry.pair, Extern.MathBitsCarry.m64]
    have h1 : Int.ofNat ((a + 2 ^ 64 - b - d) % 2 ^ 64) = ((a : Int) - b - d) % 18446744073709551616 := by
      have e : ((a + 2 ^ 64 - b - d : Nat) : Int) = (a : Int) - b - d + 18446744073709551616 := by omega
      show (((a + 2 ^ 64 - b - d) % 2 ^ 64 : Nat) : Int) = _
      rw [Int.natCast_emod, e]
      show ((a : Int) - b - d + 18446744073709551616) % 18446744073709551616 = _
      omega
    have h2 : (Int.ofNat (if a < b + d then 1 else 0)) = (if (a : Int) < (b : Int) + d then 1 else 0) := by
      by_cases h : a < b + d
      · rw [if_pos h, if_pos (by omega)]; rfl
      · rw [if_neg h, if_neg (by omega)]; rfl
    rw [h1, h2]
theorem ov_makeFunc {f : FuncId} {xs : List Operand} {vs : List Value} (hv : evL t xs = some vs) : OpV P E (.makeFunc (.func f) #[] xs.toArray) ty t H (.func (.func f) #[] vs.toArray) := by
  refine ov_of fun a w ht _ o ho _ => ⟨_, by simp only [execOp, ho]; rfl, ?_⟩
  have he := evL_eval ht xs vs hv
  simp [Instr.makeFunc, pure, Sem.run, he]
theorem oc_clos {f : FuncId} {x : Operand} {xs : List Operand} {ats : Array TypeId} {vs cs : List Value} [FnB P f] (hx : ev t x = some (.func (.func f) #[] cs.toArray)) (hv : evL t xs = some vs) :
    OpCall P E (.call ⟨.value x, xs.toArray, ats⟩) ty t f (vs ++ cs).toArray := by
  intro a w ht o ho _
  obtain ⟨fn, hf, hn, hb⟩ := FnB.fn (P := P) (f := f)
  have he := evL_eval ht xs vs hv
  simp only [execOp, ho, resolve, ev_eval ht hx, Deferred.ofValue, Sem.run_bind, Sem.run, pure, Result.andThen, invoke, callFunc, program, hf, hn, hb, List.map_toArray, he]
  simp [Sem.run, pure]
theorem ov_makeFuncB {f : FuncId} {xs : List Operand} {vs : List Value} (hv : evL t xs = some vs) : OpV P E (.makeFunc (.func f) xs.toArray #[]) ty t H (.func (.func f) vs.toArray #[]) := by
  refine ov_of fun a w ht _ o ho _ => ⟨_, by simp only [execOp, ho]; rfl, ?_⟩
  have he := evL_eval ht xs vs hv
  simp [Instr.makeFunc, pure, Sem.run, he]
theorem oc_bnd {f : FuncId} {x : Operand} {xs : List Operand} {ats : Array TypeId} {bs vs cs : List Value} [FnB P f] (hx : ev t x = some (.func (.func f) bs.toArray cs.toArray)) (hv : evL t xs = some vs) :
    OpCall P E (.call ⟨.value x, xs.toArray, ats⟩) ty t f (bs ++ vs ++ cs).toArray := by
  intro a w ht o ho _
  obtain ⟨fn, hf, hn, hb⟩ := FnB.fn (P := P) (f := f)
  have he := evL_eval ht xs vs hv
  simp only [execOp, ho, resolve, ev_eval ht hx, Deferred.ofValue, Sem.run_bind, Sem.run, pure, Result.andThen, invoke, callFunc, program, hf, hn, hb, List.map_toArray, he]
  simp [Sem.run, pure]
def CallsH (P : Program) (E : Env) (f : FuncId) (args : List Value) (H : Hp) (R : Value → Hp → Prop) : Prop :=
  ∀ hid w, RepH E (H ++ hid) w → Calls P f args.toArray w fun e w' => ∃ v H', e = .returned v ∧ RepH E (H' ++ hid) w' ∧ R v H'
theorem ao_callH {d : Nat} {op : Op} {ty : TypeId} {pos : String} {af : Array Edge} {gd : Option (Nat × Bool)} {f : FuncId} {args : List Value} {l R : Hp} {K : Value → Hp → Prop}
    (hw : Wants ops t gd) (hv : OpCall P E op ty t f args.toArray) (hd : Nat.blt d E.n = true) (hcut : Cut H l R) (hc : CallsH P E f args (l ++ R) K)
    (h : ∀ v H', K v H' → ao kd P E ops Q rest ((d, v) :: t) H') : ao kd P E ops Q (⟨some d, op, ty, pos, af, gd⟩ :: rest) t H :=
  ao_callx hw hv hd fun hid w hh => (hc hid w (hh.perm (hcut.append_right hid))).mono fun _ _ ⟨v, H', he, hr, hk⟩ => ⟨v, H', he, hr, h v H' hk⟩
def CallsF (P : Program) (E : Env) (f : FuncId) (args : List Value) (l : Hp) (v : Value) (l' : Hp) : Prop := ∀ R, CallsH P E f args (l ++ R) fun u H' => u = v ∧ H' = l' ++ R
theorem ao_callF {d : Nat} {op : Op} {ty : TypeId} {pos : String} {af : Array Edge} {gd : Option (Nat × Bool)} {f : FuncId} {args : List Value} {l l' R : Hp} {v : Value}
    (hw : Wants ops t gd) (hv : OpCall P E op ty t f args.toArray) (hd : Nat.blt d E.n = true) (hc : CallsF P E f args l v l') (hcut : Cut H l R)
    (h : ∀ H', l' ++ R = H' → ao kd P E ops Q rest ((d, v) :: t) H') : ao kd P E ops Q (⟨some d, op, ty, pos, af, gd⟩ :: rest) t H :=
  ao_callH hw hv hd hcut (hc R) fun _ _ ⟨e1, e2⟩ => by subst e1; exact h _ e2.symm
theorem Cut.two {H R1 l R : Hp} {x : Nat × Obj} (h1 : Cut H [x] R1) (h2 : Cut R1 l R) : Cut H (x :: l) R :=
  h1.trans (List.Perm.cons x h2)
theorem RepH.env {n m B : Nat} {w0 w : World} (h : RepH ⟨B, w0, n⟩ H w) : RepH ⟨B, w0, m⟩ H w := ⟨h.below, h.base, h.nodup, h.at_⟩
theorem callsH_of_aw {B m : Nat} {w0 : World} {f : FuncId} {fn : Func} {c : Code} {args : List Value} {n : Nat} {Q : Exit → Tm → Hp → Prop} {K : Value → Hp → Prop}
    (hf : P.funcs[f]? = some fn) (hb : fn.body = some c) (hn : fn.ntmps = n) (hl : Nat.ble args.length n = true) (h : aw P ⟨B, w0, n⟩ c Q (tm0 args) H)
    (hQ : ∀ e a t' H', RepT ⟨B, w0, n⟩ t' a → Q e t' H' → (e = .normal ∨ e = .ret) ∧ ∃ (v : Value) (H1 H2 : Hp), (∀ w', RepH ⟨B, w0, n⟩ H' w' → (results fn a.tmps).run P w' = .ok v w') ∧ H2.Sublist H' ∧ H2.Perm H1 ∧ K v H1) : CallsH P ⟨B, w0, m⟩ f args H K :=
  fun hid w hh => calls_of_aw hf hb hn hl h hid hh.env fun e a t' H' r1 q => by
    obtain ⟨he, v, H1, H2, hr, hs, hp, hk⟩ := hQ e a t' H' r1 q
    exact ⟨he, v, fun w' hw => ⟨hr w' hw.un, v, H1, rfl, ((hw.sub (List.Sublist.append_right hs hid)).perm (hp.append_right hid)).env, hk⟩⟩
theorem callsH1 {B m : Nat} {w0 : World} {f : FuncId} {fn : Func} {c : Code} {args : List Value} {n r : Nat} {K : Value → Hp → Prop}
    (hf : P.funcs[f]? = some fn) (hb : fn.body = some c) (hn : fn.ntmps = n) (hl : Nat.ble args.length n = true) (hr : fn.results = #[.tmp r])
    (h : aw P ⟨B, w0, n⟩ c (ret1 r K) (tm0 args) H) : CallsH P ⟨B, w0, m⟩ f args H K :=
  callsH_of_aw hf hb hn hl h fun e a t' H' r1 q => by
    unfold ret1 at q
    cases e with
    | normal => obtain ⟨v, h1, h2⟩ := q; exact ⟨.inl rfl, v, H', H', fun w' _ => by rw [results_tmp hr, r1.2.2 r v h1], List.Sublist.refl _, List.Perm.refl _, h2⟩
    | ret => obtain ⟨v, h1, h2⟩ := q; exact ⟨.inr rfl, v, H', H', fun w' _ => by rw [results_tmp hr, r1.2.2 r v h1], List.Sublist.refl _, List.Perm.refl _, h2⟩
    | exit _ => exact q.elim
    | goto _ => exact q.elim
    | panic _ => exact q.elim
    | outgrown => exact q.elim
def plainL : List Value → Bool
  | [] => true
  | .string _ :: l | .int _ _ :: l | .bool _ :: l => plainL l
  | _ => false
theorem eqB_self (v : Value) (l : List Value) (h : plainL (v :: l) = true) : eqB v v = true ∧ plainL l = true := by
  cases v <;> simp_all [plainL, eqB]
theorem eqAll_rfl : ∀ (l : List Value), plainL l = true → eqAll l l = true
  | [], _ => rfl
  | [x], h => (eqB_self x [] h).1
  | x :: y :: l, h => by
    obtain ⟨h1, h2⟩ := eqB_self x _ h
    have := eqAll_rfl (y :: l) h2
    simp only [eqAll, h1, this, Bool.and_self]
theorem neqAll_rfl (l : List Value) (h : plainL l = true) : (!(eqAll l l)) = false := by rw [eqAll_rfl l h]; rfl
theorem bneq_rfl (b : Bool) : (!(b == b)) = false := by cases b <;> rfl
def cutI (I : Tm → Hp → Prop) (Q : Exit → Tm → Hp → Prop) : Exit → Tm → Hp → Prop
  | .normal, t, H => ∃ t1 H1, Sub t1 t ∧ H1.Sublist H ∧ I t1 H1
  | e, t, H => Q e t H
theorem ci_normal {I : Tm → Hp → Prop} {t1 : Tm} {H1 : Hp} (hI : I t1 H1) (hs : Sub t1 t) (hh : H1.Sublist H) : cutI I Q .normal t H := ⟨t1, H1, hs, hh, hI⟩
theorem ci_ret {I : Tm → Hp → Prop} (h : Q .ret t H) : cutI I Q .ret t H := h
theorem ci_exit {I : Tm → Hp → Prop} {id : Nat} (h : Q (.exit id) t H) : cutI I Q (.exit id) t H := h
theorem aw_cutI {c y : Code} (I : Tm → Hp → Prop) (h1 : aw P E c (cutI I Q) t H) (h2 : ∀ t H, I t H → aw P E y Q t H) : aw P E (.seq c y) Q t H :=
  aw_seq (aw_mono h1 fun e t' H' hq => by
    cases e with
    | normal =>
      obtain ⟨t1, H1, hs, hh, hI⟩ := hq
      unfold andThen
      exact aw_sub hs (aw_subH hh (h2 t1 H1 hI))
    | ret => unfold andThen; exact hq
    | exit _ => unfold andThen; exact hq
    | goto _ => unfold andThen; exact hq
    | panic _ => unfold andThen; exact hq
    | outgrown => unfold andThen; exact hq)
theorem aw_cutI_at {c y : Code} {id : Nat} {l : Array Oper} {b : Bool} (I : Tm → Hp → Prop) (h1 : aw P E c (cutI I Q) t H) (h2 : ∀ t H, I t H → aw P E (.seq (.region id l b) y) Q t H) : aw P E (.seq c (.seq (.region id l b) y)) Q t H := aw_cutI I h1 h2
theorem aw_cutI_at2 {c y z : Code} {id : Nat} {l : Array Oper} {b : Bool} (I : Tm → Hp → Prop) (h1 : aw P E c (cutI I Q) t H) (h2 : ∀ t H, I t H → aw P E (.seq (.seq (.region id l b) z) y) Q t H) : aw P E (.seq c (.seq (.seq (.region id l b) z) y)) Q t H := aw_cutI I h1 h2
theorem on_make {x y : Operand} {mt e : TypeId} {sz by_ n : Nat} {z : Value} [TySl P mt e sz by_] [TyZ P e z] (hz1 : z.cells = #[z]) (hs1 : sz = 1) (hx : ev t x = some (I (n : Int))) (hy : ev t y = some (I (n : Int))) (hb : by_ * n ≤ 281474976710656) (hn : n ≤ 9223372036854775807) :
    OpN P E (.makeSlice mt x y) ty t H (.cells (List.replicate n z).toArray e (0, 0)) (fun b => .slice (some ⟨b, 0, none⟩) n n) := by
  intro a w ht _ o ho _
  obtain ⟨i, z', hu, hi, hz, rfl, rfl, hzs⟩ := TySl.sl (P := P) (t := mt)
  have hz2 := TyZ.zero (P := P) (t := e)
  rw [hi] at hz2
  simp only [Option.map_some, Option.some.injEq] at hz2
  rw [hz] at hz2
  cases hz2
  have hb' : (i.bytes : Int) * (n : Int) ≤ 281474976710656 := by
    have h : ((i.bytes * n : Nat) : Int) ≤ 281474976710656 := by omega
    rwa [Int.natCast_mul] at h
  have hr := run_make (P := P) w mt e i z hu hi hz .i64 .i64 (n : Int) (n : Int) (by omega) (Int.le_refl _) hb' (by omega)
  have hm : madeCells z.cells (n * i.size) = (List.replicate n z).toArray := by
    rw [hs1, hz1, Nat.mul_one]
    apply Array.ext'
    simp [madeCells]
    apply List.ext_getElem?
    intro j
    by_cases hj : j < n
    · simp [hj, Nat.mod_one]
    · simp [hj]
  simp only [Int.toNat_natCast] at hr
  rw [hm] at hr
  simp only [execOp, ho, ev_eval ht hx, ev_eval ht hy, Sem.run_bind, hr, Result.andThen, pure, Sem.run]
theorem ov_arrAddr_sc {x y : Operand} {xt e : TypeId} {len b o1 : Nat} {k : IntKind} {i : Int} [TyArr P xt len e] [TyC P e] (hx : ev t x = some (.pointer (some ⟨b, o1, none⟩))) (hy : ev t y = some (.int k i))
    (h0 : 0 ≤ i) (h1 : i < (len : Int)) : OpV P E (.indexAddr xt x y) ty t H (.pointer (some ⟨b, o1 + i.toNat * 1, none⟩)) :=
  ov_arrAddr (TyC.size (P := P) (t := e)) hx hy (j := i.toNat) (by omega) (by omega)
theorem ov_slarr_lo {x y : Operand} {xt e : TypeId} {len b n : Nat} {k : IntKind} {i : Int} [TyArr P xt len e] [TyC P e] (hx : ev t x = some (.pointer (some ⟨b, 0, none⟩))) (hy : ev t y = some (.int k i)) (hi : i = (n : Int)) (hn : n < len) :
    OpV P E (.slice xt x (some y) none none) ty t H (.slice (some ⟨b, n, none⟩) (len - n) (len - n)) := by
  subst hi
  refine ov_of fun a w ht _ o ho _ => ⟨_, by simp only [execOp, ho]; rfl, ?_⟩
  have hu := TyArr.arr (P := P) (t := xt)
  have hbd := run_bounds (P := P) (lo := some (.int k (n : Int))) (hi := none) (n := len) (i := n) (j := len) (w := w) (.inr ⟨k, _, rfl, rfl⟩) (.inl ⟨rfl, rfl⟩) (by omega) (Nat.le_refl _)
  have hne : ¬ (len = n) := by omega
  rw [ev_eval ht hx]
  simp only [Instr.sliceAt, Option.map_some, Option.map_none, ev_eval ht hy, Sem.run_bind, run_underlying hu, Result.andThen, Instr.sureAddr, pure, Sem.run, hbd, run_sizeOf (TyC.size (P := P) (t := e)), hne, if_false, add_off, Nat.mul_one, Nat.zero_add]
theorem ov_b2s {x : Operand} {src dst e : TypeId} {sz by_ b off cap n : Nat} {cs : List Value} {fz : Nat × Nat} {et : TypeId} {l : List UInt8} [TySl P src e sz by_] [TyU P e (.int .u8)] [TyU P dst .string] (hx : ev t x = some (.slice (some ⟨b, off, none⟩) n cap))
    (hb : Has H b (.cells cs.toArray et fz)) (hn : n = l.length) (hc : (cs.drop off).take n = l.map fun c => .int .u8 (c.toNat : Int)) : OpV P E (.convert src dst x) ty t H (S l) := by
  subst hn
  refine ov_of fun a w ht hh o ho _ => ⟨_, by simp only [execOp, ho]; rfl, ?_⟩
  obtain ⟨i, z', hu, hi, hz, -, -, hzs⟩ := TySl.sl (P := P) (t := src)
  rw [ev_eval ht hx]
  refine run_convert_bytes_back w src dst e ⟨b, off, none⟩ cap l hu (TyU.und (P := P) (t := e)) (TyU.und (P := P) (t := dst)) fun j hj => ?_
  rw [add_off, cell_of (hh.has hb).2]
  have h1 := congrArg (fun l => l[j]?) hc
  simp only [List.getElem?_take_of_lt hj, List.getElem?_drop, List.getElem?_map, List.getElem?_eq_getElem hj, Option.map_some] at h1
  exact h1
end
attribute [irreducible] cutI
end Sx
end Go.Proofs.YtkjjlppfomidbaaGreat
/- Sxd: Regions that draw their order and hold calls that make memory: a plan tells which operations are taken first; conditions: what is taken first reads only the part Hs of the call's own heap, which stays. -/
namespace Go.Proofs.YtkjjlppfomidbaaGreat
namespace Sx
open Go Go.RowKit
inductive Plan where
  | e
  | t (i : Nat) (r : Plan)
  | o (i : Nat) (r : Plan)
  | w (i : Nat) (r : Plan) (j : Nat) (s : Plan)
  | v (i : Nat) (r : Plan) (j : Nat) (s : Plan) (k : Nat) (u : Plan)
def planOK (ops : Array Oper) : Plan → Nat → Array Bool → Bool
  | .e, 0, listed => (Region.ready .any ops listed).isEmpty
  | .t i r, n + 1, listed => Region.free .any ops listed i && ((Region.ready .any ops listed).contains i && planOK ops r n (listed.setIfInBounds i true))
  | .o i r, n + 1, listed => decide (Region.ready .any ops listed = [i]) && planOK ops r n (listed.setIfInBounds i true)
  | .w i r j s, n + 1, listed => decide (Region.ready .any ops listed = [i, j]) && (planOK ops r n (listed.setIfInBounds i true) && planOK ops s n (listed.setIfInBounds j true))
  | .v i r j s k u, n + 1, listed => decide (Region.ready .any ops listed = [i, j, k]) && (planOK ops r n (listed.setIfInBounds i true) && (planOK ops s n (listed.setIfInBounds j true) && planOK ops u n (listed.setIfInBounds k true)))
  | _, _, _ => false
theorem wp_mono2 {P : Program} {o : Oper} {a : Act} {w : World} {K K' : Act → World → Prop} {Q Q' : Exit → Act → World → Prop} (h : ∀ a w, K a w → K' a w) (hq : ∀ e a w, Q e a w → e ≠ .normal → False)
    (hh : o.wp P a w K Q) : o.wp P a w K' Q' := by
  unfold Oper.wp at *
  generalize (execOp a.eval o).run P w = r at *
  cases r with
  | ok n w' =>
    cases n <;> simp only [Oper.upon] at hh ⊢ <;>
      first
        | exact h _ _ hh
        | exact Calls.mono hh (fun e w'' he => by cases e <;> first | exact h _ _ he | exact (hq _ _ _ he (by intro h; cases h)).elim | exact (hq _ _ _ he.choose_spec.choose_spec (by intro h; cases h)).elim)
        | exact Rows.mono hh (fun _ _ he => h _ _ he)
  | halt x w' => cases x <;> simp only [Oper.upon] at hh ⊢ <;> first | exact hh | exact (hq _ _ _ hh (by intro h; cases h)).elim
section
variable {P : Program} {E : Env} {ops : Array Oper} {Q : Exit → Tm → Hp → Prop} {t : Tm} {H Hs : Hp}
theorem RepH.oldr {w : World} {l R : Hp} {e : TypeId} {sz n : Nat} {v : Value} {xs : List Value} (h : RepH E H w) (hr : RowB e sz v l n xs) (hc : Cut H l R) : OldRow w sz v n xs := h.old hc hr
def takes (P : Program) (E : Env) (ops : Array Oper) (Hs : Hp) (o : Oper) (t t' : Tm) : Prop :=
  ∀ a, RepT E t a → ∃ v, YieldsIf P ops (RepH E Hs) o v a ∧ RepT E t' (a.put o.dst v)
def ah (P : Program) (E : Env) (ops : Array Oper) (Q : Exit → Tm → Hp → Prop) (Hs : Hp) : Plan → Tm → Hp → Prop
  | .e, t, H => Q .normal t H
  | .t i r, t, H => ∃ o t', ops[i]? = some o ∧ takes P E ops Hs o t t' ∧ ah P E ops Q Hs r t' H
  | .o i r, t, H => ∃ o, ops[i]? = some o ∧ ao true P E ops (fun e t' H' => e = .normal ∧ Hs.Sublist H' ∧ ah P E ops Q Hs r t' H') [o] t H
  | .w i r j s, t, H => (∃ o, ops[i]? = some o ∧ ao true P E ops (fun e t' H' => e = .normal ∧ Hs.Sublist H' ∧ ah P E ops Q Hs r t' H') [o] t H) ∧
      (∃ o, ops[j]? = some o ∧ ao true P E ops (fun e t' H' => e = .normal ∧ Hs.Sublist H' ∧ ah P E ops Q Hs s t' H') [o] t H)
  | .v i r j s k u, t, H => (∃ o, ops[i]? = some o ∧ ao true P E ops (fun e t' H' => e = .normal ∧ Hs.Sublist H' ∧ ah P E ops Q Hs r t' H') [o] t H) ∧
      (∃ o, ops[j]? = some o ∧ ao true P E ops (fun e t' H' => e = .normal ∧ Hs.Sublist H' ∧ ah P E ops Q Hs s t' H') [o] t H) ∧
      (∃ o, ops[k]? = some o ∧ ao true P E ops (fun e t' H' => e = .normal ∧ Hs.Sublist H' ∧ ah P E ops Q Hs u t' H') [o] t H)
theorem ah_end (h : Q .normal t H) : ah P E ops Q Hs .e t H := h
theorem ah_take {i : Nat} {r : Plan} {d : Nat} {op : Op} {ty : TypeId} {pos : String} {af : Array Edge} {gd : Option (Nat × Bool)} {v : Value}
    (ho : ops[i]? = some ⟨some d, op, ty, pos, af, gd⟩) (hw : Wants ops t gd) (hv : OpV P E op ty t Hs v) (hd : Nat.blt d E.n = true) (h : ah P E ops Q Hs r ((d, v) :: t) H) :
    ah P E ops Q Hs (.t i r) t H :=
  ⟨_, _, ho, fun _ ht => ⟨v, .inl ⟨wants_of ht hw, fun w hh => hv _ w ht hh _ rfl rfl⟩, ht.put hd⟩, h⟩
theorem ah_skip {i : Nat} {r : Plan} {d : Nat} {op : Op} {ty : TypeId} {pos : String} {af : Array Edge} {gd : Option (Nat × Bool)}
    (ho : ops[i]? = some ⟨some d, op, ty, pos, af, gd⟩) (hw : Not ops t gd) (hd : Nat.blt d E.n = true) (h : ah P E ops Q Hs r ((d, undef) :: t) H) :
    ah P E ops Q Hs (.t i r) t H :=
  ⟨_, _, ho, fun _ ht => ⟨undef, .inr ⟨not_of ht hw, rfl⟩, ht.put hd⟩, h⟩
theorem ah_one {i : Nat} {r : Plan} {o : Oper} (ho : ops[i]? = some o)
    (h : ao true P E ops (fun e t' H' => e = .normal ∧ Hs.Sublist H' ∧ ah P E ops Q Hs r t' H') [o] t H) : ah P E ops Q Hs (.o i r) t H := ⟨o, ho, h⟩
theorem ah_two {i j : Nat} {r s : Plan} {o u : Oper} (ho : ops[i]? = some o) (hu : ops[j]? = some u)
    (h : ao true P E ops (fun e t' H' => e = .normal ∧ Hs.Sublist H' ∧ ah P E ops Q Hs r t' H') [o] t H)
    (h2 : ao true P E ops (fun e t' H' => e = .normal ∧ Hs.Sublist H' ∧ ah P E ops Q Hs s t' H') [u] t H) : ah P E ops Q Hs (.w i r j s) t H := ⟨⟨o, ho, h⟩, ⟨u, hu, h2⟩⟩
theorem ah_three {i j k : Nat} {r s u : Plan} {o1 o2 o3 : Oper} (h1 : ops[i]? = some o1) (h2 : ops[j]? = some o2) (h3 : ops[k]? = some o3)
    (g1 : ao true P E ops (fun e t' H' => e = .normal ∧ Hs.Sublist H' ∧ ah P E ops Q Hs r t' H') [o1] t H)
    (g2 : ao true P E ops (fun e t' H' => e = .normal ∧ Hs.Sublist H' ∧ ah P E ops Q Hs s t' H') [o2] t H)
    (g3 : ao true P E ops (fun e t' H' => e = .normal ∧ Hs.Sublist H' ∧ ah P E ops Q Hs u t' H') [o3] t H) : ah P E ops Q Hs (.v i r j s k u) t H := ⟨⟨o1, h1, g1⟩, ⟨o2, h2, g2⟩, ⟨o3, h3, g3⟩⟩
theorem ah_put {i d : Nat} {r : Plan} {b : Bool} (hd : look t d = some (.bool b)) (h : ah P E ops Q Hs (.t i r) ((d, .bool b) :: t) H) : ah P E ops Q Hs (.t i r) t H := by
  obtain ⟨o, t', ho, htk, h'⟩ := h
  refine ⟨o, t', ho, fun a ht => htk a ⟨ht.1, ht.2.1, fun k v hk => ?_⟩, h'⟩
  by_cases e : d = k
  · subst e; rw [look_cons_eq] at hk; cases hk; exact ht.2.2 d _ hd
  · rw [look_cons_ne e] at hk; exact ht.2.2 k v hk
theorem ah_gt {i j d : Nat} {r : Plan} {b g : Bool} {dst : Option Tmp} {op : Op} {ty : TypeId} {pos : String} {af : Array Edge} (_ho : ops[i]? = some ⟨dst, op, ty, pos, af, some (j, g)⟩) (_hj : dstAt ops j = some d) (hd : look t d = some (.bool b)) (hb : b = true)
    (h : ah P E ops Q Hs (.t i r) ((d, .bool true) :: t) H) : ah P E ops Q Hs (.t i r) t H := by subst hb; exact ah_put hd h
theorem ah_gf {i j d : Nat} {r : Plan} {b g : Bool} {dst : Option Tmp} {op : Op} {ty : TypeId} {pos : String} {af : Array Edge} (_ho : ops[i]? = some ⟨dst, op, ty, pos, af, some (j, g)⟩) (_hj : dstAt ops j = some d) (hd : look t d = some (.bool b)) (hb : b = false)
    (h : ah P E ops Q Hs (.t i r) ((d, .bool false) :: t) H) : ah P E ops Q Hs (.t i r) t H := by subst hb; exact ah_put hd h
theorem ah_glit {i j d : Nat} {r : Plan} {b g : Bool} {v : Value} {dst : Option Tmp} {op : Op} {ty : TypeId} {pos : String} {af : Array Edge} (_ho : ops[i]? = some ⟨dst, op, ty, pos, af, some (j, g)⟩) (_hj : dstAt ops j = some d) (_hd : look t d = some v) (_hv : v = .bool b)
    (h : ah P E ops Q Hs (.t i r) t H) : ah P E ops Q Hs (.t i r) t H := h
theorem ah_is {r : Plan} (h : ah P E ops Q Hs r t H) : ah P E ops Q Hs r t H := h
theorem ao_nilh {r : Plan} (hs : Hs.Sublist H) (h : ah P E ops Q Hs r t H) : ao true P E ops (fun e t' H' => e = .normal ∧ Hs.Sublist H' ∧ ah P E ops Q Hs r t' H') [] t H := ao_nil ⟨rfl, hs, h⟩
theorem put_defs (a : Act) (d : Option Tmp) (v : Value) : (a.put d v).defers = a.defers := by cases d <;> rfl
theorem marks_app (ns ms : List Nat) : marks (ns ++ ms) = marks ns ++ marks ms := by unfold marks; exact List.map_append
theorem markH_app (ns ms : List Nat) : markH (ns ++ ms) = markH ns ++ markH ms := by unfold markH; exact List.map_append
theorem ah_sound (hsel : Region.noSelect ops = true) {ex : List Deferred} {hid : Hp} : ∀ (pl : Plan) (fuel : Nat) (listed : Array Bool) (t : Tm) (H : Hp) (a : Act) (w : World) (ms : List Nat),
    planOK ops pl fuel listed = true → Hs.Sublist H → ah P E ops Q Hs pl t H → a.defers = marks ms ++ ex → RepT E t a → RepH E (H ++ (markH ms ++ hid)) w →
    wpAnyH P .any ops (fun e a w => e = .normal ∧ post E ex hid Q .normal a w) (RepH E Hs) fuel listed a w := by
  -- one operation that comes up, with a plan behind it
  have one : ∀ (r : Plan) (fuel : Nat) (listed : Array Bool) (t : Tm) (H : Hp) (a : Act) (w : World) (ms : List Nat) (j : Nat) (o : Oper),
      (∀ (t : Tm) (H : Hp) (a : Act) (w : World) (ms : List Nat), Hs.Sublist H → ah P E ops Q Hs r t H → a.defers = marks ms ++ ex → RepT E t a → RepH E (H ++ (markH ms ++ hid)) w → wpAnyH P .any ops (fun e a w => e = .normal ∧ post E ex hid Q .normal a w) (RepH E Hs) fuel (listed.setIfInBounds j true) a w) →
      ops[j]? = some o → ao true P E ops (fun e t' H' => e = .normal ∧ Hs.Sublist H' ∧ ah P E ops Q Hs r t' H') [o] t H → a.defers = marks ms ++ ex → RepT E t a → RepH E (H ++ (markH ms ++ hid)) w →
      wpOp P ops (fun e a w => e = .normal ∧ post E ex hid Q .normal a w) j (fun a' w' => RepH E Hs w' ∧ wpAnyH P .any ops (fun e a w => e = .normal ∧ post E ex hid Q .normal a w) (RepH E Hs) fuel (listed.setIfInBounds j true) a' w') a w := by
    intro r fuel listed t H a w ms j o ih ho h' hx ht hh
    have hn : ∀ a' w', post E (marks ms ++ ex) (markH ms ++ hid) (fun e t' H' => e = .normal ∧ Hs.Sublist H' ∧ ah P E ops Q Hs r t' H') .normal a' w' →
        RepH E Hs w' ∧ wpAnyH P .any ops (fun e a w => e = .normal ∧ post E ex hid Q .normal a w) (RepH E Hs) fuel (listed.setIfInBounds j true) a' w' := by
      rintro a' w' ⟨ns, t', H', ht', hx', hh', -, hs', h3⟩
      exact ⟨hh'.un.sub hs', ih t' H' a' w' (ns ++ ms) hs' h3 (by rw [marks_app, List.append_assoc]; exact hx') ht' (by rw [markH_app, List.append_assoc]; exact hh')⟩
    have hq : ∀ e a' w', post E (marks ms ++ ex) (markH ms ++ hid) (fun e t' H' => e = .normal ∧ Hs.Sublist H' ∧ ah P E ops Q Hs r t' H') e a' w' → e ≠ .normal → False := by
      rintro e a' w' ⟨_, _, _, _, _, _, he, _⟩ hne
      exact hne he
    unfold ao at h'
    have h2 : wpList P ops (post E (marks ms ++ ex) (markH ms ++ hid) (fun e t' H' => e = .normal ∧ Hs.Sublist H' ∧ ah P E ops Q Hs r t' H')) [o] a w := h' none (fun _ => rfl) _ _ a w hx ht hh
    unfold wpList at h2
    unfold wpOp
    simp only [ho]
    split
    · rename_i hw
      simp only [hw, if_true] at h2
      rcases h2 with h2 | ⟨_, a', w', h2⟩
      · exact .inl (wp_mono2 hn hq h2)
      · exact (hq _ _ _ h2 (by intro h; cases h)).elim
    · rename_i hw
      simp only [hw] at h2
      exact hn _ _ h2
  intro pl
  induction pl with
  | e =>
    intro fuel listed t H a w ms hp hs h hx ht hh
    cases fuel with
    | zero => exact wpAnyH_done (by simpa [planOK] using hp) ⟨rfl, ms, t, H, ht, hx, hh, h⟩ _
    | succ n => simp [planOK] at hp
  | t i r ih =>
    intro fuel listed t H a w ms hp hs h hx ht hh
    cases fuel with
    | zero => simp [planOK] at hp
    | succ n =>
      simp only [planOK, Bool.and_eq_true] at hp
      obtain ⟨o, t', ho, htk, h'⟩ := h
      obtain ⟨v, hy, ht'⟩ := htk a ht
      exact wpAnyH_take ho hsel hp.1 hp.2.1 (fun c a w hc => by cases hc.1) hy (hh.un.sub hs) (ih n _ t' H _ w ms hp.2.2 hs h' ((put_defs a o.dst v).trans hx) ht' hh)
  | o i r ih =>
    intro fuel listed t H a w ms hp hs h hx ht hh
    cases fuel with
    | zero => simp [planOK] at hp
    | succ n =>
      simp only [planOK, Bool.and_eq_true, decide_eq_true_eq] at hp
      obtain ⟨o, ho, h'⟩ := h
      refine wpAnyH_all hp.1 (by simp) fun j hj => ?_
      obtain rfl : j = i := by simpa using hj
      exact one r n listed t H a w ms j o (fun t H a w ms hs h hx ht hh => ih n _ t H a w ms hp.2 hs h hx ht hh) ho h' hx ht hh
  | w i r j s ih1 ih2 =>
    intro fuel listed t H a w ms hp hs h hx ht hh
    cases fuel with
    | zero => simp [planOK] at hp
    | succ n =>
      simp only [planOK, Bool.and_eq_true, decide_eq_true_eq] at hp
      obtain ⟨⟨o, ho, h1⟩, ⟨u, hu, h2⟩⟩ := h
      refine wpAnyH_all hp.1 (by simp) fun k hk => ?_
      rcases (show k = i ∨ k = j by simpa using hk) with rfl | rfl
      · exact one r n listed t H a w ms k o (fun t H a w ms hs h hx ht hh => ih1 n _ t H a w ms hp.2.1 hs h hx ht hh) ho h1 hx ht hh
      · exact one s n listed t H a w ms k u (fun t H a w ms hs h hx ht hh => ih2 n _ t H a w ms hp.2.2 hs h hx ht hh) hu h2 hx ht hh
  | v i r j s k u ih1 ih2 ih3 =>
    intro fuel listed t H a w ms hp hs h hx ht hh
    cases fuel with
    | zero => simp [planOK] at hp
    | succ n =>
      simp only [planOK, Bool.and_eq_true, decide_eq_true_eq] at hp
      obtain ⟨⟨o1, e1, h1⟩, ⟨o2, e2, h2⟩, ⟨o3, e3, h3⟩⟩ := h
      refine wpAnyH_all hp.1 (by simp) fun m hm => ?_
      rcases (show m = i ∨ m = j ∨ m = k by simpa using hm) with rfl | rfl | rfl
      · exact one r n listed t H a w ms m o1 (fun t H a w ms hs h hx ht hh => ih1 n _ t H a w ms hp.2.1 hs h hx ht hh) e1 h1 hx ht hh
      · exact one s n listed t H a w ms m o2 (fun t H a w ms hs h hx ht hh => ih2 n _ t H a w ms hp.2.2.1 hs h hx ht hh) e2 h2 hx ht hh
      · exact one u n listed t H a w ms m o3 (fun t H a w ms hs h hx ht hh => ih3 n _ t H a w ms hp.2.2.2 hs h hx ht hh) e3 h3 hx ht hh
def noDef (ops : Array Oper) : Bool := ops.all fun o => match o.op with | .defer _ => false | _ => true
theorem noDef_of {ops : Array Oper} (h : noDef ops = true) {i : Nat} {o : Oper} (ho : ops[i]? = some o) : ∀ c, o.op ≠ .defer c := by
  intro c hc
  have h1 := Array.all_eq_true_iff_forall_mem.1 h o (Array.mem_of_getElem? ho)
  rw [hc] at h1
  cases h1
theorem rowsIn_rd {rd : Option Nat} {n : Nat} {P : Program} {row : String} {args : Array Value} {w : World} {R : Value → World → Prop} (h : Rows P row args w R) : RowsIn (rdF rd) n P row args w R :=
  fun c cs _ => let ⟨v, w', r, s⟩ := h c cs; ⟨v, w', r, stepsIn_wide.2 s⟩
theorem opIn_of_plain {rd : Option Nat} {o : Oper} {a : Act} {w : World} {K : Act → World → Prop} {Q : Exit → Act → World → Prop} (hd : ∀ c, o.op ≠ .defer c) (h : o.wp P a w K Q) : o.wpIn (rdF rd) 0 P a w K Q := by
  refine ⟨fun _ _ => trivial, ?_⟩
  rw [Oper.semAt_eq _ _ _ hd]
  unfold Oper.wp at h
  generalize (execOp a.eval o).run P w = r at h ⊢
  cases r with
  | ok n w' =>
    cases n <;> simp only [Oper.upon] at h <;> simp only [Oper.uponIn]
    case value => exact h
    case skip => exact h
    case defer => exact h
    case enter => exact ⟨fun h => by simp [rdF, Fence.wide] at h, (callsIn_rd h).mono fun e w'' he => by cases e <;> exact he⟩
    case row => exact ⟨fun h => by simp [rdF, Fence.wide] at h, rowsIn_rd h⟩
  | halt x w' => cases x <;> simp only [Oper.upon] at h <;> simp only [Oper.uponIn] <;> exact h
theorem anyIn_of_plain {rd : Option Nat} {md : Region.Mode} {Q : Exit → Act → World → Prop} (hq : ¬ LetsOut Q) (hd : noDef ops = true) : ∀ (fuel : Nat) (listed : Array Bool) (a : Act) (w : World), wpAny P md ops Q fuel listed a w → wpAnyIn (rdF rd) 0 P md ops Q fuel listed a w
  | 0, _, _, _, h => h
  | fuel + 1, listed, a, w, h => ⟨h.1, fun i hi => by
    have h2 := wpOp_mono (K' := wpAnyIn (rdF rd) 0 P md ops Q fuel (listed.setIfInBounds i true)) (fun a' w' h' => anyIn_of_plain hq hd fuel (listed.setIfInBounds i true) a' w' h') (h.2 i hi)
    unfold wpOp at h2
    unfold wpOpIn
    split
    · rename_i ho
      simp only [ho] at h2
      exact h2
    · rename_i o ho
      simp only [ho] at h2
      split
      · rename_i hw
        simp only [hw, if_true] at h2
        rcases h2 with h2 | ⟨-, h2⟩
        · exact opIn_of_plain (noDef_of hd ho) h2
        · exact absurd h2 hq
      · rename_i hw
        simp only [hw] at h2
        exact ⟨fun _ _ => trivial, h2⟩⟩
theorem aw_held {id : Nat} {l : List Oper} (pl : Plan) (Hs : Hp) (hm : P.follows .mixedOrders = true) (hsel : (noDef l.toArray && Region.noSelect l.toArray) = true)
    (hp : planOK l.toArray pl l.toArray.size (Array.replicate l.toArray.size false) = true) (hs : Hs.Sublist H) (h : ah P E l.toArray Q Hs pl t H) : aw P E (.region id l.toArray true) Q t H := by
  unfold aw
  intro rd _ ex hid a w hx ht hh
  rw [Bool.and_eq_true] at hsel
  refine wpIn_mono (Q := fun e a w => e = .normal ∧ post E ex hid Q .normal a w) (wpIn_region_any hm (anyIn_of_plain ?_ hsel.1 _ _ _ _ (wpAny_of_held _ _ _ _ (ah_sound (ms := []) hsel.2 pl _ _ t H a _ hp hs h hx ht hh.drew)))) ?_
  · rintro ⟨a, w, h, -⟩
    cases h
  · rintro e a w ⟨rfl, h⟩
    exact h
end
attribute [irreducible] ah
end Sx
end Go.Proofs.YtkjjlppfomidbaaGreat
/- Sxg: Package-level variables, labels and scopes, elements of array values, plain data as cells; conditions: none. -/
namespace Go.Proofs.YtkjjlppfomidbaaGreat
namespace Sx
open Go Go.RowKit
section
variable {P : Program} {E : Env} {Q : Exit → Tm → Hp → Prop} {t : Tm} {H : Hp}
theorem aw_label {l : Nat} (h : Q .normal t H) : aw P E (.label l) Q t H := by
  unfold aw
  exact fun _ _ _ _ _ _ hx ht hh => wpIn_label (post0 hx ht hh h)
def noGo (Q : Exit → Tm → Hp → Prop) : Exit → Tm → Hp → Prop
  | .goto _, _, _ => False
  | e, t, H => Q e t H
theorem ng_normal (h : Q .normal t H) : noGo Q .normal t H := h
theorem ng_ret (h : Q .ret t H) : noGo Q .ret t H := h
theorem ng_exit {id : Nat} (h : Q (.exit id) t H) : noGo Q (.exit id) t H := h
theorem stepR_scope {P : Program} {b : Frame} {a : Act} {k : List Item} {cs : List Frame} {w : World} {c : Code} : step P (lone (b.atR a (.code (.scope c) :: k)) cs w) = .next (lone (b.atR a (.code c :: .inScope c :: k)) cs w) :=
  step_lone_go (by simp [stepG, stepG.exec, Frame.atR])
theorem stepR_inScope {P : Program} {b : Frame} {a : Act} {k : List Item} {cs : List Frame} {w : World} {c : Code} : step P (lone (b.atR a (.inScope c :: k)) cs w) = .next (lone (b.atR a k) cs w) :=
  step_lone_go (by simp [stepG, stepG.exec, Frame.atR])
theorem wpIn_scope {F : Fence} {n : Nat} {P : Program} {Q : Exit → Act → World → Prop} {a : Act} {w : World} {c : Code} (h : c.wpIn F n P (Exit.noGoto Q) a w) : (Code.scope c).wpIn F n P Q a w := by
  intro b k cs hro hb hr
  have h0 : (lone (b.atR a (.code (.scope c) :: k)) cs w).fenced P F := fenced_calm hb hr rfl
  obtain ⟨e, a₁, w₁, hq, harr⟩ := h b (.inScope c :: k) cs hro hb hr
  cases e with
  | normal => exact ⟨.normal, a₁, w₁, hq, .head h0 stepR_scope (StepsIn.trans harr (.one (fenced_calm hb hr rfl) stepR_inScope))⟩
  | exit id =>
    have hx : exitTo id (.inScope c :: k) = exitTo id k := by simp [exitTo]
    exact ⟨_, a₁, w₁, hq, fun k' hk => .head h0 stepR_scope (harr.1 k' (by rw [hx]; exact hk)),
      fun hr' hk => let ⟨k₁, h1, h2⟩ := harr.2 hr' (by rw [hx]; exact hk); ⟨k₁, h1, .head h0 stepR_scope h2⟩⟩
  | goto l => exact hq.elim
  | ret => exact ⟨_, a₁, w₁, hq, .of_steps (.one h0 stepR_scope) harr⟩
  | panic ch => exact ⟨_, a₁, w₁, hq, .of_steps (.one h0 stepR_scope) harr⟩
  | outgrown => exact ⟨_, a₁, w₁, hq, .of_steps (.one h0 stepR_scope) harr⟩
theorem aw_scope {c : Code} (h : aw P E c (noGo Q) t H) : aw P E (.scope c) Q t H := by
  unfold aw at h ⊢
  intro rd ok ex hid a w hx ht hh
  refine wpIn_scope (wpIn_mono (h rd ok ex hid a w hx ht hh) fun e a w hq => ?_)
  obtain ⟨ms, t', H', r1, rx, r2, q⟩ := hq
  cases e with
  | goto l => exact q.elim
  | _ => exact ⟨ms, t', H', r1, rx, r2, q⟩
end
attribute [irreducible] noGo
section
variable {P : Program} {E : Env} {ty : TypeId} {t : Tm} {H : Hp}
end
end Sx
end Go.Proofs.YtkjjlppfomidbaaGreat
/- Sxs: Slices of structs: their elements' cells, what is appended out of memory that was there at the call, empty slices; conditions: none. -/
namespace Go.Proofs.YtkjjlppfomidbaaGreat
namespace Sx
open Go Go.RowKit
theorem flat_len {α : Type} {f : α → List Value} {sz : Nat} (hf : ∀ a, (f a).length = sz) : ∀ (l : List α), (l.flatMap f).length = l.length * sz
  | [] => by simp
  | a :: l => by rw [List.flatMap_cons, List.length_append, hf, flat_len hf l, List.length_cons, Nat.add_mul, Nat.one_mul, Nat.add_comm]
theorem flat_at {α : Type} {f : α → List Value} {sz : Nat} (hf : ∀ a, (f a).length = sz) : ∀ (l : List α) (i r : Nat) (a : α) (u : Value), l[i]? = some a → (f a)[r]? = some u → (l.flatMap f)[i * sz + r]? = some u
  | [], i, r, a, u, h, _ => by simp at h
  | b :: l, 0, r, a, u, h, hu => by
    simp only [List.getElem?_cons_zero, Option.some.injEq] at h
    subst h
    have := (List.getElem?_eq_some_iff.1 hu).1
    rw [List.flatMap_cons, Nat.zero_mul, Nat.zero_add, List.getElem?_append_left this]
    exact hu
  | b :: l, i + 1, r, a, u, h, hu => by
    rw [List.flatMap_cons, List.getElem?_append_right (by rw [hf, Nat.add_mul]; omega), hf]
    have e : (i + 1) * sz + r - sz = i * sz + r := by rw [Nat.add_mul]; omega
    rw [e]
    exact flat_at hf l i r a u (by simpa using h) hu
theorem flat_at_inv {α : Type} {f : α → List Value} {sz : Nat} (hf : ∀ a, (f a).length = sz) : ∀ (l : List α) (j : Nat) (u : Value), (l.flatMap f)[j]? = some u → ∃ (i r : Nat) (a : α), j = i * sz + r ∧ l[i]? = some a ∧ (f a)[r]? = some u
  | [], j, u, h => by simp at h
  | b :: l, j, u, h => by
    rw [List.flatMap_cons] at h
    by_cases hj : j < sz
    · rw [List.getElem?_append_left (by rw [hf]; exact hj)] at h
      exact ⟨0, j, b, by simp, rfl, h⟩
    · rw [List.getElem?_append_right (by rw [hf]; omega), hf] at h
      obtain ⟨i, r, a, h1, h2, h3⟩ := flat_at_inv hf l _ u h
      exact ⟨i + 1, r, a, by rw [Nat.add_mul]; omega, by simpa using h2, h3⟩
theorem OldRow.cells {α : Type} {f : α → List Value} {sz : Nat} (hf : ∀ a, (f a).length = sz) {w : World} {v : Value} {es : List α} (h : OldRow w sz v es.length (es.flatMap f)) :
    ∃ a c, v = .slice a es.length c ∧ ∀ (i : Nat) (e : α) (z : Int), es[i]? = some e → z = (i : Int) → ∃ g o, a = some ⟨g, o, none⟩ ∧ g < w.heap.size ∧ ∀ (r : Nat) u, (f e)[r]? = some u → w.cell? ⟨g, o + z.toNat * sz + r, none⟩ = some u := by
  obtain ⟨_, a, c, rfl, h2⟩ := h
  refine ⟨a, c, rfl, fun i e z hi hz => ?_⟩
  have hlt := (List.getElem?_eq_some_iff.1 hi).1
  obtain ⟨g, o, rfl, h3, h4⟩ := h2 (by omega)
  refine ⟨g, o, rfl, h3, fun r u hu => ?_⟩
  rw [hz, Int.toNat_natCast, Nat.add_assoc]
  exact h4 _ _ (flat_at hf es i r e u hi hu)
theorem RowB.cells {α : Type} {f : α → List Value} {e : TypeId} {sz : Nat} (hf : ∀ a, (f a).length = sz) {v : Value} {l : Hp} {es : List α} (h : RowB e sz v l es.length (es.flatMap f)) {i : Nat} {x : α} (hi : es[i]? = some x) :
    ∃ g cap cs, v = .slice (some ⟨g, 0, none⟩) es.length cap ∧ l = [(g, .cells (List.toArray cs) e (0, 0))] ∧ ∀ (r : Nat) u, (f x)[r]? = some u → cs[0 + i * sz + r]? = some u := by
  have hlt := (List.getElem?_eq_some_iff.1 hi).1
  obtain ⟨g, cap, cs, h1, h2, h3, h4, h5⟩ := h.open (by omega)
  refine ⟨g, cap, cs, h1, h2, fun r u hu => ?_⟩
  rw [Nat.zero_add]
  exact row_cell h5 (flat_at hf es i r x u hi hu)
section
variable {P : Program} {E : Env} {kd : Bool} {Q : Exit → Tm → Hp → Prop} {t : Tm} {H : Hp} {ops : Array Oper} {rest : List Oper} {ty : TypeId}
theorem on_bslice0 {bt e : TypeId} {sz by_ : Nat} [TySl P bt e sz by_] : OpN P E (.buildSlice bt 0 #[]) ty t H (.cells #[] e (0, 0)) (fun b => .slice (some ⟨b, 0, none⟩) 0 0) := by
  intro a w ht _ o ho _
  obtain ⟨i, z, hu, hi, hz, rfl, rfl, hzs⟩ := TySl.sl (P := P) (t := bt)
  have hs : (P.info? e).map (·.size) = some i.size := by rw [hi]; rfl
  simp only [execOp, ho, Instr.buildSlice, Sem.run_bind, run_underlying hu, Result.andThen, run_sizeOf hs, Nat.zero_mul, if_true, Sem.run, pure]
  have hz0 : Array.range 0 = #[] := Array.eq_empty_of_size_eq_zero (by simp)
  simp [Instr.fill, newRow, newObj, Sem.run_bind, Sem.run, pure, Result.andThen, hz0]
theorem RowB.lit0 {e : TypeId} {sz g : Nat} : RowB e sz (.slice (some ⟨g, 0, none⟩) 0 0) [(g, .cells #[] e (0, 0))] 0 [] :=
  ⟨by simp, .inr ⟨g, 0, #[], rfl, rfl, Nat.le_refl _, by simp, by simp⟩⟩
theorem ao_append0 {d : Nat} {x y : Operand} {t1 ty2 e : TypeId} {sz by_ : Nat} {pos : String} {af : Array Edge} {gd : Option (Nat × Bool)} {v : Value} {l : Hp} {n c2 : Nat} {a2 : Option Addr} {xs : List Value} [TySl P t1 e sz by_]
    (hw : Wants ops t gd) (hx : ev t x = some v) (hrow : RowB e sz v l n xs) (hy : ev t y = some (.slice a2 0 c2)) (hd : Nat.blt d E.n = true)
    (h : ao kd P E ops Q rest ((d, v) :: t) H) :
    ao kd P E ops Q (⟨some d, .call ⟨.builtin .append, #[x, y], #[t1, t1]⟩, ty2, pos, af, gd⟩ :: rest) t H := by
  unfold ao at h ⊢
  intro m0 hm0 ex hid a w hdx ht hh
  refine wpM_step fun K hK => ?_
  rw [if_pos (wants_of ht hw)]
  obtain ⟨i, z, hu, hi, hz, rfl, rfl, hzs⟩ := TySl.sl (P := P) (t := t1)
  have hs : (P.info? e).map (·.size) = some i.size := by rw [hi]; rfl
  have hev : (execOp a.eval ⟨some d, .call ⟨.builtin .append, #[x, y], #[t1, t1]⟩, ty2, pos, af, gd⟩).run P w = .ok (.value v) w := by
    have hr : (Builtin.append_ #[t1, t1] ty2 #[v, .slice a2 0 c2]).run P w = .ok v w := by
      have hfc : (Builtin.firstCells i.size 0 (.slice a2 0 c2)).run P w = .ok #[] w := by
        cases a2 with
        | none => exact run_firstCells_none (P := P) w i.size 0 0 c2
        | some a2 => exact run_firstCells_some (P := P) w i.size 0 a2 0 c2 [] (by simp) (fun j u hj => by simp at hj)
      rcases hrow.2 with ⟨rfl, rfl, rfl⟩ | ⟨g, cap, cur, rfl, rfl, hnc, hcs, htake⟩
      · simp [Builtin.append_, run_underlying hu, sizeOf, typeInfo, hi, Builtin.lenOf, hfc]
      · simp [Builtin.append_, run_underlying hu, sizeOf, typeInfo, hi, Builtin.lenOf, hfc, hnc, storeCells]
    simp only [execOp, resolve, List.map_toArray, List.map_cons, List.map_nil, ev_eval ht hx, ev_eval ht hy, invoke, builtin, pure_bind, Sem.run_bind, hr, Result.andThen]
    rfl
  exact opM_value hev (hK _ _ (h m0 hm0 ex hid _ w hdx (ht.put hd) hh))
theorem ao_append_o {d : Nat} {x y : Operand} {t1 ty2 e : TypeId} {sz by_ : Nat} {pos : String} {af : Array Edge} {gd : Option (Nat × Bool)} {v u : Value} {l R : Hp} {n m : Nat} {xs news : List Value} [TySl P t1 e sz by_]
    (hw : Wants ops t gd) (hx : ev t x = some v) (hrow : RowB e sz v l n xs) (hy : ev t y = some u) (hold : OldRow E.w0 sz u m news) (hE : E.B = E.w0.heap.size) (hcut : Cut H l R)
    (hf : news.all flat = true) (hbd : (n + m) * by_ ≤ 140737488355328) (h63 : n + m ≤ 9223372036854775807) (hd : Nat.blt d E.n = true)
    (h : ∀ v' l', RowB e sz v' l' (n + m) (xs ++ news) → ao kd P E ops Q rest ((d, v') :: t) (l' ++ R)) :
    ao kd P E ops Q (⟨some d, .call ⟨.builtin .append, #[x, y], #[t1, t1]⟩, ty2, pos, af, gd⟩ :: rest) t H := by
  rcases Nat.eq_zero_or_pos m with h0 | h0
  · subst h0
    obtain ⟨hl, a, c, rfl, -⟩ := hold
    have hn0 : news = [] := List.eq_nil_of_length_eq_zero (by simpa using hl)
    subst hn0
    refine ao_append0 hw hx hrow hy hd ?_
    have := h v l (by simpa using hrow)
    exact ao_permH hcut this
  · obtain ⟨g, o, c, rfl, hg, hcells⟩ := hold.open h0
    refine ao_append_g hw hx hrow hy hcut hold.1 (fun w hh j u hj => ?_) hf h0 hbd h63 hd h
    rw [add_off]
    exact (hh.below.cell (p := ⟨g, o + j, none⟩) (by rw [hE]; exact hg)).trans (hcells j u hj)
end
def shpF (P : Program) (g : TypeId → Option (List TypeDesc)) : Nat → List Field → Option (List TypeDesc)
  | _, [] => some []
  | pos, x :: fs =>
    match x.name == "_", Nat.beq x.offset pos, g x.type with
    | false, true, some ds => if ((P.info? x.type).map (·.size) == some ds.length && !ds.isEmpty) = true then (match shpF P g (pos + ds.length) fs with | some r => some (ds ++ r) | none => none) else none
    | _, _, _ => none
def shp (P : Program) : Nat → TypeId → Option (List TypeDesc)
  | 0, _ => none
  | f + 1, t =>
    match P.underlying t with
    | some (.struct fs) => if P.stoodInHeld t = true then none else shpF P (shp P f) 0 fs.toList
    | some .bool => some [.bool]
    | some (.int k) => some [.int k]
    | some .string => some [.string]
    | _ => none
def valOf (P : Program) (t : TypeId) (xs : List Value) : Value :=
  match P.underlying t with
  | some (.struct _) => .agg xs.toArray
  | _ => xs.headD default
theorem fitAll_len : ∀ {ds : List TypeDesc} {xs : List Value}, fitAll ds xs = true → xs.length = ds.length
  | [], [], _ => rfl
  | d :: ds, x :: xs, h => by
    simp only [fitAll, Bool.and_eq_true] at h
    simp [fitAll_len h.2]
  | [], _ :: _, h => by simp [fitAll] at h
  | _ :: _, [], h => by simp [fitAll] at h
theorem fitAll_app : ∀ {ds es : List TypeDesc} {xs : List Value}, fitAll (ds ++ es) xs = true → fitAll ds (xs.take ds.length) = true ∧ fitAll es (xs.drop ds.length) = true
  | [], es, xs, h => ⟨by simp [fitAll], by simpa using h⟩
  | d :: ds, es, [], h => by simp [fitAll] at h
  | d :: ds, es, x :: xs, h => by
    simp only [List.cons_append, fitAll, Bool.and_eq_true] at h
    have := fitAll_app h.2
    simp only [List.length_cons, List.take_succ_cons, List.drop_succ_cons, fitAll, Bool.and_eq_true]
    exact ⟨⟨h.1, this.1⟩, this.2⟩
theorem eqAll_app : ∀ {x1 y1 x2 y2 : List Value}, x1.length = y1.length → x1 ≠ [] → x2.length = y2.length → eqAll (x1 ++ x2) (y1 ++ y2) = (eqAll x1 y1 && eqAll x2 y2)
  | [], _, _, _, _, h, _ => absurd rfl h
  | [x], [y], [], [], _, _, _ => by simp [eqAll]
  | [x], [y], a :: x2, b :: y2, _, _, _ => by simp [eqAll]
  | [x], [y], [], _ :: _, _, _, h => by simp at h
  | [x], [y], _ :: _, [], _, _, h => by simp at h
  | x :: x' :: x1, y :: y' :: y1, x2, y2, h, _, g => by
    have := eqAll_app (x1 := x' :: x1) (y1 := y' :: y1) (by simpa using h) (by simp) g
    simp only [List.cons_append] at this ⊢
    simp only [eqAll, this, Bool.and_assoc]
  | [x], _ :: _ :: _, _, _, h, _, _ => by simp at h
  | [x], [], _, _, h, _, _ => by simp at h
  | _ :: _ :: _, [_], _, _, h, _, _ => by simp at h
  | _ :: _ :: _, [], _, _, h, _, _ => by simp at h
theorem run_part_val {P : Program} {w : World} {f : Nat} {t : TypeId} {ds : List TypeDesc} (hs : shp P f t = some ds) (hn : ((P.info? t).map (·.size) == some ds.length && !ds.isEmpty) = true) {cs : List Value} {off : Nat} (hl : off + ds.length ≤ cs.length) :
    (part t cs.toArray off).run P w = .ok (valOf P t ((cs.drop off).take ds.length)) w := by
  simp only [Bool.and_eq_true, beq_iff_eq, Bool.not_eq_true'] at hn
  cases f with
  | zero => simp [shp] at hs
  | succ f =>
    unfold shp at hs
    have one : ∀ {d : TypeDesc}, P.underlying t = some d → aggB P t = false → ds.length = 1 → valOf P t ((cs.drop off).take ds.length) = ((cs.drop off).take 1).headD default → (part t cs.toArray off).run P w = .ok (valOf P t ((cs.drop off).take ds.length)) w := fun hu ha h1 hv => by
      rw [hv]
      have hlt : off < cs.length := by omega
      simp only [part, Sem.run_bind, run_isAgg (by rw [hu]; rfl) ha, Result.andThen]
      have hg : cs.toArray[off]? = some cs[off] := by simp [hlt]
      have hd : ((cs.drop off).take 1).headD default = cs[off] := by
        rw [List.drop_eq_getElem_cons hlt]; rfl
      rw [hd]
      simp [hg, pure]
    split at hs
    · rename_i fs hu
      have ha : aggB P t = true := by unfold aggB; rw [hu]
      have hv : valOf P t ((cs.drop off).take ds.length) = .agg ((cs.drop off).take ds.length).toArray := by unfold valOf; rw [hu]
      rw [hv]
      simp only [part, Sem.run_bind, run_isAgg (by rw [hu]; rfl) ha, run_sizeOf hn.1, Result.andThen, if_true, pure, Sem.run]
      congr 2
      simp
    · rename_i hu
      cases hs
      exact one hu (by unfold aggB; rw [hu]) rfl (by unfold valOf; rw [hu]; rfl)
    · rename_i hu
      cases hs
      exact one hu (by unfold aggB; rw [hu]) rfl (by unfold valOf; rw [hu]; rfl)
    · rename_i hu
      cases hs
      exact one hu (by unfold aggB; rw [hu]) rfl (by unfold valOf; rw [hu]; rfl)
    · cases hs
theorem run_eqF {P : Program} {w : World} {f d : Nat} (ih : ∀ (t : TypeId) ds, shp P f t = some ds → ∀ xs ys, fitAll ds xs = true → fitAll ds ys = true → (Op.equalIn d t (valOf P t xs) (valOf P t ys)).run P w = .ok (eqAll xs ys) w) :
    ∀ (fs : List Field) (pos : Nat) (ds : List TypeDesc) (as bs : List Value), shpF P (shp P f) pos fs = some ds → fitAll ds (as.drop pos) = true → fitAll ds (bs.drop pos) = true →
    (Op.eqFields d as.toArray bs.toArray fs).run P w = .ok (eqAll (as.drop pos) (bs.drop pos)) w
  | [], pos, ds, as, bs, h, h1, h2 => by
    simp only [shpF, Option.some.injEq] at h
    subst h
    have e1 := fitAll_len h1
    have e2 := fitAll_len h2
    rw [List.eq_nil_of_length_eq_zero e1, List.eq_nil_of_length_eq_zero e2]
    rfl
  | x :: fs, pos, ds, as, bs, h, h1, h2 => by
    unfold shpF at h
    split at h
    · rename_i ds0 hnm hof hg
      split at h
      · rename_i hsz
        cases hr : shpF P (shp P f) (pos + ds0.length) fs with
        | none => rw [hr] at h; cases h
        | some r =>
          rw [hr] at h
          simp only [Option.some.injEq] at h
          subst h
          have ho := Nat.eq_of_beq_eq_true hof
          obtain ⟨a1, a2⟩ := fitAll_app h1
          obtain ⟨b1, b2⟩ := fitAll_app h2
          rw [List.drop_drop] at a2 b2
          have la := fitAll_len h1
          have lb := fitAll_len h2
          simp only [List.length_append, List.length_drop] at la lb
          have hne : ds0 ≠ [] := by
            simp only [Bool.and_eq_true, Bool.not_eq_true', List.isEmpty_eq_false_iff] at hsz
            exact hsz.2
          have hpos : 0 < ds0.length := List.length_pos_iff.2 hne
          have pa := run_part_val (w := w) hg hsz (cs := as) (off := x.offset) (by omega)
          have pb := run_part_val (w := w) hg hsz (cs := bs) (off := x.offset) (by omega)
          rw [ho] at pa pb
          have he := ih x.type ds0 hg _ _ a1 b1
          have ihr := run_eqF ih fs (pos + ds0.length) r as bs hr a2 b2
          have hn : x.name ≠ "_" := by simpa using hnm
          have hsplit : eqAll (as.drop pos) (bs.drop pos) = (eqAll ((as.drop pos).take ds0.length) ((bs.drop pos).take ds0.length) && eqAll (as.drop (pos + ds0.length)) (bs.drop (pos + ds0.length))) := by
            have e1 : as.drop pos = (as.drop pos).take ds0.length ++ as.drop (pos + ds0.length) := by rw [← List.drop_drop, List.take_append_drop]
            have e2 : bs.drop pos = (bs.drop pos).take ds0.length ++ bs.drop (pos + ds0.length) := by rw [← List.drop_drop, List.take_append_drop]
            conv => { lhs; rw [e1, e2] }
            exact eqAll_app (by simp; omega) (by intro h; have h3 := congrArg List.length h; rw [List.length_take, List.length_drop, List.length_nil] at h3; omega) (by simp; omega)
          simp only [Op.eqFields, ne_eq, hn, not_false_eq_true, if_true, Sem.run_bind, ho, pa, pb, he, Result.andThen]
          rw [hsplit]
          cases hq : eqAll ((as.drop pos).take ds0.length) ((bs.drop pos).take ds0.length) with
          | true => simp only [Bool.not_true, Bool.false_eq_true, if_false, ihr, Bool.true_and]
          | false => simp only [Bool.not_false, if_true, pure, Sem.run, Bool.false_and]
      · cases h
    · cases h
theorem run_eqS {P : Program} {w : World} : ∀ (f : Nat) (t : TypeId) (ds : List TypeDesc), shp P f t = some ds → ∀ (d : Nat), f ≤ d → ∀ xs ys, fitAll ds xs = true → fitAll ds ys = true →
    (Op.equalIn d t (valOf P t xs) (valOf P t ys)).run P w = .ok (eqAll xs ys) w
  | 0, t, ds, h => by simp [shp] at h
  | f + 1, t, ds, h => by
    intro d hd xs ys h1 h2
    obtain ⟨d, rfl⟩ : ∃ k, d = k + 1 := ⟨d - 1, by omega⟩
    unfold shp at h
    have one : ∀ {de : TypeDesc}, P.underlying t = some de → ds = [de] → (∀ zs : List Value, valOf P t zs = zs.headD default) → (Op.equalIn (d + 1) t (valOf P t xs) (valOf P t ys)).run P w = .ok (eqAll xs ys) w := fun hu hds hv => by
      subst hds
      have l1 := fitAll_len h1
      have l2 := fitAll_len h2
      match xs, ys, l1, l2 with
      | [x], [y], _, _ =>
        rw [hv, hv]
        simp only [fitAll, Bool.and_true] at h1 h2
        exact run_eq_fit hu h1 h2
    split at h
    · rename_i fs hu
      split at h
      · cases h
      · rename_i hh
        have hv : ∀ zs, valOf P t zs = .agg zs.toArray := fun zs => by unfold valOf; rw [hu]
        have hfs : P.fieldsOf t = fs := by unfold Program.fieldsOf; rw [hu]
        rw [hv, hv, run_equalIn_struct w d t _ _ (by rw [hfs]; exact hu) (by simpa using hh), hfs]
        have := run_eqF (w := w) (f := f) (d := d) (fun t' ds' h' xs' ys' a b => run_eqS f t' ds' h' d (by omega) xs' ys' a b) fs.toList 0 ds xs ys h (by simpa using h1) (by simpa using h2)
        simpa using this
    · rename_i hu
      cases h
      exact one hu rfl fun zs => by unfold valOf; rw [hu]
    · rename_i hu
      cases h
      exact one hu rfl fun zs => by unfold valOf; rw [hu]
    · rename_i hu
      cases h
      exact one hu rfl fun zs => by unfold valOf; rw [hu]
    · cases h
class TySh (P : Program) (t : TypeId) (ds : outParam (List TypeDesc)) : Prop where
  guard : P.eqGuardType P.depth t = false
  held : P.stoodInHeld t = false
  und : P.underlying t = some (.struct (P.fieldsOf t))
  shape : shp P 8 t = some ds
section
variable {P : Program} {E : Env} {kd : Bool} {t : Tm} {H : Hp} {ty : TypeId}
theorem ov_eqsh {x y : Operand} {xt yt : TypeId} {xs ys : List Value} {ds : List TypeDesc} [TySh P xt ds] (hx : ev t x = some (.agg xs.toArray)) (hy : ev t y = some (.agg ys.toArray))
    (h1 : fitAll ds xs = true) (h2 : fitAll ds ys = true) : OpV P E (.binOp .eql xt x y yt) ty t H (.bool (eqAll xs ys)) := by
  refine ov_of fun a w ht hh o ho _ => ⟨_, by simp only [execOp, ho]; rfl, ?_⟩
  have hg := TySh.guard (P := P) (t := xt)
  have hu := TySh.und (P := P) (t := xt)
  have hps := TySh.shape (P := P) (t := xt)
  have hv : ∀ zs, valOf P xt zs = .agg zs.toArray := fun zs => by unfold valOf; rw [hu]
  rw [ev_eval ht hx, ev_eval ht hy, Sem.run_bind, run_eqGuard_agg w _ _ _ _ _ _ hg]
  simp only [Result.andThen]
  have := run_eqS (w := w) 8 xt ds hps 10000 (by omega) xs ys h1 h2
  rw [hv, hv] at this
  rw [run_eql_struct, this]
  rfl
theorem ov_neqsh {x y : Operand} {xt yt : TypeId} {xs ys : List Value} {ds : List TypeDesc} [TySh P xt ds] (hx : ev t x = some (.agg xs.toArray)) (hy : ev t y = some (.agg ys.toArray))
    (h1 : fitAll ds xs = true) (h2 : fitAll ds ys = true) : OpV P E (.binOp .neq xt x y yt) ty t H (.bool (!(eqAll xs ys))) := by
  refine ov_of fun a w ht hh o ho _ => ⟨_, by simp only [execOp, ho]; rfl, ?_⟩
  have hg := TySh.guard (P := P) (t := xt)
  have hu := TySh.und (P := P) (t := xt)
  have hps := TySh.shape (P := P) (t := xt)
  have hv : ∀ zs, valOf P xt zs = .agg zs.toArray := fun zs => by unfold valOf; rw [hu]
  rw [ev_eval ht hx, ev_eval ht hy, Sem.run_bind, run_eqGuard_agg w _ _ _ _ _ _ hg]
  simp only [Result.andThen]
  have := run_eqS (w := w) 8 xt ds hps 10000 (by omega) xs ys h1 h2
  rw [hv, hv] at this
  rw [run_neq_struct, this]
  rfl
end
theorem ov_sleq {P : Program} {E : Env} {t : Tm} {H : Hp} {ty : TypeId} {x y : Operand} {xt yt : TypeId} {p q : List UInt8} (hx : ev t x = some (S p)) (hy : ev t y = some (S q)) : OpV P E (.binOp .leq xt x y yt) ty t H (.bool (Op.bytesLess p q || p == q)) :=
  ov_str hx hy fun w => by simp [binOp, Op.stringOp, pure]
end Sx
end Go.Proofs.YtkjjlppfomidbaaGreat
/- Sxt: Closures that write what they captured and hand back a value and two structs that lie in memory; slices cut at their head; conditions: none. -/
namespace Go.Proofs.YtkjjlppfomidbaaGreat
namespace Sx
open Go Go.RowKit
set_option linter.unusedSimpArgs false
section
variable {P : Program} {E : Env} {Q : Exit → Tm → Hp → Prop} {t : Tm} {H : Hp} {ops : Array Oper} {rest : List Oper} {ty : TypeId}
theorem results_t {fn : Func} {w : World} {a : Act} {r s u rt n b c : Nat} {cs ds : Array Value} {xs ys : List Value} {e g : TypeId} {fz gz : Nat × Nat} {v : Value} [TyA P rt n] (hr : fn.results = #[.tmp r, .cell s rt, .cell u rt]) (ht : RepT E t a) (hh : RepH E H w)
    (h0 : look t r = some v) (h1 : look t s = some (.pointer (some ⟨b, 0, none⟩))) (h2 : Has H b (.cells cs e fz)) (h3 : sl 0 n cs.toList = some xs)
    (h4 : look t u = some (.pointer (some ⟨c, 0, none⟩))) (h5 : Has H c (.cells ds g gz)) (h6 : sl 0 n ds.toList = some ys) : (results fn a.tmps).run P w = .ok (.tuple #[v, .agg xs.toArray, .agg ys.toArray]) w := by
  obtain ⟨g1, c1⟩ := run_cellvar (P := P) ht hh h1 h2 h3 (rt := rt)
  obtain ⟨g2, c2⟩ := run_cellvar (P := P) ht hh h4 h5 h6 (rt := rt)
  have hv := ht.2.2 r _ h0
  rw [Array.getD_eq_getD_getElem?] at hv
  simp only [results, hr]
  simp [Sem.run_bind, g1, c1, g2, c2, hv, asAddr]
def retT (r s u n : Nat) (R : Value → List Value → List Value → Hp → Prop) : Exit → Tm → Hp → Prop
  | .ret, t, H | .normal, t, H => ∃ v b cs xs e fz c ds ys g gz, look t r = some v ∧ look t s = some (.pointer (some ⟨b, 0, none⟩)) ∧ Has H b (.cells cs e fz) ∧ sl 0 n cs.toList = some xs ∧
      look t u = some (.pointer (some ⟨c, 0, none⟩)) ∧ Has H c (.cells ds g gz) ∧ sl 0 n ds.toList = some ys ∧ R v xs ys H
  | _, _, _ => False
theorem rt_ret {r s u n b c : Nat} {R : Value → List Value → List Value → Hp → Prop} {cs ds : Array Value} {xs ys : List Value} {e g : TypeId} {fz gz : Nat × Nat} {v : Value}
    (h0 : look t r = some v) (h1 : look t s = some (.pointer (some ⟨b, 0, none⟩))) (h4 : look t u = some (.pointer (some ⟨c, 0, none⟩))) (h2 : Has H b (.cells cs e fz)) (h5 : Has H c (.cells ds g gz)) (h3 : sl 0 n cs.toList = some xs)
    (h6 : sl 0 n ds.toList = some ys) (h : R v xs ys H) : retT r s u n R .ret t H := ⟨v, b, cs, xs, e, fz, c, ds, ys, g, gz, h0, h1, h2, h3, h4, h5, h6, h⟩
theorem callsFT {B m : Nat} {w0 : World} {f : FuncId} {fn : Func} {c : Code} {args : List Value} {n r s u rt k : Nat} {l l' : Hp} {v : Value} {xs ys : List Value} [TyA P rt k]
    (hf : P.funcs[f]? = some fn) (hb : fn.body = some c) (hn : fn.ntmps = n) (hl : Nat.ble args.length n = true) (hr : fn.results = #[.tmp r, .cell s rt, .cell u rt])
    (h : ∀ R, aw P ⟨B, w0, n⟩ c (retT r s u k fun v' xs' ys' H' => v' = v ∧ xs' = xs ∧ ys' = ys ∧ (l' ++ R).Sublist H') (tm0 args) (l ++ R)) :
    CallsF P ⟨B, w0, m⟩ f args l (.tuple #[v, .agg xs.toArray, .agg ys.toArray]) l' := by
  intro R
  refine callsH_of_aw hf hb hn hl (h R) fun e a t' H' r1 q => ?_
  unfold retT at q
  cases e with
  | normal =>
    obtain ⟨v', b, cs, xs', e, fz, c, ds, ys', g, gz, h0, h1, h2, h3, h4, h5, h6, rfl, rfl, rfl, hs⟩ := q
    exact ⟨.inl rfl, _, l' ++ R, l' ++ R, fun w' r2 => results_t hr r1 r2 h0 h1 h2 h3 h4 h5 h6, hs, List.Perm.refl _, rfl, rfl⟩
  | ret =>
    obtain ⟨v', b, cs, xs', e, fz, c, ds, ys', g, gz, h0, h1, h2, h3, h4, h5, h6, rfl, rfl, rfl, hs⟩ := q
    exact ⟨.inr rfl, _, l' ++ R, l' ++ R, fun w' r2 => results_t hr r1 r2 h0 h1 h2 h3 h4 h5 h6, hs, List.Perm.refl _, rfl, rfl⟩
  | exit _ => exact q.elim
  | goto _ => exact q.elim
  | panic _ => exact q.elim
  | outgrown => exact q.elim
def tlS (sz : Nat) : Value → Value
  | .slice a n c => .slice (if c = 1 then a else a.map (·.add (1 * sz))) (n - 1) (c - 1)
  | v => v
theorem ov_sltail {x y : Operand} {xt e : TypeId} {sz by_ n c : Nat} {a : Option Addr} {k : IntKind} [TySl P xt e sz by_] (hx : ev t x = some (.slice a n c)) (hy : ev t y = some (.int k 1)) (hn : 1 ≤ n) :
    OpV P E (.slice xt x (some y) none none) ty t H (tlS sz (.slice a n c)) := by
  refine ov_of fun a' w ht hh o ho _ => ⟨_, by simp only [execOp, ho]; rfl, ?_⟩
  obtain ⟨i', z, hu, hi, hz, rfl, rfl, hzs⟩ := TySl.sl (P := P) (t := xt)
  have hs : (P.info? e).map (·.size) = some i'.size := by rw [hi]; rfl
  have hb : (Instr.sliceBound (.int k 1) n .sliceB).run P w = .ok 1 w := by
    have := run_bound (P := P) (k := k) (i := 1) (y := n) (code := .sliceB) (w := w) hn
    simpa using this
  rw [ev_eval ht hx]
  simp only [Option.map_some, Option.map_none, ev_eval ht hy]
  simp only [Instr.sliceAt, Instr.slice, Sem.run_bind, run_underlying hu, Result.andThen, Instr.sliceBounds, pure, Sem.run, Option.isSome_none, Bool.false_eq_true, if_false, hb, run_sizeOf hs, tlS]
def OldCap (w : World) (sz : Nat) (v : Value) (n : Nat) (xs : List Value) : Prop := OldRow w sz v n xs ∧ ∀ a k c, v = .slice a k c → k ≤ c
theorem OldCap.below {w w' : World} {sz n : Nat} {v : Value} {xs : List Value} (h : OldCap w sz v n xs) (hb : Below w.heap.size w w') : OldCap w' sz v n xs := ⟨h.1.below hb, h.2⟩
theorem OldCap.tail {w : World} {sz n : Nat} {v : Value} {xs : List Value} (h : OldCap w sz v (n + 1) xs) : OldCap w sz (tlS sz v) n (xs.drop sz) := by
  obtain ⟨⟨hl, a, c, rfl, hat⟩, hc⟩ := h
  have hc := hc _ _ _ rfl
  refine ⟨⟨by rw [List.length_drop, hl, Nat.add_mul]; omega, _, _, rfl, fun hn => ?_⟩, fun a k c h => by cases h; omega⟩
  obtain ⟨g, o, rfl, hg, hcell⟩ := hat (by omega)
  refine ⟨g, o + 1 * sz, ?_, hg, fun j u hj => ?_⟩
  · rw [if_neg (by omega), Option.map_some, add_off]
  · rw [List.getElem?_drop] at hj
    have := hcell (sz + j) u hj
    rwa [Nat.one_mul, Nat.add_assoc]
theorem RowB.capd {e : TypeId} {sz : Nat} {v : Value} {l : Hp} {n : Nat} {xs : List Value} (h : RowB e sz v l n xs) : ∀ a k c, v = .slice a k c → k ≤ c := by
  rintro a k c rfl
  rcases h.2 with ⟨h1, rfl, _⟩ | ⟨g, cap, cur, h1, _, h3, _⟩
  · cases h1; omega
  · cases h1; exact h3
end
attribute [irreducible] retT
end Sx
end Go.Proofs.YtkjjlppfomidbaaGreat
/- Sxa: Goals of the symbolic walk that close by themselves; conditions: none. -/
namespace Go.Proofs.YtkjjlppfomidbaaGreat
namespace Sx
open Go Go.RowKit
section
variable {P : Program} {E : Env} {t : Tm} {H : Hp} {ops : Array Oper}
theorem wants_a {gd : Option (Nat × Bool)} (h : Wants ops t gd := by first | exact trivial | exact ⟨_, _, rfl, rfl, by with_reducible rfl⟩) : Wants ops t gd := h
theorem nots_a {gd : Option (Nat × Bool)} (h : Not ops t gd := by first | exact ⟨_, _, rfl, rfl, Or.inl (by with_reducible rfl)⟩ | exact ⟨_, _, rfl, rfl, Or.inr (by with_reducible rfl)⟩) : Not ops t gd := h
theorem has_a {b : Nat} {o : Obj} (h : Has H b o := by solve | (repeat (first | exact Has.head | apply Has.tail | apply Has.appR))) : Has H b o := h
theorem upd_a {b : Nat} {o : Obj} {H' : Hp} (h : Upd H b o H' := by solve | (repeat (first | exact Upd.head _ _ _ _ | apply Upd.tail | apply Upd.appR))) : Upd H b o H' := h
theorem cut_a {l R : Hp} (h : Cut H l R := by solve | (repeat (first | exact Cut.here | exact Cut.here1 | exact Cut.nil | apply Cut.skip | apply Cut.skipA))) : Cut H l R := h
theorem cuts_a {l R : Hp} (h : Cut H l R := by (repeat (apply Cut.two; (solve | (repeat (first | exact Cut.here | exact Cut.here1 | exact Cut.nil | apply Cut.skip | apply Cut.skipA))))); exact Cut.nil) : Cut H l R := h
theorem hsub_a {H' : Hp} (h : H'.Sublist H := by solve | (repeat (first | exact List.Sublist.refl _ | apply hs_app | apply hs_keep | apply hs_skip | apply hs_app0))) : H'.Sublist H := h
theorem t_a {b : Bool} (h : b = true := by first | assumption | exact beq_self_eq_true _ | exact decide_eq_true (by omega) | exact beq_iff_eq.2 (by omega) | exact bne_iff_ne.2 (by omega) | ((with_reducible refine eqAll_rfl _ ?_); rfl) | decide) : b = true := h
theorem f_a {b : Bool} (h : b = false := by first | assumption | exact decide_eq_false (by omega) | exact beq_eq_false_iff_ne.2 (by omega) | exact bne_eq_false_iff_eq.2 (by omega) | ((with_reducible refine neqAll_rfl _ ?_); rfl) | with_reducible exact bneq_rfl _ | decide) : b = false := h
theorem ov_a {op : Op} {ty : TypeId} {v : Value} (h : OpV P E op ty t H v := by first | ((first | apply ov_move | apply ov_assign | apply ov_not | apply ov_makeFunc | apply ov_makeFuncB | apply ov_fieldAddr); (exact rfl)) | (apply ov_neg_in; (exact rfl); omega) | ((first | apply ov_pick_t | apply ov_pick_f); (exact rfl); (with_reducible exact rfl); (exact rfl)) | (apply ov_pick_f; (exact rfl); (with_reducible exact rfl); (exact rfl)) | ((first | apply ov_extract | apply ov_field | apply ov_fielda); (exact rfl); (exact rfl)) | ((first | apply ov_load | apply ov_loada); (exact rfl); (solve | (repeat (first | exact Has.head | apply Has.tail | apply Has.appR))); (first | exact rfl | assumption)) | (apply ov_load_o; (exact rfl); assumption; assumption) | ((first | apply ov_eql | apply ov_neq | apply ov_lss | apply ov_leq | apply ov_gtr | apply ov_geq); (exact rfl); (exact rfl)) | ((first | apply ov_add_in | apply ov_sub_in | apply ov_mul_in | apply ov_quo_i64 | apply ov_rem_in); (exact rfl); (exact rfl); omega) | ((first | apply ov_add_u64 | apply ov_sub_u64 | apply ov_mul_u64 | apply ov_quo_u64); (exact rfl); (exact rfl); omega) | ((first | apply ov_conv_i64 | apply ov_conv_u64); (exact rfl); omega) | ((first | apply ov_conv_u64m | apply ov_conv); (exact rfl)) | (apply ov_sllen; (exact rfl)) | (apply ov_len; (exact rfl)) | ((first | apply ov_beql | apply ov_bneq); (exact rfl); (exact rfl)) | ((first | apply ov_seql | apply ov_sneq | apply ov_slss | apply ov_sleq); (exact rfl); (exact rfl)) | (apply ov_sadd; (exact rfl); (exact rfl); (first | omega | (simp; omega))) | ((first | apply ov_arrAddr_c | apply ov_arrAddr_cc); (exact rfl); (exact rfl); (exact rfl); (exact rfl)) | ((first | apply ov_slAddr | apply ov_arrAddr_s | apply ov_arrAddr_sc); (exact rfl); (exact rfl); omega; omega) | (apply ov_build; (exact rfl); (exact rfl)) | ((first | apply ov_eqs | apply ov_neqs | apply ov_eqsh | apply ov_neqsh); (exact rfl); (exact rfl); (exact rfl); (exact rfl)) | (apply ov_snext_end; (exact rfl); (solve | (repeat (first | exact Has.head | apply Has.tail | apply Has.appR))); omega)) : OpV P E op ty t H v := h
theorem on_a {op : Op} {ty : TypeId} {o : Obj} {v : Nat → Value} (h : OpN P E op ty t H o v := by first | exact on_box rfl | exact on_bslice0 | exact on_alloc | exact on_srange rfl | exact on_bslice rfl rfl | (apply on_make; (exact rfl); (exact rfl); (exact rfl); (exact rfl); omega; omega)) : OpN P E op ty t H o v := h
theorem ow_a {op : Op} {ty : TypeId} {b : Nat} {o : Obj} (h : OpW P E op ty t H b o .skip := by first | (apply ow_store; exact rfl; exact rfl; (solve | (repeat (first | exact Has.head | apply Has.tail | apply Has.appR))); exact rfl; exact rfl) | (apply ow_store_s; exact rfl; exact rfl; (solve | (repeat (first | exact Has.head | apply Has.tail | apply Has.appR))); omega; exact rfl) | (apply ow_storea; exact rfl; exact rfl; (solve | (repeat (first | exact Has.head | apply Has.tail | apply Has.appR))); exact rfl; exact rfl; exact rfl; exact rfl)) : OpW P E op ty t H b o .skip := h
theorem ox_a {op : Op} {ty : TypeId} {b : Nat} {o : Obj} {v : Value} (h : OpW P E op ty t H b o (.value v) := by apply ow_snext; exact rfl; (solve | (repeat (first | exact Has.head | apply Has.tail | apply Has.appR))); assumption; assumption) : OpW P E op ty t H b o (.value v) := h
end
end Sx
end Go.Proofs.YtkjjlppfomidbaaGreat
/- Sxz: The walk's steps, each with goals that close by themselves; conditions: none. -/
namespace Go.Proofs.YtkjjlppfomidbaaGreat
namespace Sx
open Go Go.RowKit
section
variable {P : Program} {E : Env} {kd : Bool} {Q : Exit → Tm → Hp → Prop} {t : Tm} {H : Hp} {ops : Array Oper} {rest : List Oper} {op : Op} {ty : TypeId} {pos : String} {af : Array Edge} {gd : Option (Nat × Bool)} {v : Value}
theorem zov {d : Nat} (h : ao kd P E ops Q rest ((d, v) :: t) H) (hw : Wants ops t gd := by exact wants_a) (hv : OpV P E op ty t H v := by exact ov_a) (hd : Nat.blt d E.n = true := by exact rfl) : ao kd P E ops Q (⟨some d, op, ty, pos, af, gd⟩ :: rest) t H := ao_val hw hv hd h
theorem zqv {d : Nat} (h : aq P E ops Q rest ((d, v) :: t) H) (hw : Wants ops t gd := by exact wants_a) (hv : OpV P E op ty t H v := by exact ov_a) (hd : Nat.blt d E.n = true := by exact rfl) : aq P E ops Q (⟨some d, op, ty, pos, af, gd⟩ :: rest) t H := aq_val hw hv hd h
theorem zok {d : Nat} (h : ao kd P E ops Q rest ((d, undef) :: t) H) (hw : Not ops t gd := by exact nots_a) (hd : Nat.blt d E.n = true := by exact rfl) : ao kd P E ops Q (⟨some d, op, ty, pos, af, gd⟩ :: rest) t H := ao_skip hw hd h
theorem zqk {d : Nat} (h : aq P E ops Q rest ((d, undef) :: t) H) (hw : Not ops t gd := by exact nots_a) (hd : Nat.blt d E.n = true := by exact rfl) : aq P E ops Q (⟨some d, op, ty, pos, af, gd⟩ :: rest) t H := aq_skip hw hd h
theorem zon {d : Nat} {o : Obj} {u : Nat → Value} (h : ∀ b, ao kd P E ops Q rest ((d, u b) :: t) ((b, o) :: H)) (hw : Wants ops t gd := by exact wants_a) (hv : OpN P E op ty t H o u := by exact on_a) (hd : Nat.blt d E.n = true := by exact rfl) : ao kd P E ops Q (⟨some d, op, ty, pos, af, gd⟩ :: rest) t H := ao_new hw hv hd h
theorem zow {b : Nat} {o : Obj} {H' : Hp} (h : ao kd P E ops Q rest t H') (hw : Wants ops t gd := by exact wants_a) (hv : OpW P E op ty t H b o .skip := by exact ow_a) (hu : Upd H b o H' := by exact upd_a) : ao kd P E ops Q (⟨none, op, ty, pos, af, gd⟩ :: rest) t H := ao_store hw hv hu h
theorem zox {d b : Nat} {o : Obj} {H' : Hp} (h : ao kd P E ops Q rest ((d, v) :: t) H') (hw : Wants ops t gd := by exact wants_a) (hv : OpW P E op ty t H b o (.value v) := by exact ox_a) (hd : Nat.blt d E.n = true := by exact rfl) (hu : Upd H b o H' := by exact upd_a) : ao kd P E ops Q (⟨some d, op, ty, pos, af, gd⟩ :: rest) t H := ao_valw hw hv hd hu h
theorem zoz (h : ao kd P E ops Q rest t H) (hw : Not ops t gd := by exact nots_a) : ao kd P E ops Q (⟨none, op, ty, pos, af, gd⟩ :: rest) t H := ao_skip0 hw h
theorem zoa {d : Nat} {x y : Operand} {t1 ty2 e : TypeId} {sz by_ : Nat} {l R : Hp} {n m c2 b2 o2 : Nat} {xs news : List Value} {cs2 : List Value} {e2 : TypeId} {fz : Nat × Nat} [TySl P t1 e sz by_]
    (h : ∀ v' l', RowB e sz v' l' (n + m) (xs ++ news) → ao kd P E ops Q rest ((d, v') :: t) (l' ++ R))
    (hw : Wants ops t gd := by exact wants_a) (hx : ev t x = some v := by exact rfl) (hrow : RowB e sz v l n xs := by assumption) (hy : ev t y = some (.slice (some ⟨b2, o2, none⟩) m c2) := by exact rfl) (hcut : Cut H l R := by exact cut_a)
    (hb : Has H b2 (.cells cs2.toArray e2 fz) := by exact has_a) (hs : sl o2 (m * sz) cs2 = some news := by exact rfl) (hf : news.all flat = true := by exact rfl) (hm : 0 < m := by omega) (hbd : (n + m) * by_ ≤ 140737488355328 := by omega) (h63 : n + m ≤ 9223372036854775807 := by omega) (hd : Nat.blt d E.n = true := by exact rfl) :
    ao kd P E ops Q (⟨some d, .call ⟨.builtin .append, #[x, y], #[t1, t1]⟩, ty2, pos, af, gd⟩ :: rest) t H := ao_append hw hx hrow hy hcut hb hs hf hm hbd h63 hd h
variable {Hs : Hp}
theorem zhn {r : Plan} (h : ah P E ops Q Hs r t H) (hs : Hs.Sublist H := by exact hsub_a) : ao true P E ops (fun e t' H' => e = .normal ∧ Hs.Sublist H' ∧ ah P E ops Q Hs r t' H') [] t H := ao_nilh hs h
theorem zhv {i d : Nat} {r : Plan} (h : ah P E ops Q Hs r ((d, v) :: t) H) (ho : ops[i]? = some ⟨some d, op, ty, pos, af, gd⟩ := by exact rfl) (hw : Wants ops t gd := by exact wants_a) (hv : OpV P E op ty t Hs v := by exact ov_a) (hd : Nat.blt d E.n = true := by exact rfl) : ah P E ops Q Hs (.t i r) t H := ah_take ho hw hv hd h
theorem zhk {i d : Nat} {r : Plan} (h : ah P E ops Q Hs r ((d, undef) :: t) H) (ho : ops[i]? = some ⟨some d, op, ty, pos, af, gd⟩ := by exact rfl) (hw : Not ops t gd := by exact nots_a) (hd : Nat.blt d E.n = true := by exact rfl) : ah P E ops Q Hs (.t i r) t H := ah_skip ho hw hd h
def Open (_ : Bool) : Prop := True
theorem open_t : Open true := trivial
theorem open_f : Open false := trivial
theorem open_a (b : Bool) : Open b := trivial
attribute [irreducible] Open
variable {d j : Nat} {b g : Bool} {dst : Option Tmp}
theorem zoT (h : ao kd P E ops Q (⟨dst, op, ty, pos, af, some (j, g)⟩ :: rest) ((d, .bool true) :: t) H) (hj : dstAt ops j = some d := by exact rfl) (hd : look t d = some (.bool b) := by exact rfl) (_ho : Open b := by ((fail_if_success first | with_reducible exact open_t | with_reducible exact open_f); exact open_a _)) (hb : b = true := by exact t_a) :
    ao kd P E ops Q (⟨dst, op, ty, pos, af, some (j, g)⟩ :: rest) t H := ao_gt hj hd hb h
theorem zoF (h : ao kd P E ops Q (⟨dst, op, ty, pos, af, some (j, g)⟩ :: rest) ((d, .bool false) :: t) H) (hj : dstAt ops j = some d := by exact rfl) (hd : look t d = some (.bool b) := by exact rfl) (_ho : Open b := by ((fail_if_success first | with_reducible exact open_t | with_reducible exact open_f); exact open_a _)) (hb : b = false := by exact f_a) :
    ao kd P E ops Q (⟨dst, op, ty, pos, af, some (j, g)⟩ :: rest) t H := ao_gf hj hd hb h
theorem zqT (h : aq P E ops Q (⟨dst, op, ty, pos, af, some (j, g)⟩ :: rest) ((d, .bool true) :: t) H) (hj : dstAt ops j = some d := by exact rfl) (hd : look t d = some (.bool b) := by exact rfl) (_ho : Open b := by ((fail_if_success first | with_reducible exact open_t | with_reducible exact open_f); exact open_a _)) (hb : b = true := by exact t_a) :
    aq P E ops Q (⟨dst, op, ty, pos, af, some (j, g)⟩ :: rest) t H := aq_gt hj hd hb h
theorem zqF (h : aq P E ops Q (⟨dst, op, ty, pos, af, some (j, g)⟩ :: rest) ((d, .bool false) :: t) H) (hj : dstAt ops j = some d := by exact rfl) (hd : look t d = some (.bool b) := by exact rfl) (_ho : Open b := by ((fail_if_success first | with_reducible exact open_t | with_reducible exact open_f); exact open_a _)) (hb : b = false := by exact f_a) :
    aq P E ops Q (⟨dst, op, ty, pos, af, some (j, g)⟩ :: rest) t H := aq_gf hj hd hb h
theorem zhT {i : Nat} {r : Plan} (h : ah P E ops Q Hs (.t i r) ((d, .bool true) :: t) H) (ho : ops[i]? = some ⟨dst, op, ty, pos, af, some (j, g)⟩ := by exact rfl) (hj : dstAt ops j = some d := by exact rfl) (hd : look t d = some (.bool b) := by exact rfl) (_ho : Open b := by ((fail_if_success first | with_reducible exact open_t | with_reducible exact open_f); exact open_a _)) (hb : b = true := by exact t_a) :
    ah P E ops Q Hs (.t i r) t H := ah_gt ho hj hd hb h
theorem zhF {i : Nat} {r : Plan} (h : ah P E ops Q Hs (.t i r) ((d, .bool false) :: t) H) (ho : ops[i]? = some ⟨dst, op, ty, pos, af, some (j, g)⟩ := by exact rfl) (hj : dstAt ops j = some d := by exact rfl) (hd : look t d = some (.bool b) := by exact rfl) (_ho : Open b := by ((fail_if_success first | with_reducible exact open_t | with_reducible exact open_f); exact open_a _)) (hb : b = false := by exact f_a) :
    ah P E ops Q Hs (.t i r) t H := ah_gf ho hj hd hb h
theorem zwT {c : Operand} {x y : Code} (h : aw P E x Q t H) (hc : ev t c = some (.bool b) := by exact rfl) (hb : b = true := by exact t_a) : aw P E (.cond c x y) Q t H := aw_ct hc hb h
theorem zwF {c : Operand} {x y : Code} (h : aw P E y Q t H) (hc : ev t c = some (.bool b) := by exact rfl) (hb : b = false := by exact f_a) : aw P E (.cond c x y) Q t H := aw_cf hc hb h
theorem zwt {c : Operand} {x y : Code} (h : aw P E x Q t H) (hc : ev t c = some v := by exact rfl) (hb : v = .bool true := by with_reducible rfl) : aw P E (.cond c x y) Q t H := aw_cond_t hc hb h
theorem zwf {c : Operand} {x y : Code} (h : aw P E y Q t H) (hc : ev t c = some v := by exact rfl) (hb : v = .bool false := by with_reducible rfl) : aw P E (.cond c x y) Q t H := aw_cond_f hc hb h
theorem zwd {id : Nat} {l : List Oper} (h : aq P E l.toArray Q l t H) (hm : P.follows .mixedOrders = true := by kernel_rfl) (hB : Region.lexB .any l.toArray = true := by kernel_rfl) : aw P E (.region id l.toArray true) Q t H := aw_draw hm hB h
theorem zoS (ht : b = true → ao kd P E ops Q (⟨dst, op, ty, pos, af, some (j, g)⟩ :: rest) ((d, .bool true) :: t) H) (hf : b = false → ao kd P E ops Q (⟨dst, op, ty, pos, af, some (j, g)⟩ :: rest) ((d, .bool false) :: t) H)
    (hj : dstAt ops j = some d := by exact rfl) (hd : look t d = some (.bool b) := by exact rfl) (_ho : Open b := by ((fail_if_success first | with_reducible exact open_t | with_reducible exact open_f); exact open_a _)) : ao kd P E ops Q (⟨dst, op, ty, pos, af, some (j, g)⟩ :: rest) t H := ao_gbool hj hd ht hf
theorem zqS (ht : b = true → aq P E ops Q (⟨dst, op, ty, pos, af, some (j, g)⟩ :: rest) ((d, .bool true) :: t) H) (hf : b = false → aq P E ops Q (⟨dst, op, ty, pos, af, some (j, g)⟩ :: rest) ((d, .bool false) :: t) H)
    (hj : dstAt ops j = some d := by exact rfl) (hd : look t d = some (.bool b) := by exact rfl) (_ho : Open b := by ((fail_if_success first | with_reducible exact open_t | with_reducible exact open_f); exact open_a _)) : aq P E ops Q (⟨dst, op, ty, pos, af, some (j, g)⟩ :: rest) t H := aq_gbool hj hd ht hf
theorem zwS {c : Operand} {x y : Code} (ht : b = true → aw P E x Q t H) (hf : b = false → aw P E y Q t H) (hc : ev t c = some (.bool b) := by exact rfl) : aw P E (.cond c x y) Q t H := aw_cond hc ht hf
class Pass (Q : Exit → Tm → Hp → Prop) (e : Exit) (t : Tm) (H : Hp) (G : outParam Prop) : Prop where
  pass : G → Q e t H
theorem zp {e : Exit} {G : Prop} [i : Pass Q e t H G] (h : G) : Q e t H := i.pass h
instance {y : Code} : Pass (andThen P E y Q) .normal t H (aw P E y Q t H) := ⟨at_normal⟩
instance {y : Code} {id : Nat} : Pass (andThen P E y Q) (.exit id) t H (Q (.exit id) t H) := ⟨at_exit⟩
instance {y : Code} : Pass (andThen P E y Q) .ret t H (Q .ret t H) := ⟨at_ret⟩
instance {id : Nat} : Pass (inBlock id Q) .normal t H (Q .normal t H) := ⟨ib_normal⟩
instance {id : Nat} : Pass (inBlock id Q) .ret t H (Q .ret t H) := ⟨ib_ret⟩
instance {I : Nat → Tm → Hp → Prop} {m id : Nat} : Pass (loopQ I m Q) (.exit id) t H (Q (.exit id) t H) := ⟨lq_exit⟩
instance {I : Nat → Tm → Hp → Prop} {m : Nat} : Pass (loopQ I m Q) .ret t H (Q .ret t H) := ⟨lq_ret⟩
instance {I : Tm → Hp → Prop} : Pass (cutI I Q) .ret t H (Q .ret t H) := ⟨ci_ret⟩
instance {I : Tm → Hp → Prop} {id : Nat} : Pass (cutI I Q) (.exit id) t H (Q (.exit id) t H) := ⟨ci_exit⟩
instance : Pass (noGo Q) .normal t H (Q .normal t H) := ⟨ng_normal⟩
instance {id : Nat} : Pass (noGo Q) (.exit id) t H (Q (.exit id) t H) := ⟨ng_exit⟩
instance : Pass (noGo Q) .ret t H (Q .ret t H) := ⟨ng_ret⟩
def ends : Exit → Bool
  | .normal | .ret => true
  | _ => false
theorem ends_of {e : Exit} (h : ends e = true) : e = .normal ∨ e = .ret := by cases e <;> simp [ends] at h ⊢
variable {e : Exit}
theorem zr1 {r : Nat} {R : Value → Hp → Prop} (h : R v H) (he : ends e = true := by exact rfl) (hl : look t r = some v := by exact rfl) : ret1 r R e t H := by
  rcases ends_of he with rfl | rfl
  · exact r1_normal hl h
  · exact r1_ret hl h
theorem zr2 {r s : Nat} {u : Value} {R : Value → Value → Hp → Prop} (h : R v u H) (he : ends e = true := by exact rfl) (hl : look t r = some v := by exact rfl) (hk : look t s = some u := by exact rfl) : ret2 r s R e t H := by
  rcases ends_of he with rfl | rfl
  · exact r2_normal hl hk h
  · exact r2_ret hl hk h
theorem zr3 {r s q : Nat} {u z : Value} {R : Value → Value → Value → Hp → Prop} (h : R v u z H) (he : ends e = true := by exact rfl) (hl : look t r = some v := by exact rfl) (hk : look t s = some u := by exact rfl) (hm : look t q = some z := by exact rfl) : ret3 r s q R e t H := by
  rcases ends_of he with rfl | rfl
  · exact r3_normal hl hk hm h
  · exact r3_ret hl hk hm h
theorem zrc {r n c : Nat} {R : List Value → Hp → Prop} {cs : Array Value} {vs : List Value} {ce : TypeId} {fz : Nat × Nat} (h : R vs H) (h1 : look t r = some (.pointer (some ⟨c, 0, none⟩)) := by exact rfl) (h2 : Has H c (.cells cs ce fz) := by exact has_a) (h3 : sl 0 n cs.toList = some vs := by exact rfl) : retC1 r n R .ret t H := rc1_ret h1 h2 h3 h
theorem zrd {r n s c : Nat} {R : List Value → Value → Hp → Prop} {cs : Array Value} {vs : List Value} {ce : TypeId} {fz : Nat × Nat} {u : Value} (h : R vs u H) (h1 : look t r = some (.pointer (some ⟨c, 0, none⟩)) := by exact rfl) (h2 : Has H c (.cells cs ce fz) := by exact has_a) (h3 : sl 0 n cs.toList = some vs := by exact rfl) (h4 : look t s = some u := by exact rfl) : retC2 r n s R .ret t H := rc2_ret h1 h2 h3 h4 h
theorem zrt {r s u n c k : Nat} {R : Value → List Value → List Value → Hp → Prop} {cs ds : Array Value} {xs ys : List Value} {ce g' : TypeId} {fz gz : Nat × Nat} (h : R v xs ys H)
    (h0 : look t r = some v := by exact rfl) (h1 : look t s = some (.pointer (some ⟨c, 0, none⟩)) := by exact rfl) (h4 : look t u = some (.pointer (some ⟨k, 0, none⟩)) := by exact rfl) (h2 : Has H c (.cells cs ce fz) := by exact has_a) (h5 : Has H k (.cells ds g' gz) := by exact has_a) (h3 : sl 0 n cs.toList = some xs := by exact rfl)
    (h6 : sl 0 n ds.toList = some ys := by exact rfl) : retT r s u n R .ret t H := rt_ret h0 h1 h4 h2 h5 h3 h6 h
end
def Hid (p : Prop) : Prop := p
theorem Hid.out {p : Prop} (h : Hid p) : p := h
theorem Hid.mk {p : Prop} (h : p) : Hid p := h
attribute [irreducible] Hid
theorem zz {G G' : Prop} (h : G') (s : Hid G' → G := by (intro h; (first | refine ao_nil ?_ | refine aq_nil ?_ | refine zov ?_ | refine zqv ?_ | refine zok ?_ | refine zqk ?_ | refine zow ?_ | refine zox ?_ | refine zoz ?_ | (refine aw_is ?_; first | refine aw_block ?_ | refine aw_region ?_ | refine aw_skip ?_ | refine aw_exit ?_ | refine aw_ret ?_ | refine aw_label ?_ | refine aw_scope ?_ | refine zwt ?_ | refine zwf ?_ | refine zwd ?_) | refine zoT ?_ | refine zqT ?_ | refine zwT ?_ | refine zoF ?_ | refine zqF ?_ | refine zwF ?_ | refine zp ?_ | refine ib_exit ?_ | refine ib_other ?_ | refine zr1 ?_ | refine zr2 ?_ | refine zr3 ?_ | refine zrt ?_ | refine zrc ?_ | refine zrd ?_); (repeat (first | refine ao_nil ?_ | refine aq_nil ?_ | refine zov ?_ | refine zqv ?_ | refine zok ?_ | refine zqk ?_ | refine zow ?_ | refine zox ?_ | refine zoz ?_ | (refine aw_is ?_; first | refine aw_block ?_ | refine aw_region ?_ | refine aw_skip ?_ | refine aw_exit ?_ | refine aw_ret ?_ | refine aw_label ?_ | refine aw_scope ?_ | refine zwt ?_ | refine zwf ?_ | refine zwd ?_) | refine zoT ?_ | refine zqT ?_ | refine zwT ?_ | refine zoF ?_ | refine zqF ?_ | refine zwF ?_ | refine zp ?_ | refine ib_exit ?_ | refine ib_other ?_ | refine zr1 ?_ | refine zr2 ?_ | refine zr3 ?_ | refine zrt ?_ | refine zrc ?_ | refine zrd ?_)); exact Hid.out h)) : G := s (Hid.mk h)
theorem zy {G G' : Prop} (h : G') (s : Hid G' → G := by (intro h; (first | refine ao_nil ?_ | refine aq_nil ?_ | refine zok ?_ | refine zqk ?_ | refine zow ?_ | refine zox ?_ | refine zoz ?_ | (refine aw_is ?_; first | refine aw_block ?_ | refine aw_region ?_ | refine aw_skip ?_ | refine aw_exit ?_ | refine aw_ret ?_ | refine aw_label ?_ | refine aw_scope ?_ | refine zwt ?_ | refine zwf ?_ | refine zwd ?_) | refine zoT ?_ | refine zqT ?_ | refine zwT ?_ | refine zoF ?_ | refine zqF ?_ | refine zwF ?_ | refine zp ?_ | refine ib_exit ?_ | refine ib_other ?_ | refine zr1 ?_ | refine zr2 ?_ | refine zr3 ?_ | refine zrt ?_ | refine zrc ?_ | refine zrd ?_); (repeat (first | refine ao_nil ?_ | refine aq_nil ?_ | refine zok ?_ | refine zqk ?_ | refine zow ?_ | refine zox ?_ | refine zoz ?_ | (refine aw_is ?_; first | refine aw_block ?_ | refine aw_region ?_ | refine aw_skip ?_ | refine aw_exit ?_ | refine aw_ret ?_ | refine aw_label ?_ | refine aw_scope ?_ | refine zwt ?_ | refine zwf ?_ | refine zwd ?_) | refine zoT ?_ | refine zqT ?_ | refine zwT ?_ | refine zoF ?_ | refine zqF ?_ | refine zwF ?_ | refine zp ?_ | refine ib_exit ?_ | refine ib_other ?_ | refine zr1 ?_ | refine zr2 ?_ | refine zr3 ?_ | refine zrt ?_ | refine zrc ?_ | refine zrd ?_)); exact Hid.out h)) : G := s (Hid.mk h)
theorem zv {G G' : Prop} (h : G') (s : Hid G' → G := by (intro h; (first | refine zhn ?_ | refine ao_nil ?_ | refine aq_nil ?_ | refine zov ?_ | refine zqv ?_ | refine zok ?_ | refine zqk ?_ | refine zow ?_ | refine zox ?_ | refine zoz ?_ | (refine aw_is ?_; first | refine aw_block ?_ | refine aw_region ?_ | refine aw_skip ?_ | refine aw_exit ?_ | refine aw_ret ?_ | refine aw_label ?_ | refine aw_scope ?_ | refine zwt ?_ | refine zwf ?_) | refine zoT ?_ | refine zqT ?_ | refine zwT ?_ | refine zoF ?_ | refine zqF ?_ | refine zwF ?_ | refine zp ?_ | refine ib_exit ?_ | refine ib_other ?_ | refine zr1 ?_ | refine zr2 ?_ | refine zr3 ?_ | refine zrt ?_ | refine zrc ?_ | refine zrd ?_); (repeat (first | refine zhn ?_ | refine ao_nil ?_ | refine aq_nil ?_ | refine zov ?_ | refine zqv ?_ | refine zok ?_ | refine zqk ?_ | refine zow ?_ | refine zox ?_ | refine zoz ?_ | (refine aw_is ?_; first | refine aw_block ?_ | refine aw_region ?_ | refine aw_skip ?_ | refine aw_exit ?_ | refine aw_ret ?_ | refine aw_label ?_ | refine aw_scope ?_ | refine zwt ?_ | refine zwf ?_) | refine zoT ?_ | refine zqT ?_ | refine zwT ?_ | refine zoF ?_ | refine zqF ?_ | refine zwF ?_ | refine zp ?_ | refine ib_exit ?_ | refine ib_other ?_ | refine zr1 ?_ | refine zr2 ?_ | refine zr3 ?_ | refine zrt ?_ | refine zrc ?_ | refine zrd ?_)); exact Hid.out h)) : G := s (Hid.mk h)
theorem zu {G G' : Prop} (h : G') (s : Hid G' → G := by (intro h; (first | refine zhn ?_ | refine ao_nil ?_ | refine aq_nil ?_ | refine zok ?_ | refine zqk ?_ | refine zow ?_ | refine zox ?_ | refine zoz ?_ | (refine aw_is ?_; first | refine aw_block ?_ | refine aw_region ?_ | refine aw_skip ?_ | refine aw_exit ?_ | refine aw_ret ?_ | refine aw_label ?_ | refine aw_scope ?_ | refine zwt ?_ | refine zwf ?_) | refine zoT ?_ | refine zqT ?_ | refine zwT ?_ | refine zoF ?_ | refine zqF ?_ | refine zwF ?_ | refine zp ?_ | refine ib_exit ?_ | refine ib_other ?_ | refine zr1 ?_ | refine zr2 ?_ | refine zr3 ?_ | refine zrt ?_ | refine zrc ?_ | refine zrd ?_); (repeat (first | refine zhn ?_ | refine ao_nil ?_ | refine aq_nil ?_ | refine zok ?_ | refine zqk ?_ | refine zow ?_ | refine zox ?_ | refine zoz ?_ | (refine aw_is ?_; first | refine aw_block ?_ | refine aw_region ?_ | refine aw_skip ?_ | refine aw_exit ?_ | refine aw_ret ?_ | refine aw_label ?_ | refine aw_scope ?_ | refine zwt ?_ | refine zwf ?_) | refine zoT ?_ | refine zqT ?_ | refine zwT ?_ | refine zoF ?_ | refine zqF ?_ | refine zwF ?_ | refine zp ?_ | refine ib_exit ?_ | refine ib_other ?_ | refine zr1 ?_ | refine zr2 ?_ | refine zr3 ?_ | refine zrt ?_ | refine zrc ?_ | refine zrd ?_)); exact Hid.out h)) : G := s (Hid.mk h)
end Sx
end Go.Proofs.YtkjjlppfomidbaaGreat
