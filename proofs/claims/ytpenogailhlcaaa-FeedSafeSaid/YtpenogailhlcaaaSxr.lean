/- Slices of the call's own in the symbolic walk: rows that grow, are read, and are written, over whatever program; conditions: none. -/
import Derived.Test.YtpenogailhlcaaaSxc
namespace Go.Proofs.Ytpenogailhlcaaa
namespace Sx
open Go Go.RowKit
set_option linter.unusedSimpArgs false

/-- A slice's type, its element's type, cells, bytes. -/
class TySl (P : Program) (t : TypeId) (e : outParam TypeId) (sz by_ : outParam Nat) : Prop where
  sl : ∃ i z, P.underlying t = some (.slice e) ∧ P.info? e = some i ∧ i.zero = some z ∧ i.size = sz ∧ i.bytes = by_ ∧ z.cells.size = sz

/-- v is a slice of n elements of the call's own, with these cells, in the block that l tells of; or nil, with none. -/
def RowB (e : TypeId) (sz : Nat) (v : Value) (l : Hp) (n : Nat) (xs : List Value) : Prop :=
  xs.length = n * sz ∧ ((v = .slice none 0 0 ∧ n = 0 ∧ l = []) ∨
    ∃ g cap cur, v = .slice (some ⟨g, 0, none⟩) n cap ∧ l = [(g, .cells cur e (0, 0))] ∧ n ≤ cap ∧ cur.size = cap * sz ∧ cur.toList.take (n * sz) = xs)

theorem RowB.nil {e : TypeId} {sz : Nat} : RowB e sz (.slice none 0 0) [] 0 [] := ⟨by simp, .inl ⟨rfl, rfl, rfl⟩⟩
theorem RowB.lit {e : TypeId} {sz n g : Nat} {cs : List Value} (h : cs.length = n * sz) : RowB e sz (.slice (some ⟨g, 0, none⟩) n n) [(g, .cells cs.toArray e (0, 0))] n cs :=
  ⟨h, .inr ⟨g, n, cs.toArray, rfl, rfl, Nat.le_refl _, by simpa using h, by rw [← h]; simp⟩⟩
/-- Where there is an element, there is a block. -/
theorem RowB.open {e : TypeId} {sz : Nat} {v : Value} {l : Hp} {n : Nat} {xs : List Value} (h : RowB e sz v l n xs) (hn : 0 < n) :
    ∃ g cap cs, v = .slice (some ⟨g, 0, none⟩) n cap ∧ l = [(g, .cells (List.toArray cs) e (0, 0))] ∧ n ≤ cap ∧ cs.length = cap * sz ∧ cs.take (n * sz) = xs := by
  rcases h.2 with ⟨_, h0, _⟩ | ⟨g, cap, cur, h1, h2, h3, h4, h5⟩
  · omega
  · exact ⟨g, cap, cur.toList, h1, by simpa using h2, h3, by simpa using h4, h5⟩
theorem RowB.len {e : TypeId} {sz : Nat} {v : Value} {l : Hp} {n : Nat} {xs : List Value} (h : RowB e sz v l n xs) : ∃ a c, v = .slice a n c := by
  rcases h.2 with ⟨rfl, rfl, _⟩ | ⟨g, cap, cur, rfl, _⟩
  · exact ⟨_, _, rfl⟩
  · exact ⟨_, _, rfl⟩

/-- H holds l, and besides R. -/
def Cut (H l R : Hp) : Prop := H.Perm (l ++ R)
theorem Cut.nil {H : Hp} : Cut H [] H := List.Perm.refl _
theorem Cut.here {l R : Hp} : Cut (l ++ R) l R := List.Perm.refl _
theorem Cut.here1 {x : Nat × Obj} {R : Hp} : Cut (x :: R) [x] R := List.Perm.refl _
theorem Cut.skip {H l R : Hp} (x : Nat × Obj) (h : Cut H l R) : Cut (x :: H) l (x :: R) :=
  (List.Perm.cons x h).trans List.perm_middle.symm
theorem Cut.skipA {H l R : Hp} (k : Hp) (h : Cut H l R) : Cut (k ++ H) l (k ++ R) := by
  refine (List.Perm.append_left k h).trans ?_
  rw [← List.append_assoc, ← List.append_assoc]
  exact List.Perm.append_right R List.perm_append_comm

section
variable {P : Program} {E : Env} {kd : Bool} {Q : Exit → Tm → Hp → Prop} {t : Tm} {H : Hp} {ops : Array Oper} {rest : List Oper} {ty : TypeId}

theorem RepH.perm {H' : Hp} {w : World} (hp : H.Perm H') (h : RepH E H w) : RepH E H' w :=
  ⟨h.below, h.base, (hp.map _).nodup_iff.1 h.nodup, fun b o hm => h.at_ b o (hp.mem_iff.2 hm)⟩
theorem ao_permH {H' : Hp} (hp : H.Perm H') (h : ao kd P E ops Q rest t H') : ao kd P E ops Q rest t H := by
  unfold ao at h ⊢
  exact fun m hm ex hid a w hx ht hh => h m hm ex hid a w hx ht (hh.perm (hp.append_right hid))
theorem aw_permH {c : Code} {H' : Hp} (hp : H.Perm H') (h : aw P E c Q t H') : aw P E c Q t H := by
  unfold aw at h ⊢
  exact fun rd ok ex hid a w hx ht hh => h rd ok ex hid a w hx ht (hh.perm (hp.append_right hid))
theorem RepH.right {l R : Hp} {w : World} (h : RepH E (l ++ R) w) : RepH E R w := h.sub (List.sublist_append_right l R)
theorem RepH.drewn {w : World} (h : RepH E H w) : RepH E H w.drew := ⟨Below.drew h.below, h.base, h.nodup, h.at_⟩

theorem Has.appR {b : Nat} {o : Obj} (l : Hp) (h : Has H b o) : Has (l ++ H) b o := by
  unfold Has at *
  exact List.mem_append_right l h

theorem flat_one {u : Value} (h : flat u = true) : u.oneCell' = true := by
  cases u <;> first | rfl | (simp [flat] at h)

/-- append of m elements that lie somewhere, to a row of the call's own. -/
theorem ao_append_g {d : Nat} {x y : Operand} {t1 ty2 e : TypeId} {sz by_ : Nat} {pos : String} {af : Array Edge} {gd : Option (Nat × Bool)} {v : Value} {l R : Hp} {n m c2 b2 o2 : Nat} {xs news : List Value} [TySl P t1 e sz by_]
    (hw : Wants ops t gd) (hx : ev t x = some v) (hrow : RowB e sz v l n xs) (hy : ev t y = some (.slice (some ⟨b2, o2, none⟩) m c2)) (hcut : Cut H l R)
    (hl2 : news.length = m * sz) (hnews0 : ∀ w, RepH E H w → ∀ (j : Nat) u, news[j]? = some u → w.cell? ((⟨b2, o2, none⟩ : Addr).add j) = some u) (hf : news.all flat = true) (hm : 0 < m) (hbd : (n + m) * by_ ≤ 140737488355328) (h63 : n + m ≤ 9223372036854775807) (hd : Nat.blt d E.n = true)
    (h : ∀ v' l', RowB e sz v' l' (n + m) (xs ++ news) → ao kd P E ops Q rest ((d, v') :: t) (l' ++ R)) :
    ao kd P E ops Q (⟨some d, .call ⟨.builtin .append, #[x, y], #[t1, t1]⟩, ty2, pos, af, gd⟩ :: rest) t H := by
  unfold ao at h ⊢
  intro m0 hm0 ex hid a w hdx ht hh
  refine wpM_step fun K hK => ?_
  rw [if_pos (wants_of ht hw)]
  obtain ⟨i, z, hu, hi, hz, rfl, rfl, hzs⟩ := TySl.sl (P := P) (t := t1)
  have hnews := hnews0 w hh.un
  have h1 : ∀ u ∈ news, u.oneCell' = true := fun u hm => flat_one (List.all_eq_true.1 hf u hm)
  have hpm : RepH E (l ++ (R ++ hid)) w := by rw [← List.append_assoc]; exact hh.perm (hcut.append_right hid)
  obtain ⟨RR, hRR⟩ : ∃ RR, RR = R ++ hid := ⟨_, rfl⟩
  rw [← hRR] at hpm
  have hev : ∀ r : Result Value, (Builtin.append_ #[t1, t1] ty2 #[v, .slice (some ⟨b2, o2, none⟩) m c2]).run P w = r →
      (execOp a.eval ⟨some d, .call ⟨.builtin .append, #[x, y], #[t1, t1]⟩, ty2, pos, af, gd⟩).run P w = r.andThen fun v w' => .ok (.value v) w' := fun r hr => by
    subst hr
    simp only [execOp, resolve, List.map_toArray, List.map_cons, List.map_nil, ev_eval ht hx, ev_eval ht hy, Sem.run_bind, Sem.run, pure, Result.andThen, invoke, builtin]
  -- the end: a world that holds the new row
  have fin : ∀ (v' : Value) (l' : Hp) (w' : World), (Builtin.append_ #[t1, t1] ty2 #[v, .slice (some ⟨b2, o2, none⟩) m c2]).run P w = .ok v' w' → RowB e i.size v' l' (n + m) (xs ++ news) → RepH E (l' ++ RR) w' →
      opM m0 P ⟨some d, .call ⟨.builtin .append, #[x, y], #[t1, t1]⟩, ty2, pos, af, gd⟩ a w K (post E ex hid Q) := fun v' l' w' hr hrow' hrep =>
    opM_value (by rw [hev _ hr]; rfl) (hK _ _ (h v' l' hrow' m0 hm0 ex hid _ w' hdx (ht.put hd) (by rw [List.append_assoc, ← hRR]; exact hrep)))
  have hlen : (xs ++ news).length = (n + m) * i.size := by rw [List.length_append, hrow.1, hl2, Nat.add_mul]
  have grown : ∀ old, old < n + m → RowB e i.size (.slice (some ⟨w.heap.size, 0, none⟩) (n + m) (grownCap w (n + m) old e))
      [(w.heap.size, .cells (xs.toArray ++ news.toArray ++ Builtin.zeroCells z.cells (grownCap w (n + m) old e - (n + m))) e (0, 0))] (n + m) (xs ++ news) ∧
      RepH E ([(w.heap.size, .cells (xs.toArray ++ news.toArray ++ Builtin.zeroCells z.cells (grownCap w (n + m) old e - (n + m))) e (0, 0))] ++ RR) (w.drew.alloc (.cells (xs.toArray ++ news.toArray ++ Builtin.zeroCells z.cells (grownCap w (n + m) old e - (n + m))) e)) := fun old ho => by
    have hge := grownCap_ge w (n + m) old e
    refine ⟨⟨hlen, .inr ⟨_, _, _, rfl, rfl, hge, ?_, ?_⟩⟩, hpm.right.drewn.alloc _⟩
    · simp only [Array.size_append, List.size_toArray, size_zeroCells, hzs, hrow.1, hl2, ← Nat.add_mul]
      congr 1
      omega
    · simp only [Array.toList_append, List.append_assoc]
      rw [← List.append_assoc, ← hlen]
      exact List.take_left
  rcases hrow.2 with ⟨rfl, rfl, rfl⟩ | ⟨g, cap, cur, rfl, rfl, hnc, hcs, htake⟩
  · have hx0 : xs = [] := List.eq_nil_of_length_eq_zero (by simpa using hrow.1)
    subst hx0
    have hr := run_append_nil (P := P) w t1 ty2 e i z hu hi hz ⟨b2, o2, none⟩ m c2 news hl2 hnews hm (by omega) (by simp only [Nat.zero_add] at hbd; omega)
    have hg := grown 0 (by omega)
    simp only [Nat.zero_add, List.nil_append, Array.empty_append] at hg hr fin ⊢
    exact fin _ _ _ hr hg.1 hg.2
  · have hgr := hpm.at_ g _ (List.mem_append_left _ List.mem_cons_self)
    by_cases hroom : n + m ≤ cap
    · have hfit : n * i.size + news.length ≤ cur.size := by rw [hl2, hcs, ← Nat.add_mul]; exact Nat.mul_le_mul_right _ hroom
      have hr := run_append_room (P := P) w t1 ty2 e i hu hi g n cap cur hgr.2 ⟨b2, o2, none⟩ m c2 news hl2 hnews h1 hroom hfit
      refine fin _ [(g, .cells (cur.toList.take (n * i.size) ++ news ++ cur.toList.drop (n * i.size + news.length)).toArray e (0, 0))] _ hr ⟨hlen, .inr ⟨g, cap, _, rfl, rfl, hroom, ?_, ?_⟩⟩ ?_
      · simp only [List.size_toArray, List.length_append, List.length_take, List.length_drop, Array.length_toList]
        omega
      · rw [htake, ← hlen]
        exact List.take_left
      · have hset : w.setRow g (cur.toList.take (n * i.size) ++ news ++ cur.toList.drop (n * i.size + news.length)).toArray = { w with heap := w.heap.setIfInBounds g (.cells (cur.toList.take (n * i.size) ++ news ++ cur.toList.drop (n * i.size + news.length)).toArray e (0, 0)) } := by
          unfold World.setRow
          congr 1
          have hlt := (Array.getElem?_eq_some_iff.1 hgr.2).1
          have hv := (Array.getElem?_eq_some_iff.1 hgr.2).2
          apply Array.ext_getElem?
          intro j
          rw [Array.getElem?_modify, Array.getElem?_setIfInBounds]
          by_cases e : g = j
          · subst e; simp [hv, hlt]
          · simp [e]
        rw [hset]
        have hu2 : Upd ([(g, .cells cur e (0, 0))] ++ RR) g (.cells (cur.toList.take (n * i.size) ++ news ++ cur.toList.drop (n * i.size + news.length)).toArray e (0, 0)) ([(g, .cells (cur.toList.take (n * i.size) ++ news ++ cur.toList.drop (n * i.size + news.length)).toArray e (0, 0))] ++ RR) := Upd.head _ _ _ _
        exact hpm.upd hu2
    · have holds : ∀ j u, xs[j]? = some u → w.cell? ((⟨g, 0, none⟩ : Addr).add j) = some u := fun j u hj => by
        rw [add_off]
        have hg2 : w.heap[g]? = some (.cells cur.toList.toArray e (0, 0)) := by simpa using hgr.2
        rw [cell_of hg2, Nat.zero_add]
        rw [← htake] at hj
        have hlt := (List.getElem?_eq_some_iff.1 hj).1
        simp only [List.length_take] at hlt
        rwa [List.getElem?_take_of_lt (by omega)] at hj
      have hr := run_append_grow (P := P) w t1 ty2 e i z hu hi hz ⟨g, 0, none⟩ n cap xs hrow.1 holds ⟨b2, o2, none⟩ m c2 news hl2 hnews (by omega) (by omega) (growslice_fits (by omega) hbd)
      have hg := grown cap (by omega)
      exact fin _ _ _ hr hg.1 hg.2

/-- .. that lie in a block of the call's own. -/
theorem ao_append {d : Nat} {x y : Operand} {t1 ty2 e : TypeId} {sz by_ : Nat} {pos : String} {af : Array Edge} {gd : Option (Nat × Bool)} {v : Value} {l R : Hp} {n m c2 b2 o2 : Nat} {xs news : List Value} {cs2 : List Value} {e2 : TypeId} {fz : Nat × Nat} [TySl P t1 e sz by_]
    (hw : Wants ops t gd) (hx : ev t x = some v) (hrow : RowB e sz v l n xs) (hy : ev t y = some (.slice (some ⟨b2, o2, none⟩) m c2)) (hcut : Cut H l R)
    (hb : Has H b2 (.cells cs2.toArray e2 fz)) (hs : sl o2 (m * sz) cs2 = some news) (hf : news.all flat = true) (hm : 0 < m) (hbd : (n + m) * by_ ≤ 140737488355328) (h63 : n + m ≤ 9223372036854775807) (hd : Nat.blt d E.n = true)
    (h : ∀ v' l', RowB e sz v' l' (n + m) (xs ++ news) → ao kd P E ops Q rest ((d, v') :: t) (l' ++ R)) :
    ao kd P E ops Q (⟨some d, .call ⟨.builtin .append, #[x, y], #[t1, t1]⟩, ty2, pos, af, gd⟩ :: rest) t H :=
  ao_append_g hw hx hrow hy hcut (sl_spec _ _ _ _ hs).2 (fun w hh j u hj => by
    obtain ⟨hv2, hl2⟩ := sl_spec _ _ _ _ hs
    rw [add_off, cell_of (hh.has hb).2]
    subst hv2
    have hlt := (List.getElem?_eq_some_iff.1 hj).1
    simp only [List.length_take] at hlt
    rw [List.getElem?_take_of_lt (by omega), List.getElem?_drop] at hj
    exact hj) hf hm hbd h63 hd h

theorem Upd.appR {H' : Hp} {b : Nat} {o : Obj} : ∀ (l : Hp), Upd H b o H' → Upd (l ++ H) b o (l ++ H')
  | [], h => h
  | x :: l, h => Upd.tail x (Upd.appR l h)

/-! Integers, where what comes out fits. -/
theorem wrap_u64 {n : Int} (h0 : 0 ≤ n) (h1 : n < 18446744073709551616) : IntKind.u64.wrap n = n := by
  simp only [IntKind.wrap, IntKind.signed, IntKind.bits]
  simp only [Bool.false_and, Bool.false_eq_true, if_false]
  omega
theorem wrap_u64_mod (n : Int) : IntKind.u64.wrap n = n % 18446744073709551616 := by
  simp only [IntKind.wrap, IntKind.signed, IntKind.bits]
  simp only [Bool.false_and, Bool.false_eq_true, if_false]
  omega
theorem wrap_i64 {n : Int} (h0 : -9223372036854775808 ≤ n) (h1 : n ≤ 9223372036854775807) : IntKind.i64.wrap n = n := IntWalk.i64_in _ ⟨h0, h1⟩
theorem ov_conv {x : Operand} {src dst : TypeId} {k k2 : IntKind} {n : Int} [TyU P src (.int k2)] [TyU P dst (.int k)] (hx : ev t x = some (.int k2 n)) : OpV P E (.convert src dst x) ty t H (.int k (k.wrap n)) := by
  refine ov_of fun a w ht hh o ho _ => ⟨_, by simp only [execOp, ho]; rfl, ?_⟩
  have h1 := TyU.und (P := P) (t := src)
  have h2 := TyU.und (P := P) (t := dst)
  rw [ev_eval ht hx]
  simp only [convert, Sem.run_bind, run_underlying h1, run_underlying h2, Result.andThen, Conv.intToInt, pure, Sem.run]
theorem ov_conv_i64 {x : Operand} {src dst : TypeId} {k2 : IntKind} {n : Int} [TyU P src (.int k2)] [TyU P dst (.int .i64)] (hx : ev t x = some (.int k2 n)) (h : -9223372036854775808 ≤ n ∧ n ≤ 9223372036854775807) : OpV P E (.convert src dst x) ty t H (I n) := by
  have := ov_conv (P := P) (E := E) (H := H) (ty := ty) (src := src) (dst := dst) hx
  rwa [wrap_i64 h.1 h.2] at this
theorem ov_conv_u64 {x : Operand} {src dst : TypeId} {k2 : IntKind} {n : Int} [TyU P src (.int k2)] [TyU P dst (.int .u64)] (hx : ev t x = some (.int k2 n)) (h : 0 ≤ n ∧ n < 18446744073709551616) : OpV P E (.convert src dst x) ty t H (.int .u64 n) := by
  have := ov_conv (P := P) (E := E) (H := H) (ty := ty) (src := src) (dst := dst) hx
  rwa [wrap_u64 h.1 h.2] at this
theorem ov_conv_u64m {x : Operand} {src dst : TypeId} {k2 : IntKind} {n : Int} [TyU P src (.int k2)] [TyU P dst (.int .u64)] (hx : ev t x = some (.int k2 n)) : OpV P E (.convert src dst x) ty t H (.int .u64 (n % 18446744073709551616)) := by
  have := ov_conv (P := P) (E := E) (H := H) (ty := ty) (src := src) (dst := dst) hx
  rwa [wrap_u64_mod] at this
theorem ov_rem_in {x y : Operand} {xt yt : TypeId} {k : IntKind} {p q : Int} (hx : ev t x = some (.int k p)) (hy : ev t y = some (.int k q)) (h : 0 ≤ p ∧ 0 < q) : OpV P E (.binOp .rem xt x y yt) ty t H (.int k (p % q)) := by
  have := ov_rem (P := P) (E := E) (H := H) (ty := ty) (xt := xt) (yt := yt) hx hy (by omega)
  rwa [Int.tmod_eq_emod_of_nonneg h.1] at this
theorem ov_quo_u64 {x y : Operand} {xt yt : TypeId} {p q : Int} (hx : ev t x = some (.int .u64 p)) (hy : ev t y = some (.int .u64 q)) (h : 0 ≤ p ∧ 0 < q ∧ p < 18446744073709551616) : OpV P E (.binOp .quo xt x y yt) ty t H (.int .u64 (p / q)) := by
  have := ov_quo (P := P) (E := E) (H := H) (ty := ty) (xt := xt) (yt := yt) hx hy (by omega)
  rw [Int.tdiv_eq_ediv_of_nonneg h.1, wrap_u64 (Int.ediv_nonneg h.1 (by omega)) (Int.lt_of_le_of_lt (Int.ediv_le_self _ h.1) h.2.2)] at this
  exact this
theorem ov_quo_i64 {x y : Operand} {xt yt : TypeId} {p q : Int} (hx : ev t x = some (I p)) (hy : ev t y = some (I q)) (h : 0 ≤ p ∧ 0 < q ∧ p ≤ 9223372036854775807) : OpV P E (.binOp .quo xt x y yt) ty t H (I (p / q)) := by
  have := ov_quo (P := P) (E := E) (H := H) (ty := ty) (xt := xt) (yt := yt) hx hy (by omega)
  rw [Int.tdiv_eq_ediv_of_nonneg h.1, wrap_i64 (by have := Int.ediv_nonneg h.1 (b := q) (by omega); omega) (Int.le_trans (Int.ediv_le_self _ h.1) h.2.2)] at this
  exact this
theorem ov_add_u64 {x y : Operand} {xt yt : TypeId} {p q : Int} (hx : ev t x = some (.int .u64 p)) (hy : ev t y = some (.int .u64 q)) (h : 0 ≤ p + q ∧ p + q < 18446744073709551616) : OpV P E (.binOp .add xt x y yt) ty t H (.int .u64 (p + q)) := by
  have := ov_add (P := P) (E := E) (H := H) (ty := ty) (xt := xt) (yt := yt) hx hy
  rwa [wrap_u64 h.1 h.2] at this
theorem ov_mul_u64 {x y : Operand} {xt yt : TypeId} {p q : Int} (hx : ev t x = some (.int .u64 p)) (hy : ev t y = some (.int .u64 q)) (h : 0 ≤ p * q ∧ p * q < 18446744073709551616) : OpV P E (.binOp .mul xt x y yt) ty t H (.int .u64 (p * q)) := by
  have := ov_mul (P := P) (E := E) (H := H) (ty := ty) (xt := xt) (yt := yt) hx hy
  rwa [wrap_u64 h.1 h.2] at this
theorem ov_mul_in {x y : Operand} {xt yt : TypeId} {p q : Int} (hx : ev t x = some (I p)) (hy : ev t y = some (I q)) (h : -9223372036854775808 ≤ p * q ∧ p * q ≤ 9223372036854775807) : OpV P E (.binOp .mul xt x y yt) ty t H (I (p * q)) := by
  have := ov_mul (P := P) (E := E) (H := H) (ty := ty) (xt := xt) (yt := yt) hx hy
  rwa [wrap_i64 h.1 h.2] at this

/-! Reading and writing a row whose block is known. -/
theorem ov_slAddr {x y : Operand} {xt e : TypeId} {sz by_ n cap g o1 : Nat} {k : IntKind} {i : Int} [TySl P xt e sz by_] (hx : ev t x = some (.slice (some ⟨g, o1, none⟩) n cap)) (hy : ev t y = some (.int k i))
    (h0 : 0 ≤ i) (h1 : i < (n : Int)) : OpV P E (.indexAddr xt x y) ty t H (.pointer (some ⟨g, o1 + i.toNat * sz, none⟩)) := by
  refine ov_of fun a w ht hh o ho _ => ⟨_, by simp only [execOp, ho]; rfl, ?_⟩
  obtain ⟨i', z, hu, hi, hz, rfl, rfl, hzs⟩ := TySl.sl (P := P) (t := xt)
  have hs : (P.info? e).map (·.size) = some i'.size := by rw [hi]; rfl
  rw [ev_eval ht hx, ev_eval ht hy]
  simp only [Instr.indexAt, asIntOf, Sem.run_bind, run_underlying hu, Result.andThen, pure, Sem.run, h0, h1, and_self, if_true, run_sizeOf hs, add_off]
theorem ov_sllen {x : Operand} {at_ e : TypeId} {sz by_ n c : Nat} {b : Option Addr} [TySl P at_ e sz by_] (hx : ev t x = some (.slice b n c)) : OpV P E (.call ⟨.builtin .len, #[x], #[at_]⟩) ty t H (I n) := by
  intro a w ht _ o ho _
  obtain ⟨i', z, hu, hi, hz, rfl, rfl, hzs⟩ := TySl.sl (P := P) (t := at_)
  simp [execOp, ho, resolve, invoke, builtin, Builtin.len_, ev_eval ht hx, run_underlying hu, Sem.run, pure, goInt]
theorem row_cell {cs xs : List Value} {n : Nat} {k : Nat} {v : Value} (h : cs.take n = xs) (hk : xs[k]? = some v) : cs[k]? = some v := by
  rw [← h] at hk
  have hlt := (List.getElem?_eq_some_iff.1 hk).1
  simp only [List.length_take] at hlt
  rwa [List.getElem?_take_of_lt (by omega)] at hk
theorem ow_store_s {x y : Operand} {st : TypeId} {b off : Nat} {cs : List Value} {e : TypeId} {v : Value} [TyC P st] (hx : ev t x = some (.pointer (some ⟨b, off, none⟩))) (hy : ev t y = some v)
    (hb : Has H b (.cells cs.toArray e (0, 0))) (hlt : off < cs.length) (hf : flat v = true) : OpW P E (.store st x y) ty t H b (.cells (cs.set off v).toArray e (0, 0)) .skip := by
  intro a w ht hh o ho _
  have h2 := TyC.size (P := P) (t := st)
  have hc : v.cells = #[v] := by cases v <;> first | rfl | (simp [flat] at hf)
  simp only [execOp, ho, Sem.run_bind, Instr.storeAt, Instr.sureAddr, ev_eval ht hx, ev_eval ht hy, pure, Sem.run, Result.andThen, storeVar, run_sizeOf h2, hc]
  simp only [List.size_toArray, List.length_cons, List.length_nil, Nat.zero_add, ne_eq, not_true_eq_false, if_false]
  rw [run_storeCells [v] cs 0 w (hh.has hb).2 (by simp; omega) (by simp [hf])]
  simp [setAll]

/-! A slice written out: the block, and the slice over it. -/
def fillF (place : Nat → Option (Nat × Nat)) : List Value → List (Nat × Value) → Option (List Value)
  | cs, [] => some cs
  | cs, (i, v) :: rest =>
    match place i with
    | none => none
    | some (off, size) => bif Nat.beq v.cells.toList.length size && Nat.ble (off + v.cells.toList.length) cs.length then (match setAllO cs off v.cells.toList with | some r => fillF place r rest | none => none) else none
theorem fillF_of {place : Nat → Option (Nat × Nat)} : ∀ (vs : List (Nat × Value)) (cs ds : List Value), fillF place cs vs = some ds → Instr.fill place cs.toArray vs = some ds.toArray
  | [], cs, ds, h => by
    simp only [fillF, Option.some.injEq] at h
    subst h
    rfl
  | (i, v) :: vs, cs, ds, h => by
    simp only [fillF] at h
    unfold Instr.fill
    cases hp : place i with
    | none => rw [hp] at h; cases h
    | some x =>
      obtain ⟨off, size⟩ := x
      rw [hp] at h
      simp only at h
      cases hb : (Nat.beq v.cells.toList.length size && Nat.ble (off + v.cells.toList.length) cs.length) with
      | false => rw [hb] at h; cases h
      | true =>
        rw [hb] at h
        simp only [cond_true] at h
        simp only [Bool.and_eq_true, Nat.ble_eq] at hb
        have h1 := Nat.eq_of_beq_eq_true hb.1
        simp only [Array.length_toList] at h1 hb
        have hc : ¬ ((decide (v.cells.size ≠ size) || decide (off + v.cells.size > cs.toArray.size)) = true) := by
          simp [h1]
          have := hb.2
          omega
        simp only []
        rw [if_neg hc]
        have hf := fold_setAll v.cells.toList cs off 0
        have hz : v.cells.zipIdx.foldl (fun cs (c, j) => cs.setIfInBounds (off + j) c) cs.toArray = (setAll cs off v.cells.toList).toArray := by
          rw [← Array.foldl_toList, Array.toList_zipIdx]
          simpa using hf
        rw [hz]
        cases hs : setAllO cs off v.cells.toList with
        | none => rw [hs] at h; cases h
        | some r =>
          rw [hs] at h
          rw [(setAllO_spec _ _ _ _ hs).2]
          exact fillF_of vs r ds h

/-- A slice's type: zero values of len elements. -/
class TyZs (P : Program) (t : TypeId) (len : Nat) (zs : outParam (List Value)) : Prop where
  zs : ∃ e i z, P.underlying t = some (.slice e) ∧ P.info? e = some i ∧ i.zero = some z ∧ Nat.ble (len * i.size) 1000 = true ∧ Nat.beq (len * i.size) 0 = false ∧ ((Array.range (len * i.size)).map (z.cells[· % z.cells.size]!)) = zs.toArray

theorem on_bslice {bt e : TypeId} {sz by_ len : Nat} {ps : List (Nat × Operand)} {vs : List (Nat × Value)} {zs cs : List Value} [TySl P bt e sz by_] [TyZs P bt len zs] (hv : evP t ps = some vs) (hf : fillF (fun i => some (i * sz, sz)) zs vs = some cs) :
    OpN P E (.buildSlice bt len ps.toArray) ty t H (.cells cs.toArray e (0, 0)) (fun b => .slice (some ⟨b, 0, none⟩) len len) := by
  intro a w ht _ o ho _
  obtain ⟨i, z, hu, hi, hz, rfl, rfl, hzs⟩ := TySl.sl (P := P) (t := bt)
  obtain ⟨e', i2, z2, hu2, hi2, hz2, hle0, hne0, hzz⟩ := TyZs.zs (P := P) (t := bt) (len := len)
  rw [hu] at hu2
  cases hu2
  rw [hi] at hi2
  cases hi2
  rw [hz] at hz2
  cases hz2
  have he := evP_eval ht ps vs hv
  have hff := fillF_of vs zs cs hf
  have hs : (P.info? e).map (·.size) = some i.size := by rw [hi]; rfl
  have hle : len * i.size ≤ 1000 := Nat.le_of_ble_eq_true hle0
  have hne : ¬ (len * i.size = 0) := fun h => by rw [h] at hne0; cases hne0
  have hb : ¬ (len * i.size > 2 ^ 24) := by omega
  simp only [execOp, ho, Instr.buildSlice, Sem.run_bind, run_underlying hu, Result.andThen, run_sizeOf hs, hb, hne, if_false, zeroValue, typeInfo, program, Sem.run, pure, hi, hz, hzz, List.map_toArray]
  rw [show (List.map (fun x : Nat × Operand => (x.1, a.eval x.2)) ps) = vs from he]
  simp only [hff, newRow, newObj, Sem.run_bind, Sem.run, pure, Result.andThen]
  rfl

/-! Slices that came in: their cells lie in memory that was there at the call. -/
def OldRow (w : World) (sz : Nat) (v : Value) (n : Nat) (xs : List Value) : Prop :=
  xs.length = n * sz ∧ ∃ a c, v = .slice a n c ∧ (0 < n → ∃ g o, a = some ⟨g, o, none⟩ ∧ g < w.heap.size ∧ ∀ j u, xs[j]? = some u → w.cell? ⟨g, o + j, none⟩ = some u)
/-- A slice in new memory, handed back. -/
def NewRow (e : TypeId) (sz : Nat) (w w' : World) (v : Value) (n : Nat) (xs : List Value) : Prop :=
  Below w.heap.size w w' ∧ ∃ l, RowB e sz v l n xs ∧ ∀ b o, (b, o) ∈ l → w.heap.size ≤ b ∧ w'.heap[b]? = some o

theorem OldRow.nil {w : World} {sz c : Nat} {a : Option Addr} : OldRow w sz (.slice a 0 c) 0 [] := ⟨by simp, a, c, rfl, fun h => by omega⟩
theorem RepH.old {w : World} {l R : Hp} {e : TypeId} {sz n : Nat} {v : Value} {xs : List Value} (h : RepH E H w) (hc : Cut H l R) (hr : RowB e sz v l n xs) : OldRow w sz v n xs := by
  refine ⟨hr.1, ?_⟩
  rcases hr.2 with ⟨rfl, h0, _⟩ | ⟨g, cap, cur, rfl, rfl, hnc, hcs, htake⟩
  · exact ⟨none, 0, by rw [h0], fun h => by omega⟩
  · refine ⟨_, _, rfl, fun _ => ⟨g, 0, rfl, ?_, fun j u hj => ?_⟩⟩
    · have := ((h.perm hc).at_ g _ (List.mem_append_left _ List.mem_cons_self)).2
      exact (Array.getElem?_eq_some_iff.1 this).1
    · have hg := ((h.perm hc).at_ g _ (List.mem_append_left _ List.mem_cons_self)).2
      have hg2 : w.heap[g]? = some (.cells cur.toList.toArray e (0, 0)) := by simpa using hg
      rw [cell_of hg2, Nat.zero_add]
      rw [← htake] at hj
      have hlt := (List.getElem?_eq_some_iff.1 hj).1
      simp only [List.length_take] at hlt
      rwa [List.getElem?_take_of_lt (by omega)] at hj
theorem OldRow.open {w : World} {sz n : Nat} {v : Value} {xs : List Value} (h : OldRow w sz v n xs) (hn : 0 < n) : ∃ g o c, v = .slice (some ⟨g, o, none⟩) n c ∧ g < w.heap.size ∧ ∀ j u, xs[j]? = some u → w.cell? ⟨g, o + j, none⟩ = some u := by
  obtain ⟨_, a, c, rfl, h2⟩ := h
  obtain ⟨g, o, rfl, h3, h4⟩ := h2 hn
  exact ⟨g, o, c, rfl, h3, h4⟩
theorem OldRow.len {w : World} {sz n : Nat} {v : Value} {xs : List Value} (h : OldRow w sz v n xs) : ∃ a c, v = .slice a n c := by
  obtain ⟨_, a, c, rfl, _⟩ := h
  exact ⟨a, c, rfl⟩
theorem OldRow.below {w w' : World} {sz n : Nat} {v : Value} {xs : List Value} (h : OldRow w sz v n xs) (hb : Below w.heap.size w w') : OldRow w' sz v n xs := by
  obtain ⟨h1, a, c, rfl, h2⟩ := h
  refine ⟨h1, a, c, rfl, fun hn => ?_⟩
  obtain ⟨g, o, rfl, h3, h4⟩ := h2 hn
  exact ⟨g, o, rfl, Nat.lt_of_lt_of_le h3 hb.size, fun j u hj => (hb.cell (p := ⟨g, o + j, none⟩) h3).trans (h4 j u hj)⟩

/-- A load out of memory that was there at the call. -/
theorem ov_load_o {x : Operand} {lt : TypeId} {b off : Nat} {v : Value} [TyC P lt] (hx : ev t x = some (.pointer (some ⟨b, off, none⟩))) (hb : b < E.B) (hc : E.w0.cell? ⟨b, off, none⟩ = some v) : OpV P E (.load lt x) ty t H v := by
  refine ov_of fun a w ht hh o ho _ => ⟨_, by simp only [execOp, ho]; rfl, ?_⟩
  rw [ev_eval ht hx]
  exact run_load_cell ((hh.below.cell (p := ⟨b, off, none⟩) hb).trans hc)
/-- .. of a struct or an array. -/
theorem ov_load_oa {x : Operand} {lt : TypeId} {n b off : Nat} {vs : List Value} [TyA P lt n] (hx : ev t x = some (.pointer (some ⟨b, off, none⟩))) (hb : b < E.B) (hc : ∀ j v, vs[j]? = some v → E.w0.cell? ⟨b, off + j, none⟩ = some v) (hl : vs.length = n) : OpV P E (.load lt x) ty t H (.agg vs.toArray) := by
  refine ov_of fun a w ht hh o ho _ => ⟨_, by simp only [execOp, ho]; rfl, ?_⟩
  rw [ev_eval ht hx]
  exact run_load_agg hl fun j v hj => (hh.below.cell (p := ⟨b, off + j, none⟩) hb).trans (hc j v hj)

theorem RepH.newRow {w w' : World} {e : TypeId} {sz n : Nat} {v : Value} {xs : List Value} (h : RepH E H w) (hn : NewRow e sz w w' v n xs) : ∃ l, RowB e sz v l n xs ∧ RepH E (l ++ H) w' := by
  obtain ⟨hb, l, hr, hl⟩ := hn
  refine ⟨l, hr, ?_⟩
  have h' := h.below' hb
  have hB : E.B ≤ w.heap.size := Nat.le_trans h.base h.below.size
  refine ⟨h'.below, h'.base, ?_, fun b o hm => ?_⟩
  · rcases hr.2 with ⟨_, _, rfl⟩ | ⟨g, cap, cur, _, rfl, _⟩
    · simpa using h'.nodup
    · simp only [List.cons_append, List.nil_append, List.map_cons, List.nodup_cons]
      refine ⟨fun hm => ?_, h'.nodup⟩
      obtain ⟨x, hx, ex⟩ := List.mem_map.1 hm
      have h1 := (Array.getElem?_eq_some_iff.1 (h.at_ x.1 x.2 hx).2).1
      have h2 := (hl g _ List.mem_cons_self).1
      omega
  · rcases List.mem_append.1 hm with hm | hm
    · exact ⟨Nat.le_trans hB (hl b o hm).1, (hl b o hm).2⟩
    · exact h'.at_ b o hm

/-- A call that hands back a slice in new memory. -/
theorem ao_callr {d : Nat} {op : Op} {ty2 : TypeId} {pos : String} {af : Array Edge} {gd : Option (Nat × Bool)} {f : FuncId} {args : Array Value} {e : TypeId} {sz n : Nat} {xs : List Value}
    (hw : Wants ops t gd) (hv : OpCall P E op ty2 t f args) (hd : Nat.blt d E.n = true)
    (hc : ∀ w, RepH E H w → Calls P f args w fun en w' => ∃ v, en = .returned v ∧ NewRow e sz w w' v n xs)
    (h : ∀ v l, RowB e sz v l n xs → ao kd P E ops Q rest ((d, v) :: t) (l ++ H)) :
    ao kd P E ops Q (⟨some d, op, ty2, pos, af, gd⟩ :: rest) t H :=
  ao_callx hw hv hd fun hid w hh => (hc w hh.un).mono fun en w' ⟨v, he, hn⟩ => by
    obtain ⟨l, hr, hrep⟩ := hh.newRow hn
    exact ⟨v, l ++ H, he, by rw [List.append_assoc]; exact hrep, h v l hr⟩
/-- .. and something else besides. -/
theorem ao_callr2 {d : Nat} {op : Op} {ty2 : TypeId} {pos : String} {af : Array Edge} {gd : Option (Nat × Bool)} {f : FuncId} {args : Array Value} {e : TypeId} {sz n : Nat} {xs : List Value} {u : Value}
    (hw : Wants ops t gd) (hv : OpCall P E op ty2 t f args) (hd : Nat.blt d E.n = true)
    (hc : ∀ w, RepH E H w → Calls P f args w fun en w' => ∃ v, en = .returned (.tuple #[v, u]) ∧ NewRow e sz w w' v n xs)
    (h : ∀ v l, RowB e sz v l n xs → ao kd P E ops Q rest ((d, .tuple #[v, u]) :: t) (l ++ H)) :
    ao kd P E ops Q (⟨some d, op, ty2, pos, af, gd⟩ :: rest) t H :=
  ao_callx hw hv hd fun hid w hh => (hc w hh.un).mono fun en w' ⟨v, he, hn⟩ => by
    obtain ⟨l, hr, hrep⟩ := hh.newRow hn
    exact ⟨_, l ++ H, he, by rw [List.append_assoc]; exact hrep, h v l hr⟩
end
end Sx
end Go.Proofs.Ytpenogailhlcaaa
