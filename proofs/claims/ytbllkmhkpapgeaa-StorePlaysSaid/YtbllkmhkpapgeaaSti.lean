/- The landed store: an event is written to the log; what its map tells while it lies in the own heap; conditions: names of at most 1,000 bytes, at most 1,000 writes. -/
import Derived.Test.YtbllkmhkpapgeaaSdc
/- Sdd: The landed store: an event is written to the log; what its map tells while it lies in the own heap; conditions: names of at most 1,000 bytes, at most 1,000 writes. -/
namespace Go.Proofs.Ytbllkmhkpapgeaa
namespace Stm
open Go Go.RowKit Sx Lab Vec Ojt Evt Chm
attribute [local irreducible] Go.Calls

/-- A call that turns its memory and hands back a struct. -/
theorem callsHC {P : Program} {B m : Nat} {w0 : World} {f : FuncId} {fn : Func} {c : Code} {args : List Value} {n r rt z : Nat} {H : Hp} {K : Value → Hp → Prop} [TyA P rt z]
    (hf : P.funcs[f]? = some fn) (hb : fn.body = some c) (hn : fn.ntmps = n) (hl : Nat.ble args.length n = true) (hr : fn.results = #[.cell r rt])
    (h : aw P ⟨B, w0, n⟩ c (retC1 r z fun vs H' => ∃ H2 H1 : Hp, H2.Sublist H' ∧ H2.Perm H1 ∧ K (.agg vs.toArray) H1) (tm0 args) H) : CallsH P ⟨B, w0, m⟩ f args H K := by
  intro w hh
  refine calls_of_wp hf hb ?_
  rw [hn]
  unfold aw at h
  refine Code.wp_mono (fun e a w' hq => ?_) (h { tmps := args.toArray ++ Array.replicate (n - args.toArray.size) undef, defers := [] } w (repT_start (B := B) (w0 := w0) args (by simpa [Nat.ble_eq] using hl)) hh.env)
  obtain ⟨t', H', r1, r2, q⟩ := hq
  unfold retC1 at q
  cases e with
  | normal =>
    obtain ⟨b, cs, vs, e, fz, h1, h2, h3, H2, H1, hs, hp, hk⟩ := q
    exact ⟨r1.1, _, results_c1 hr r1 r2 h1 h2 h3, _, H1, rfl, ((r2.sub hs).perm hp).env, hk⟩
  | ret =>
    obtain ⟨b, cs, vs, e, fz, h1, h2, h3, H2, H1, hs, hp, hk⟩ := q
    exact ⟨r1.1, _, results_c1 hr r1 r2 h1 h2 h3, _, H1, rfl, ((r2.sub hs).perm hp).env, hk⟩
  | exit _ => exact q.elim
  | goto _ => exact q.elim
  | panic _ => exact q.elim
  | outgrown => exact q.elim

theorem cut_app {H l m R1 R : Hp} (h1 : Cut H l R1) (h2 : Cut R1 m R) : Cut H (l ++ m) R := by
  unfold Cut at *
  refine h1.trans ?_
  rw [List.append_assoc]
  exact List.Perm.append_left l h2
abbrev SB (g : Nat) (mo : Option Nat) (v : Value) : Nat × Obj := (g, .cells #[.map mo, v] 67 (0, 0))
set_option maxHeartbeats 8000000 in
theorem vern_ok {w : World} {g n : Nat} {a : Option Addr} {c : Nat} (c1 : w.cell? ⟨g, 1, none⟩ = some (.slice a n c)) (lt : g < w.heap.size) : Calls Try.prog 18 #[.pointer (some ⟨g, 0, none⟩)] w fun e w' => e = .returned (I n) ∧ Below w.heap.size w w' := by
  refine calls1 (args := [.pointer (some ⟨g, 0, none⟩)]) Try.func18 rfl rfl rfl rfl ?_
  repeat' (first | refine aw_seq ?_ | ((first | apply ao_val | apply aq_val); exact wants_a; (first | exact ov_nilcheck rfl | exact ov_peqs rfl rfl | exact ov_a); (exact rfl)) | refine zy ?_ | refine zon fun _ => ?_ | refine zoa fun vr lr hr => ?_ | refine zoS (fun _ => ?_) (fun _ => ?_) | refine zqS (fun _ => ?_) (fun _ => ?_) | refine zwS (fun _ => ?_) (fun _ => ?_))
  exact fun w' hw => ⟨rfl, hw.below⟩
theorem vern_has {E : Env} {H : Hp} {w : World} {g n : Nat} {mo : Option Nat} {a : Option Addr} {c : Nat} (h : RepH E H w) (hb : Has H g (.cells #[.map mo, .slice a n c] 67 (0, 0))) : Calls Try.prog 18 #[.pointer (some ⟨g, 0, none⟩)] w fun e w' => e = .returned (I n) ∧ Below w.heap.size w w' := by
  have hg := (h.has hb).2
  have hg2 : w.heap[g]? = some (.cells (List.toArray [.map mo, .slice a n c]) 67 (0, 0)) := hg
  exact vern_ok (by rw [cell_of hg2]; rfl) (Array.getElem?_eq_some_iff.1 hg).1
set_option maxHeartbeats 32000000 in
/-- An event is written behind the log. -/
theorem write_ok {m : Nat} {w0 : World} {g n : Nat} {mo : Option Nat} {v : Value} {l0 : Hp} {xs : List Value} (hrow : RowB 50 11 v l0 n xs) (hn : n ≤ 1000) (kind : Int) (o : Ob) (xa : Option Addr) (xn xc : Nat) (R : Hp) :
    CallsH Try.prog ⟨w0.heap.size, w0, m⟩ 37 [.pointer (some ⟨g, 0, none⟩), I kind, OV o (.slice xa xn xc)] (SB g mo v :: (l0 ++ R)) fun r H' => ∃ v' l', r = OV (verO o (n + 1)) (.slice xa xn xc) ∧ H' = SB g mo v' :: (l' ++ R) ∧
      RowB 50 11 v' l' (n + 1) (xs ++ [I kind, S o.k, S o.s, S o.n, I (n + 1), S o.c, .bool o.tm, .bool o.bs, .slice xa xn xc, I 0, .slice none 0 0]) := by
  obtain ⟨av, cv, rfl⟩ := hrow.len
  have hve := fun {E : Env} {H : Hp} w (h : RepH E H w) hb => vern_has (g := g) (n := n) (mo := mo) (a := av) (c := cv) h hb
  refine callsHC (rt := 38) (args := [.pointer (some ⟨g, 0, none⟩), I kind, OV o (.slice xa xn xc)]) Try.func37 rfl rfl rfl rfl ?_
  repeat' (first | (apply ao_nilh; exact hsub_a) | apply ao_nil | apply aq_nil | apply ah_end | ((first | apply ao_val | apply aq_val | (apply ah_take; (exact rfl))); exact wants_a; (first | exact ov_nilcheck rfl | exact ov_a); (exact rfl)) | ((first | apply ao_skip | apply aq_skip | (apply ah_skip; (exact rfl))); exact nots_a; (exact rfl)) | (refine ao_is ?_; first | (apply ao_new; exact wants_a; exact on_a; (exact rfl); intro _) | (apply ao_store; exact wants_a; exact ow_a; exact upd_a) | (apply ao_valw; exact wants_a; exact ox_a; (exact rfl); exact upd_a) | (apply ao_skip0; exact nots_a) | (apply ao_append; exact wants_a; (exact rfl); assumption; (exact rfl); exact cut_a; exact has_a; (exact rfl); (exact rfl); omega; omega; omega; (exact rfl); intro vr lr hr)) | ((first | apply ao_call | apply aq_call); exact wants_a; (first | exact oc_func rfl | exact oc_clos rfl rfl); (exact rfl); (first | exact fun w hw => hve w hw has_a)) | (apply ah_one; (exact rfl)) | (apply ah_two; (exact rfl); (exact rfl)) | (apply ah_three; (exact rfl); (exact rfl); (exact rfl)) | (refine aw_is ?_; first | (apply aw_held (id := 2) (pl := (.t 0 (.t 1 (.t 2 (.t 3 (.t 5 (.t 6 (.t 7 (.w 4 (.o 8 (.o 9 (.t 10 (.t 11 (.o 12 .e))))) 8 (.o 4 (.o 9 (.t 10 (.t 11 (.o 12 .e)))))))))))))); (kernel_rfl); (kernel_rfl); (kernel_rfl); (solve | (apply hs_keep; apply hs_keep; apply hs_skip; apply hs_app0; exact List.Sublist.refl _))) | refine aw_seq ?_ | refine aw_block ?_ | refine aw_region ?_ | refine aw_skip ?_ | refine aw_exit ?_ | refine aw_ret ?_ | refine aw_label ?_ | refine aw_scope ?_ | refine aw_cond_t rfl (by with_reducible rfl) ?_ | refine aw_cond_f rfl (by with_reducible rfl) ?_ | refine aw_draw (by kernel_rfl) (by kernel_rfl) ?_) | (first | (refine ah_is ?_; (fail_if_success first | refine ah_glit (b := true) rfl rfl rfl (by with_reducible rfl) ?_ | refine ah_glit (b := false) rfl rfl rfl (by with_reducible rfl) ?_); apply ah_gt; (exact rfl); (exact rfl); (exact rfl); exact t_a) | ((refine ao_is ?_; (fail_if_success first | refine ao_glit (b := true) rfl rfl (by with_reducible rfl) ?_ | refine ao_glit (b := false) rfl rfl (by with_reducible rfl) ?_)); apply ao_gt; (exact rfl); (exact rfl); exact t_a) | ((refine aq_is ?_; (fail_if_success first | refine aq_glit (b := true) rfl rfl (by with_reducible rfl) ?_ | refine aq_glit (b := false) rfl rfl (by with_reducible rfl) ?_)); apply aq_gt; (exact rfl); (exact rfl); exact t_a) | (apply aw_ct; (exact rfl); exact t_a)) | (first | (refine ah_is ?_; (fail_if_success first | refine ah_glit (b := true) rfl rfl rfl (by with_reducible rfl) ?_ | refine ah_glit (b := false) rfl rfl rfl (by with_reducible rfl) ?_); apply ah_gf; (exact rfl); (exact rfl); (exact rfl); exact f_a) | ((refine ao_is ?_; (fail_if_success first | refine ao_glit (b := true) rfl rfl (by with_reducible rfl) ?_ | refine ao_glit (b := false) rfl rfl (by with_reducible rfl) ?_)); apply ao_gf; (exact rfl); (exact rfl); exact f_a) | ((refine aq_is ?_; (fail_if_success first | refine aq_glit (b := true) rfl rfl (by with_reducible rfl) ?_ | refine aq_glit (b := false) rfl rfl (by with_reducible rfl) ?_)); apply aq_gf; (exact rfl); (exact rfl); exact f_a) | (apply aw_cf; (exact rfl); exact f_a)) | refine at_normal ?_ | refine at_exit ?_ | refine at_ret ?_ | refine ib_normal ?_ | refine ib_exit ?_ | refine ib_other ?_ | refine ib_ret ?_ | refine lq_exit ?_ | refine lq_ret ?_ | refine ci_ret ?_ | refine ci_exit ?_ | refine r1_ret rfl ?_ | refine r1_normal rfl ?_ | refine r2_ret rfl rfl ?_ | refine r2_normal rfl rfl ?_ | refine r3_ret rfl rfl rfl ?_ | refine r3_normal rfl rfl rfl ?_ | refine ng_normal ?_ | refine ng_exit ?_ | refine ng_ret ?_ | (apply rt_ret; (exact rfl); (exact rfl); (exact rfl); exact has_a; exact has_a; (exact rfl); (exact rfl)) | (apply rc1_ret; (exact rfl); exact has_a; (exact rfl)) | (apply rc2_ret; (exact rfl); exact has_a; (exact rfl); (exact rfl)) | (refine ao_is ?_; (fail_if_success first | refine ao_glit (b := true) rfl rfl (by with_reducible rfl) ?_ | refine ao_glit (b := false) rfl rfl (by with_reducible rfl) ?_); refine ao_gbool rfl rfl (fun _ => ?_) (fun _ => ?_)) | (refine aq_is ?_; (fail_if_success first | refine aq_glit (b := true) rfl rfl (by with_reducible rfl) ?_ | refine aq_glit (b := false) rfl rfl (by with_reducible rfl) ?_); refine aq_gbool rfl rfl (fun _ => ?_) (fun _ => ?_)) | (refine aw_is ?_; refine aw_cond rfl (fun _ => ?_) (fun _ => ?_)))
  all_goals
    obtain ⟨xv, yv, hxv⟩ := hr.len
    subst hxv
    repeat' (first | (apply ao_nilh; exact hsub_a) | apply ao_nil | apply aq_nil | apply ah_end | ((first | apply ao_val | apply aq_val | (apply ah_take; (exact rfl))); exact wants_a; (first | exact ov_nilcheck rfl | exact ov_a); (exact rfl)) | ((first | apply ao_skip | apply aq_skip | (apply ah_skip; (exact rfl))); exact nots_a; (exact rfl)) | (refine ao_is ?_; first | (apply ao_new; exact wants_a; exact on_a; (exact rfl); intro _) | (apply ao_store; exact wants_a; exact ow_a; exact upd_a) | (apply ao_valw; exact wants_a; exact ox_a; (exact rfl); exact upd_a) | (apply ao_skip0; exact nots_a) | (apply ao_append; exact wants_a; (exact rfl); assumption; (exact rfl); exact cut_a; exact has_a; (exact rfl); (exact rfl); omega; omega; omega; (exact rfl); intro vr lr hr)) | (apply ah_one; (exact rfl)) | (apply ah_two; (exact rfl); (exact rfl)) | (apply ah_three; (exact rfl); (exact rfl); (exact rfl)) | (refine aw_is ?_; first | (apply aw_held (id := 2) (pl := (.t 0 (.t 1 (.t 2 (.t 3 (.t 5 (.t 6 (.t 7 (.w 4 (.o 8 (.o 9 (.t 10 (.t 11 (.o 12 .e))))) 8 (.o 4 (.o 9 (.t 10 (.t 11 (.o 12 .e)))))))))))))); (kernel_rfl); (kernel_rfl); (kernel_rfl); (solve | (apply hs_keep; apply hs_keep; apply hs_skip; apply hs_app0; exact List.Sublist.refl _))) | refine aw_seq ?_ | refine aw_block ?_ | refine aw_region ?_ | refine aw_skip ?_ | refine aw_exit ?_ | refine aw_ret ?_ | refine aw_label ?_ | refine aw_scope ?_ | refine aw_cond_t rfl (by with_reducible rfl) ?_ | refine aw_cond_f rfl (by with_reducible rfl) ?_ | refine aw_draw (by kernel_rfl) (by kernel_rfl) ?_) | (first | (refine ah_is ?_; (fail_if_success first | refine ah_glit (b := true) rfl rfl rfl (by with_reducible rfl) ?_ | refine ah_glit (b := false) rfl rfl rfl (by with_reducible rfl) ?_); apply ah_gt; (exact rfl); (exact rfl); (exact rfl); exact t_a) | ((refine ao_is ?_; (fail_if_success first | refine ao_glit (b := true) rfl rfl (by with_reducible rfl) ?_ | refine ao_glit (b := false) rfl rfl (by with_reducible rfl) ?_)); apply ao_gt; (exact rfl); (exact rfl); exact t_a) | ((refine aq_is ?_; (fail_if_success first | refine aq_glit (b := true) rfl rfl (by with_reducible rfl) ?_ | refine aq_glit (b := false) rfl rfl (by with_reducible rfl) ?_)); apply aq_gt; (exact rfl); (exact rfl); exact t_a) | (apply aw_ct; (exact rfl); exact t_a)) | (first | (refine ah_is ?_; (fail_if_success first | refine ah_glit (b := true) rfl rfl rfl (by with_reducible rfl) ?_ | refine ah_glit (b := false) rfl rfl rfl (by with_reducible rfl) ?_); apply ah_gf; (exact rfl); (exact rfl); (exact rfl); exact f_a) | ((refine ao_is ?_; (fail_if_success first | refine ao_glit (b := true) rfl rfl (by with_reducible rfl) ?_ | refine ao_glit (b := false) rfl rfl (by with_reducible rfl) ?_)); apply ao_gf; (exact rfl); (exact rfl); exact f_a) | ((refine aq_is ?_; (fail_if_success first | refine aq_glit (b := true) rfl rfl (by with_reducible rfl) ?_ | refine aq_glit (b := false) rfl rfl (by with_reducible rfl) ?_)); apply aq_gf; (exact rfl); (exact rfl); exact f_a) | (apply aw_cf; (exact rfl); exact f_a)) | refine at_normal ?_ | refine at_exit ?_ | refine at_ret ?_ | refine ib_normal ?_ | refine ib_exit ?_ | refine ib_other ?_ | refine ib_ret ?_ | refine lq_exit ?_ | refine lq_ret ?_ | refine ci_ret ?_ | refine ci_exit ?_ | refine r1_ret rfl ?_ | refine r1_normal rfl ?_ | refine r2_ret rfl rfl ?_ | refine r2_normal rfl rfl ?_ | refine r3_ret rfl rfl rfl ?_ | refine r3_normal rfl rfl rfl ?_ | refine ng_normal ?_ | refine ng_exit ?_ | refine ng_ret ?_ | (apply rt_ret; (exact rfl); (exact rfl); (exact rfl); exact has_a; exact has_a; (exact rfl); (exact rfl)) | (apply rc1_ret; (exact rfl); exact has_a; (exact rfl)) | (apply rc2_ret; (exact rfl); exact has_a; (exact rfl); (exact rfl)) | (refine ao_is ?_; (fail_if_success first | refine ao_glit (b := true) rfl rfl (by with_reducible rfl) ?_ | refine ao_glit (b := false) rfl rfl (by with_reducible rfl) ?_); refine ao_gbool rfl rfl (fun _ => ?_) (fun _ => ?_)) | (refine aq_is ?_; (fail_if_success first | refine aq_glit (b := true) rfl rfl (by with_reducible rfl) ?_ | refine aq_glit (b := false) rfl rfl (by with_reducible rfl) ?_); refine aq_gbool rfl rfl (fun _ => ?_) (fun _ => ?_)) | (refine aw_is ?_; refine aw_cond rfl (fun _ => ?_) (fun _ => ?_)))
    exact ⟨lr ++ (SB g mo (.slice xv (n + 1) yv) :: R), _, hsub_a, List.perm_middle, _, lr, rfl, rfl, hr⟩

/-! The map, while it lies in the own heap. -/
theorem mapL_of {E : Env} {H R lo : Hp} {mo : Option Nat} {es : List (En Kt)} {c : Nat} (h : MapL mo es c lo) (hc : Cut H lo R) : MapOf E H encKt mo es c := by
  rcases h with ⟨rfl, h1, h2, -⟩ | ⟨b, rfl, rfl⟩
  · exact ⟨h1, h2⟩
  · have hb : Has H b (mapO encKt es c) := by
      unfold Has
      exact (List.Perm.mem_iff hc).2 (List.mem_append_left _ List.mem_cons_self)
    exact mapAt_has hb
section
variable {os : List Ob} {X : List (PO × Nat)} {co : Nat}
theorem look_h (h : LX ⟨os, [], 0⟩ X co [] 0) (ho : Own os) (hsl : ∀ x ∈ X, ∃ a c, x.1.1 = .slice a x.1.2.rs.length c) (k : Kt) : ∃ a c, ∀ {E : Env} {mo : Option Nat} {t : Tm} {H : Hp} {x y : Operand} {ty : TypeId} (ok : Bool), MapOf E H encKt mo (X.map enO) co → ev t x = some (.map mo) → ev t y = some (K3 k) →
      OpV Try.prog E (.lookup 65 x y ok) ty t H (if ok then .tuple #[OV (getB (getO os k)).1 (.slice a (getB (getO os k)).1.rs.length c), .bool (getB (getO os k)).2] else OV (getB (getO os k)).1 (.slice a (getB (getO os k)).1.rs.length c)) := by
  rcases fnd_o h ho k with ⟨h1, h2⟩ | ⟨x, hx, h1, i, h2⟩
  · replace h1 : getO os k = none := h1
    refine ⟨none, 0, ?_⟩
    intro E mo t H x y ty ok hm hx hy
    rw [h1]
    cases mo with
    | none => exact ov_mgetn (enc := encKt) (k := k) ok hx hy
    | some b => exact ov_mget0 (enc := encKt) (k := k) ok hx hy hm h2
  · replace h1 : getO os k = some x.1.2 := h1
    obtain ⟨a, c, hs⟩ := hsl x hx
    refine ⟨a, c, ?_⟩
    intro E mo t H x2 y ty ok hm hx2 hy
    rw [h1]
    rw [hs] at h2
    cases mo with
    | none => rw [hm.1] at h2; simp [fndK] at h2
    | some b => exact ov_mget (enc := encKt) (k := k) ok hx2 hy hm h2
theorem len_h (h : LX ⟨os, [], 0⟩ X co [] 0) {E : Env} {mo : Option Nat} {t : Tm} {H : Hp} {x : Operand} {ty : TypeId} (hm : MapOf E H encKt mo (X.map enO) co) (hx : ev t x = some (.map mo)) :
    OpV Try.prog E (.call ⟨.builtin .len, #[x], #[65]⟩) ty t H (I os.length) := by
  have hl : os.length = (X.map enO).length := by
    have := h.os.length_eq
    rw [List.length_map] at this
    rw [List.length_map]
    exact this.symm
  rw [hl]
  cases mo with
  | none => rw [hm.1]; exact ov_mlen0 hx
  | some b => exact ov_mlen (enc := encKt) hx hm
end
end Stm
end Go.Proofs.Ytbllkmhkpapgeaa
/- Sde: The landed store: an object put; conditions: names of at most 1,000 bytes, at most 1,000 writes. -/
namespace Go.Proofs.Ytbllkmhkpapgeaa
namespace Stm
open Go Go.RowKit Sx Lab Vec Ojt Evt Chm
attribute [local irreducible] Go.Calls

theorem po_slices {ls : Hp} {es : List PE} {X : List (PO × Nat)} (h3 : Parts KO ls (es.map (·.p))) (h7 : ∀ x ∈ X, ∃ e ∈ es, e.p = x.1) : ∀ x ∈ X, ∃ a c, x.1.1 = .slice a x.1.2.rs.length c := fun x hx => by
  obtain ⟨e, he, e1⟩ := h7 x hx
  obtain ⟨l, R, -, hk⟩ := h3.at (List.mem_map.2 ⟨e, he, rfl⟩)
  rw [← e1]
  exact hk.len
/-- The log, and the map, behind a Put. -/
theorem lst_put {lg : List Wr} {g b n : Nat} {o : Ob} {xa : Option Addr} {xc : Nat} {v : Value} {l0 ls lx : Hp} {es : List PE} {X' : List (PO × Nat)} {co' : Nat} (hwr : wrs es = lg) (hn : es.length = n) (h3 : Parts KO ls (es.map (·.p))) (h5 : ∀ e ∈ es, bareE e)
    (hx : RowB 83 2 (.slice xa o.rs.length xc) lx o.rs.length (rcells o.rs)) (h2 : RowB 50 11 v l0 (n + 1) (es.flatMap cellsE ++ [I 0, S o.k, S o.s, S o.n, I (n + 1), S o.c, .bool o.tm, .bool o.bs, .slice xa o.rs.length xc, I 0, .slice none 0 0]))
    (h6 : LX ⟨osL (lg ++ [(false, verO o (n + 1))]), [], 0⟩ X' co' [] 0) (h7 : ∀ x ∈ X', x.1 = (.slice xa o.rs.length xc, verO o (n + 1)) ∨ ∃ e ∈ es, e.p = x.1) :
    LSt (lg ++ [(false, verO o (n + 1))]) g (SB g (some b) v :: (b, mapO encKt (X'.map enO) co') :: (l0 ++ (lx ++ ls))) := by
  refine ⟨some b, X', co', [_], l0, lx ++ ls, v, es ++ [(⟨0, (.slice xa o.rs.length xc, verO o (n + 1)), 0, .slice none 0 0, []⟩ : PE)], rfl, .inr ⟨b, rfl, rfl⟩, ?_, ?_, ?_, fun e he => ?_, h6, fun x hx => ?_⟩
  · rw [List.length_append, List.flatMap_append, hn]
    exact h2
  · rw [List.map_append]
    exact h3.snoc hx
  · unfold wrs
    rw [List.map_append]
    unfold wrs at hwr
    rw [hwr]
    rfl
  · rcases List.mem_append.1 he with he | he
    · exact h5 e he
    · rw [List.mem_singleton.1 he]
      exact ⟨.inl rfl, rfl, rfl, rfl⟩
  · rcases h7 x hx with e1 | ⟨e, he, e1⟩
    · exact ⟨_, List.mem_append_right _ List.mem_cons_self, e1.symm⟩
    · exact ⟨e, List.mem_append_left _ he, e1⟩
theorem perm_put (x : Nat × Obj) (l2 l1 ls R : Hp) : (l2 ++ (l1 ++ (x :: (ls ++ R)))).Perm ((x :: (l2 ++ (l1 ++ ls))) ++ R) := by
  have e1 : l2 ++ (l1 ++ (x :: (ls ++ R))) = (l2 ++ l1) ++ x :: (ls ++ R) := by simp [List.append_assoc]
  have e2 : (x :: (l2 ++ (l1 ++ ls))) ++ R = x :: ((l2 ++ l1) ++ (ls ++ R)) := by simp [List.append_assoc]
  rw [e1, e2]
  exact List.perm_middle
set_option maxHeartbeats 64000000 in
theorem sput_ok {m : Nat} {w0 : World} {lg : List Wr} {g : Nat} {l : Hp} (h : LSt lg g l) (hf : FitL lg) (o : Ob) (x : Value) (hwo : wfS o) (ho : ResAt w0 x o.rs) (R : Hp) :
    CallsH Try.prog ⟨w0.heap.size, w0, m⟩ 21 [.pointer (some ⟨g, 0, none⟩), OV o x] (l ++ R) fun r H' => ∃ l', r = .tuple #[I (putL lg o).1, I (putL lg o).2.1] ∧ H' = l' ++ R ∧ LSt (putL lg o).2.2 g l' := by
  have hL := h
  obtain ⟨mo, X, co, lo, l0, ls, v, es, rfl, h1, h2, h3, h4, h5, h6, h7⟩ := h
  have hen : es.length = lg.length := by rw [← h4]; exact (List.length_map _).symm
  have hln := hf.len
  have hos := hf.osl
  obtain ⟨la, lc, hlk⟩ := look_h h6 hf.own (po_slices h3 h7) (keyO o)
  have hlen := fun {E : Env} {mo : Option Nat} {t : Tm} {H : Hp} {x : Operand} {ty : TypeId} hm hx => len_h h6 (E := E) (mo := mo) (t := t) (H := H) (x := x) (ty := ty) hm hx
  obtain ⟨xa, xc, rfl⟩ := ho.len
  have hrt : ∀ w', Below w0.heap.size w0 w' → Calls Try.prog 36 #[.agg #[S o.k, S o.s, S o.n, I 1, S o.c, .bool o.tm, .bool o.bs, .slice xa o.rs.length xc]] w' fun e w'' => e = .returned (.bool (rightO (verO o 1))) ∧ Below w'.heap.size w' w'' := fun w' hb => Ojt.right_ok (verO o 1) (.slice xa o.rs.length xc) (wfS.wfO (o := verO o 1) hwo) w' (ho.below hb)
  have hown : ∀ w', Below w0.heap.size w0 w' → Calls Try.prog 32 #[.agg #[S o.k, S o.s, S o.n, I 1, S o.c, .bool o.tm, .bool o.bs, .slice xa o.rs.length xc]] w' _ := fun w' hb => Ojt.own_ok (verO o 1) (.slice xa o.rs.length xc) (wfS.wfO (o := verO o 1) hwo) w' (ho.below hb)
  have hH : (SB g mo v :: (lo ++ (l0 ++ ls))) ++ R = SB g mo v :: (lo ++ (l0 ++ (ls ++ R))) := by simp [List.append_assoc]
  rw [hH]
  refine callsH2 (args := [.pointer (some ⟨g, 0, none⟩), OV o (.slice xa o.rs.length xc)]) Try.func21 rfl rfl rfl rfl ?_
  cases hr : rightO (verO o 1)
  · rw [hr] at hrt
    rw [show putL lg o = (0, 1, lg) by unfold putL; rw [if_pos hr]]
    repeat' (first | refine aw_seq ?_ | ((first | apply ao_val | apply aq_val); exact wants_a; (first | exact ov_peqs rfl rfl | exact ov_a); (exact rfl)) | refine zy ?_ | refine zon fun _ => ?_ | refine zoa fun vr lr hr => ?_ | ((first | apply ao_call | apply aq_call); exact wants_a; (first | exact oc_func rfl | exact oc_clos rfl rfl); (exact rfl); (first | exact fun w hw => hrt w hw.below)) | refine zoS (fun _ => ?_) (fun _ => ?_) | refine zqS (fun _ => ?_) (fun _ => ?_) | refine zwS (fun _ => ?_) (fun _ => ?_))
    exact ⟨_, _, List.sublist_cons_self _ _, List.Perm.refl _, _, rfl, hH.symm, hL⟩
  rw [hr] at hrt
  have hb : (getB (getO (osL lg) (keyO o))).2 = (getO (osL lg) (keyO o)).isSome := by cases getO (osL lg) (keyO o) <;> rfl
  generalize getB (getO (osL lg) (keyO o)) = ob at hlk hb
  obtain ⟨⟨k1, s1, n1, ver1, c1, tm1, bs1, rs1⟩, b1⟩ := ob
  simp only at hlk hb
  repeat' (first | (apply ao_nilh; exact hsub_a) | apply ao_nil | apply aq_nil | apply ah_end | ((first | apply ao_val | apply aq_val | (apply ah_take; (exact rfl))); exact wants_a; (first | exact ov_nilcheck rfl | exact ov_peqs rfl rfl | exact hlk true (mapL_of h1 cut_a) rfl rfl | exact hlen (mapL_of h1 cut_a) rfl | exact ov_a); (exact rfl)) | ((first | apply ao_skip | apply aq_skip | (apply ah_skip; (exact rfl))); exact nots_a; (exact rfl)) | (refine ao_is ?_; first | (apply ao_new; exact wants_a; exact on_a; (exact rfl); intro _) | (apply ao_store; exact wants_a; exact ow_a; exact upd_a) | (apply ao_valw; exact wants_a; exact ox_a; (exact rfl); exact upd_a) | (apply ao_skip0; exact nots_a) | (apply ao_append; exact wants_a; (exact rfl); assumption; (exact rfl); exact cut_a; exact has_a; (exact rfl); (exact rfl); omega; omega; omega; (exact rfl); intro vr lr hr)) | ((first | apply ao_call | apply aq_call); exact wants_a; (first | exact oc_func rfl | exact oc_clos rfl rfl); (exact rfl); (first | exact fun w hw => hrt w hw.below)) | (apply ah_one; (exact rfl)) | (apply ah_two; (exact rfl); (exact rfl)) | (apply ah_three; (exact rfl); (exact rfl); (exact rfl)) | (refine aw_is ?_; first | refine aw_cutI_at (id := 9) (fun t H => putL lg o = ((lg.length : Int) + 1, 0, lg ++ [(false, verO o (lg.length + 1))]) ∧ ∃ gx, t = [(0, .pointer (some ⟨g, 0, none⟩)), (3, .pointer (some ⟨gx, 0, none⟩))] ∧ H = (gx, .cells #[S o.k, S o.s, S o.n, I 1, S o.c, .bool o.tm, .bool o.bs, .slice xa o.rs.length xc] 38 (0, 0)) :: SB g mo v :: (lo ++ (l0 ++ (ls ++ R)))) ?_ ?_ | refine aw_cutI_at2 (id := 9) (fun t H => putL lg o = ((lg.length : Int) + 1, 0, lg ++ [(false, verO o (lg.length + 1))]) ∧ ∃ gx, t = [(0, .pointer (some ⟨g, 0, none⟩)), (3, .pointer (some ⟨gx, 0, none⟩))] ∧ H = (gx, .cells #[S o.k, S o.s, S o.n, I 1, S o.c, .bool o.tm, .bool o.bs, .slice xa o.rs.length xc] 38 (0, 0)) :: SB g mo v :: (lo ++ (l0 ++ (ls ++ R)))) ?_ ?_ | (apply aw_held (id := 6) (pl := (.t 0 (.t 1 (.t 2 (.t 3 (.t 4 (.t 5 (.t 6 (.t 7 (.t 8 (.t 9 (.o 10 (.o 11 (.t 12 .e)))))))))))))); (kernel_rfl); (kernel_rfl); (kernel_rfl); (solve | (exact List.Sublist.refl _))) | refine aw_seq ?_ | refine aw_block ?_ | refine aw_region ?_ | refine aw_skip ?_ | refine aw_exit ?_ | refine aw_ret ?_ | refine aw_label ?_ | refine aw_scope ?_ | refine aw_cond_t rfl (by with_reducible rfl) ?_ | refine aw_cond_f rfl (by with_reducible rfl) ?_ | refine aw_draw (by kernel_rfl) (by kernel_rfl) ?_) | (first | (refine ah_is ?_; (fail_if_success first | refine ah_glit (b := true) rfl rfl rfl (by with_reducible rfl) ?_ | refine ah_glit (b := false) rfl rfl rfl (by with_reducible rfl) ?_); apply ah_gt; (exact rfl); (exact rfl); (exact rfl); exact t_a) | ((refine ao_is ?_; (fail_if_success first | refine ao_glit (b := true) rfl rfl (by with_reducible rfl) ?_ | refine ao_glit (b := false) rfl rfl (by with_reducible rfl) ?_)); apply ao_gt; (exact rfl); (exact rfl); exact t_a) | ((refine aq_is ?_; (fail_if_success first | refine aq_glit (b := true) rfl rfl (by with_reducible rfl) ?_ | refine aq_glit (b := false) rfl rfl (by with_reducible rfl) ?_)); apply aq_gt; (exact rfl); (exact rfl); exact t_a) | (apply aw_ct; (exact rfl); exact t_a)) | (first | (refine ah_is ?_; (fail_if_success first | refine ah_glit (b := true) rfl rfl rfl (by with_reducible rfl) ?_ | refine ah_glit (b := false) rfl rfl rfl (by with_reducible rfl) ?_); apply ah_gf; (exact rfl); (exact rfl); (exact rfl); exact f_a) | ((refine ao_is ?_; (fail_if_success first | refine ao_glit (b := true) rfl rfl (by with_reducible rfl) ?_ | refine ao_glit (b := false) rfl rfl (by with_reducible rfl) ?_)); apply ao_gf; (exact rfl); (exact rfl); exact f_a) | ((refine aq_is ?_; (fail_if_success first | refine aq_glit (b := true) rfl rfl (by with_reducible rfl) ?_ | refine aq_glit (b := false) rfl rfl (by with_reducible rfl) ?_)); apply aq_gf; (exact rfl); (exact rfl); exact f_a) | (apply aw_cf; (exact rfl); exact f_a)) | refine at_normal ?_ | refine at_exit ?_ | refine at_ret ?_ | refine ib_normal ?_ | refine ib_exit ?_ | refine ib_other ?_ | refine ib_ret ?_ | refine lq_exit ?_ | refine lq_ret ?_ | refine ci_ret ?_ | refine ci_exit ?_ | refine r1_ret rfl ?_ | refine r1_normal rfl ?_ | refine r2_ret rfl rfl ?_ | refine r2_normal rfl rfl ?_ | refine r3_ret rfl rfl rfl ?_ | refine r3_normal rfl rfl rfl ?_ | refine ng_normal ?_ | refine ng_exit ?_ | refine ng_ret ?_ | (apply rt_ret; (exact rfl); (exact rfl); (exact rfl); exact has_a; exact has_a; (exact rfl); (exact rfl)) | (apply rc1_ret; (exact rfl); exact has_a; (exact rfl)) | (apply rc2_ret; (exact rfl); exact has_a; (exact rfl); (exact rfl)))
  · cases b1
    · by_cases hfull : 1000 ≤ (osL lg).length
      · rw [show putL lg o = (0, 3, lg) by unfold putL; rw [if_neg (by rw [hr]; decide), if_pos ⟨hb.symm, hfull⟩]]
        generalize (osL lg).length = nn at hlen hfull
        repeat' (first | refine aw_seq ?_ | ((first | apply ao_val | apply aq_val); exact wants_a; (first | exact ov_nilcheck rfl | exact hlen (mapL_of h1 cut_a) rfl | exact ov_a); (exact rfl)) | refine zy ?_ | refine zon fun _ => ?_ | refine zoa fun vr lr hr => ?_ | refine zoS (fun _ => ?_) (fun _ => ?_) | refine zqS (fun _ => ?_) (fun _ => ?_) | refine zwS (fun _ => ?_) (fun _ => ?_))
        exact ⟨_, _, hsub_a, List.Perm.refl _, _, rfl, hH.symm, hL⟩
      · have hput : putL lg o = ((lg.length : Int) + 1, 0, lg ++ [(false, verO o (lg.length + 1))]) := by unfold putL; rw [if_neg (by rw [hr]; decide), if_neg fun h => hfull h.2]
        generalize (osL lg).length = nn at hlen hfull
        repeat' (first | refine aw_seq ?_ | ((first | apply ao_val | apply aq_val); exact wants_a; (first | exact ov_nilcheck rfl | exact hlen (mapL_of h1 cut_a) rfl | exact ov_a); (exact rfl)) | refine zy ?_ | refine zon fun _ => ?_ | refine zoa fun vr lr hr => ?_ | refine zoS (fun _ => ?_) (fun _ => ?_) | refine zqS (fun _ => ?_) (fun _ => ?_) | refine zwS (fun _ => ?_) (fun _ => ?_))
        exact ci_normal ⟨hput, _, rfl, rfl⟩ (by repeat (first | exact sub_nil | refine sub_cons rfl ?_)) hsub_a
    · repeat' (first | refine aw_seq ?_ | ((first | apply ao_val | apply aq_val); exact wants_a; (first | exact ov_nilcheck rfl | exact ov_a); (exact rfl)) | refine zy ?_ | refine zon fun _ => ?_ | refine zoa fun vr lr hr => ?_ | refine zoS (fun _ => ?_) (fun _ => ?_) | refine zqS (fun _ => ?_) (fun _ => ?_) | refine zwS (fun _ => ?_) (fun _ => ?_))
      exact ci_normal ⟨by unfold putL; rw [if_neg (by rw [hr]; decide), if_neg (fun h => by have := h.1; rw [← hb] at this; cases this)], _, rfl, rfl⟩ (by repeat (first | exact sub_nil | refine sub_cons rfl ?_)) hsub_a
  rintro t H ⟨hput, gx, rfl, rfl⟩
  rw [hput]
  clear hlk hlen hrt
  repeat' (first | refine aw_cutI_at (id := 11) (fun t H => ∃ gx b, t = [(0, .pointer (some ⟨g, 0, none⟩)), (3, .pointer (some ⟨gx, 0, none⟩))] ∧ H.Perm ((gx, .cells #[S o.k, S o.s, S o.n, I 1, S o.c, .bool o.tm, .bool o.bs, .slice xa o.rs.length xc] 38 (0, 0)) :: SB g (some b) v :: (b, mapO encKt (X.map enO) co) :: (l0 ++ (ls ++ R)))) ?_ ?_ | refine aw_cutI_at2 (id := 11) (fun t H => ∃ gx b, t = [(0, .pointer (some ⟨g, 0, none⟩)), (3, .pointer (some ⟨gx, 0, none⟩))] ∧ H.Perm ((gx, .cells #[S o.k, S o.s, S o.n, I 1, S o.c, .bool o.tm, .bool o.bs, .slice xa o.rs.length xc] 38 (0, 0)) :: SB g (some b) v :: (b, mapO encKt (X.map enO) co) :: (l0 ++ (ls ++ R)))) ?_ ?_ | refine aw_seq ?_ | ((first | apply ao_val | apply aq_val); exact wants_a; (first | exact ov_nilcheck rfl | exact ov_a); (exact rfl)) | refine zy ?_ | refine zon fun _ => ?_ | refine zoa fun vr lr hr => ?_)
  · rcases h1 with ⟨rfl, hX, rfl, rfl⟩ | ⟨b, rfl, rfl⟩
    · rw [hX]
      repeat' (first | refine aw_seq ?_ | ((first | apply ao_val | apply aq_val); exact wants_a; (first | exact ov_nilcheck rfl | exact ov_meq0 rfl rfl | exact ov_a); (exact rfl)) | refine zy ?_ | refine zon fun _ => ?_ | refine zoa fun vr lr hr => ?_ | (apply ao_new; exact wants_a; exact on_makeMap; exact rfl; intro bm) | refine zoS (fun _ => ?_) (fun _ => ?_) | refine zqS (fun _ => ?_) (fun _ => ?_) | refine zwS (fun _ => ?_) (fun _ => ?_))
      rename_i bm
      exact ci_normal ⟨_, bm, rfl, (List.perm_middle (l₁ := [_, _])).symm⟩ (by repeat (first | exact sub_nil | refine sub_cons rfl ?_)) (List.Sublist.refl _)
    · repeat' (first | refine aw_seq ?_ | ((first | apply ao_val | apply aq_val); exact wants_a; (first | exact ov_nilcheck rfl | exact ov_meqs rfl rfl | exact ov_a); (exact rfl)) | refine zy ?_ | refine zon fun _ => ?_ | refine zoa fun vr lr hr => ?_ | refine zoS (fun _ => ?_) (fun _ => ?_) | refine zqS (fun _ => ?_) (fun _ => ?_) | refine zwS (fun _ => ?_) (fun _ => ?_))
      exact ci_normal ⟨_, b, rfl, List.Perm.refl _⟩ (by repeat (first | exact sub_nil | refine sub_cons rfl ?_)) (List.Sublist.refl _)
  rintro t H ⟨gx, b, rfl, hp⟩
  refine aw_permH hp ?_
  clear hp
  rw [hen] at h2
  repeat' (first | refine aw_seq ?_ | ((first | apply ao_val | apply aq_val); exact wants_a; (first | exact ov_nilcheck rfl | exact ov_a); (exact rfl)) | refine zy ?_ | refine zon fun _ => ?_ | refine zoa fun vr lr hr => ?_ | (apply ao_callrg; exact wants_a; (exact oc_func rfl); (exact rfl); (first | exact fun w hw => hown w hw.below); intro vr lr hr) | refine zoS (fun _ => ?_) (fun _ => ?_) | refine zqS (fun _ => ?_) (fun _ => ?_) | refine zwS (fun _ => ?_) (fun _ => ?_))
  revert vr lr hr
  intro v1 l1 r1
  obtain ⟨a1, c1, rfl⟩ := r1.len
  have hwt := fun {m : Nat} R => write_ok (m := m) (w0 := w0) (g := g) (mo := some b) h2 hln 0 ⟨o.k, o.s, o.n, 1, o.c, o.tm, o.bs, o.rs⟩ a1 o.rs.length c1 R
  unfold verO at hwt
  simp only at hwt
  obtain ⟨X', co', q1, q2, q3⟩ := h6.put hf.own (.slice a1 o.rs.length c1, verO o (lg.length + 1))
  repeat' (first | (apply ao_nilh; exact hsub_a) | apply ao_nil | apply aq_nil | apply ah_end | ((first | apply ao_val | apply aq_val | (apply ah_take; (exact rfl))); exact wants_a; exact ov_a; (exact rfl)) | ((first | apply ao_skip | apply aq_skip | (apply ah_skip; (exact rfl))); exact nots_a; (exact rfl)) | (refine ao_is ?_; first | (apply ao_new; exact wants_a; exact on_a; (exact rfl); intro _) | (apply ao_store; exact wants_a; exact ow_a; exact upd_a) | (apply ao_valw; exact wants_a; exact ox_a; (exact rfl); exact upd_a) | (apply ao_skip0; exact nots_a) | (apply ao_append; exact wants_a; (exact rfl); assumption; (exact rfl); exact cut_a; exact has_a; (exact rfl); (exact rfl); omega; omega; omega; (exact rfl); intro vr lr hr)) | ((apply ao_callH (l := [SB g (some b) v] ++ l0); exact wants_a; (exact oc_func rfl); (exact rfl); (exact cut_app cut_a cut_a); (rw [List.append_assoc]; exact hwt _); rintro _ _ ⟨v2, l2, rfl, rfl, hr2⟩)) | (apply ah_one; (exact rfl)) | (apply ah_two; (exact rfl); (exact rfl)) | (apply ah_three; (exact rfl); (exact rfl); (exact rfl)) | (refine aw_is ?_; first | (apply aw_held (id := 12) (pl := (.t 0 (.t 1 (.t 2 (.t 3 (.t 4 (.t 5 (.t 6 (.o 7 .e))))))))); (kernel_rfl); (kernel_rfl); (kernel_rfl); (solve | (apply hs_keep; apply hs_app0; apply hs_app0; apply hs_keep; apply hs_skip; exact List.Sublist.refl _))) | refine aw_seq ?_ | refine aw_block ?_ | refine aw_region ?_ | refine aw_skip ?_ | refine aw_exit ?_ | refine aw_ret ?_ | refine aw_label ?_ | refine aw_scope ?_ | refine aw_cond_t rfl (by with_reducible rfl) ?_ | refine aw_cond_f rfl (by with_reducible rfl) ?_ | refine aw_draw (by kernel_rfl) (by kernel_rfl) ?_) | (first | (refine ah_is ?_; (fail_if_success first | refine ah_glit (b := true) rfl rfl rfl (by with_reducible rfl) ?_ | refine ah_glit (b := false) rfl rfl rfl (by with_reducible rfl) ?_); apply ah_gt; (exact rfl); (exact rfl); (exact rfl); exact t_a) | ((refine ao_is ?_; (fail_if_success first | refine ao_glit (b := true) rfl rfl (by with_reducible rfl) ?_ | refine ao_glit (b := false) rfl rfl (by with_reducible rfl) ?_)); apply ao_gt; (exact rfl); (exact rfl); exact t_a) | ((refine aq_is ?_; (fail_if_success first | refine aq_glit (b := true) rfl rfl (by with_reducible rfl) ?_ | refine aq_glit (b := false) rfl rfl (by with_reducible rfl) ?_)); apply aq_gt; (exact rfl); (exact rfl); exact t_a) | (apply aw_ct; (exact rfl); exact t_a)) | (first | (refine ah_is ?_; (fail_if_success first | refine ah_glit (b := true) rfl rfl rfl (by with_reducible rfl) ?_ | refine ah_glit (b := false) rfl rfl rfl (by with_reducible rfl) ?_); apply ah_gf; (exact rfl); (exact rfl); (exact rfl); exact f_a) | ((refine ao_is ?_; (fail_if_success first | refine ao_glit (b := true) rfl rfl (by with_reducible rfl) ?_ | refine ao_glit (b := false) rfl rfl (by with_reducible rfl) ?_)); apply ao_gf; (exact rfl); (exact rfl); exact f_a) | ((refine aq_is ?_; (fail_if_success first | refine aq_glit (b := true) rfl rfl (by with_reducible rfl) ?_ | refine aq_glit (b := false) rfl rfl (by with_reducible rfl) ?_)); apply aq_gf; (exact rfl); (exact rfl); exact f_a) | (apply aw_cf; (exact rfl); exact f_a)) | refine at_normal ?_ | refine at_exit ?_ | refine at_ret ?_ | refine ib_normal ?_ | refine ib_exit ?_ | refine ib_other ?_ | refine ib_ret ?_ | refine lq_exit ?_ | refine lq_ret ?_ | refine ci_ret ?_ | refine ci_exit ?_ | refine r1_ret rfl ?_ | refine r1_normal rfl ?_ | refine r2_ret rfl rfl ?_ | refine r2_normal rfl rfl ?_ | refine r3_ret rfl rfl rfl ?_ | refine r3_normal rfl rfl rfl ?_ | refine ng_normal ?_ | refine ng_exit ?_ | refine ng_ret ?_ | (apply rt_ret; (exact rfl); (exact rfl); (exact rfl); exact has_a; exact has_a; (exact rfl); (exact rfl)) | (apply rc1_ret; (exact rfl); exact has_a; (exact rfl)) | (apply rc2_ret; (exact rfl); exact has_a; (exact rfl); (exact rfl)) | (refine ao_is ?_; (fail_if_success first | refine ao_glit (b := true) rfl rfl (by with_reducible rfl) ?_ | refine ao_glit (b := false) rfl rfl (by with_reducible rfl) ?_); refine ao_gbool rfl rfl (fun _ => ?_) (fun _ => ?_)) | (refine aq_is ?_; (fail_if_success first | refine aq_glit (b := true) rfl rfl (by with_reducible rfl) ?_ | refine aq_glit (b := false) rfl rfl (by with_reducible rfl) ?_); refine aq_gbool rfl rfl (fun _ => ?_) (fun _ => ?_)) | (refine aw_is ?_; refine aw_cond rfl (fun _ => ?_) (fun _ => ?_)))
  repeat' (first | (apply ao_nilh; exact hsub_a) | apply ao_nil | apply aq_nil | apply ah_end | ((first | apply ao_val | apply aq_val | (apply ah_take; (exact rfl))); exact wants_a; (first | exact ov_nilcheck rfl | exact ov_a); (exact rfl)) | ((first | apply ao_skip | apply aq_skip | (apply ah_skip; (exact rfl))); exact nots_a; (exact rfl)) | (refine ao_is ?_; first | (apply ao_new; exact wants_a; exact on_a; (exact rfl); intro _) | (apply ao_store; exact wants_a; exact ow_a; exact upd_a) | (apply ao_valw; exact wants_a; exact ox_a; (exact rfl); exact upd_a) | (apply ao_skip0; exact nots_a) | (apply ao_append; exact wants_a; (exact rfl); assumption; (exact rfl); exact cut_a; exact has_a; (exact rfl); (exact rfl); omega; omega; omega; (exact rfl); intro vr lr hr)) | ((apply ao_store; exact wants_a; (exact q2 rfl rfl rfl (mapAt_has has_a)); exact upd_a)) | (apply ah_one; (exact rfl)) | (apply ah_two; (exact rfl); (exact rfl)) | (apply ah_three; (exact rfl); (exact rfl); (exact rfl)) | (refine aw_is ?_; first | (apply aw_held (id := 12) (pl := (.t 0 (.t 1 (.t 2 (.t 3 (.t 4 (.t 5 (.t 6 (.o 7 .e))))))))); (kernel_rfl); (kernel_rfl); (kernel_rfl); (solve | (apply hs_keep; apply hs_app0; apply hs_app0; apply hs_keep; apply hs_skip; exact List.Sublist.refl _))) | refine aw_seq ?_ | refine aw_block ?_ | refine aw_region ?_ | refine aw_skip ?_ | refine aw_exit ?_ | refine aw_ret ?_ | refine aw_label ?_ | refine aw_scope ?_ | refine aw_cond_t rfl (by with_reducible rfl) ?_ | refine aw_cond_f rfl (by with_reducible rfl) ?_ | refine aw_draw (by kernel_rfl) (by kernel_rfl) ?_) | (first | (refine ah_is ?_; (fail_if_success first | refine ah_glit (b := true) rfl rfl rfl (by with_reducible rfl) ?_ | refine ah_glit (b := false) rfl rfl rfl (by with_reducible rfl) ?_); apply ah_gt; (exact rfl); (exact rfl); (exact rfl); exact t_a) | ((refine ao_is ?_; (fail_if_success first | refine ao_glit (b := true) rfl rfl (by with_reducible rfl) ?_ | refine ao_glit (b := false) rfl rfl (by with_reducible rfl) ?_)); apply ao_gt; (exact rfl); (exact rfl); exact t_a) | ((refine aq_is ?_; (fail_if_success first | refine aq_glit (b := true) rfl rfl (by with_reducible rfl) ?_ | refine aq_glit (b := false) rfl rfl (by with_reducible rfl) ?_)); apply aq_gt; (exact rfl); (exact rfl); exact t_a) | (apply aw_ct; (exact rfl); exact t_a)) | (first | (refine ah_is ?_; (fail_if_success first | refine ah_glit (b := true) rfl rfl rfl (by with_reducible rfl) ?_ | refine ah_glit (b := false) rfl rfl rfl (by with_reducible rfl) ?_); apply ah_gf; (exact rfl); (exact rfl); (exact rfl); exact f_a) | ((refine ao_is ?_; (fail_if_success first | refine ao_glit (b := true) rfl rfl (by with_reducible rfl) ?_ | refine ao_glit (b := false) rfl rfl (by with_reducible rfl) ?_)); apply ao_gf; (exact rfl); (exact rfl); exact f_a) | ((refine aq_is ?_; (fail_if_success first | refine aq_glit (b := true) rfl rfl (by with_reducible rfl) ?_ | refine aq_glit (b := false) rfl rfl (by with_reducible rfl) ?_)); apply aq_gf; (exact rfl); (exact rfl); exact f_a) | (apply aw_cf; (exact rfl); exact f_a)) | refine at_normal ?_ | refine at_exit ?_ | refine at_ret ?_ | refine ib_normal ?_ | refine ib_exit ?_ | refine ib_other ?_ | refine ib_ret ?_ | refine lq_exit ?_ | refine lq_ret ?_ | refine ci_ret ?_ | refine ci_exit ?_ | refine r1_ret rfl ?_ | refine r1_normal rfl ?_ | refine r2_ret rfl rfl ?_ | refine r2_normal rfl rfl ?_ | refine r3_ret rfl rfl rfl ?_ | refine r3_normal rfl rfl rfl ?_ | refine ng_normal ?_ | refine ng_exit ?_ | refine ng_ret ?_ | (apply rt_ret; (exact rfl); (exact rfl); (exact rfl); exact has_a; exact has_a; (exact rfl); (exact rfl)) | (apply rc1_ret; (exact rfl); exact has_a; (exact rfl)) | (apply rc2_ret; (exact rfl); exact has_a; (exact rfl); (exact rfl)) | (refine ao_is ?_; (fail_if_success first | refine ao_glit (b := true) rfl rfl (by with_reducible rfl) ?_ | refine ao_glit (b := false) rfl rfl (by with_reducible rfl) ?_); refine ao_gbool rfl rfl (fun _ => ?_) (fun _ => ?_)) | (refine aq_is ?_; (fail_if_success first | refine aq_glit (b := true) rfl rfl (by with_reducible rfl) ?_ | refine aq_glit (b := false) rfl rfl (by with_reducible rfl) ?_); refine aq_gbool rfl rfl (fun _ => ?_) (fun _ => ?_)) | (refine aw_is ?_; refine aw_cond rfl (fun _ => ?_) (fun _ => ?_)))
  obtain ⟨Z', hZ⟩ := q3 []
  have hlx : LX ⟨osL (lg ++ [(false, verO o (lg.length + 1))]), [], 0⟩ X' co' [] 0 := by
    rw [osL_snoc, if_neg (by simp)]
    exact ⟨q1.os.trans (sort_perm _).symm, q1.gs, q1.bo, q1.lo, q1.bg, q1.lg, q1.up⟩
  refine ⟨SB g (some b) v2 :: (l2 ++ (l1 ++ ((b, mapO encKt (X'.map enO) co') :: (ls ++ R)))), _, hsub_a, List.Perm.cons _ (perm_put _ l2 l1 ls R), SB g (some b) v2 :: (b, mapO encKt (X'.map enO) co') :: (l2 ++ (l1 ++ ls)), rfl, rfl, lst_put h4 hen h3 h5 r1 hr2 hlx fun x hx => ?_⟩
  have hm := hZ.mem_iff.2 (List.mem_append_left _ (List.mem_map.2 ⟨x, hx, rfl⟩))
  rw [List.append_nil] at hm
  rcases List.mem_cons.1 hm with e1 | hm
  · exact .inl e1
  · obtain ⟨y, hy, e1⟩ := List.mem_map.1 hm
    rw [← e1]
    exact .inr (h7 y hy)
end Stm
end Go.Proofs.Ytbllkmhkpapgeaa
/- Sdf: The landed store: a key's object gone; conditions: names of at most 1,000 bytes, at most 1,000 writes. -/
namespace Go.Proofs.Ytbllkmhkpapgeaa
namespace Stm
open Go Go.RowKit Sx Lab Vec Ojt Evt Chm
attribute [local irreducible] Go.Calls

theorem perm_del (x : Nat × Obj) (l2 ls R : Hp) : (l2 ++ (x :: (ls ++ R))).Perm ((x :: (l2 ++ ls)) ++ R) := by
  have e2 : (x :: (l2 ++ ls)) ++ R = x :: (l2 ++ (ls ++ R)) := by simp [List.append_assoc]
  rw [e2]
  exact List.perm_middle
/-- The log, and the map, behind a Delete. -/
theorem lst_del {lg : List Wr} {g b n : Nat} {k : Kt} {v : Value} {l0 ls : Hp} {es : List PE} {X' : List (PO × Nat)} {co' : Nat} (hwr : wrs es = lg) (hn : es.length = n) (h3 : Parts KO ls (es.map (·.p))) (h5 : ∀ e ∈ es, bareE e)
    (h2 : RowB 50 11 v l0 (n + 1) (es.flatMap cellsE ++ [I 1, S k.1, S k.2.1, S k.2.2, I (n + 1), S [], .bool false, .bool false, .slice none 0 0, I 0, .slice none 0 0]))
    (h6 : LX ⟨osL (lg ++ [(true, graveO k (n + 1))]), [], 0⟩ X' co' [] 0) (h7 : ∀ x ∈ X', ∃ e ∈ es, e.p = x.1) :
    LSt (lg ++ [(true, graveO k (n + 1))]) g (SB g (some b) v :: (b, mapO encKt (X'.map enO) co') :: (l0 ++ ls)) := by
  refine ⟨some b, X', co', [_], l0, ls, v, es ++ [(⟨1, (.slice none 0 0, graveO k (n + 1)), 0, .slice none 0 0, []⟩ : PE)], rfl, .inr ⟨b, rfl, rfl⟩, ?_, ?_, ?_, fun e he => ?_, h6, fun x hx => ?_⟩
  · rw [List.length_append, List.flatMap_append, hn]
    exact h2
  · rw [List.map_append]
    have := h3.snoc (p := ((.slice none 0 0 : Value), graveO k (n + 1))) (l := []) RowB.nil
    exact this
  · unfold wrs
    rw [List.map_append]
    unfold wrs at hwr
    rw [hwr]
    rfl
  · rcases List.mem_append.1 he with he | he
    · exact h5 e he
    · rw [List.mem_singleton.1 he]
      exact ⟨.inr rfl, rfl, rfl, rfl⟩
  · obtain ⟨e, he, e1⟩ := h7 x hx
    exact ⟨e, List.mem_append_left _ he, e1⟩
set_option maxHeartbeats 64000000 in
theorem sdel_ok {m : Nat} {w0 : World} {lg : List Wr} {g : Nat} {l : Hp} (h : LSt lg g l) (hf : FitL lg) (k : Kt) (_hk : k.1.length ≤ 1000 ∧ k.2.1.length ≤ 1000 ∧ k.2.2.length ≤ 1000) (R : Hp) :
    CallsH Try.prog ⟨w0.heap.size, w0, m⟩ 22 [.pointer (some ⟨g, 0, none⟩), K3 k] (l ++ R) fun r H' => ∃ l', r = .tuple #[I (delL lg k).1, I (delL lg k).2.1] ∧ H' = l' ++ R ∧ LSt (delL lg k).2.2 g l' := by
  have hL := h
  obtain ⟨mo, X, co, lo, l0, ls, v, es, rfl, h1, h2, h3, h4, h5, h6, h7⟩ := h
  have hen : es.length = lg.length := by rw [← h4]; exact (List.length_map _).symm
  have hln := hf.len
  obtain ⟨la, lc, hlk⟩ := look_h h6 hf.own (po_slices h3 h7) k
  have hrt := fun w' => Lab.key_ok k.1 k.2.1 k.2.2 w'
  have hH : (SB g mo v :: (lo ++ (l0 ++ ls))) ++ R = SB g mo v :: (lo ++ (l0 ++ (ls ++ R))) := by simp [List.append_assoc]
  rw [hH]
  refine callsH2 (args := [.pointer (some ⟨g, 0, none⟩), K3 k]) Try.func22 rfl rfl rfl rfl ?_
  cases hr : keyB k.1 k.2.1 k.2.2
  · rw [hr] at hrt
    rw [show delL lg k = (0, 1, lg) by unfold delL keyR; rw [if_pos hr]]
    repeat' (first | refine aw_seq ?_ | ((first | apply ao_val | apply aq_val); exact wants_a; (first | exact ov_peqs rfl rfl | exact ov_a); (exact rfl)) | refine zy ?_ | refine zon fun _ => ?_ | refine zoa fun vr lr hr => ?_ | ((first | apply ao_call | apply aq_call); exact wants_a; (first | exact oc_func rfl | exact oc_clos rfl rfl); (exact rfl); (first | exact fun w hw => hrt w)) | refine zoS (fun _ => ?_) (fun _ => ?_) | refine zqS (fun _ => ?_) (fun _ => ?_) | refine zwS (fun _ => ?_) (fun _ => ?_))
    exact ⟨_, _, List.sublist_cons_self _ _, List.Perm.refl _, _, rfl, hH.symm, hL⟩
  rw [hr] at hrt
  have hb : (getB (getO (osL lg) k)).2 = (getO (osL lg) k).isSome := by cases getO (osL lg) k <;> rfl
  generalize getB (getO (osL lg) k) = ob at hlk hb
  obtain ⟨⟨k1, s1, n1, ver1, c1, tm1, bs1, rs1⟩, b1⟩ := ob
  simp only at hlk hb
  cases b1
  · rw [show delL lg k = (0, 4, lg) by unfold delL keyR; rw [if_neg (by rw [hr]; decide), if_pos hb.symm]]
    repeat' (first | (apply ao_nilh; exact hsub_a) | apply ao_nil | apply aq_nil | apply ah_end | ((first | apply ao_val | apply aq_val | (apply ah_take; (exact rfl))); exact wants_a; (first | exact ov_nilcheck rfl | exact ov_peqs rfl rfl | exact hlk true (mapL_of h1 cut_a) rfl rfl | exact ov_a); (exact rfl)) | ((first | apply ao_skip | apply aq_skip | (apply ah_skip; (exact rfl))); exact nots_a; (exact rfl)) | (refine ao_is ?_; first | (apply ao_new; exact wants_a; exact on_a; (exact rfl); intro _) | (apply ao_store; exact wants_a; exact ow_a; exact upd_a) | (apply ao_valw; exact wants_a; exact ox_a; (exact rfl); exact upd_a) | (apply ao_skip0; exact nots_a) | (apply ao_append; exact wants_a; (exact rfl); assumption; (exact rfl); exact cut_a; exact has_a; (exact rfl); (exact rfl); omega; omega; omega; (exact rfl); intro vr lr hr)) | ((first | apply ao_call | apply aq_call); exact wants_a; (first | exact oc_func rfl | exact oc_clos rfl rfl); (exact rfl); (first | exact fun w hw => hrt w)) | (apply ah_one; (exact rfl)) | (apply ah_two; (exact rfl); (exact rfl)) | (apply ah_three; (exact rfl); (exact rfl); (exact rfl)) | (refine aw_is ?_; first | (apply aw_held (id := 3) (pl := (.t 0 (.t 1 (.t 2 (.t 3 (.t 4 (.t 5 (.t 6 (.t 7 (.t 8 (.o 9 (.o 10 (.t 11 .e))))))))))))); (kernel_rfl); (kernel_rfl); (kernel_rfl); (solve | (exact List.Sublist.refl _))) | refine aw_seq ?_ | refine aw_block ?_ | refine aw_region ?_ | refine aw_skip ?_ | refine aw_exit ?_ | refine aw_ret ?_ | refine aw_label ?_ | refine aw_scope ?_ | refine aw_cond_t rfl (by with_reducible rfl) ?_ | refine aw_cond_f rfl (by with_reducible rfl) ?_ | refine aw_draw (by kernel_rfl) (by kernel_rfl) ?_) | (first | (refine ah_is ?_; (fail_if_success first | refine ah_glit (b := true) rfl rfl rfl (by with_reducible rfl) ?_ | refine ah_glit (b := false) rfl rfl rfl (by with_reducible rfl) ?_); apply ah_gt; (exact rfl); (exact rfl); (exact rfl); exact t_a) | ((refine ao_is ?_; (fail_if_success first | refine ao_glit (b := true) rfl rfl (by with_reducible rfl) ?_ | refine ao_glit (b := false) rfl rfl (by with_reducible rfl) ?_)); apply ao_gt; (exact rfl); (exact rfl); exact t_a) | ((refine aq_is ?_; (fail_if_success first | refine aq_glit (b := true) rfl rfl (by with_reducible rfl) ?_ | refine aq_glit (b := false) rfl rfl (by with_reducible rfl) ?_)); apply aq_gt; (exact rfl); (exact rfl); exact t_a) | (apply aw_ct; (exact rfl); exact t_a)) | (first | (refine ah_is ?_; (fail_if_success first | refine ah_glit (b := true) rfl rfl rfl (by with_reducible rfl) ?_ | refine ah_glit (b := false) rfl rfl rfl (by with_reducible rfl) ?_); apply ah_gf; (exact rfl); (exact rfl); (exact rfl); exact f_a) | ((refine ao_is ?_; (fail_if_success first | refine ao_glit (b := true) rfl rfl (by with_reducible rfl) ?_ | refine ao_glit (b := false) rfl rfl (by with_reducible rfl) ?_)); apply ao_gf; (exact rfl); (exact rfl); exact f_a) | ((refine aq_is ?_; (fail_if_success first | refine aq_glit (b := true) rfl rfl (by with_reducible rfl) ?_ | refine aq_glit (b := false) rfl rfl (by with_reducible rfl) ?_)); apply aq_gf; (exact rfl); (exact rfl); exact f_a) | (apply aw_cf; (exact rfl); exact f_a)) | refine at_normal ?_ | refine at_exit ?_ | refine at_ret ?_ | refine ib_normal ?_ | refine ib_exit ?_ | refine ib_other ?_ | refine ib_ret ?_ | refine lq_exit ?_ | refine lq_ret ?_ | refine ci_ret ?_ | refine ci_exit ?_ | refine r1_ret rfl ?_ | refine r1_normal rfl ?_ | refine r2_ret rfl rfl ?_ | refine r2_normal rfl rfl ?_ | refine r3_ret rfl rfl rfl ?_ | refine r3_normal rfl rfl rfl ?_ | refine ng_normal ?_ | refine ng_exit ?_ | refine ng_ret ?_ | (apply rt_ret; (exact rfl); (exact rfl); (exact rfl); exact has_a; exact has_a; (exact rfl); (exact rfl)) | (apply rc1_ret; (exact rfl); exact has_a; (exact rfl)) | (apply rc2_ret; (exact rfl); exact has_a; (exact rfl); (exact rfl)) | (refine ao_is ?_; (fail_if_success first | refine ao_glit (b := true) rfl rfl (by with_reducible rfl) ?_ | refine ao_glit (b := false) rfl rfl (by with_reducible rfl) ?_); refine ao_gbool rfl rfl (fun _ => ?_) (fun _ => ?_)) | (refine aq_is ?_; (fail_if_success first | refine aq_glit (b := true) rfl rfl (by with_reducible rfl) ?_ | refine aq_glit (b := false) rfl rfl (by with_reducible rfl) ?_); refine aq_gbool rfl rfl (fun _ => ?_) (fun _ => ?_)) | (refine aw_is ?_; refine aw_cond rfl (fun _ => ?_) (fun _ => ?_)))
    exact ⟨_, _, hsub_a, List.Perm.refl _, _, rfl, hH.symm, hL⟩
  rw [show delL lg k = ((lg.length : Int) + 1, 0, lg ++ [(true, graveO k (lg.length + 1))]) by unfold delL keyR; rw [if_neg (by rw [hr]; decide), if_neg (fun h => by rw [← hb] at h; cases h)]]
  rcases h1 with ⟨rfl, hX, rfl, rfl⟩ | ⟨b, rfl, rfl⟩
  · obtain rfl := List.map_eq_nil_iff.1 hX
    have : osL lg = [] := List.eq_nil_of_length_eq_zero h6.os.length_eq.symm
    rw [this] at hb
    cases hb
  have hmb : MapL (some b) (X.map enO) co [(b, mapO encKt (X.map enO) co)] := .inr ⟨b, rfl, rfl⟩
  rw [hen] at h2
  obtain ⟨q1, q2, q3⟩ := h6.del hf.own k
  have hwt := fun {m : Nat} R => write_ok (m := m) (w0 := w0) (g := g) (mo := some b) h2 hln 1 ⟨k.1, k.2.1, k.2.2, 0, [], false, false, []⟩ none 0 0 R
  unfold verO at hwt
  simp only at hwt
  repeat' (first | (apply ao_nilh; exact hsub_a) | apply ao_nil | apply aq_nil | apply ah_end | ((first | apply ao_val | apply aq_val | (apply ah_take; (exact rfl))); exact wants_a; (first | exact ov_nilcheck rfl | exact ov_peqs rfl rfl | exact hlk true (mapL_of hmb cut_a) rfl rfl | exact ov_a); (exact rfl)) | ((first | apply ao_skip | apply aq_skip | (apply ah_skip; (exact rfl))); exact nots_a; (exact rfl)) | (refine ao_is ?_; first | (apply ao_new; exact wants_a; exact on_a; (exact rfl); intro _) | (apply ao_store; exact wants_a; exact ow_a; exact upd_a) | (apply ao_valw; exact wants_a; exact ox_a; (exact rfl); exact upd_a) | (apply ao_skip0; exact nots_a) | (apply ao_append; exact wants_a; (exact rfl); assumption; (exact rfl); exact cut_a; exact has_a; (exact rfl); (exact rfl); omega; omega; omega; (exact rfl); intro vr lr hr)) | ((first | apply ao_call | apply aq_call); exact wants_a; (first | exact oc_func rfl | exact oc_clos rfl rfl); (exact rfl); (first | exact fun w hw => hrt w)) | ((apply ao_valw0; exact wants_a; (exact q2 rfl rfl (mapAt_has has_a)); exact upd_a)) | (apply ah_one; (exact rfl)) | (apply ah_two; (exact rfl); (exact rfl)) | (apply ah_three; (exact rfl); (exact rfl); (exact rfl)) | (refine aw_is ?_; first | (apply aw_held (id := 3) (pl := (.t 0 (.t 1 (.t 2 (.t 3 (.t 4 (.t 5 (.t 6 (.t 7 (.t 8 (.o 9 (.o 10 (.t 11 .e))))))))))))); (kernel_rfl); (kernel_rfl); (kernel_rfl); (solve | (exact List.Sublist.refl _))) | (apply aw_held (id := 6) (pl := (.t 0 (.t 1 (.t 2 (.t 3 (.t 4 (.o 5 .e))))))); (kernel_rfl); (kernel_rfl); (kernel_rfl); (solve | (apply hs_keep; apply hs_keep; apply hs_keep; apply hs_skip; exact List.Sublist.refl _))) | refine aw_seq ?_ | refine aw_block ?_ | refine aw_region ?_ | refine aw_skip ?_ | refine aw_exit ?_ | refine aw_ret ?_ | refine aw_label ?_ | refine aw_scope ?_ | refine aw_cond_t rfl (by with_reducible rfl) ?_ | refine aw_cond_f rfl (by with_reducible rfl) ?_ | refine aw_draw (by kernel_rfl) (by kernel_rfl) ?_) | (first | (refine ah_is ?_; (fail_if_success first | refine ah_glit (b := true) rfl rfl rfl (by with_reducible rfl) ?_ | refine ah_glit (b := false) rfl rfl rfl (by with_reducible rfl) ?_); apply ah_gt; (exact rfl); (exact rfl); (exact rfl); exact t_a) | ((refine ao_is ?_; (fail_if_success first | refine ao_glit (b := true) rfl rfl (by with_reducible rfl) ?_ | refine ao_glit (b := false) rfl rfl (by with_reducible rfl) ?_)); apply ao_gt; (exact rfl); (exact rfl); exact t_a) | ((refine aq_is ?_; (fail_if_success first | refine aq_glit (b := true) rfl rfl (by with_reducible rfl) ?_ | refine aq_glit (b := false) rfl rfl (by with_reducible rfl) ?_)); apply aq_gt; (exact rfl); (exact rfl); exact t_a) | (apply aw_ct; (exact rfl); exact t_a)) | (first | (refine ah_is ?_; (fail_if_success first | refine ah_glit (b := true) rfl rfl rfl (by with_reducible rfl) ?_ | refine ah_glit (b := false) rfl rfl rfl (by with_reducible rfl) ?_); apply ah_gf; (exact rfl); (exact rfl); (exact rfl); exact f_a) | ((refine ao_is ?_; (fail_if_success first | refine ao_glit (b := true) rfl rfl (by with_reducible rfl) ?_ | refine ao_glit (b := false) rfl rfl (by with_reducible rfl) ?_)); apply ao_gf; (exact rfl); (exact rfl); exact f_a) | ((refine aq_is ?_; (fail_if_success first | refine aq_glit (b := true) rfl rfl (by with_reducible rfl) ?_ | refine aq_glit (b := false) rfl rfl (by with_reducible rfl) ?_)); apply aq_gf; (exact rfl); (exact rfl); exact f_a) | (apply aw_cf; (exact rfl); exact f_a)) | refine at_normal ?_ | refine at_exit ?_ | refine at_ret ?_ | refine ib_normal ?_ | refine ib_exit ?_ | refine ib_other ?_ | refine ib_ret ?_ | refine lq_exit ?_ | refine lq_ret ?_ | refine ci_ret ?_ | refine ci_exit ?_ | refine r1_ret rfl ?_ | refine r1_normal rfl ?_ | refine r2_ret rfl rfl ?_ | refine r2_normal rfl rfl ?_ | refine r3_ret rfl rfl rfl ?_ | refine r3_normal rfl rfl rfl ?_ | refine ng_normal ?_ | refine ng_exit ?_ | refine ng_ret ?_ | (apply rt_ret; (exact rfl); (exact rfl); (exact rfl); exact has_a; exact has_a; (exact rfl); (exact rfl)) | (apply rc1_ret; (exact rfl); exact has_a; (exact rfl)) | (apply rc2_ret; (exact rfl); exact has_a; (exact rfl); (exact rfl)) | (refine ao_is ?_; (fail_if_success first | refine ao_glit (b := true) rfl rfl (by with_reducible rfl) ?_ | refine ao_glit (b := false) rfl rfl (by with_reducible rfl) ?_); refine ao_gbool rfl rfl (fun _ => ?_) (fun _ => ?_)) | (refine aq_is ?_; (fail_if_success first | refine aq_glit (b := true) rfl rfl (by with_reducible rfl) ?_ | refine aq_glit (b := false) rfl rfl (by with_reducible rfl) ?_); refine aq_gbool rfl rfl (fun _ => ?_) (fun _ => ?_)) | (refine aw_is ?_; refine aw_cond rfl (fun _ => ?_) (fun _ => ?_)))
  repeat' (first | refine aw_seq ?_ | refine zz ?_ | refine zon fun _ => ?_ | refine zoa fun vr lr hr => ?_ | ((apply ao_callH (l := [SB g (some b) v] ++ l0); exact wants_a; (exact oc_func rfl); (exact rfl); (exact cut_app cut_a cut_a); (rw [List.append_assoc]; exact hwt _); rintro _ _ ⟨v2, l2, rfl, rfl, hr2⟩)) | refine zoS (fun _ => ?_) (fun _ => ?_) | refine zqS (fun _ => ?_) (fun _ => ?_) | refine zwS (fun _ => ?_) (fun _ => ?_))
  have hlx : LX ⟨osL (lg ++ [(true, graveO k (lg.length + 1))]), [], 0⟩ (delX k X) co [] 0 := by
    rw [osL_snoc, if_pos rfl]
    exact q1
  exact ⟨SB g (some b) v2 :: (l2 ++ ((b, mapO encKt ((delX k X).map enO) co) :: (ls ++ R))), _, hsub_a, List.Perm.cons _ (perm_del _ l2 ls R), SB g (some b) v2 :: (b, mapO encKt ((delX k X).map enO) co) :: (l2 ++ ls), rfl, rfl, lst_del h4 hen h3 h5 hr2 hlx fun x hx => h7 x ((delX_sub X).subset hx)⟩
end Stm
end Go.Proofs.Ytbllkmhkpapgeaa
/- Sth: The contracts of the landed store, in the walks' forms; the live question of layer 9; conditions: names of at most 1,000 bytes, at most 1,000 writes. -/
namespace Go.Proofs.Ytbllkmhkpapgeaa
namespace Stm
open Go Go.RowKit Sx Lab Vec Ojt Evt Chm
attribute [local irreducible] Go.Calls

theorem sget_ok {lg : List Wr} {g : Nat} {l : Hp} (h : LSt lg g l) (hf : FitL lg) (k : Kt) (w : World) (hl : Lies w l) :
    Calls Try.prog 12 #[.pointer (some ⟨g, 0, none⟩), K3 k] w fun e w' => ∃ r, e = .returned (.tuple #[OV (getB (getO (osL lg) k)).1 r, .bool (getB (getO (osL lg) k)).2]) ∧ NewRow 83 2 w w' r (getB (getO (osL lg) k)).1.rs.length (rcells (getB (getO (osL lg) k)).1.rs) := by
  obtain ⟨mo, X, co, v, es, hS⟩ := lst_lies h hl
  exact gets9_ok hS hf k
theorem sver_ok {lg : List Wr} {g : Nat} {l : Hp} (h : LSt lg g l) (_hf : FitL lg) (w : World) (hl : Lies w l) : Calls Try.prog 18 #[.pointer (some ⟨g, 0, none⟩)] w fun e w' => e = .returned (I lg.length) ∧ Below w.heap.size w w' := by
  obtain ⟨mo, X, co, v, es, hS⟩ := lst_lies h hl
  exact ver_ok hS
theorem slog_ok {lg : List Wr} {g : Nat} {l : Hp} (h : LSt lg g l) (hf : FitL lg) (w : World) (hl : Lies w l) : Calls Try.prog 20 #[.pointer (some ⟨g, 0, none⟩)] w fun e w' => ∃ r, e = .returned r ∧ NewD (DLog lg) w w' r := by
  obtain ⟨mo, X, co, v, es, hS⟩ := lst_lies h hl
  exact log_ok hS hf
theorem ssnap_ok {lg : List Wr} {g : Nat} {l : Hp} (h : LSt lg g l) (hf : FitL lg) (w : World) (hl : Lies w l) : Calls Try.prog 16 #[.pointer (some ⟨g, 0, none⟩)] w fun e w' => ∃ r, e = .returned r ∧ NewD (DEv 2 zO lg.length (osL lg)) w w' r := by
  obtain ⟨mo, X, co, v, es, hS⟩ := lst_lies h hl
  exact snap_ok hS hf

/-! The live question. -/
def lO : Ob := ⟨[112, 111, 100], [97], [120], -7, [104, 105, 103, 104], false, false, []⟩
/-- Three events in new memory. -/
theorem log_three {a b c : Wr} {v : Value} {l : Hp} (h : DLog [a, b, c] v l) : ∃ (ga cap : Nat) (cs : List Value) (ls : Hp), v = .slice (some ⟨ga, 0, none⟩) 3 cap ∧ l = [(ga, .cells cs.toArray 50 (0, 0))] ++ ls ∧ cs[15]? = some (I b.2.ver) ∧ cs[16]? = some (S b.2.c) ∧ (c.1 = true → cs[22]? = some (I 1)) ∧ cs[27]? = some (S c.2.c) := by
  obtain ⟨es, l0, ls, h1, h2, rfl, h3, h4⟩ := h
  obtain ⟨x, y, z, rfl, rfl, rfl, rfl⟩ : ∃ x y z, es = [x, y, z] ∧ wrE x = a ∧ wrE y = b ∧ wrE z = c := by
    match es, h1 with
    | [x, y, z], h1 =>
      have h5 : [wrE x, wrE y, wrE z] = [a, b, c] := h1
      simp only [List.cons.injEq, and_true] at h5
      exact ⟨x, y, z, rfl, h5.1, h5.2.1, h5.2.2⟩
  obtain ⟨ga, cap, cs, rfl, rfl, hc⟩ := RowB.cells_all cellsE_len h3 (by simp)
  refine ⟨ga, cap, cs, ls, rfl, rfl, ?_, ?_, fun h => ?_, ?_⟩
  · exact hc 1 y (1 : Nat) 4 _ rfl rfl rfl
  · exact hc 1 y (1 : Nat) 5 _ rfl rfl rfl
  · have h5 : decide (z.kind = 1) = true := h
    rw [decide_eq_true_eq] at h5
    have := hc 2 z (2 : Nat) 0 _ rfl rfl rfl
    rw [h5] at this
    exact this
  · exact hc 2 z (2 : Nat) 5 _ rfl rfl rfl
set_option maxRecDepth 20000 in
set_option maxHeartbeats 64000000 in
theorem salive_ok (w : World) : Calls Try.prog 7 #[] w fun e w' => e = .returned (.bool true) ∧ Below w.heap.size w w' := by
  have p1 : putL [] lO = (1, 0, [(false, verO lO 1)]) := by kernel_rfl
  have p2 : putL [(false, verO lO 1)] lO = (2, 0, [(false, verO lO 1), (false, verO lO 2)]) := by kernel_rfl
  have p3 : delL [(false, verO lO 1), (false, verO lO 2)] (keyO lO) = (3, 0, [(false, verO lO 1), (false, verO lO 2), (true, graveO (keyO lO) 3)]) := by kernel_rfl
  have p4 : delL [(false, verO lO 1), (false, verO lO 2), (true, graveO (keyO lO) 3)] (keyO lO) = (0, 4, [(false, verO lO 1), (false, verO lO 2), (true, graveO (keyO lO) 3)]) := by kernel_rfl
  have p5 : putL [(false, verO lO 1), (false, verO lO 2), (true, graveO (keyO lO) 3)] zO = (0, 1, [(false, verO lO 1), (false, verO lO 2), (true, graveO (keyO lO) 3)]) := by kernel_rfl
  have wl : wfS lO := by simp [wfS, wfR, lO]
  have wz : wfS zO := by simp [wfS, wfR]
  have f1 : FitL [(false, verO lO 1)] := by have := fit_do FitL.nil (by decide) false (o := lO) wl; rwa [show doL [] false lO = putL [] lO from rfl, p1] at this
  have f2 : FitL [(false, verO lO 1), (false, verO lO 2)] := by have := fit_do f1 (by decide) false (o := lO) wl; rwa [show doL [(false, verO lO 1)] false lO = putL [(false, verO lO 1)] lO from rfl, p2] at this
  have f3 : FitL [(false, verO lO 1), (false, verO lO 2), (true, graveO (keyO lO) 3)] := by have := fit_do f2 (by decide) true (o := lO) wl; rwa [show doL [(false, verO lO 1), (false, verO lO 2)] true lO = delL [(false, verO lO 1), (false, verO lO 2)] (keyO lO) from rfl, p3] at this
  have c1 := fun {m g : Nat} {l : Hp} h R => sput_ok (m := m) (w0 := w) (g := g) (l := l) h FitL.nil lO (.slice none 0 0) wl OldRow.nil R
  have c2 := fun {m g : Nat} {l : Hp} h R => sput_ok (m := m) (w0 := w) (g := g) (l := l) h f1 lO (.slice none 0 0) wl OldRow.nil R
  have c3 := fun {m g : Nat} {l : Hp} h R => sdel_ok (m := m) (w0 := w) (g := g) (l := l) h f2 (keyO lO) ⟨wl.1, wl.2.1, wl.2.2.1⟩ R
  have c4 := fun {m g : Nat} {l : Hp} h R => sdel_ok (m := m) (w0 := w) (g := g) (l := l) h f3 (keyO lO) ⟨wl.1, wl.2.1, wl.2.2.1⟩ R
  have c5 := fun {m g : Nat} {l : Hp} h R => sput_ok (m := m) (w0 := w) (g := g) (l := l) h f3 zO (.slice none 0 0) wz OldRow.nil R
  simp only [p1] at c1
  simp only [p2] at c2
  simp only [p3] at c3
  simp only [p4] at c4
  simp only [p5] at c5
  refine calls1 (args := []) Try.func7 rfl rfl rfl rfl ?_
  repeat' (first | refine aw_seq ?_ | refine zz ?_ | refine zon fun _ => ?_ | refine zoa fun vr lr hr => ?_ | ((apply ao_callD; exact wants_a; (exact oc_func rfl); (exact rfl); (intro w hw; exact snew_ok w); intro vr l0 hr; obtain ⟨g, hvr, hL0⟩ := hr; subst hvr)) | refine zoS (fun _ => ?_) (fun _ => ?_) | refine zqS (fun _ => ?_) (fun _ => ?_) | refine zwS (fun _ => ?_) (fun _ => ?_))
  repeat' (first | refine aw_seq ?_ | refine zz ?_ | refine zon fun _ => ?_ | refine zoa fun vr lr hr => ?_ | ((have hq := fun {m} R => c1 (m := m) hL0 R; apply ao_callH (l := l0); exact wants_a; (exact oc_func rfl); (exact rfl); (exact cut_a); (exact hq _); rintro _ _ ⟨l1, rfl, rfl, hL1⟩; clear hq c1)) | refine zoS (fun _ => ?_) (fun _ => ?_) | refine zqS (fun _ => ?_) (fun _ => ?_) | refine zwS (fun _ => ?_) (fun _ => ?_))
  repeat' (first | refine aw_seq ?_ | refine zz ?_ | refine zon fun _ => ?_ | refine zoa fun vr lr hr => ?_ | ((have hq := fun {m} R => c2 (m := m) hL1 R; apply ao_callH (l := l1); exact wants_a; (exact oc_func rfl); (exact rfl); (exact cut_a); (exact hq _); rintro _ _ ⟨l2, rfl, rfl, hL2⟩; clear hq c2)) | refine zoS (fun _ => ?_) (fun _ => ?_) | refine zqS (fun _ => ?_) (fun _ => ?_) | refine zwS (fun _ => ?_) (fun _ => ?_))
  repeat' (first | refine aw_seq ?_ | refine zz ?_ | refine zon fun _ => ?_ | refine zoa fun vr lr hr => ?_ | ((have hq := fun {m} R => c3 (m := m) hL2 R; apply ao_callH (l := l2); exact wants_a; (exact oc_func rfl); (exact rfl); (exact cut_a); (exact hq _); rintro _ _ ⟨l3, rfl, rfl, hL3⟩; clear hq c3)) | refine zoS (fun _ => ?_) (fun _ => ?_) | refine zqS (fun _ => ?_) (fun _ => ?_) | refine zwS (fun _ => ?_) (fun _ => ?_))
  repeat' (first | refine aw_seq ?_ | refine zz ?_ | refine zon fun _ => ?_ | refine zoa fun vr lr hr => ?_ | ((have hq := fun {m} R => c4 (m := m) hL3 R; apply ao_callH (l := l3); exact wants_a; (exact oc_func rfl); (exact rfl); (exact cut_a); (exact hq _); rintro _ _ ⟨l4, rfl, rfl, hL4⟩; clear hq c4)) | refine zoS (fun _ => ?_) (fun _ => ?_) | refine zqS (fun _ => ?_) (fun _ => ?_) | refine zwS (fun _ => ?_) (fun _ => ?_))
  repeat' (first | refine aw_seq ?_ | refine zz ?_ | refine zon fun _ => ?_ | refine zoa fun vr lr hr => ?_ | ((have hq := fun {m} R => c5 (m := m) hL4 R; apply ao_callH (l := l4); exact wants_a; (exact oc_func rfl); (exact rfl); (exact cut_a); (exact hq _); rintro _ _ ⟨l5, rfl, rfl, hL5⟩; clear hq c5)) | refine zoS (fun _ => ?_) (fun _ => ?_) | refine zqS (fun _ => ?_) (fun _ => ?_) | refine zwS (fun _ => ?_) (fun _ => ?_))
  have hsv := fun w' (hl : Lies w' l5) => sver_ok hL5 f3 w' hl
  have hss := fun w' (hl : Lies w' l5) => ssnap_ok hL5 f3 w' hl
  rw [show (List.length [(false, verO lO 1), (false, verO lO 2), (true, graveO (keyO lO) 3)] : Int) = 3 from rfl, show osL [(false, verO lO 1), (false, verO lO 2), (true, graveO (keyO lO) 3)] = [] by kernel_rfl] at hss
  rw [show (List.length [(false, verO lO 1), (false, verO lO 2), (true, graveO (keyO lO) 3)] : Int) = 3 from rfl] at hsv
  repeat' (first | refine aw_seq ?_ | refine zz ?_ | refine zon fun _ => ?_ | refine zoa fun vr lr hr => ?_ | ((apply ao_callD; exact wants_a; (exact oc_func rfl); (exact rfl); (intro w hw; exact slog_ok hL5 f3 w (lies_of hw (l := l5) cut_a)); intro v9 l9 hD9; obtain ⟨ga, ca, cs, ls, rfl, rfl, a1, a2, a3, a4⟩ := log_three hD9; replace a3 := a3 rfl; unfold verO lO at a1 a2; unfold graveO at a4; simp only at a1 a2 a4)) | refine zoS (fun _ => ?_) (fun _ => ?_) | refine zqS (fun _ => ?_) (fun _ => ?_) | refine zwS (fun _ => ?_) (fun _ => ?_))
  repeat' (first | refine aw_seq ?_ | refine zz ?_ | refine zon fun _ => ?_ | refine zoa fun vr lr hr => ?_ | ((first | apply ao_call | apply aq_call); exact wants_a; (first | exact oc_func rfl | exact oc_clos rfl rfl); (exact rfl); (first | exact fun w hw => hsv w (lies_of hw (l := l5) cut_a))) | ((apply ao_callD; exact wants_a; (exact oc_func rfl); (exact rfl); (intro w hw; exact hss w (lies_of hw (l := l5) cut_a)); rintro _ _ ⟨x5, u5, lx, lv, rfl, rfl, hx5, hd5⟩; obtain ⟨b5, d5, hz5⟩ := hx5.len; subst hz5; obtain ⟨ps5, l6, ls5, hob5, hlv5, hrow5, hpar5⟩ := hd5; obtain rfl : ps5 = [] := List.map_eq_nil_iff.1 hob5; obtain ⟨b6, d6, hu5⟩ := hrow5.len; subst hu5 hlv5)) | refine zoS (fun _ => ?_) (fun _ => ?_) | refine zqS (fun _ => ?_) (fun _ => ?_) | refine zwS (fun _ => ?_) (fun _ => ?_))
  exact fun w' hw => ⟨rfl, hw.below⟩
end Stm
end Go.Proofs.Ytbllkmhkpapgeaa
/- Sti: A write as the laws of layer 9 do it; conditions: names of at most 1,000 bytes, at most 1,000 writes. -/
namespace Go.Proofs.Ytbllkmhkpapgeaa
namespace Stm
open Go Go.RowKit Sx Lab Vec Ojt Evt Chm
attribute [local irreducible] Go.Calls

set_option maxHeartbeats 16000000 in
theorem sdo_ok {m : Nat} {w0 : World} {lg : List Wr} {g : Nat} {l : Hp} (h : LSt lg g l) (hf : FitL lg) (gone : Bool) (o : Ob) (x : Value) (hwo : wfS o) (ho : ResAt w0 x o.rs) (R : Hp) :
    CallsH Try.prog ⟨w0.heap.size, w0, m⟩ 9 [.pointer (some ⟨g, 0, none⟩), .agg #[.bool gone, S o.k, S o.s, S o.n, I o.ver, S o.c, .bool o.tm, .bool o.bs, x]] (l ++ R) fun r H' =>
      ∃ l', r = .tuple #[I (doL lg gone o).1, I (doL lg gone o).2.1] ∧ H' = l' ++ R ∧ LSt (doL lg gone o).2.2 g l' := by
  have hp := fun m R => sput_ok (m := m) h hf o x hwo ho R
  have hd := fun m R => sdel_ok (m := m) (w0 := w0) h hf (keyO o) ⟨hwo.1, hwo.2.1, hwo.2.2.1⟩ R
  obtain ⟨xa, xc, rfl⟩ := ho.len
  refine callsH2 (args := [.pointer (some ⟨g, 0, none⟩), .agg #[.bool gone, S o.k, S o.s, S o.n, I o.ver, S o.c, .bool o.tm, .bool o.bs, .slice xa o.rs.length xc]]) Try.func9 rfl rfl rfl rfl ?_
  cases gone
  · rw [show doL lg false o = putL lg o from rfl]
    repeat' (first | refine aw_seq ?_ | refine zz ?_ | refine zon fun _ => ?_ | refine zoa fun vr lr hr => ?_ | ((apply ao_callH (l := l); exact wants_a; (exact oc_func rfl); (exact rfl); (exact Cut.skip _ Cut.here); (exact hp _ _); rintro _ _ ⟨l2, rfl, rfl, hL2⟩)) | refine zoS (fun _ => ?_) (fun _ => ?_) | refine zqS (fun _ => ?_) (fun _ => ?_) | refine zwS (fun _ => ?_) (fun _ => ?_))
    exact ⟨l2 ++ R, _, hsub_a, List.Perm.refl _, l2, rfl, rfl, hL2⟩
  · rw [show doL lg true o = delL lg (keyO o) from rfl]
    repeat' (first | refine aw_seq ?_ | refine zz ?_ | refine zon fun _ => ?_ | refine zoa fun vr lr hr => ?_ | ((apply ao_callH (l := l); exact wants_a; (exact oc_func rfl); (exact rfl); (exact Cut.skip _ Cut.here); (exact hd _ _); rintro _ _ ⟨l2, rfl, rfl, hL2⟩)) | refine zoS (fun _ => ?_) (fun _ => ?_) | refine zqS (fun _ => ?_) (fun _ => ?_) | refine zwS (fun _ => ?_) (fun _ => ?_))
    exact ⟨l2 ++ R, _, hsub_a, List.Perm.refl _, l2, rfl, rfl, hL2⟩
end Stm
end Go.Proofs.Ytbllkmhkpapgeaa
