/- The walk's steps, each with goals that close by themselves; conditions: none. -/
import Derived.Test.YtpenogailhlcaaaSxa
namespace Go.Proofs.Ytpenogailhlcaaa
namespace Sx
open Go Go.RowKit

section
variable {P : Program} {E : Env} {kd : Bool} {Q : Exit → Tm → Hp → Prop} {t : Tm} {H : Hp} {ops : Array Oper} {rest : List Oper} {op : Op} {ty : TypeId} {pos : String} {af : Array Edge} {gd : Option (Nat × Bool)} {v : Value}

theorem zov {d : Nat} (h : ao kd P E ops Q rest ((d, v) :: t) H) (hw : Wants ops t gd := by exact wants_a) (hv : OpV P E op ty t H v := by exact ov_a) (hd : Nat.blt d E.n = true := by exact rfl) : ao kd P E ops Q (⟨some d, op, ty, pos, af, gd⟩ :: rest) t H := ao_val hw hv hd h
theorem zqv {d : Nat} (h : aq P E ops Q rest ((d, v) :: t) H) (hw : Wants ops t gd := by exact wants_a) (hv : OpV P E op ty t H v := by exact ov_a) (hd : Nat.blt d E.n = true := by exact rfl) : aq P E ops Q (⟨some d, op, ty, pos, af, gd⟩ :: rest) t H := aq_val hw hv hd h
theorem zok {d : Nat} (h : ao kd P E ops Q rest ((d, undef) :: t) H) (hw : Not ops t gd := by exact nots_a) (hd : Nat.blt d E.n = true := by exact rfl) : ao kd P E ops Q (⟨some d, op, ty, pos, af, gd⟩ :: rest) t H := ao_skip hw hd h
theorem zqk {d : Nat} (h : aq P E ops Q rest ((d, undef) :: t) H) (hw : Not ops t gd := by exact nots_a) (hd : Nat.blt d E.n = true := by exact rfl) : aq P E ops Q (⟨some d, op, ty, pos, af, gd⟩ :: rest) t H := aq_skip hw hd h
theorem zon {d : Nat} {o : Obj} {u : Nat → Value} (h : ∀ b, ao kd P E ops Q rest ((d, u b) :: t) ((b, o) :: H)) (hw : Wants ops t gd := by exact wants_a) (hv : OpN P E op ty t H o u := by exact on_a) (hd : Nat.blt d E.n = true := by exact rfl) : ao kd P E ops Q (⟨some d, op, ty, pos, af, gd⟩ :: rest) t H := ao_new hw hv hd h
theorem zow {b : Nat} {o : Obj} {H' : Hp} (h : ao kd P E ops Q rest t H') (hw : Wants ops t gd := by exact wants_a) (hv : OpW P E op ty t H b o .skip := by exact ow_a) (hu : Upd H b o H' := by exact upd_a) : ao kd P E ops Q (⟨none, op, ty, pos, af, gd⟩ :: rest) t H := ao_store hw hv hu h
theorem zox {d b : Nat} {o : Obj} {H' : Hp} (h : ao kd P E ops Q rest ((d, v) :: t) H') (hw : Wants ops t gd := by exact wants_a) (hv : OpW P E op ty t H b o (.value v) := by exact ox_a) (hd : Nat.blt d E.n = true := by exact rfl) (hu : Upd H b o H' := by exact upd_a) : ao kd P E ops Q (⟨some d, op, ty, pos, af, gd⟩ :: rest) t H := ao_valw hw hv hd hu h
theorem zoz (h : ao kd P E ops Q rest t H) (hw : Not ops t gd := by exact nots_a) : ao kd P E ops Q (⟨none, op, ty, pos, af, gd⟩ :: rest) t H := ao_skip0 hw h
theorem zoa {d : Nat} {x y : Operand} {t1 ty2 e : TypeId} {sz by_ : Nat} {l R : Hp} {n m c2 b2 o2 : Nat} {xs news : List Value} {cs2 : List Value} {e2 : TypeId} {fz : Nat × Nat} [TySl P t1 e sz by_]
    (h : ∀ v' l', RowB e sz v' l' (n + m) (xs ++ news) → ao kd P E ops Q rest ((d, v') :: t) (l' ++ R))
    (hw : Wants ops t gd := by exact wants_a) (hx : ev t x = some v := by exact rfl) (hrow : RowB e sz v l n xs := by assumption) (hy : ev t y = some (.slice (some ⟨b2, o2, none⟩) m c2) := by exact rfl) (hcut : Cut H l R := by exact cut_a)
    (hb : Has H b2 (.cells cs2.toArray e2 fz) := by exact has_a) (hs : sl o2 (m * sz) cs2 = some news := by exact rfl) (hf : news.all flat = true := by exact rfl) (hm : 0 < m := by omega) (hbd : (n + m) * by_ ≤ 140737488355328 := by omega) (h63 : n + m ≤ 9223372036854775807 := by omega) (hd : Nat.blt d E.n = true := by exact rfl) :
    ao kd P E ops Q (⟨some d, .call ⟨.builtin .append, #[x, y], #[t1, t1]⟩, ty2, pos, af, gd⟩ :: rest) t H := ao_append hw hx hrow hy hcut hb hs hf hm hbd h63 hd h

/-! By a plan. -/
variable {Hs : Hp}
theorem zhn {r : Plan} (h : ah P E ops Q Hs r t H) (hs : Hs.Sublist H := by exact hsub_a) : ao true P E ops (fun e t' H' => e = .normal ∧ Hs.Sublist H' ∧ ah P E ops Q Hs r t' H') [] t H := ao_nilh hs h
theorem zhv {i d : Nat} {r : Plan} (h : ah P E ops Q Hs r ((d, v) :: t) H) (ho : ops[i]? = some ⟨some d, op, ty, pos, af, gd⟩ := by exact rfl) (hw : Wants ops t gd := by exact wants_a) (hv : OpV P E op ty t Hs v := by exact ov_a) (hd : Nat.blt d E.n = true := by exact rfl) : ah P E ops Q Hs (.t i r) t H := ah_take ho hw hv hd h
theorem zhk {i d : Nat} {r : Plan} (h : ah P E ops Q Hs r ((d, undef) :: t) H) (ho : ops[i]? = some ⟨some d, op, ty, pos, af, gd⟩ := by exact rfl) (hw : Not ops t gd := by exact nots_a) (hd : Nat.blt d E.n = true := by exact rfl) : ah P E ops Q Hs (.t i r) t H := ah_skip ho hw hd h

/-! Bools that the facts at hand decide. -/
/-- It is not written out. -/
def Open (_ : Bool) : Prop := True
theorem open_t : Open true := trivial
theorem open_f : Open false := trivial
theorem open_a (b : Bool) : Open b := trivial
attribute [irreducible] Open
variable {d j : Nat} {b g : Bool} {dst : Option Tmp}
theorem zoT (h : ao kd P E ops Q (⟨dst, op, ty, pos, af, some (j, g)⟩ :: rest) ((d, .bool true) :: t) H) (hj : dstAt ops j = some d := by exact rfl) (hd : look t d = some (.bool b) := by exact rfl) (_ho : Open b := by ((fail_if_success first | with_reducible exact open_t | with_reducible exact open_f); exact open_a _)) (hb : b = true := by exact t_a) :
    ao kd P E ops Q (⟨dst, op, ty, pos, af, some (j, g)⟩ :: rest) t H := ao_gt hj hd hb h
theorem zoF (h : ao kd P E ops Q (⟨dst, op, ty, pos, af, some (j, g)⟩ :: rest) ((d, .bool false) :: t) H) (hj : dstAt ops j = some d := by exact rfl) (hd : look t d = some (.bool b) := by exact rfl) (_ho : Open b := by ((fail_if_success first | with_reducible exact open_t | with_reducible exact open_f); exact open_a _)) (hb : b = false := by exact f_a) :
    ao kd P E ops Q (⟨dst, op, ty, pos, af, some (j, g)⟩ :: rest) t H := ao_gf hj hd hb h
theorem zqT (h : aq P E ops Q (⟨dst, op, ty, pos, af, some (j, g)⟩ :: rest) ((d, .bool true) :: t) H) (hj : dstAt ops j = some d := by exact rfl) (hd : look t d = some (.bool b) := by exact rfl) (_ho : Open b := by ((fail_if_success first | with_reducible exact open_t | with_reducible exact open_f); exact open_a _)) (hb : b = true := by exact t_a) :
    aq P E ops Q (⟨dst, op, ty, pos, af, some (j, g)⟩ :: rest) t H := aq_gt hj hd hb h
theorem zqF (h : aq P E ops Q (⟨dst, op, ty, pos, af, some (j, g)⟩ :: rest) ((d, .bool false) :: t) H) (hj : dstAt ops j = some d := by exact rfl) (hd : look t d = some (.bool b) := by exact rfl) (_ho : Open b := by ((fail_if_success first | with_reducible exact open_t | with_reducible exact open_f); exact open_a _)) (hb : b = false := by exact f_a) :
    aq P E ops Q (⟨dst, op, ty, pos, af, some (j, g)⟩ :: rest) t H := aq_gf hj hd hb h
theorem zhT {i : Nat} {r : Plan} (h : ah P E ops Q Hs (.t i r) ((d, .bool true) :: t) H) (ho : ops[i]? = some ⟨dst, op, ty, pos, af, some (j, g)⟩ := by exact rfl) (hj : dstAt ops j = some d := by exact rfl) (hd : look t d = some (.bool b) := by exact rfl) (_ho : Open b := by ((fail_if_success first | with_reducible exact open_t | with_reducible exact open_f); exact open_a _)) (hb : b = true := by exact t_a) :
    ah P E ops Q Hs (.t i r) t H := ah_gt ho hj hd hb h
theorem zhF {i : Nat} {r : Plan} (h : ah P E ops Q Hs (.t i r) ((d, .bool false) :: t) H) (ho : ops[i]? = some ⟨dst, op, ty, pos, af, some (j, g)⟩ := by exact rfl) (hj : dstAt ops j = some d := by exact rfl) (hd : look t d = some (.bool b) := by exact rfl) (_ho : Open b := by ((fail_if_success first | with_reducible exact open_t | with_reducible exact open_f); exact open_a _)) (hb : b = false := by exact f_a) :
    ah P E ops Q Hs (.t i r) t H := ah_gf ho hj hd hb h
theorem zwT {c : Operand} {x y : Code} (h : aw P E x Q t H) (hc : ev t c = some (.bool b) := by exact rfl) (hb : b = true := by exact t_a) : aw P E (.cond c x y) Q t H := aw_ct hc hb h
theorem zwF {c : Operand} {x y : Code} (h : aw P E y Q t H) (hc : ev t c = some (.bool b) := by exact rfl) (hb : b = false := by exact f_a) : aw P E (.cond c x y) Q t H := aw_cf hc hb h
theorem zwt {c : Operand} {x y : Code} (h : aw P E x Q t H) (hc : ev t c = some v := by exact rfl) (hb : v = .bool true := by with_reducible rfl) : aw P E (.cond c x y) Q t H := aw_cond_t hc hb h
theorem zwf {c : Operand} {x y : Code} (h : aw P E y Q t H) (hc : ev t c = some v := by exact rfl) (hb : v = .bool false := by with_reducible rfl) : aw P E (.cond c x y) Q t H := aw_cond_f hc hb h
theorem zwd {id : Nat} {l : List Oper} (h : aq P E l.toArray Q l t H) (hm : P.follows .mixedOrders = true := by kernel_rfl) (hB : Region.lexB .any l.toArray = true := by kernel_rfl) : aw P E (.region id l.toArray true) Q t H := aw_draw hm hB h
/-! .. or that they don't: both ways. -/
theorem zoS (ht : b = true → ao kd P E ops Q (⟨dst, op, ty, pos, af, some (j, g)⟩ :: rest) ((d, .bool true) :: t) H) (hf : b = false → ao kd P E ops Q (⟨dst, op, ty, pos, af, some (j, g)⟩ :: rest) ((d, .bool false) :: t) H)
    (hj : dstAt ops j = some d := by exact rfl) (hd : look t d = some (.bool b) := by exact rfl) (_ho : Open b := by ((fail_if_success first | with_reducible exact open_t | with_reducible exact open_f); exact open_a _)) : ao kd P E ops Q (⟨dst, op, ty, pos, af, some (j, g)⟩ :: rest) t H := ao_gbool hj hd ht hf
theorem zqS (ht : b = true → aq P E ops Q (⟨dst, op, ty, pos, af, some (j, g)⟩ :: rest) ((d, .bool true) :: t) H) (hf : b = false → aq P E ops Q (⟨dst, op, ty, pos, af, some (j, g)⟩ :: rest) ((d, .bool false) :: t) H)
    (hj : dstAt ops j = some d := by exact rfl) (hd : look t d = some (.bool b) := by exact rfl) (_ho : Open b := by ((fail_if_success first | with_reducible exact open_t | with_reducible exact open_f); exact open_a _)) : aq P E ops Q (⟨dst, op, ty, pos, af, some (j, g)⟩ :: rest) t H := aq_gbool hj hd ht hf
theorem zwS {c : Operand} {x y : Code} (ht : b = true → aw P E x Q t H) (hf : b = false → aw P E y Q t H) (hc : ev t c = some (.bool b) := by exact rfl) : aw P E (.cond c x y) Q t H := aw_cond hc ht hf

/-! The end of a piece of code. -/
class Pass (Q : Exit → Tm → Hp → Prop) (e : Exit) (t : Tm) (H : Hp) (G : outParam Prop) : Prop where
  pass : G → Q e t H
theorem zp {e : Exit} {G : Prop} [i : Pass Q e t H G] (h : G) : Q e t H := i.pass h
instance {y : Code} : Pass (andThen P E y Q) .normal t H (aw P E y Q t H) := ⟨at_normal⟩
instance {y : Code} {id : Nat} : Pass (andThen P E y Q) (.exit id) t H (Q (.exit id) t H) := ⟨at_exit⟩
instance {y : Code} : Pass (andThen P E y Q) .ret t H (Q .ret t H) := ⟨at_ret⟩
instance {id : Nat} : Pass (inBlock id Q) .normal t H (Q .normal t H) := ⟨ib_normal⟩
instance {id : Nat} : Pass (inBlock id Q) .ret t H (Q .ret t H) := ⟨ib_ret⟩
instance {I : Nat → Tm → Hp → Prop} {m id : Nat} : Pass (loopQ I m Q) (.exit id) t H (Q (.exit id) t H) := ⟨lq_exit⟩
instance {I : Nat → Tm → Hp → Prop} {m : Nat} : Pass (loopQ I m Q) .ret t H (Q .ret t H) := ⟨lq_ret⟩
instance {I : Tm → Hp → Prop} : Pass (cutI I Q) .ret t H (Q .ret t H) := ⟨ci_ret⟩
instance {I : Tm → Hp → Prop} {id : Nat} : Pass (cutI I Q) (.exit id) t H (Q (.exit id) t H) := ⟨ci_exit⟩
instance : Pass (noGo Q) .normal t H (Q .normal t H) := ⟨ng_normal⟩
instance {id : Nat} : Pass (noGo Q) (.exit id) t H (Q (.exit id) t H) := ⟨ng_exit⟩
instance : Pass (noGo Q) .ret t H (Q .ret t H) := ⟨ng_ret⟩
def ends : Exit → Bool
  | .normal | .ret => true
  | _ => false
theorem ends_of {e : Exit} (h : ends e = true) : e = .normal ∨ e = .ret := by cases e <;> simp [ends] at h ⊢
variable {e : Exit}
theorem zr1 {r : Nat} {R : Value → Hp → Prop} (h : R v H) (he : ends e = true := by exact rfl) (hl : look t r = some v := by exact rfl) : ret1 r R e t H := by
  rcases ends_of he with rfl | rfl
  · exact r1_normal hl h
  · exact r1_ret hl h
theorem zr2 {r s : Nat} {u : Value} {R : Value → Value → Hp → Prop} (h : R v u H) (he : ends e = true := by exact rfl) (hl : look t r = some v := by exact rfl) (hk : look t s = some u := by exact rfl) : ret2 r s R e t H := by
  rcases ends_of he with rfl | rfl
  · exact r2_normal hl hk h
  · exact r2_ret hl hk h
theorem zr3 {r s q : Nat} {u z : Value} {R : Value → Value → Value → Hp → Prop} (h : R v u z H) (he : ends e = true := by exact rfl) (hl : look t r = some v := by exact rfl) (hk : look t s = some u := by exact rfl) (hm : look t q = some z := by exact rfl) : ret3 r s q R e t H := by
  rcases ends_of he with rfl | rfl
  · exact r3_normal hl hk hm h
  · exact r3_ret hl hk hm h
theorem zrc {r n c : Nat} {R : List Value → Hp → Prop} {cs : Array Value} {vs : List Value} {ce : TypeId} {fz : Nat × Nat} (h : R vs H) (h1 : look t r = some (.pointer (some ⟨c, 0, none⟩)) := by exact rfl) (h2 : Has H c (.cells cs ce fz) := by exact has_a) (h3 : sl 0 n cs.toList = some vs := by exact rfl) : retC1 r n R .ret t H := rc1_ret h1 h2 h3 h
theorem zrd {r n s c : Nat} {R : List Value → Value → Hp → Prop} {cs : Array Value} {vs : List Value} {ce : TypeId} {fz : Nat × Nat} {u : Value} (h : R vs u H) (h1 : look t r = some (.pointer (some ⟨c, 0, none⟩)) := by exact rfl) (h2 : Has H c (.cells cs ce fz) := by exact has_a) (h3 : sl 0 n cs.toList = some vs := by exact rfl) (h4 : look t s = some u := by exact rfl) : retC2 r n s R .ret t H := rc2_ret h1 h2 h3 h4 h
theorem zrt {r s u n c k : Nat} {R : Value → List Value → List Value → Hp → Prop} {cs ds : Array Value} {xs ys : List Value} {ce g' : TypeId} {fz gz : Nat × Nat} (h : R v xs ys H)
    (h0 : look t r = some v := by exact rfl) (h1 : look t s = some (.pointer (some ⟨c, 0, none⟩)) := by exact rfl) (h4 : look t u = some (.pointer (some ⟨k, 0, none⟩)) := by exact rfl) (h2 : Has H c (.cells cs ce fz) := by exact has_a) (h5 : Has H k (.cells ds g' gz) := by exact has_a) (h3 : sl 0 n cs.toList = some xs := by exact rfl)
    (h6 : sl 0 n ds.toList = some ys := by exact rfl) : retT r s u n R .ret t H := rt_ret h0 h1 h4 h2 h5 h3 h6 h
end

/-! As many steps as come one behind the other, at once. -/
def Hid (p : Prop) : Prop := p
theorem Hid.out {p : Prop} (h : Hid p) : p := h
theorem Hid.mk {p : Prop} (h : p) : Hid p := h
attribute [irreducible] Hid
theorem zz {G G' : Prop} (h : G') (s : Hid G' → G := by (intro h; (first | refine ao_nil ?_ | refine aq_nil ?_ | refine zov ?_ | refine zqv ?_ | refine zok ?_ | refine zqk ?_ | refine zow ?_ | refine zox ?_ | refine zoz ?_ | (refine aw_is ?_; first | refine aw_block ?_ | refine aw_region ?_ | refine aw_skip ?_ | refine aw_exit ?_ | refine aw_ret ?_ | refine aw_label ?_ | refine aw_scope ?_ | refine zwt ?_ | refine zwf ?_ | refine zwd ?_) | refine zoT ?_ | refine zqT ?_ | refine zwT ?_ | refine zoF ?_ | refine zqF ?_ | refine zwF ?_ | refine zp ?_ | refine ib_exit ?_ | refine ib_other ?_ | refine zr1 ?_ | refine zr2 ?_ | refine zr3 ?_ | refine zrt ?_ | refine zrc ?_ | refine zrd ?_); (repeat (first | refine ao_nil ?_ | refine aq_nil ?_ | refine zov ?_ | refine zqv ?_ | refine zok ?_ | refine zqk ?_ | refine zow ?_ | refine zox ?_ | refine zoz ?_ | (refine aw_is ?_; first | refine aw_block ?_ | refine aw_region ?_ | refine aw_skip ?_ | refine aw_exit ?_ | refine aw_ret ?_ | refine aw_label ?_ | refine aw_scope ?_ | refine zwt ?_ | refine zwf ?_ | refine zwd ?_) | refine zoT ?_ | refine zqT ?_ | refine zwT ?_ | refine zoF ?_ | refine zqF ?_ | refine zwF ?_ | refine zp ?_ | refine ib_exit ?_ | refine ib_other ?_ | refine zr1 ?_ | refine zr2 ?_ | refine zr3 ?_ | refine zrt ?_ | refine zrc ?_ | refine zrd ?_)); exact Hid.out h)) : G := s (Hid.mk h)
theorem zy {G G' : Prop} (h : G') (s : Hid G' → G := by (intro h; (first | refine ao_nil ?_ | refine aq_nil ?_ | refine zok ?_ | refine zqk ?_ | refine zow ?_ | refine zox ?_ | refine zoz ?_ | (refine aw_is ?_; first | refine aw_block ?_ | refine aw_region ?_ | refine aw_skip ?_ | refine aw_exit ?_ | refine aw_ret ?_ | refine aw_label ?_ | refine aw_scope ?_ | refine zwt ?_ | refine zwf ?_ | refine zwd ?_) | refine zoT ?_ | refine zqT ?_ | refine zwT ?_ | refine zoF ?_ | refine zqF ?_ | refine zwF ?_ | refine zp ?_ | refine ib_exit ?_ | refine ib_other ?_ | refine zr1 ?_ | refine zr2 ?_ | refine zr3 ?_ | refine zrt ?_ | refine zrc ?_ | refine zrd ?_); (repeat (first | refine ao_nil ?_ | refine aq_nil ?_ | refine zok ?_ | refine zqk ?_ | refine zow ?_ | refine zox ?_ | refine zoz ?_ | (refine aw_is ?_; first | refine aw_block ?_ | refine aw_region ?_ | refine aw_skip ?_ | refine aw_exit ?_ | refine aw_ret ?_ | refine aw_label ?_ | refine aw_scope ?_ | refine zwt ?_ | refine zwf ?_ | refine zwd ?_) | refine zoT ?_ | refine zqT ?_ | refine zwT ?_ | refine zoF ?_ | refine zqF ?_ | refine zwF ?_ | refine zp ?_ | refine ib_exit ?_ | refine ib_other ?_ | refine zr1 ?_ | refine zr2 ?_ | refine zr3 ?_ | refine zrt ?_ | refine zrc ?_ | refine zrd ?_)); exact Hid.out h)) : G := s (Hid.mk h)
theorem zx {G G' : Prop} (h : G') (s : Hid G' → G := by (intro h; (first | refine ao_nil ?_ | refine aq_nil ?_ | refine zok ?_ | refine zqk ?_ | refine zow ?_ | refine zox ?_ | refine zoz ?_ | (refine aw_is ?_; first | refine aw_block ?_ | refine aw_region ?_ | refine aw_skip ?_ | refine aw_exit ?_ | refine aw_ret ?_ | refine aw_label ?_ | refine aw_scope ?_ | refine zwt ?_ | refine zwf ?_ | refine zwd ?_) | refine zp ?_ | refine ib_exit ?_ | refine ib_other ?_ | refine zr1 ?_ | refine zr2 ?_ | refine zr3 ?_ | refine zrt ?_ | refine zrc ?_ | refine zrd ?_); (repeat (first | refine ao_nil ?_ | refine aq_nil ?_ | refine zok ?_ | refine zqk ?_ | refine zow ?_ | refine zox ?_ | refine zoz ?_ | (refine aw_is ?_; first | refine aw_block ?_ | refine aw_region ?_ | refine aw_skip ?_ | refine aw_exit ?_ | refine aw_ret ?_ | refine aw_label ?_ | refine aw_scope ?_ | refine zwt ?_ | refine zwf ?_ | refine zwd ?_) | refine zp ?_ | refine ib_exit ?_ | refine ib_other ?_ | refine zr1 ?_ | refine zr2 ?_ | refine zr3 ?_ | refine zrt ?_ | refine zrc ?_ | refine zrd ?_)); exact Hid.out h)) : G := s (Hid.mk h)
theorem zv {G G' : Prop} (h : G') (s : Hid G' → G := by (intro h; (first | refine zhn ?_ | refine ao_nil ?_ | refine aq_nil ?_ | refine zov ?_ | refine zqv ?_ | refine zok ?_ | refine zqk ?_ | refine zow ?_ | refine zox ?_ | refine zoz ?_ | (refine aw_is ?_; first | refine aw_block ?_ | refine aw_region ?_ | refine aw_skip ?_ | refine aw_exit ?_ | refine aw_ret ?_ | refine aw_label ?_ | refine aw_scope ?_ | refine zwt ?_ | refine zwf ?_) | refine zoT ?_ | refine zqT ?_ | refine zwT ?_ | refine zoF ?_ | refine zqF ?_ | refine zwF ?_ | refine zp ?_ | refine ib_exit ?_ | refine ib_other ?_ | refine zr1 ?_ | refine zr2 ?_ | refine zr3 ?_ | refine zrt ?_ | refine zrc ?_ | refine zrd ?_); (repeat (first | refine zhn ?_ | refine ao_nil ?_ | refine aq_nil ?_ | refine zov ?_ | refine zqv ?_ | refine zok ?_ | refine zqk ?_ | refine zow ?_ | refine zox ?_ | refine zoz ?_ | (refine aw_is ?_; first | refine aw_block ?_ | refine aw_region ?_ | refine aw_skip ?_ | refine aw_exit ?_ | refine aw_ret ?_ | refine aw_label ?_ | refine aw_scope ?_ | refine zwt ?_ | refine zwf ?_) | refine zoT ?_ | refine zqT ?_ | refine zwT ?_ | refine zoF ?_ | refine zqF ?_ | refine zwF ?_ | refine zp ?_ | refine ib_exit ?_ | refine ib_other ?_ | refine zr1 ?_ | refine zr2 ?_ | refine zr3 ?_ | refine zrt ?_ | refine zrc ?_ | refine zrd ?_)); exact Hid.out h)) : G := s (Hid.mk h)
theorem zu {G G' : Prop} (h : G') (s : Hid G' → G := by (intro h; (first | refine zhn ?_ | refine ao_nil ?_ | refine aq_nil ?_ | refine zok ?_ | refine zqk ?_ | refine zow ?_ | refine zox ?_ | refine zoz ?_ | (refine aw_is ?_; first | refine aw_block ?_ | refine aw_region ?_ | refine aw_skip ?_ | refine aw_exit ?_ | refine aw_ret ?_ | refine aw_label ?_ | refine aw_scope ?_ | refine zwt ?_ | refine zwf ?_) | refine zoT ?_ | refine zqT ?_ | refine zwT ?_ | refine zoF ?_ | refine zqF ?_ | refine zwF ?_ | refine zp ?_ | refine ib_exit ?_ | refine ib_other ?_ | refine zr1 ?_ | refine zr2 ?_ | refine zr3 ?_ | refine zrt ?_ | refine zrc ?_ | refine zrd ?_); (repeat (first | refine zhn ?_ | refine ao_nil ?_ | refine aq_nil ?_ | refine zok ?_ | refine zqk ?_ | refine zow ?_ | refine zox ?_ | refine zoz ?_ | (refine aw_is ?_; first | refine aw_block ?_ | refine aw_region ?_ | refine aw_skip ?_ | refine aw_exit ?_ | refine aw_ret ?_ | refine aw_label ?_ | refine aw_scope ?_ | refine zwt ?_ | refine zwf ?_) | refine zoT ?_ | refine zqT ?_ | refine zwT ?_ | refine zoF ?_ | refine zqF ?_ | refine zwF ?_ | refine zp ?_ | refine ib_exit ?_ | refine ib_other ?_ | refine zr1 ?_ | refine zr2 ?_ | refine zr3 ?_ | refine zrt ?_ | refine zrc ?_ | refine zrd ?_)); exact Hid.out h)) : G := s (Hid.mk h)
end Sx
end Go.Proofs.Ytpenogailhlcaaa
