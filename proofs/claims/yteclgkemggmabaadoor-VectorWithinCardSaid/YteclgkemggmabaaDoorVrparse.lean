/- Contract of the document's Parse for layer 4; conditions: texts of at most 100,000 bytes. -/
import Derived.Test.YteclgkemggmabaaDoorVrtext
namespace Go.Proofs.YteclgkemggmabaaDoor
namespace Vec
open Go Go.RowKit Sx Wid Lab
attribute [local irreducible] Go.Calls

/-- The quantity of a text, and the error. -/
def parQ (l : List UInt8) : Int × Int :=
  if Qty.badQ l then (0, 2)
  else if Qty.valP l (Qty.figN l) * Qty.facI (l.drop (Qty.figN l)) ≤ 9223372036854775807 then (Qty.valP l (Qty.figN l) * Qty.facI (l.drop (Qty.figN l)), 0) else (0, 3)
theorem parQ_eq (l : List UInt8) : Qty.parseQ l = .tuple #[I (parQ l).1, I (parQ l).2] := by
  unfold Qty.parseQ parQ
  split
  · rfl
  · split <;> rfl
theorem parQ_rng (l : List UInt8) : 0 ≤ (parQ l).1 ∧ (parQ l).1 ≤ 9223372036854775807 ∧ ((parQ l).2 = 0 ∨ (parQ l).2 = 2 ∨ (parQ l).2 = 3) := by
  unfold parQ
  split
  · exact ⟨by decide, by decide, .inr (.inl rfl)⟩
  · split
    · rename_i h
      refine ⟨Int.mul_nonneg (Qty.valP_nonneg l _ (Nat.le_refl _)) ?_, h, .inl rfl⟩
      rcases Qty.facI_rng (l.drop (Qty.figN l)) with h | h <;> omega
    · exact ⟨by decide, by decide, .inr (.inr rfl)⟩
theorem rparQ_ok (l : List UInt8) (hl : l.length ≤ 100000) (w : World) : Calls Tryd.prog 54 #[S l] w fun e w' => e = .returned (.tuple #[I (parQ l).1, I (parQ l).2]) ∧ Below w.heap.size w w' := parQ_eq l ▸ Qty.rparse_ok l hl w

/-- The first part; its name; what is behind its first sign of equality. -/
def partP (l : List UInt8) : List UInt8 := l.take (nx 44 l)
def nmP (l : List UInt8) : List UInt8 := (partP l).take (nx 61 (partP l))
def txP (l : List UInt8) : List UInt8 := (partP l).drop (nx 61 (partP l) + 1)
/-- Is a name above the last one? -/
def upB (out : List Ent) (m : Nm) : Bool := match out.getLast? with | none => true | some r => lt r.1 m
def badP (out : List Ent) (l : List UInt8) : Bool := nx 61 (partP l) == nx 44 l || !rightB (nmP l) || out.length == 16 || !upB out (nmP l)
def parseL : Nat → List Ent → List UInt8 → List Ent × Int
  | 0, _, _ => ([], 2)
  | k + 1, out, l =>
    if badP out l = true then ([], 2)
    else if (parQ (txP l)).2 ≠ 0 then ([], (parQ (txP l)).2)
    else if nx 44 l = l.length then (out ++ [(nmP l, (parQ (txP l)).1)], 0)
    else parseL k (out ++ [(nmP l, (parQ (txP l)).1)]) (l.drop (nx 44 l + 1))
def parseV (l : List UInt8) : List Ent × Int := if l = [] then ([], 0) else parseL (l.length + 1) [] l

theorem ov_ssR {P : Program} {E : Env} {t : Tm} {H : Hp} {ty : TypeId} {x y z : Operand} {xt : TypeId} {l r : List UInt8} {k k2 : IntKind} {q q2 : Int} (i j : Nat) [TyU P xt .string] (hx : ev t x = some (S l)) (hy : ev t y = some (.int k q)) (hz : ev t z = some (.int k2 q2)) (hr : (l.drop i).take (j - i) = r) (hq : q = (i : Int)) (hq2 : q2 = (j : Int)) (hi : i ≤ j) (hj : j ≤ l.length) :
    OpV P E (.slice xt x (some y) (some z) none) ty t H (S r) := hr ▸ ov_sslice_both hx hy hz hq hq2 hi hj
theorem last_get {out : List Ent} {r : Ent} (h : out.getLast? = some r) : out[out.length - 1]? = some r := by rw [← List.getLast?_eq_getElem?]; exact h
theorem row_addR {e : TypeId} {v : Value} {l : Hp} {outs : List Ent} {x : Ent} (h : RowB e 2 v l (outs.length + 1) (rcells outs ++ [S x.1, I x.2])) :
    RowB e 2 v l (outs ++ [x]).length (rcells (outs ++ [x])) := by
  have e1 : (outs ++ [x]).length = outs.length + 1 := by simp
  have e2 : rcells (outs ++ [x]) = rcells outs ++ [S x.1, I x.2] := by simp [rcells, List.flatMap_append, cellsR]
  rw [e1, e2]
  exact h

set_option maxHeartbeats 16000000 in
theorem vrparse_ok (l : List UInt8) (hl : l.length ≤ 100000) (w : World) :
    Calls Tryd.prog 28 #[S l] w fun e w' => ∃ r, e = .returned (.tuple #[r, I (parseV l).2]) ∧ NewRow 41 2 w w' r (parseV l).1.length (rcells (parseV l).1) := by
  refine calls2 (args := [S l]) Tryd.func28 rfl rfl rfl rfl ?_
  by_cases hnil : l = []
  · subst hnil
    have hq : parseV [] = ([], 0) := rfl
    rw [hq]
    have he : (([] : List UInt8) == []) = true := rfl
    repeat' (first | refine ao_nil ?_ | refine aq_nil ?_ | refine zov ?_ | refine zqv ?_ | refine zok ?_ | refine zqk ?_ | refine zon fun _ => ?_ | refine zow ?_ | refine zox ?_ | refine zoz ?_ | refine zoa fun vr lr hr => ?_ | (refine aw_is ?_; first | refine aw_seq ?_ | refine aw_block ?_ | refine aw_region ?_ | refine aw_skip ?_ | refine aw_exit ?_ | refine aw_ret ?_ | refine aw_label ?_ | refine aw_scope ?_ | refine zwt ?_ | refine zwf ?_ | refine zwd ?_) | refine zoT ?_ | refine zqT ?_ | refine zwT ?_ | refine zoF ?_ | refine zqF ?_ | refine zwF ?_ | refine zp ?_ | refine ib_exit ?_ | refine ib_other ?_ | refine zr1 ?_ | refine zr2 ?_ | refine zr3 ?_ | refine zrt ?_ | refine zrc ?_ | refine zrd ?_ | refine zoS (fun _ => ?_) (fun _ => ?_) | refine zqS (fun _ => ?_) (fun _ => ?_) | refine zwS (fun _ => ?_) (fun _ => ?_))
    exact fun w' hw => ⟨_, rfl, hw.below, _, RowB.nil, fun _ _ h => by cases h⟩
  have hq : parseV l = parseL (l.length + 1) [] l := by unfold parseV; rw [if_neg hnil]
  rw [hq]
  have he : (l == []) = false := beq_eq_false_iff_ne.2 hnil
  repeat' (first | refine ao_nil ?_ | refine aq_nil ?_ | refine zov ?_ | refine zqv ?_ | refine zok ?_ | refine zqk ?_ | refine zon fun _ => ?_ | refine zow ?_ | refine zox ?_ | refine zoz ?_ | refine zoa fun vr lr hr => ?_ | (refine aw_is ?_; first | refine aw_seq ?_ | refine aw_block ?_ | refine aw_region ?_ | refine aw_skip ?_ | refine aw_exit ?_ | refine aw_ret ?_ | refine aw_label ?_ | refine aw_scope ?_ | refine zwt ?_ | refine zwf ?_ | refine zwd ?_) | refine zoT ?_ | refine zqT ?_ | refine zwT ?_ | refine zoF ?_ | refine zqF ?_ | refine zwF ?_ | refine zp ?_ | refine ib_exit ?_ | refine ib_other ?_ | refine zr1 ?_ | refine zr2 ?_ | refine zr3 ?_ | refine zrt ?_ | refine zrc ?_ | refine zrd ?_ | refine zoS (fun _ => ?_) (fun _ => ?_) | refine zqS (fun _ => ?_) (fun _ => ?_) | refine zwS (fun _ => ?_) (fun _ => ?_))
  refine aw_for (t0 := [(0, S l), (4, .slice none 0 0), (5, I (0 : Nat))]) (fun q t H => ∃ (n k : Nat) (x : Value) (lh : Hp) (outs : List Ent), q = l.length + 1 - k ∧ l.length - k < n ∧ k ≤ l.length ∧ RowB 41 2 x lh outs.length (rcells outs) ∧ outs.length ≤ 16 ∧ (∀ r ∈ outs, r.1.length ≤ 100000) ∧ parseL n outs (l.drop k) = parseL (l.length + 1) [] l ∧ t = [(0, S l), (4, x), (5, I k)] ∧ H = lh ++ []) ⟨l.length + 1, 0, _, _, [], rfl, by omega, by omega, RowB.nil, by simp, fun _ h => by simp at h, rfl, rfl, rfl⟩ (by repeat (first | exact sub_nil | refine sub_cons rfl ?_)) ?_
  rintro q t H ⟨n, k, x, lh, outs, rfl, hn, hk, hr, ho16, hwo, hpar, rfl, rfl⟩
  obtain ⟨n, rfl⟩ : ∃ m, n = m + 1 := ⟨n - 1, by omega⟩
  obtain ⟨p, hp⟩ : ∃ p, p = nx 44 (l.drop k) := ⟨_, rfl⟩
  obtain ⟨m, hm⟩ : ∃ m, m = nx 61 (partP (l.drop k)) := ⟨_, rfl⟩
  have hple : p ≤ l.length - k := by have := nx_le 44 (l.drop k); rw [← hp, List.length_drop] at this; exact this
  have hpart : partP (l.drop k) = (l.drop k).take p := by unfold partP; rw [← hp]
  have hmle : m ≤ p := by have := nx_le 61 (partP (l.drop k)); rw [← hm, hpart, List.length_take] at this; omega
  have hnm : (l.drop k).take (k + m - k) = nmP (l.drop k) := by
    unfold nmP; rw [← hm, hpart, List.take_take, show k + m - k = m by omega, Nat.min_eq_left hmle]
  have htx : (l.drop (k + m + 1)).take (k + p - (k + m + 1)) = txP (l.drop k) := by
    unfold txP; rw [← hm, hpart, List.drop_take, List.drop_drop]
    congr 1
    omega
  have hnl : (nmP (l.drop k)).length ≤ 100000 := by rw [← hnm, List.length_take, List.length_drop]; omega
  have htl : (txP (l.drop k)).length ≤ 100000 := by rw [← htx, List.length_take, List.length_drop]; omega
  have f1 : ∀ w, Calls Tryd.prog 53 #[S l, .int .u8 44, I k, I l.length] w fun e w' => e = .returned (I ((k + p : Nat) : Int)) ∧ Below w.heap.size w w' := fun w => by
    have := vfind_ok l 44 44 k l.length k l.length rfl rfl rfl hk (Nat.le_refl _) hl w
    rwa [show (l.drop k).take (l.length - k) = l.drop k from List.take_of_length_le (by rw [List.length_drop]; omega), ← hp] at this
  have f2 : ∀ w, Calls Tryd.prog 53 #[S l, .int .u8 61, I k, I ((k + p : Nat) : Int)] w fun e w' => e = .returned (I ((k + m : Nat) : Int)) ∧ Below w.heap.size w w' := fun w => by
    have := vfind_ok l 61 61 k ((k + p : Nat) : Int) k (k + p) rfl rfl rfl (by omega) (by omega) hl w
    rwa [show k + p - k = p by omega, ← hpart, ← hm] at this
  have hstep : parseL (n + 1) outs (l.drop k) = if badP outs (l.drop k) = true then ([], 2) else if (parQ (txP (l.drop k))).2 ≠ 0 then ([], (parQ (txP (l.drop k))).2)
    else if nx 44 (l.drop k) = (l.drop k).length then (outs ++ [(nmP (l.drop k), (parQ (txP (l.drop k))).1)], 0) else parseL n (outs ++ [(nmP (l.drop k), (parQ (txP (l.drop k))).1)]) ((l.drop k).drop (nx 44 (l.drop k) + 1)) := rfl
  rw [hstep] at hpar
  obtain ⟨hq0, hq1, hq2⟩ := parQ_rng (txP (l.drop k))
  have hlast : ∀ r, outs.getLast? = some r → r.1.length ≤ 100000 := fun r hr => hwo r (List.mem_of_getLast? hr)
  have hbad : badP outs (l.drop k) = (m == p || !rightB (nmP (l.drop k)) || outs.length == 16 || !upB outs (nmP (l.drop k))) := by unfold badP; rw [← hp, ← hm]
  have fq := rparQ_ok (txP (l.drop k)) htl
  generalize nmP (l.drop k) = nm at hnm hnl hpar hbad
  generalize parQ (txP (l.drop k)) = pq at hpar hq0 hq1 hq2 fq
  generalize txP (l.drop k) = tx at htx htl fq
  obtain ⟨pn, pe⟩ := pq
  simp only at hpar hq0 hq1 hq2 fq
  have hrr : ∀ (b : Bool), rightB nm = b → ∀ w, Calls Tryd.prog 39 #[S nm] w fun e w' => e = .returned (.bool b) ∧ Below w.heap.size w w' := fun b hb w => hb ▸ rright_ok nm (by omega) w
  by_cases hmp : m = p
  · rw [hbad, show (m == p) = true from beq_iff_eq.2 hmp, Bool.true_or, Bool.true_or, Bool.true_or, if_pos rfl] at hpar
    rw [← hpar]
    repeat' (first | refine ao_nil ?_ | refine aq_nil ?_ | ((first | apply ao_val | apply aq_val); exact wants_a; (first | exact ov_ssR k (k + m) rfl rfl rfl hnm rfl rfl (by omega) (by omega) | exact ov_a); (exact rfl)) | refine zok ?_ | refine zqk ?_ | refine zon fun _ => ?_ | refine zow ?_ | refine zox ?_ | refine zoz ?_ | refine zoa fun vr lr hr => ?_ | ((first | apply ao_call | apply aq_call); exact wants_a; (first | exact oc_func rfl | exact oc_clos rfl rfl); (exact rfl); (first | exact fun w hw => f1 w | exact fun w hw => f2 w | exact fun w hw => hrr _ rfl w)) | (refine aw_is ?_; first | refine aw_seq ?_ | refine aw_block ?_ | refine aw_region ?_ | refine aw_skip ?_ | refine aw_exit ?_ | refine aw_ret ?_ | refine aw_label ?_ | refine aw_scope ?_ | refine zwt ?_ | refine zwf ?_ | refine zwd ?_) | refine zoT ?_ | refine zqT ?_ | refine zwT ?_ | refine zoF ?_ | refine zqF ?_ | refine zwF ?_ | refine zp ?_ | refine ib_exit ?_ | refine ib_other ?_ | refine zr1 ?_ | refine zr2 ?_ | refine zr3 ?_ | refine zrt ?_ | refine zrc ?_ | refine zrd ?_ | refine zoS (fun _ => ?_) (fun _ => ?_) | refine zqS (fun _ => ?_) (fun _ => ?_) | refine zwS (fun _ => ?_) (fun _ => ?_))
    all_goals exact fun w' hw => ⟨_, rfl, hw.below, _, RowB.nil, fun _ _ h => by cases h⟩
  rw [show (m == p) = false from beq_eq_false_iff_ne.2 hmp, Bool.false_or] at hbad
  cases hrb : rightB nm
  · rw [hbad, hrb, Bool.not_false, Bool.true_or, Bool.true_or, if_pos rfl] at hpar
    rw [← hpar]
    repeat' (first | refine ao_nil ?_ | refine aq_nil ?_ | ((first | apply ao_val | apply aq_val); exact wants_a; (first | exact ov_ssR k (k + m) rfl rfl rfl hnm rfl rfl (by omega) (by omega) | exact ov_a); (exact rfl)) | refine zok ?_ | refine zqk ?_ | refine zon fun _ => ?_ | refine zow ?_ | refine zox ?_ | refine zoz ?_ | refine zoa fun vr lr hr => ?_ | ((first | apply ao_call | apply aq_call); exact wants_a; (first | exact oc_func rfl | exact oc_clos rfl rfl); (exact rfl); (first | exact fun w hw => f1 w | exact fun w hw => f2 w | exact fun w hw => hrr _ hrb w)) | (refine aw_is ?_; first | refine aw_seq ?_ | refine aw_block ?_ | refine aw_region ?_ | refine aw_skip ?_ | refine aw_exit ?_ | refine aw_ret ?_ | refine aw_label ?_ | refine aw_scope ?_ | refine zwt ?_ | refine zwf ?_ | refine zwd ?_) | refine zoT ?_ | refine zqT ?_ | refine zwT ?_ | refine zoF ?_ | refine zqF ?_ | refine zwF ?_ | refine zp ?_ | refine ib_exit ?_ | refine ib_other ?_ | refine zr1 ?_ | refine zr2 ?_ | refine zr3 ?_ | refine zrt ?_ | refine zrc ?_ | refine zrd ?_ | refine zoS (fun _ => ?_) (fun _ => ?_) | refine zqS (fun _ => ?_) (fun _ => ?_) | refine zwS (fun _ => ?_) (fun _ => ?_))
    all_goals exact fun w' hw => ⟨_, rfl, hw.below, _, RowB.nil, fun _ _ h => by cases h⟩
  rw [hrb, Bool.not_true, Bool.false_or] at hbad
  by_cases h16 : outs.length = 16
  · rw [hbad, show (outs.length == 16) = true from beq_iff_eq.2 h16, Bool.true_or, if_pos rfl] at hpar
    rw [← hpar]
    obtain ⟨ax, cx, rfl⟩ := hr.len
    repeat' (first | refine ao_nil ?_ | refine aq_nil ?_ | ((first | apply ao_val | apply aq_val); exact wants_a; (first | exact ov_ssR k (k + m) rfl rfl rfl hnm rfl rfl (by omega) (by omega) | exact ov_a); (exact rfl)) | refine zok ?_ | refine zqk ?_ | refine zon fun _ => ?_ | refine zow ?_ | refine zox ?_ | refine zoz ?_ | refine zoa fun vr lr hr => ?_ | ((first | apply ao_call | apply aq_call); exact wants_a; (first | exact oc_func rfl | exact oc_clos rfl rfl); (exact rfl); (first | exact fun w hw => f1 w | exact fun w hw => f2 w | exact fun w hw => hrr _ hrb w)) | (refine aw_is ?_; first | refine aw_seq ?_ | refine aw_block ?_ | refine aw_region ?_ | refine aw_skip ?_ | refine aw_exit ?_ | refine aw_ret ?_ | refine aw_label ?_ | refine aw_scope ?_ | refine zwt ?_ | refine zwf ?_ | refine zwd ?_) | refine zoT ?_ | refine zqT ?_ | refine zwT ?_ | refine zoF ?_ | refine zqF ?_ | refine zwF ?_ | refine zp ?_ | refine ib_exit ?_ | refine ib_other ?_ | refine zr1 ?_ | refine zr2 ?_ | refine zr3 ?_ | refine zrt ?_ | refine zrc ?_ | refine zrd ?_ | refine zoS (fun _ => ?_) (fun _ => ?_) | refine zqS (fun _ => ?_) (fun _ => ?_) | refine zwS (fun _ => ?_) (fun _ => ?_))
    all_goals exact fun w' hw => ⟨_, rfl, hw.below, _, RowB.nil, fun _ _ h => by cases h⟩
  rw [show (outs.length == 16) = false from beq_eq_false_iff_ne.2 h16, Bool.false_or] at hbad
  obtain ⟨ax, cx, rfl⟩ := hr.len
  repeat' (first | refine ao_nil ?_ | refine aq_nil ?_ | ((first | apply ao_val | apply aq_val); exact wants_a; (first | exact ov_ssR k (k + m) rfl rfl rfl hnm rfl rfl (by omega) (by omega) | exact ov_a); (exact rfl)) | refine zok ?_ | refine zqk ?_ | refine zon fun _ => ?_ | refine zow ?_ | refine zox ?_ | refine zoz ?_ | refine zoa fun vr lr hr => ?_ | ((first | apply ao_call | apply aq_call); exact wants_a; (first | exact oc_func rfl | exact oc_clos rfl rfl); (exact rfl); (first | exact fun w hw => f1 w | exact fun w hw => f2 w | exact fun w hw => hrr _ hrb w)) | (refine aw_is ?_; first | refine aw_cutI_at (id := 15) (fun t H => t = [(0, S l), (4, .slice ax outs.length cx), (5, I k), (6, I ((k + p : Nat) : Int)), (7, I ((k + m : Nat) : Int)), (8, S nm)] ∧ H = lh ++ [] ∧ upB outs nm = true) ?_ ?_ | refine aw_cutI_at2 (id := 15) (fun t H => t = [(0, S l), (4, .slice ax outs.length cx), (5, I k), (6, I ((k + p : Nat) : Int)), (7, I ((k + m : Nat) : Int)), (8, S nm)] ∧ H = lh ++ [] ∧ upB outs nm = true) ?_ ?_ | refine aw_seq ?_ | refine aw_block ?_ | refine aw_region ?_ | refine aw_skip ?_ | refine aw_exit ?_ | refine aw_ret ?_ | refine aw_label ?_ | refine aw_scope ?_ | refine zwt ?_ | refine zwf ?_ | refine zwd ?_) | refine zoT ?_ | refine zqT ?_ | refine zwT ?_ | refine zoF ?_ | refine zqF ?_ | refine zwF ?_ | refine zp ?_ | refine ib_exit ?_ | refine ib_other ?_ | refine zr1 ?_ | refine zr2 ?_ | refine zr3 ?_ | refine zrt ?_ | refine zrc ?_ | refine zrd ?_ | refine zoS (fun _ => ?_) (fun _ => ?_) | refine zqS (fun _ => ?_) (fun _ => ?_) | refine zwS (fun _ => ?_) (fun _ => ?_))
  · have hpos : 0 < outs.length := by first | (simp_all; done) | (simp_all; omega)
    obtain ⟨r, hgl⟩ : ∃ r, outs.getLast? = some r := by
      cases hgl : outs.getLast? with
      | none => rw [List.getLast?_eq_none_iff] at hgl; subst hgl; simp at hpos
      | some r => exact ⟨r, rfl⟩
    obtain ⟨g, cap, cs, hsl, rfl, hcell⟩ := hr.cells cellsR_len (last_get hgl)
    cases hsl
    have hc0 : cs[0 + ((outs.length : Int) - 1).toNat * 2 + 0]? = some (S r.1) := by
      have := hcell 0 (S r.1) rfl
      rwa [show ((outs.length : Int) - 1).toNat = outs.length - 1 by omega]
    have hrl := hlast r hgl
    cases hlt : lt r.1 nm
    · have hbb : ∀ w, Calls Tryd.prog 40 #[S r.1, S nm] w fun e w' => e = .returned (.bool false) ∧ Below w.heap.size w w' := fun w => hlt ▸ before_ok r.1 nm (by omega) (by omega) w
      rw [hbad, show upB outs nm = false by unfold upB; rw [hgl]; exact hlt, Bool.not_false, if_pos rfl] at hpar
      rw [← hpar]
      repeat' (first | refine ao_nil ?_ | refine aq_nil ?_ | refine zov ?_ | refine zqv ?_ | refine zok ?_ | refine zqk ?_ | refine zon fun _ => ?_ | refine zow ?_ | refine zox ?_ | refine zoz ?_ | refine zoa fun vr lr hr => ?_ | ((first | apply ao_call | apply aq_call); exact wants_a; (first | exact oc_func rfl | exact oc_clos rfl rfl); (exact rfl); (first | exact fun w hw => hbb w)) | (refine aw_is ?_; first | refine aw_seq ?_ | refine aw_block ?_ | refine aw_region ?_ | refine aw_skip ?_ | refine aw_exit ?_ | refine aw_ret ?_ | refine aw_label ?_ | refine aw_scope ?_ | refine zwt ?_ | refine zwf ?_ | refine zwd ?_) | refine zoT ?_ | refine zqT ?_ | refine zwT ?_ | refine zoF ?_ | refine zqF ?_ | refine zwF ?_ | refine zp ?_ | refine ib_exit ?_ | refine ib_other ?_ | refine zr1 ?_ | refine zr2 ?_ | refine zr3 ?_ | refine zrt ?_ | refine zrc ?_ | refine zrd ?_ | refine zoS (fun _ => ?_) (fun _ => ?_) | refine zqS (fun _ => ?_) (fun _ => ?_) | refine zwS (fun _ => ?_) (fun _ => ?_))
      all_goals exact fun w' hw => ⟨_, rfl, hw.below, _, RowB.nil, fun _ _ h => by cases h⟩
    · have hbb : ∀ w, Calls Tryd.prog 40 #[S r.1, S nm] w fun e w' => e = .returned (.bool true) ∧ Below w.heap.size w w' := fun w => hlt ▸ before_ok r.1 nm (by omega) (by omega) w
      repeat' (first | refine ao_nil ?_ | refine aq_nil ?_ | refine zov ?_ | refine zqv ?_ | refine zok ?_ | refine zqk ?_ | refine zon fun _ => ?_ | refine zow ?_ | refine zox ?_ | refine zoz ?_ | refine zoa fun vr lr hr => ?_ | ((first | apply ao_call | apply aq_call); exact wants_a; (first | exact oc_func rfl | exact oc_clos rfl rfl); (exact rfl); (first | exact fun w hw => hbb w)) | (refine aw_is ?_; first | refine aw_seq ?_ | refine aw_block ?_ | refine aw_region ?_ | refine aw_skip ?_ | refine aw_exit ?_ | refine aw_ret ?_ | refine aw_label ?_ | refine aw_scope ?_ | refine zwt ?_ | refine zwf ?_ | refine zwd ?_) | refine zoT ?_ | refine zqT ?_ | refine zwT ?_ | refine zoF ?_ | refine zqF ?_ | refine zwF ?_ | refine zp ?_ | refine ib_exit ?_ | refine ib_other ?_ | refine zr1 ?_ | refine zr2 ?_ | refine zr3 ?_ | refine zrt ?_ | refine zrc ?_ | refine zrd ?_ | refine zoS (fun _ => ?_) (fun _ => ?_) | refine zqS (fun _ => ?_) (fun _ => ?_) | refine zwS (fun _ => ?_) (fun _ => ?_))
      all_goals exact ci_normal ⟨rfl, rfl, by unfold upB; rw [hgl]; exact hlt⟩ (by repeat (first | exact sub_nil | refine sub_cons rfl ?_)) hsub_a
  · have hpos : outs.length = 0 := by simp_all
    refine ci_normal ⟨rfl, rfl, ?_⟩ (by repeat (first | exact sub_nil | refine sub_cons rfl ?_)) hsub_a
    obtain rfl := List.eq_nil_of_length_eq_zero hpos
    rfl
  rintro t H ⟨rfl, rfl, hup⟩
  rw [hbad, hup, Bool.not_true, if_neg (by decide)] at hpar
  by_cases hpe : pe = 0
  · subst hpe
    rw [if_neg (by simp), List.length_drop, ← hp, List.drop_drop] at hpar
    by_cases hend : p = l.length - k
    · rw [if_pos hend] at hpar
      rw [← hpar]
      repeat' (first | refine ao_nil ?_ | refine aq_nil ?_ | ((first | apply ao_val | apply aq_val); exact wants_a; (first | exact ov_ssR (k + m + 1) (k + p) rfl rfl rfl htx (by omega) (by omega) (by omega) (by omega) | exact ov_a); (exact rfl)) | refine zok ?_ | refine zqk ?_ | refine zon fun _ => ?_ | refine zow ?_ | refine zox ?_ | refine zoz ?_ | refine zoa fun vr lr hr => ?_ | ((first | apply ao_call | apply aq_call); exact wants_a; (first | exact oc_func rfl | exact oc_clos rfl rfl); (exact rfl); (first | exact fun w hw => fq w)) | (refine aw_is ?_; first | refine aw_seq ?_ | refine aw_block ?_ | refine aw_region ?_ | refine aw_skip ?_ | refine aw_exit ?_ | refine aw_ret ?_ | refine aw_label ?_ | refine aw_scope ?_ | refine zwt ?_ | refine zwf ?_ | refine zwd ?_) | refine zoT ?_ | refine zqT ?_ | refine zwT ?_ | refine zoF ?_ | refine zqF ?_ | refine zwF ?_ | refine zp ?_ | refine ib_exit ?_ | refine ib_other ?_ | refine zr1 ?_ | refine zr2 ?_ | refine zr3 ?_ | refine zrt ?_ | refine zrc ?_ | refine zrd ?_ | refine zoS (fun _ => ?_) (fun _ => ?_) | refine zqS (fun _ => ?_) (fun _ => ?_) | refine zwS (fun _ => ?_) (fun _ => ?_))
      all_goals exact fun w' hw => ⟨_, rfl, hw.below, _, row_addR (by assumption), fun b o hm => hw.at_ b o (List.mem_append_left _ hm)⟩
    · rw [if_neg hend] at hpar
      repeat' (first | refine ao_nil ?_ | refine aq_nil ?_ | ((first | apply ao_val | apply aq_val); exact wants_a; (first | exact ov_ssR (k + m + 1) (k + p) rfl rfl rfl htx (by omega) (by omega) (by omega) (by omega) | exact ov_a); (exact rfl)) | refine zok ?_ | refine zqk ?_ | refine zon fun _ => ?_ | refine zow ?_ | refine zox ?_ | refine zoz ?_ | refine zoa fun vr lr hr => ?_ | ((first | apply ao_call | apply aq_call); exact wants_a; (first | exact oc_func rfl | exact oc_clos rfl rfl); (exact rfl); (first | exact fun w hw => fq w)) | (refine aw_is ?_; first | refine aw_seq ?_ | refine aw_block ?_ | refine aw_region ?_ | refine aw_skip ?_ | refine aw_exit ?_ | refine aw_ret ?_ | refine aw_label ?_ | refine aw_scope ?_ | refine zwt ?_ | refine zwf ?_ | refine zwd ?_) | refine zoT ?_ | refine zqT ?_ | refine zwT ?_ | refine zoF ?_ | refine zqF ?_ | refine zwF ?_ | refine zp ?_ | refine ib_exit ?_ | refine ib_other ?_ | refine zr1 ?_ | refine zr2 ?_ | refine zr3 ?_ | refine zrt ?_ | refine zrc ?_ | refine zrd ?_ | refine zoS (fun _ => ?_) (fun _ => ?_) | refine zqS (fun _ => ?_) (fun _ => ?_) | refine zwS (fun _ => ?_) (fun _ => ?_))
      all_goals exact lq_normal' ⟨n, k + (p + 1), _, _, outs ++ [(nm, pn)], rfl, by omega, by omega, row_addR (by assumption), by simp; omega, fun r hr => by
        rcases List.mem_append.1 hr with hr | hr
        · exact hwo r hr
        · obtain rfl : r = (nm, pn) := by simpa using hr
          exact hnl, hpar, rfl, rfl⟩ (by omega) (sub_cons rfl (sub_cons rfl (sub_cons' rfl (congrArg I (by omega)) sub_nil))) hsub_a
  · rw [if_pos (by simpa using hpe)] at hpar
    rw [← hpar]
    have hpb : (pe != 0) = true := bne_iff_ne.2 hpe
    repeat' (first | refine ao_nil ?_ | refine aq_nil ?_ | ((first | apply ao_val | apply aq_val); exact wants_a; (first | exact ov_ssR (k + m + 1) (k + p) rfl rfl rfl htx (by omega) (by omega) (by omega) (by omega) | exact ov_a); (exact rfl)) | refine zok ?_ | refine zqk ?_ | refine zon fun _ => ?_ | refine zow ?_ | refine zox ?_ | refine zoz ?_ | refine zoa fun vr lr hr => ?_ | ((first | apply ao_call | apply aq_call); exact wants_a; (first | exact oc_func rfl | exact oc_clos rfl rfl); (exact rfl); (first | exact fun w hw => fq w)) | (refine aw_is ?_; first | refine aw_seq ?_ | refine aw_block ?_ | refine aw_region ?_ | refine aw_skip ?_ | refine aw_exit ?_ | refine aw_ret ?_ | refine aw_label ?_ | refine aw_scope ?_ | refine zwt ?_ | refine zwf ?_ | refine zwd ?_) | refine zoT ?_ | refine zqT ?_ | refine zwT ?_ | refine zoF ?_ | refine zqF ?_ | refine zwF ?_ | refine zp ?_ | refine ib_exit ?_ | refine ib_other ?_ | refine zr1 ?_ | refine zr2 ?_ | refine zr3 ?_ | refine zrt ?_ | refine zrc ?_ | refine zrd ?_ | refine zoS (fun _ => ?_) (fun _ => ?_) | refine zqS (fun _ => ?_) (fun _ => ?_) | refine zwS (fun _ => ?_) (fun _ => ?_))
    all_goals exact fun w' hw => ⟨_, rfl, hw.below, _, RowB.nil, fun _ _ h => by cases h⟩
end Vec
end Go.Proofs.YteclgkemggmabaaDoor
