/- Contract of the landed Parse of layer 4; conditions: the quantities' table as it was laid, texts of at most 100,000 bytes. -/
import Derived.Test.YthabchmfhfhcaaaVrparse
import Derived.Test.YthabchmfhfhcaaaQsc
namespace Go.Proofs.Ythabchmfhfhcaaa
namespace Vec
open Go Go.RowKit Sx Wid Lab
attribute [local irreducible] Go.Calls

theorem indexByte_nx (c : UInt8) : ∀ (l : List UInt8), Lib.indexByte l c = if nx c l < l.length then (nx c l : Int) else -1
  | [] => rfl
  | d :: l => by
    have ih := indexByte_nx c l
    by_cases hc : d = c
    · subst hc; simp [Lib.indexByte, nx]
    · have hn : nx c (d :: l) = nx c l + 1 := by
        unfold nx
        rw [List.takeWhile_cons_of_pos (by simpa using hc)]
        rfl
      have hc' : (d == c) = false := by simpa using hc
      unfold Lib.indexByte
      rw [hn, hc', ih]
      simp only [Bool.false_eq_true, if_false, List.length_cons]
      by_cases hl : nx c l < l.length
      · have h2 : nx c l + 1 < l.length + 1 := by omega
        have : ((nx c l : Int) == -1) = false := by rw [beq_eq_false_iff_ne]; omega
        simp only [hl, h2, if_true, this, Bool.false_eq_true, if_false]
        omega
      · have h2 : ¬ nx c l + 1 < l.length + 1 := by omega
        simp only [hl, h2, if_false]
        rfl
theorem cutV_nx (l : List UInt8) (c : UInt8) : cutV l c = .tuple #[S (l.take (nx c l)), S (l.drop (nx c l + 1)), .bool (decide (nx c l < l.length))] := by
  unfold cutV
  rw [indexByte_nx]
  by_cases h : nx c l < l.length
  · rw [if_pos h, if_pos (by omega), decide_eq_true h, Int.toNat_natCast]
  · have := nx_le c l
    rw [if_neg h, if_neg (by omega), decide_eq_false h, List.take_of_length_le (by omega), List.drop_eq_nil_of_le (by omega)]
/-- The last name, if there is one. -/
def lastN (out : List Ent) : Nm := match out.getLast? with | none => [] | some r => r.1
theorem up_last {out : List Ent} {m : Nm} (h : rightB m = true) : upB out m = lt (lastN out) m := by
  unfold upB lastN
  cases hg : out.getLast? with
  | some r => rfl
  | none =>
    cases m with
    | nil => simp [rightB] at h
    | cons c m => rfl
theorem leq_lt (a b : Nm) : (Op.bytesLess b a || b == a) = !(lt a b) := by
  cases h : lt a b
  · cases h2 : Op.bytesLess b a
    · rw [lt_total (a := a) (b := b) h h2]; simp
    · rfl
  · have h2 := lt_asymm h
    have h3 := lt_ne h
    rw [show Op.bytesLess b a = false from h2, Bool.false_or]
    exact beq_eq_false_iff_ne.2 h3.symm
theorem lastN_snoc (out : List Ent) (r : Ent) : lastN (out ++ [r]) = r.1 := by simp [lastN]

end Vec
end Go.Proofs.Ythabchmfhfhcaaa
