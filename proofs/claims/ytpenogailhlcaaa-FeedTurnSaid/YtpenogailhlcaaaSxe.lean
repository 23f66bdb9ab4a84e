/- Shifts, bits, closures, calls that write into the caller's own memory, make, cuts of arrays, texts of bytes, in the symbolic walk, over whatever program; conditions: none. -/
import Derived.Test.YtpenogailhlcaaaSxr
import Derived.Laws.Shifts
import Derived.Laws.BytesArg
import Derived.Laws.IdiomStrings
import Derived.Laws.MakeOwn
namespace Go.Proofs.Ytpenogailhlcaaa
namespace Sx
open Go Go.RowKit
set_option linter.unusedSimpArgs false

section
variable {P : Program} {E : Env} {kd : Bool} {Q : Exit → Tm → Hp → Prop} {t : Tm} {H : Hp} {ops : Array Oper} {rest : List Oper} {ty : TypeId}

/-! Shifts and bits. -/
theorem ov_sub_u64 {x y : Operand} {xt yt : TypeId} {p q : Int} (hx : ev t x = some (.int .u64 p)) (hy : ev t y = some (.int .u64 q)) (h : 0 ≤ p - q ∧ p - q < 18446744073709551616) : OpV P E (.binOp .sub xt x y yt) ty t H (.int .u64 (p - q)) := by
  have := ov_sub (P := P) (E := E) (H := H) (ty := ty) (xt := xt) (yt := yt) hx hy
  rwa [wrap_u64 h.1 h.2] at this
theorem ov_shl {x y : Operand} {xt yt : TypeId} {k k2 : IntKind} {p q : Int} (hx : ev t x = some (.int k p)) (hy : ev t y = some (.int k2 q)) (n : Nat) (hq : q = (n : Int)) (hn : n ≤ 64) (hk : k.bits = 64) :
    OpV P E (.binOp .shl xt x y yt) ty t H (.int k (k.wrap (p * 2 ^ n))) := by
  refine ov_of fun a w ht _ o ho _ => ⟨_, by simp only [execOp, ho]; rfl, ?_⟩
  rw [ev_eval ht hx, ev_eval ht hy, Sem.run_bind]
  have : (eqGuard .shl xt x y (.int k p) (.int k2 q)).run P w = .ok () w := rfl
  rw [this]
  subst hq
  simp only [Result.andThen, binOp]
  rw [shift_shl_any _ _ _ _ (by omega), hk, Int.toNat_natCast, Nat.min_eq_left hn]
  rfl
theorem ov_shr {x y : Operand} {xt yt : TypeId} {k k2 : IntKind} {p q : Int} (hx : ev t x = some (.int k p)) (hy : ev t y = some (.int k2 q)) (n : Nat) (hq : q = (n : Int)) (hn : n ≤ 64) (hk : k.bits = 64) :
    OpV P E (.binOp .shr xt x y yt) ty t H (.int k (p / 2 ^ n)) := by
  refine ov_of fun a w ht _ o ho _ => ⟨_, by simp only [execOp, ho]; rfl, ?_⟩
  rw [ev_eval ht hx, ev_eval ht hy, Sem.run_bind]
  have : (eqGuard .shr xt x y (.int k p) (.int k2 q)).run P w = .ok () w := rfl
  rw [this]
  subst hq
  simp only [Result.andThen, binOp]
  rw [shift_shr_any _ _ _ _ (by omega), hk, Int.toNat_natCast, Nat.min_eq_left hn]
  rfl
/-- Bits that do not meet: or is a sum. -/
theorem or_add {n : Nat} (hn : n ≤ 64) {p q : Int} (hp : p % 2 ^ n = 0) (hq : 0 ≤ q ∧ q < 2 ^ n) : ((BitVec.ofInt 64 p ||| BitVec.ofInt 64 q).toNat : Int) = (p + q) % 18446744073709551616 := by
  obtain ⟨m, rfl⟩ : ∃ m : Nat, q = m := ⟨q.toNat, by omega⟩
  obtain ⟨z, rfl⟩ : ∃ z : Int, p = 2 ^ n * z := ⟨p / 2 ^ n, (Int.mul_ediv_cancel' (Int.dvd_of_emod_eq_zero hp)).symm⟩
  have hm : m < 2 ^ n := by
    have := hq.2
    have e : ((2 : Int) ^ n) = ((2 ^ n : Nat) : Int) := by simp
    rw [e] at this
    omega
  have e64 : (2 : Nat) ^ 64 = 2 ^ n * 2 ^ (64 - n) := by rw [← Nat.pow_add]; congr 1; omega
  have i64 : (18446744073709551616 : Int) = 2 ^ n * 2 ^ (64 - n) := by rw [← Int.pow_add]; rw [show n + (64 - n) = 64 by omega]; rfl
  have hm64 : m < 2 ^ 64 := Nat.lt_of_lt_of_le hm (Nat.pow_le_pow_right (by decide) hn)
  have h1 : (BitVec.ofInt 64 (2 ^ n * z)).toNat = 2 ^ n * (z % 2 ^ (64 - n)).toNat := by
    rw [BitVec.toNat_ofInt]
    have : ((2 ^ 64 : Nat) : Int) = 2 ^ n * 2 ^ (64 - n) := by rw [← i64]; rfl
    rw [this, Int.mul_emod_mul_of_pos _ _ (Int.pow_pos (by decide))]
    have h0 : 0 ≤ z % 2 ^ (64 - n) := Int.emod_nonneg _ (Int.ne_of_gt (Int.pow_pos (by decide)))
    obtain ⟨y, hy⟩ : ∃ y : Nat, z % 2 ^ (64 - n) = y := ⟨(z % 2 ^ (64 - n)).toNat, by omega⟩
    rw [hy, Int.toNat_natCast]
    have e : ((2 : Int) ^ n) * (y : Int) = ((2 ^ n * y : Nat) : Int) := by simp
    rw [e, Int.toNat_natCast]
  have h2 : (BitVec.ofInt 64 (m : Int)).toNat = m := by
    rw [BitVec.toNat_ofInt]
    have : ((m : Int) % ((2 ^ 64 : Nat) : Int)) = m := Int.emod_eq_of_lt (by omega) (by omega)
    rw [this, Int.toNat_natCast]
  rw [BitVec.toNat_or, h1, h2, ← Nat.two_pow_add_eq_or_of_lt hm]
  have h0 : 0 ≤ z % 2 ^ (64 - n) := Int.emod_nonneg _ (Int.ne_of_gt (Int.pow_pos (by decide)))
  have hlt : z % 2 ^ (64 - n) < 2 ^ (64 - n) := Int.emod_lt_of_pos _ (Int.pow_pos (by decide))
  have e3 : ((2 ^ n * (z % 2 ^ (64 - n)).toNat + m : Nat) : Int) = 2 ^ n * (z % 2 ^ (64 - n)) + m := by
    push_cast
    rw [Int.toNat_of_nonneg h0]
  rw [e3]
  have e4 : (2 ^ n * z + (m : Int)) % 18446744073709551616 = 2 ^ n * (z % 2 ^ (64 - n)) + m := by
    have hz := Int.mul_ediv_add_emod z (2 ^ (64 - n))
    have e5 : 2 ^ n * z + (m : Int) = (2 ^ n * (z % 2 ^ (64 - n)) + m) + 18446744073709551616 * (z / 2 ^ (64 - n)) := by
      rw [i64, Int.mul_assoc]
      have e6 : (2 : Int) ^ n * z = 2 ^ n * (2 ^ (64 - n) * (z / 2 ^ (64 - n)) + z % 2 ^ (64 - n)) := by rw [hz]
      rw [e6, Int.mul_add]
      omega
    rw [e5, Int.add_mul_emod_self_left]
    have hmi : (m : Int) < 2 ^ n := hq.2
    have hb : 2 ^ n * (z % 2 ^ (64 - n)) + (m : Int) < 18446744073709551616 := by
      rw [i64]
      have h7 : 2 ^ n * (z % 2 ^ (64 - n) + 1) ≤ (2 : Int) ^ n * 2 ^ (64 - n) := Int.mul_le_mul_of_nonneg_left (by omega) (Int.le_of_lt (Int.pow_pos (by decide)))
      rw [Int.mul_add] at h7
      omega
    have hge : 0 ≤ 2 ^ n * (z % 2 ^ (64 - n)) + (m : Int) := by
      have h8 : (0 : Int) < 2 ^ n := Int.pow_pos (by decide)
      have := Int.mul_nonneg (Int.le_of_lt h8) h0
      omega
    exact Int.emod_eq_of_lt hge hb
  rw [e4]
theorem wrap_mod_u64 (n : Int) : IntKind.u64.wrap (n % 18446744073709551616) = IntKind.u64.wrap n := by rw [wrap_u64_mod, wrap_u64_mod]; omega
theorem wrap_mod_i64 (n : Int) : IntKind.i64.wrap (n % 18446744073709551616) = IntKind.i64.wrap n := by
  have e : n % 18446744073709551616 % (2 ^ IntKind.i64.bits : Int) = n % (2 ^ IntKind.i64.bits : Int) := Int.emod_emod_of_dvd _ (Int.dvd_refl _)
  unfold IntKind.wrap
  rw [e]
theorem ov_or_u {x y : Operand} {xt yt : TypeId} {p q : Int} (n : Nat) (hn : n ≤ 64) (hx : ev t x = some (.int .u64 p)) (hy : ev t y = some (.int .u64 q)) (hp : p % 2 ^ n = 0) (hq : 0 ≤ q ∧ q < 2 ^ n) :
    OpV P E (.binOp .or xt x y yt) ty t H (.int .u64 ((p + q) % 18446744073709551616)) :=
  ov_int hx hy fun w => by
    have e : (BitVec.ofInt IntKind.u64.bits p ||| BitVec.ofInt IntKind.u64.bits q).toNat = (BitVec.ofInt 64 p ||| BitVec.ofInt 64 q).toNat := rfl
    simp only [binOp, Op.intBits, ne_eq, not_true_eq_false, if_false]
    rw [e, or_add hn hp hq, wrap_mod_u64, wrap_u64_mod]
    rfl
theorem ov_or_i {x y : Operand} {xt yt : TypeId} {p q : Int} (n : Nat) (hn : n ≤ 64) (hx : ev t x = some (I p)) (hy : ev t y = some (I q)) (hp : p % 2 ^ n = 0) (hq : 0 ≤ q ∧ q < 2 ^ n) :
    OpV P E (.binOp .or xt x y yt) ty t H (I (IntKind.i64.wrap (p + q))) :=
  ov_int hx hy fun w => by
    have e : (BitVec.ofInt IntKind.i64.bits p ||| BitVec.ofInt IntKind.i64.bits q).toNat = (BitVec.ofInt 64 p ||| BitVec.ofInt 64 q).toNat := rfl
    simp only [binOp, Op.intBits, ne_eq, not_true_eq_false, if_false]
    rw [e, or_add hn hp hq, wrap_mod_i64]
    rfl
/-- The other way round: the low part stands ahead. -/
theorem ov_or_u' {x y : Operand} {xt yt : TypeId} {p q : Int} (n : Nat) (hn : n ≤ 64) (hx : ev t x = some (.int .u64 p)) (hy : ev t y = some (.int .u64 q)) (hp : q % 2 ^ n = 0) (hq : 0 ≤ p ∧ p < 2 ^ n) :
    OpV P E (.binOp .or xt x y yt) ty t H (.int .u64 ((p + q) % 18446744073709551616)) :=
  ov_int hx hy fun w => by
    have e : (BitVec.ofInt IntKind.u64.bits p ||| BitVec.ofInt IntKind.u64.bits q).toNat = (BitVec.ofInt 64 q ||| BitVec.ofInt 64 p).toNat := by rw [BitVec.or_comm]; rfl
    simp only [binOp, Op.intBits, ne_eq, not_true_eq_false, if_false]
    rw [e, or_add hn hp hq, wrap_mod_u64, wrap_u64_mod, Int.add_comm]
    rfl
/-- The low n bits. -/
theorem ov_and_low {x y : Operand} {xt yt : TypeId} {p q : Int} (n : Nat) (hn : n ≤ 64) (hx : ev t x = some (.int .u64 p)) (hy : ev t y = some (.int .u64 q)) (hp : 0 ≤ p ∧ p < 18446744073709551616) (hq : q = 2 ^ n - 1) :
    OpV P E (.binOp .and xt x y yt) ty t H (.int .u64 (p % 2 ^ n)) :=
  ov_int hx hy fun w => by
    subst hq
    obtain ⟨m, rfl⟩ : ∃ m : Nat, p = m := ⟨p.toNat, by omega⟩
    have h1 : (BitVec.ofInt 64 (m : Int)).toNat = m := by
      rw [BitVec.toNat_ofInt]
      have : ((m : Int) % ((2 ^ 64 : Nat) : Int)) = m := Int.emod_eq_of_lt (by omega) (by omega)
      rw [this, Int.toNat_natCast]
    have hpos : 0 < 2 ^ n := Nat.pow_pos (by decide)
    have hle : 2 ^ n ≤ 2 ^ 64 := Nat.pow_le_pow_right (by decide) hn
    have e2 : ((2 : Int) ^ n - 1) = ((2 ^ n - 1 : Nat) : Int) := by
      rw [Int.ofNat_sub (by omega)]; simp
    have h2 : (BitVec.ofInt 64 ((2 : Int) ^ n - 1)).toNat = 2 ^ n - 1 := by
      rw [e2, BitVec.toNat_ofInt]
      have : (((2 ^ n - 1 : Nat) : Int) % ((2 ^ 64 : Nat) : Int)) = ((2 ^ n - 1 : Nat) : Int) := Int.emod_eq_of_lt (by omega) (by omega)
      rw [this, Int.toNat_natCast]
    have h3 : (BitVec.ofInt IntKind.u64.bits (m : Int) &&& BitVec.ofInt IntKind.u64.bits ((2 : Int) ^ n - 1)).toNat = m % 2 ^ n := by
      show (BitVec.ofInt 64 (m : Int) &&& BitVec.ofInt 64 ((2 : Int) ^ n - 1)).toNat = m % 2 ^ n
      rw [BitVec.toNat_and, h1, h2, Nat.and_two_pow_sub_one_eq_mod]
    simp only [binOp, Op.intBits, ne_eq, not_true_eq_false, if_false]
    rw [h3]
    have h4 : ((m % 2 ^ n : Nat) : Int) = (m : Int) % 2 ^ n := by simp
    have h5 : (m : Int) % 2 ^ n ≤ m := by rw [← h4]; exact_mod_cast Nat.mod_le _ _
    have h6 : 0 ≤ (m : Int) % 2 ^ n := by rw [← h4]; omega
    rw [h4, wrap_u64 h6 (by omega)]
    rfl

/-! The same, where what comes out is told. -/
theorem ov_convR {x : Operand} {src dst : TypeId} {k k2 : IntKind} {n : Int} (r : Int) [TyU P src (.int k2)] [TyU P dst (.int k)] (hx : ev t x = some (.int k2 n)) (hr : k.wrap n = r) : OpV P E (.convert src dst x) ty t H (.int k r) := by
  have := ov_conv (P := P) (E := E) (H := H) (ty := ty) (src := src) (dst := dst) hx
  rwa [hr] at this
theorem ov_addR {x y : Operand} {xt yt : TypeId} {k : IntKind} {p q : Int} (r : Int) (hx : ev t x = some (.int k p)) (hy : ev t y = some (.int k q)) (hr : k.wrap (p + q) = r) : OpV P E (.binOp .add xt x y yt) ty t H (.int k r) := by
  have := ov_add (P := P) (E := E) (H := H) (ty := ty) (xt := xt) (yt := yt) hx hy
  rwa [hr] at this
theorem wrap_u8 {n : Int} (h0 : 0 ≤ n) (h1 : n < 256) : IntKind.u8.wrap n = n := by
  simp only [IntKind.wrap, IntKind.signed, IntKind.bits]
  simp only [Bool.false_and, Bool.false_eq_true, if_false]
  omega
theorem ov_neg_in {x : Operand} {xt : TypeId} {n : Int} (hx : ev t x = some (I n)) (h : -9223372036854775807 ≤ n ∧ n ≤ 9223372036854775807) : OpV P E (.unOp .neg xt x) ty t H (I (-n)) := by
  have := ov_neg (P := P) (E := E) (H := H) (ty := ty) (xt := xt) hx
  rwa [wrap_i64 (by omega) (by omega), Int.zero_sub] at this
theorem ov_maxR {x y : Operand} {ats : Array TypeId} {k : IntKind} {p q : Int} (r : Int) (hx : ev t x = some (.int k p)) (hy : ev t y = some (.int k q)) (hr : (if q > p then q else p) = r) : OpV P E (.call ⟨.builtin .max, #[x, y], ats⟩) ty t H (.int k r) := by
  intro a w ht _ o ho _
  subst hr
  simp [execOp, ho, resolve, invoke, builtin, Builtin.max_, Builtin.max2, ev_eval ht hx, ev_eval ht hy, Sem.run, pure]
theorem ov_subK {x y : Operand} {xt yt : TypeId} {k : IntKind} {p q : Int} (r : Int) (hx : ev t x = some (.int k p)) (hy : ev t y = some (.int k q)) (hr : k.wrap (p - q) = r) : OpV P E (.binOp .sub xt x y yt) ty t H (.int k r) := by
  have := ov_sub (P := P) (E := E) (H := H) (ty := ty) (xt := xt) (yt := yt) hx hy
  rwa [hr] at this
theorem ov_shlR {x y : Operand} {xt yt : TypeId} {k2 : IntKind} {p q : Int} (n : Nat) (r : Int) (hx : ev t x = some (.int .u64 p)) (hy : ev t y = some (.int k2 q)) (hq : q = (n : Int)) (hn : n ≤ 64) (hr : p * 2 ^ n % 18446744073709551616 = r) :
    OpV P E (.binOp .shl xt x y yt) ty t H (.int .u64 r) := by
  have := ov_shl (P := P) (E := E) (H := H) (ty := ty) (xt := xt) (yt := yt) hx hy n hq hn rfl
  rwa [wrap_u64_mod, hr] at this
theorem ov_shrR {x y : Operand} {xt yt : TypeId} {k2 : IntKind} {p q : Int} (n : Nat) (r : Int) (hx : ev t x = some (.int .u64 p)) (hy : ev t y = some (.int k2 q)) (hq : q = (n : Int)) (hn : n ≤ 64) (hr : p / 2 ^ n = r) :
    OpV P E (.binOp .shr xt x y yt) ty t H (.int .u64 r) := by
  have := ov_shr (P := P) (E := E) (H := H) (ty := ty) (xt := xt) (yt := yt) hx hy n hq hn rfl
  rwa [hr] at this
theorem ov_orR {x y : Operand} {xt yt : TypeId} {p q : Int} (n : Nat) (r : Int) (hn : n ≤ 64) (hx : ev t x = some (.int .u64 p)) (hy : ev t y = some (.int .u64 q)) (hp : p % 2 ^ n = 0) (hq : 0 ≤ q ∧ q < 2 ^ n) (hr : (p + q) % 18446744073709551616 = r) :
    OpV P E (.binOp .or xt x y yt) ty t H (.int .u64 r) := by
  have := ov_or_u (P := P) (E := E) (H := H) (ty := ty) (xt := xt) (yt := yt) n hn hx hy hp hq
  rwa [hr] at this
theorem ov_andR {x y : Operand} {xt yt : TypeId} {p q : Int} (n : Nat) (r : Int) (hn : n ≤ 64) (hx : ev t x = some (.int .u64 p)) (hy : ev t y = some (.int .u64 q)) (hp : 0 ≤ p ∧ p < 18446744073709551616) (hq : q = 2 ^ n - 1) (hr : p % 2 ^ n = r) :
    OpV P E (.binOp .and xt x y yt) ty t H (.int .u64 r) := by
  have := ov_and_low (P := P) (E := E) (H := H) (ty := ty) (xt := xt) (yt := yt) n hn hx hy hp hq
  rwa [hr] at this
theorem ov_subR {x y : Operand} {xt yt : TypeId} {p q : Int} (r : Int) (hx : ev t x = some (.int .u64 p)) (hy : ev t y = some (.int .u64 q)) (hr : (p - q) % 18446744073709551616 = r) : OpV P E (.binOp .sub xt x y yt) ty t H (.int .u64 r) := by
  have := ov_sub (P := P) (E := E) (H := H) (ty := ty) (xt := xt) (yt := yt) hx hy
  rwa [wrap_u64_mod, hr] at this
theorem ov_mul_u64m {x y : Operand} {xt yt : TypeId} {p q : Int} (hx : ev t x = some (.int .u64 p)) (hy : ev t y = some (.int .u64 q)) : OpV P E (.binOp .mul xt x y yt) ty t H (.int .u64 (p * q % 18446744073709551616)) := by
  have := ov_mul (P := P) (E := E) (H := H) (ty := ty) (xt := xt) (yt := yt) hx hy
  rwa [wrap_u64_mod] at this
theorem ov_add_u64m {x y : Operand} {xt yt : TypeId} {p q : Int} (hx : ev t x = some (.int .u64 p)) (hy : ev t y = some (.int .u64 q)) : OpV P E (.binOp .add xt x y yt) ty t H (.int .u64 ((p + q) % 18446744073709551616)) := by
  have := ov_add (P := P) (E := E) (H := H) (ty := ty) (xt := xt) (yt := yt) hx hy
  rwa [wrap_u64_mod] at this

/-! Sums and differences of 64 bits with what is carried: functions without a body. -/
abbrev addX : Array Value → Sem Value := (Extern.MathBitsCarry.rows.get ⟨0, by decide⟩).2
abbrev subX : Array Value → Sem Value := (Extern.MathBitsCarry.rows.get ⟨1, by decide⟩).2
theorem ov_add64 {f : FuncId} {xs : List Operand} {ats : Array TypeId} {x y c : Int} [FnX P f addX] (hv : evL t xs = some [.int .u64 x, .int .u64 y, .int .u64 c]) (h : 0 ≤ x ∧ 0 ≤ y ∧ 0 ≤ c ∧ c ≤ 1) :
    OpV P E (.call ⟨.value (.func f), xs.toArray, ats⟩) ty t H (.tuple #[.int .u64 ((x + y + c) % 18446744073709551616), .int .u64 ((x + y + c) / 18446744073709551616)]) :=
  ov_ext hv fun w => by
    obtain ⟨a, rfl⟩ : ∃ m : Nat, x = m := ⟨x.toNat, by omega⟩
    obtain ⟨b, rfl⟩ : ∃ m : Nat, y = m := ⟨y.toNat, by omega⟩
    obtain ⟨d, rfl⟩ : ∃ m : Nat, c = m := ⟨c.toNat, by omega⟩
    have hd : ¬ d > 1 := by omega
    have h3 : Extern.MathBitsCarry.three "Add64" #[.int .u64 (a : Int), .int .u64 (b : Int), .int .u64 (d : Int)] = (do
        let c := (← asInt (.int .u64 (d : Int))).toNat
        if c > 1 then unsupported (.noEntry ("extern/math/bits." ++ "Add64" ++ ": a carry that is neither 0 nor 1"))
        pure ((← asInt (.int .u64 (a : Int))).toNat, (← asInt (.int .u64 (b : Int))).toNat, c)) := rfl
    simp only [addX, Extern.MathBitsCarry.rows, List.get, h3, Sem.run_bind, asInt, asIntOf, pure, Sem.run, Result.andThen, Int.toNat_natCast, hd, if_false, Extern.MathBitsCarry.pair, Extern.MathBitsCarry.m64]
    have h1 : Int.ofNat ((a + b + d) % 2 ^ 64) = ((a : Int) + b + d) % 18446744073709551616 := by simp
    have h2 : Int.ofNat ((a + b + d) / 2 ^ 64) = ((a : Int) + b + d) / 18446744073709551616 := by simp
    rw [h1, h2]
theorem ov_sub64 {f : FuncId} {xs : List Operand} {ats : Array TypeId} {x y c : Int} [FnX P f subX] (hv : evL t xs = some [.int .u64 x, .int .u64 y, .int .u64 c]) (h : 0 ≤ x ∧ x < 18446744073709551616 ∧ 0 ≤ y ∧ y < 18446744073709551616 ∧ 0 ≤ c ∧ c ≤ 1) :
    OpV P E (.call ⟨.value (.func f), xs.toArray, ats⟩) ty t H (.tuple #[.int .u64 ((x - y - c) % 18446744073709551616), .int .u64 (if x < y + c then 1 else 0)]) :=
  ov_ext hv fun w => by
    obtain ⟨a, rfl⟩ : ∃ m : Nat, x = m := ⟨x.toNat, by omega⟩
    obtain ⟨b, rfl⟩ : ∃ m : Nat, y = m := ⟨y.toNat, by omega⟩
    obtain ⟨d, rfl⟩ : ∃ m : Nat, c = m := ⟨c.toNat, by omega⟩
    have hd : ¬ d > 1 := by omega
    have h3 : Extern.MathBitsCarry.three "Sub64" #[.int .u64 (a : Int), .int .u64 (b : Int), .int .u64 (d : Int)] = (do
        let c := (← asInt (.int .u64 (d : Int))).toNat
        if c > 1 then unsupported (.noEntry ("extern/math/bits." ++ "Sub64" ++ ": a carry that is neither 0 nor 1"))
        pure ((← asInt (.int .u64 (a : Int))).toNat, (← asInt (.int .u64 (b : Int))).toNat, c)) := rfl
    simp only [subX, Extern.MathBitsCarry.rows, List.get, h3, Sem.run_bind, asInt, asIntOf, pure, Sem.run, Result.andThen, Int.toNat_natCast, hd, if_false, Extern.MathBitsCarry.pair, Extern.MathBitsCarry.m64]
    have h1 : Int.ofNat ((a + 2 ^ 64 - b - d) % 2 ^ 64) = ((a : Int) - b - d) % 18446744073709551616 := by
      have e : ((a + 2 ^ 64 - b - d : Nat) : Int) = (a : Int) - b - d + 18446744073709551616 := by omega
      show (((a + 2 ^ 64 - b - d) % 2 ^ 64 : Nat) : Int) = _
      rw [Int.natCast_emod, e]
      show ((a : Int) - b - d + 18446744073709551616) % 18446744073709551616 = _
      omega
    have h2 : (Int.ofNat (if a < b + d then 1 else 0)) = (if (a : Int) < (b : Int) + d then 1 else 0) := by
      by_cases h : a < b + d
      · rw [if_pos h, if_pos (by omega)]; rfl
      · rw [if_neg h, if_neg (by omega)]; rfl
    rw [h1, h2]

/-! Closures. -/
theorem ov_makeFunc {f : FuncId} {xs : List Operand} {vs : List Value} (hv : evL t xs = some vs) : OpV P E (.makeFunc (.func f) #[] xs.toArray) ty t H (.func (.func f) #[] vs.toArray) := by
  refine ov_of fun a w ht _ o ho _ => ⟨_, by simp only [execOp, ho]; rfl, ?_⟩
  have he := evL_eval ht xs vs hv
  simp [Instr.makeFunc, pure, Sem.run, he]
theorem oc_clos {f : FuncId} {x : Operand} {xs : List Operand} {ats : Array TypeId} {vs cs : List Value} [FnB P f] (hx : ev t x = some (.func (.func f) #[] cs.toArray)) (hv : evL t xs = some vs) :
    OpCall P E (.call ⟨.value x, xs.toArray, ats⟩) ty t f (vs ++ cs).toArray := by
  intro a w ht o ho _
  obtain ⟨fn, hf, hn, hb⟩ := FnB.fn (P := P) (f := f)
  have he := evL_eval ht xs vs hv
  simp only [execOp, ho, resolve, ev_eval ht hx, Deferred.ofValue, Sem.run_bind, Sem.run, pure, Result.andThen, invoke, callFunc, program, hf, hn, hb, List.map_toArray, he]
  simp [Sem.run, pure]

/-- A method value, or a closure with arguments bound. -/
theorem ov_makeFuncB {f : FuncId} {xs : List Operand} {vs : List Value} (hv : evL t xs = some vs) : OpV P E (.makeFunc (.func f) xs.toArray #[]) ty t H (.func (.func f) vs.toArray #[]) := by
  refine ov_of fun a w ht _ o ho _ => ⟨_, by simp only [execOp, ho]; rfl, ?_⟩
  have he := evL_eval ht xs vs hv
  simp [Instr.makeFunc, pure, Sem.run, he]
theorem oc_bnd {f : FuncId} {x : Operand} {xs : List Operand} {ats : Array TypeId} {bs vs cs : List Value} [FnB P f] (hx : ev t x = some (.func (.func f) bs.toArray cs.toArray)) (hv : evL t xs = some vs) :
    OpCall P E (.call ⟨.value x, xs.toArray, ats⟩) ty t f (bs ++ vs ++ cs).toArray := by
  intro a w ht o ho _
  obtain ⟨fn, hf, hn, hb⟩ := FnB.fn (P := P) (f := f)
  have he := evL_eval ht xs vs hv
  simp only [execOp, ho, resolve, ev_eval ht hx, Deferred.ofValue, Sem.run_bind, Sem.run, pure, Result.andThen, invoke, callFunc, program, hf, hn, hb, List.map_toArray, he]
  simp [Sem.run, pure]
/-! Calls that write into the caller's own memory. -/
def CallsH (P : Program) (E : Env) (f : FuncId) (args : List Value) (H : Hp) (R : Value → Hp → Prop) : Prop :=
  ∀ hid w, RepH E (H ++ hid) w → Calls P f args.toArray w fun e w' => ∃ v H', e = .returned v ∧ RepH E (H' ++ hid) w' ∧ R v H'

theorem ao_callH {d : Nat} {op : Op} {ty : TypeId} {pos : String} {af : Array Edge} {gd : Option (Nat × Bool)} {f : FuncId} {args : List Value} {l R : Hp} {K : Value → Hp → Prop}
    (hw : Wants ops t gd) (hv : OpCall P E op ty t f args.toArray) (hd : Nat.blt d E.n = true) (hcut : Cut H l R) (hc : CallsH P E f args (l ++ R) K)
    (h : ∀ v H', K v H' → ao kd P E ops Q rest ((d, v) :: t) H') : ao kd P E ops Q (⟨some d, op, ty, pos, af, gd⟩ :: rest) t H :=
  ao_callx hw hv hd fun hid w hh => (hc hid w (hh.perm (hcut.append_right hid))).mono fun _ _ ⟨v, H', he, hr, hk⟩ => ⟨v, H', he, hr, h v H' hk⟩

/-- A call that turns the part l of the caller's memory into l'. -/
def CallsF (P : Program) (E : Env) (f : FuncId) (args : List Value) (l : Hp) (v : Value) (l' : Hp) : Prop := ∀ R, CallsH P E f args (l ++ R) fun u H' => u = v ∧ H' = l' ++ R
theorem ao_callF {d : Nat} {op : Op} {ty : TypeId} {pos : String} {af : Array Edge} {gd : Option (Nat × Bool)} {f : FuncId} {args : List Value} {l l' R : Hp} {v : Value}
    (hw : Wants ops t gd) (hv : OpCall P E op ty t f args.toArray) (hd : Nat.blt d E.n = true) (hc : CallsF P E f args l v l') (hcut : Cut H l R)
    (h : ∀ H', l' ++ R = H' → ao kd P E ops Q rest ((d, v) :: t) H') : ao kd P E ops Q (⟨some d, op, ty, pos, af, gd⟩ :: rest) t H :=
  ao_callH hw hv hd hcut (hc R) fun _ _ ⟨e1, e2⟩ => by subst e1; exact h _ e2.symm

theorem Cut.two {H R1 l R : Hp} {x : Nat × Obj} (h1 : Cut H [x] R1) (h2 : Cut R1 l R) : Cut H (x :: l) R :=
  h1.trans (List.Perm.cons x h2)

theorem RepH.env {n m B : Nat} {w0 w : World} (h : RepH ⟨B, w0, n⟩ H w) : RepH ⟨B, w0, m⟩ H w := ⟨h.below, h.base, h.nodup, h.at_⟩

/-- The general way out of a walk that turns the caller's memory. -/
theorem callsH_of_aw {B m : Nat} {w0 : World} {f : FuncId} {fn : Func} {c : Code} {args : List Value} {n : Nat} {Q : Exit → Tm → Hp → Prop} {K : Value → Hp → Prop}
    (hf : P.funcs[f]? = some fn) (hb : fn.body = some c) (hn : fn.ntmps = n) (hl : Nat.ble args.length n = true) (h : aw P ⟨B, w0, n⟩ c Q (tm0 args) H)
    (hQ : ∀ e a t' H', RepT ⟨B, w0, n⟩ t' a → Q e t' H' → (e = .normal ∨ e = .ret) ∧ ∃ (v : Value) (H1 H2 : Hp), (∀ w', RepH ⟨B, w0, n⟩ H' w' → (results fn a.tmps).run P w' = .ok v w') ∧ H2.Sublist H' ∧ H2.Perm H1 ∧ K v H1) : CallsH P ⟨B, w0, m⟩ f args H K :=
  fun hid w hh => calls_of_aw hf hb hn hl h hid hh.env fun e a t' H' r1 q => by
    obtain ⟨he, v, H1, H2, hr, hs, hp, hk⟩ := hQ e a t' H' r1 q
    exact ⟨he, v, fun w' hw => ⟨hr w' hw.un, v, H1, rfl, ((hw.sub (List.Sublist.append_right hs hid)).perm (hp.append_right hid)).env, hk⟩⟩
theorem callsH1 {B m : Nat} {w0 : World} {f : FuncId} {fn : Func} {c : Code} {args : List Value} {n r : Nat} {K : Value → Hp → Prop}
    (hf : P.funcs[f]? = some fn) (hb : fn.body = some c) (hn : fn.ntmps = n) (hl : Nat.ble args.length n = true) (hr : fn.results = #[.tmp r])
    (h : aw P ⟨B, w0, n⟩ c (ret1 r K) (tm0 args) H) : CallsH P ⟨B, w0, m⟩ f args H K :=
  callsH_of_aw hf hb hn hl h fun e a t' H' r1 q => by
    unfold ret1 at q
    cases e with
    | normal => obtain ⟨v, h1, h2⟩ := q; exact ⟨.inl rfl, v, H', H', fun w' _ => by rw [results_tmp hr, r1.2.2 r v h1], List.Sublist.refl _, List.Perm.refl _, h2⟩
    | ret => obtain ⟨v, h1, h2⟩ := q; exact ⟨.inr rfl, v, H', H', fun w' _ => by rw [results_tmp hr, r1.2.2 r v h1], List.Sublist.refl _, List.Perm.refl _, h2⟩
    | exit _ => exact q.elim
    | goto _ => exact q.elim
    | panic _ => exact q.elim
    | outgrown => exact q.elim

/-! What is the same is the same. -/
def plainL : List Value → Bool
  | [] => true
  | .string _ :: l | .int _ _ :: l | .bool _ :: l => plainL l
  | _ => false
theorem eqB_self (v : Value) (l : List Value) (h : plainL (v :: l) = true) : eqB v v = true ∧ plainL l = true := by
  cases v <;> simp_all [plainL, eqB]
theorem eqAll_rfl : ∀ (l : List Value), plainL l = true → eqAll l l = true
  | [], _ => rfl
  | [x], h => (eqB_self x [] h).1
  | x :: y :: l, h => by
    obtain ⟨h1, h2⟩ := eqB_self x _ h
    have := eqAll_rfl (y :: l) h2
    simp only [eqAll, h1, this, Bool.and_self]
theorem neqAll_rfl (l : List Value) (h : plainL l = true) : (!(eqAll l l)) = false := by rw [eqAll_rfl l h]; rfl
theorem bneq_rfl (b : Bool) : (!(b == b)) = false := by cases b <;> rfl

/-! A cut of what two ways come to: behind it, this much is known. -/
def cutI (I : Tm → Hp → Prop) (Q : Exit → Tm → Hp → Prop) : Exit → Tm → Hp → Prop
  | .normal, t, H => ∃ t1 H1, Sub t1 t ∧ H1.Sublist H ∧ I t1 H1
  | e, t, H => Q e t H
theorem ci_normal {I : Tm → Hp → Prop} {t1 : Tm} {H1 : Hp} (hI : I t1 H1) (hs : Sub t1 t) (hh : H1.Sublist H) : cutI I Q .normal t H := ⟨t1, H1, hs, hh, hI⟩
theorem ci_ret {I : Tm → Hp → Prop} (h : Q .ret t H) : cutI I Q .ret t H := h
theorem ci_exit {I : Tm → Hp → Prop} {id : Nat} (h : Q (.exit id) t H) : cutI I Q (.exit id) t H := h
theorem aw_cutI {c y : Code} (I : Tm → Hp → Prop) (h1 : aw P E c (cutI I Q) t H) (h2 : ∀ t H, I t H → aw P E y Q t H) : aw P E (.seq c y) Q t H :=
  aw_seq (aw_mono h1 fun e t' H' hq => by
    cases e with
    | normal =>
      obtain ⟨t1, H1, hs, hh, hI⟩ := hq
      unfold andThen
      exact aw_sub hs (aw_subH hh (h2 t1 H1 hI))
    | ret => unfold andThen; exact hq
    | exit _ => unfold andThen; exact hq
    | goto _ => unfold andThen; exact hq
    | panic _ => unfold andThen; exact hq
    | outgrown => unfold andThen; exact hq)
theorem aw_cutI_at {c y : Code} {id : Nat} {l : Array Oper} {b : Bool} (I : Tm → Hp → Prop) (h1 : aw P E c (cutI I Q) t H) (h2 : ∀ t H, I t H → aw P E (.seq (.region id l b) y) Q t H) : aw P E (.seq c (.seq (.region id l b) y)) Q t H := aw_cutI I h1 h2
theorem aw_cutI_at2 {c y z : Code} {id : Nat} {l : Array Oper} {b : Bool} (I : Tm → Hp → Prop) (h1 : aw P E c (cutI I Q) t H) (h2 : ∀ t H, I t H → aw P E (.seq (.seq (.region id l b) z) y) Q t H) : aw P E (.seq c (.seq (.seq (.region id l b) z) y)) Q t H := aw_cutI I h1 h2

/-! make of a list of one-cell elements; a cut of an array; a text of bytes. -/
theorem on_make {x y : Operand} {mt e : TypeId} {sz by_ n : Nat} {z : Value} [TySl P mt e sz by_] [TyZ P e z] (hz1 : z.cells = #[z]) (hs1 : sz = 1) (hx : ev t x = some (I (n : Int))) (hy : ev t y = some (I (n : Int))) (hb : by_ * n ≤ 281474976710656) (hn : n ≤ 9223372036854775807) :
    OpN P E (.makeSlice mt x y) ty t H (.cells (List.replicate n z).toArray e (0, 0)) (fun b => .slice (some ⟨b, 0, none⟩) n n) := by
  intro a w ht _ o ho _
  obtain ⟨i, z', hu, hi, hz, rfl, rfl, hzs⟩ := TySl.sl (P := P) (t := mt)
  have hz2 := TyZ.zero (P := P) (t := e)
  rw [hi] at hz2
  simp only [Option.map_some, Option.some.injEq] at hz2
  rw [hz] at hz2
  cases hz2
  have hb' : (i.bytes : Int) * (n : Int) ≤ 281474976710656 := by
    have h : ((i.bytes * n : Nat) : Int) ≤ 281474976710656 := by omega
    rwa [Int.natCast_mul] at h
  have hr := run_make (P := P) w mt e i z hu hi hz .i64 .i64 (n : Int) (n : Int) (by omega) (Int.le_refl _) hb' (by omega)
  have hm : madeCells z.cells (n * i.size) = (List.replicate n z).toArray := by
    rw [hs1, hz1, Nat.mul_one]
    apply Array.ext'
    simp [madeCells]
    apply List.ext_getElem?
    intro j
    by_cases hj : j < n
    · simp [hj, Nat.mod_one]
    · simp [hj]
  simp only [Int.toNat_natCast] at hr
  rw [hm] at hr
  simp only [execOp, ho, ev_eval ht hx, ev_eval ht hy, Sem.run_bind, hr, Result.andThen, pure, Sem.run]

theorem ov_arrAddr_sc {x y : Operand} {xt e : TypeId} {len b o1 : Nat} {k : IntKind} {i : Int} [TyArr P xt len e] [TyC P e] (hx : ev t x = some (.pointer (some ⟨b, o1, none⟩))) (hy : ev t y = some (.int k i))
    (h0 : 0 ≤ i) (h1 : i < (len : Int)) : OpV P E (.indexAddr xt x y) ty t H (.pointer (some ⟨b, o1 + i.toNat * 1, none⟩)) :=
  ov_arrAddr (TyC.size (P := P) (t := e)) hx hy (j := i.toNat) (by omega) (by omega)
theorem ov_slarr_lo {x y : Operand} {xt e : TypeId} {len b n : Nat} {k : IntKind} {i : Int} [TyArr P xt len e] [TyC P e] (hx : ev t x = some (.pointer (some ⟨b, 0, none⟩))) (hy : ev t y = some (.int k i)) (hi : i = (n : Int)) (hn : n < len) :
    OpV P E (.slice xt x (some y) none none) ty t H (.slice (some ⟨b, n, none⟩) (len - n) (len - n)) := by
  subst hi
  refine ov_of fun a w ht _ o ho _ => ⟨_, by simp only [execOp, ho]; rfl, ?_⟩
  have hu := TyArr.arr (P := P) (t := xt)
  have hbd := run_bounds (P := P) (lo := some (.int k (n : Int))) (hi := none) (n := len) (i := n) (j := len) (w := w) (.inr ⟨k, _, rfl, rfl⟩) (.inl ⟨rfl, rfl⟩) (by omega) (Nat.le_refl _)
  have hne : ¬ (len = n) := by omega
  rw [ev_eval ht hx]
  simp only [Instr.sliceAt, Option.map_some, Option.map_none, ev_eval ht hy, Sem.run_bind, run_underlying hu, Result.andThen, Instr.sureAddr, pure, Sem.run, hbd, run_sizeOf (TyC.size (P := P) (t := e)), hne, if_false, add_off, Nat.mul_one, Nat.zero_add]

theorem ov_b2s {x : Operand} {src dst e : TypeId} {sz by_ b off cap n : Nat} {cs : List Value} {fz : Nat × Nat} {et : TypeId} {l : List UInt8} [TySl P src e sz by_] [TyU P e (.int .u8)] [TyU P dst .string] (hx : ev t x = some (.slice (some ⟨b, off, none⟩) n cap))
    (hb : Has H b (.cells cs.toArray et fz)) (hn : n = l.length) (hc : (cs.drop off).take n = l.map fun c => .int .u8 (c.toNat : Int)) : OpV P E (.convert src dst x) ty t H (S l) := by
  subst hn
  refine ov_of fun a w ht hh o ho _ => ⟨_, by simp only [execOp, ho]; rfl, ?_⟩
  obtain ⟨i, z', hu, hi, hz, -, -, hzs⟩ := TySl.sl (P := P) (t := src)
  rw [ev_eval ht hx]
  refine run_convert_bytes_back w src dst e ⟨b, off, none⟩ cap l hu (TyU.und (P := P) (t := e)) (TyU.und (P := P) (t := dst)) fun j hj => ?_
  rw [add_off, cell_of (hh.has hb).2]
  have h1 := congrArg (fun l => l[j]?) hc
  simp only [List.getElem?_take_of_lt hj, List.getElem?_drop, List.getElem?_map, List.getElem?_eq_getElem hj, Option.map_some] at h1
  exact h1
end
attribute [irreducible] cutI
end Sx
end Go.Proofs.Ytpenogailhlcaaa
