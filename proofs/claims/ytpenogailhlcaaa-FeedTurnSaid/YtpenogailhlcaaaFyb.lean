/- The landed feed: what only reads; its iterators, wherever the feed lies; Open, Safe, early; conditions: at most 1,000 events. -/
import Derived.Test.YtpenogailhlcaaaFya
namespace Go.Proofs.Ytpenogailhlcaaa
namespace Fdt
open Go Go.RowKit Sx
attribute [local irreducible] Go.Calls

instance : TyPtr Try.prog 25 49 := ⟨by kernel_rfl⟩
/-- A feed as a world has it. -/
structure FAt (w : World) (g : Nat) (f : Fd) (v : Value) : Prop where
  lt : g < w.heap.size
  c0 : w.cell? ⟨g, 0, none⟩ = some v
  c2 : w.cell? ⟨g, 2, none⟩ = some (I f.cov)
  ev : OldRow w 2 v (rowE f).length ((rowE f).flatMap cellsB)
theorem FAt.below {w w' : World} {g : Nat} {f : Fd} {v : Value} (h : FAt w g f v) (hb : Below w.heap.size w w') : FAt w' g f v :=
  ⟨Nat.lt_of_lt_of_le h.lt hb.size, (hb.cell h.lt).trans h.c0, (hb.cell h.lt).trans h.c2, OldRow.below h.ev hb⟩
theorem FAt.cells {w : World} {g : Nat} {f : Fd} {v : Value} (h : FAt w g f v) : ∃ a cp, v = .slice a f.es.length cp ∧ ∀ (i : Nat) (k : Kt) (s : Int) (z : Int), f.es[i]? = some (k, s) → z = (i : Int) →
    ∃ g1 o1, a = some ⟨g1, o1, none⟩ ∧ g1 < w.heap.size ∧ w.cell? ⟨g1, o1 + z.toNat * 2, none⟩ = some (I (prevK (keysF f) k i)) ∧ w.cell? ⟨g1, o1 + z.toNat * 2 + 1, none⟩ = some (I s) := by
  obtain ⟨a, cp, e, hat⟩ := OldRow.cells cellsB_len h.ev
  rw [rowE_len] at e
  refine ⟨a, cp, e, fun i k s z he hz => ?_⟩
  obtain ⟨g1, o1, e1, hg, hc⟩ := hat i _ z (rowE_at he) hz
  exact ⟨g1, o1, e1, hg, hc 0 _ rfl, hc 1 _ rfl⟩
set_option maxHeartbeats 8000000 in
theorem len_ok {w : World} {g : Nat} {f : Fd} {v : Value} (h : FAt w g f v) :
    Calls Try.prog 14 #[.pointer (some ⟨g, 0, none⟩)] w fun e w' => e = .returned (I f.es.length) ∧ Below w.heap.size w w' := by
  have lt := h.lt
  have c0 := h.c0
  obtain ⟨a, cp, rfl, -⟩ := h.cells
  refine calls1 (args := [.pointer (some ⟨g, 0, none⟩)]) Try.func14 rfl rfl rfl rfl ?_
  repeat' (first | refine aw_seq ?_ | ((first | apply ao_val | apply aq_val); exact wants_a; (first | exact ov_nilcheck rfl | exact ov_peqs rfl rfl | exact ov_a); (exact rfl)) | refine zy ?_ | refine zon fun _ => ?_ | refine zoa fun vr lr hr => ?_ | refine zoS (fun _ => ?_) (fun _ => ?_) | refine zqS (fun _ => ?_) (fun _ => ?_) | refine zwS (fun _ => ?_) (fun _ => ?_))
  exact fun w' hw => ⟨rfl, hw.below⟩
theorem len0_ok (w : World) : Calls Try.prog 14 #[.pointer none] w fun e w' => e = .returned (I (0 : Nat)) ∧ Below w.heap.size w w' := by
  refine calls1 (args := [.pointer none]) Try.func14 rfl rfl rfl rfl ?_
  repeat' (first | refine aw_seq ?_ | ((first | apply ao_val | apply aq_val); exact wants_a; (first | exact ov_nilcheck rfl | exact ov_peq0 rfl rfl | exact ov_a); (exact rfl)) | refine zy ?_ | refine zon fun _ => ?_ | refine zoa fun vr lr hr => ?_ | refine zoS (fun _ => ?_) (fun _ => ?_) | refine zqS (fun _ => ?_) (fun _ => ?_) | refine zwS (fun _ => ?_) (fun _ => ?_))
  exact fun w' hw => ⟨rfl, hw.below⟩
set_option maxHeartbeats 8000000 in
theorem st_ok {w : World} {g : Nat} {f : Fd} {v : Value} (h : FAt w g f v) (_hl : f.es.length ≤ 1000) (i : Nat) (hi : i < f.es.length) :
    Calls Try.prog 28 #[.pointer (some ⟨g, 0, none⟩), I i] w fun e w' => e = .returned (.bool (stB f i)) ∧ Below w.heap.size w w' := by
  have lt := h.lt
  have c0 := h.c0
  have c2 := h.c2
  obtain ⟨a, cp, rfl, hat⟩ := h.cells
  obtain ⟨⟨k, is⟩, he⟩ := getP hi
  obtain ⟨g1, o1, rfl, hg, -, c3⟩ := hat i k is (i : Int) he rfl
  refine calls1 (args := [.pointer (some ⟨g, 0, none⟩), I i]) Try.func28 rfl rfl rfl rfl ?_
  have hcv : decide ((i : Int) + 1 ≤ f.cov) = decide ((i : Int) < f.cov) := decide_eq_decide.2 Int.add_one_le_iff
  rw [stB_at he, hcv]
  by_cases h1 : is = 1
  · rw [decide_eq_true h1]
    repeat' (first | refine aw_seq ?_ | ((first | apply ao_val | apply aq_val); exact wants_a; (first | exact ov_nilcheck rfl | exact ov_a); (exact rfl)) | refine zy ?_ | refine zon fun _ => ?_ | refine zoa fun vr lr hr => ?_ | refine zoS (fun _ => ?_) (fun _ => ?_) | refine zqS (fun _ => ?_) (fun _ => ?_) | refine zwS (fun _ => ?_) (fun _ => ?_))
    exact fun w' hw => ⟨rfl, hw.below⟩
  · rw [decide_eq_false h1]
    repeat' (first | refine aw_seq ?_ | ((first | apply ao_val | apply aq_val); exact wants_a; (first | exact ov_nilcheck rfl | exact ov_a); (exact rfl)) | refine zy ?_ | refine zon fun _ => ?_ | refine zoa fun vr lr hr => ?_ | refine zoS (fun _ => ?_) (fun _ => ?_) | refine zqS (fun _ => ?_) (fun _ => ?_) | refine zwS (fun _ => ?_) (fun _ => ?_))
    exact fun w' hw => ⟨by rw [Bool.false_or], hw.below⟩
/-- What is settled, as a function. -/
abbrev stV (q : Option Addr) : Value := .func (.func 28) #[.pointer q] #[]
abbrev boxP (q : Option Addr) : Obj := .cells #[.pointer q] 25 (0, 0)
abbrev boxS (q : Option Addr) : Obj := .cells #[stV q] 53 (0, 0)
set_option maxHeartbeats 8000000 in
theorem each_ok (q : Option Addr) (w : World) : Calls Try.prog 27 #[.pointer q, stV q] w fun e w' => ∃ r, e = .returned r ∧ NewD (fun r l => ∃ b c, r = .func (.func 32) #[] #[.pointer (some ⟨b, 0, none⟩), .pointer (some ⟨c, 0, none⟩)] ∧ l = [(c, boxS q), (b, boxP q)]) w w' r := by
  refine calls1 (args := [.pointer q, stV q]) Try.func27 rfl rfl rfl rfl ?_
  repeat' (first | refine aw_seq ?_ | refine zz ?_ | refine zon fun _ => ?_ | refine zoa fun vr lr hr => ?_ | refine zoS (fun _ => ?_) (fun _ => ?_) | refine zqS (fun _ => ?_) (fun _ => ?_) | refine zwS (fun _ => ?_) (fun _ => ?_))
  exact fun w' hw => ⟨_, rfl, hw.toD rfl (l := [(_, boxS q), (_, boxP q)]) (R := []) (List.Perm.refl _) ⟨_, _, rfl, rfl⟩⟩
set_option maxHeartbeats 8000000 in
theorem ahead_ok (q : Option Addr) (i : Nat) (w : World) : Calls Try.prog 33 #[.pointer q, I i, stV q] w fun e w' => ∃ r, e = .returned r ∧ NewD (fun r l => ∃ b d c, r = .func (.func 34) #[] #[.pointer (some ⟨b, 0, none⟩), .pointer (some ⟨d, 0, none⟩), .pointer (some ⟨c, 0, none⟩)] ∧ l = [(c, boxS q), (d, .cells #[I i] 3 (0, 0)), (b, boxP q)]) w w' r := by
  refine calls1 (args := [.pointer q, I i, stV q]) Try.func33 rfl rfl rfl rfl ?_
  repeat' (first | refine aw_seq ?_ | refine zz ?_ | refine zon fun _ => ?_ | refine zoa fun vr lr hr => ?_ | refine zoS (fun _ => ?_) (fun _ => ?_) | refine zqS (fun _ => ?_) (fun _ => ?_) | refine zwS (fun _ => ?_) (fun _ => ?_))
  exact fun w' hw => ⟨_, rfl, hw.toD rfl (l := [(_, boxS q), (_, .cells #[I i] 3 (0, 0)), (_, boxP q)]) (R := []) (List.Perm.refl _) ⟨_, _, _, rfl, rfl⟩⟩

set_option maxHeartbeats 16000000 in
/-- The iterator over all: it hands over each number, and whether that event is settled, as long as the rounds go on. J: what holds when so many have come; Jx: when a round has said 'no more'. -/
theorem each_it {m : Nat} {w0 : World} {l b c n : Nat} {q : Option Addr} {r : Loop} {s : Nat → Bool} (hn : n ≤ 1000) (hr : r.params.size = 2) (J Jx : Nat → Hp → Prop)
    (hb : ∀ i H, J i H → Has H l (Lp r .ready none) ∧ Has H b (boxP q) ∧ Has H c (boxS q))
    (hL : ∀ H, J 0 H → ∀ w, RepH ⟨w0.heap.size, w0, 0⟩ H w → Calls Try.prog 14 #[.pointer q] w fun e w' => e = .returned (I n) ∧ Below w.heap.size w w')
    (hS : ∀ (i : Nat) H, i < n → J i H → ∀ w, RepH ⟨w0.heap.size, w0, 0⟩ H w → Calls Try.prog 28 #[.pointer q, I i] w fun e w' => e = .returned (.bool (s i)) ∧ Below w.heap.size w w')
    (hR : ∀ (i : Nat) H, i < n → J i H → RoundH Try.prog ⟨w0.heap.size, w0, 0⟩ l r [I i, .bool (s i)] H fun u H' => (u = .bool true ∧ J (i + 1) H') ∨ (u = .bool false ∧ Jx i H'))
    (H : Hp) (h0 : J 0 H) :
    CallsH Try.prog ⟨w0.heap.size, w0, m⟩ 32 [.func (.yield l) #[] #[], .pointer (some ⟨b, 0, none⟩), .pointer (some ⟨c, 0, none⟩)] H fun u H' => u = .tuple #[] ∧ (J n H' ∨ ∃ i, Jx i H') := by
  have hL0 := hL H h0
  obtain ⟨-, hB0, -⟩ := hb 0 H h0
  refine callsH0 Try.func32 rfl rfl rfl rfl ?_
  repeat' (first | refine aw_seq ?_ | ((first | apply ao_val | apply aq_val); exact wants_a; (first | exact ov_load rfl hB0 rfl | exact ov_a); (exact rfl)) | refine zy ?_ | refine zon fun _ => ?_ | refine zoa fun vr lr hr => ?_ | ((first | apply ao_call | apply aq_call); exact wants_a; (first | exact oc_func rfl | exact oc_clos rfl rfl | exact oc_bnd rfl rfl); (exact rfl); (first | exact fun w hw => hL0 w hw.n0)) | refine zoS (fun _ => ?_) (fun _ => ?_) | refine zqS (fun _ => ?_) (fun _ => ?_) | refine zwS (fun _ => ?_) (fun _ => ?_))
  refine aw_for (t0 := [(0, .func (.yield l) #[] #[]), (2, .pointer (some ⟨c, 0, none⟩)), (6, I n), (7, I (0 : Nat))]) (fun q t H => ∃ i : Nat, q = n - i ∧ i ≤ n ∧ J i H ∧ t = [(0, .func (.yield l) #[] #[]), (2, .pointer (some ⟨c, 0, none⟩)), (6, I n), (7, I i)])
    ⟨0, rfl, by omega, h0, rfl⟩ (by repeat (first | exact sub_nil | refine sub_cons rfl ?_)) ?_
  clear hL0 hB0
  rintro _ t H ⟨i, rfl, hi, hJ, rfl⟩
  by_cases hlt : i < n
  · have hrd := hR i H hlt hJ
    have hst := hS i H hlt hJ
    obtain ⟨hlh, -, hch⟩ := hb i H hJ
    repeat' (first | refine aw_seq ?_ | ((first | apply ao_val | apply aq_val); exact wants_a; (first | exact ov_load rfl hch rfl | exact ov_a); (exact rfl)) | refine zy ?_ | refine zon fun _ => ?_ | refine zoa fun vr lr hr => ?_ | ((first | apply ao_call | apply aq_call); exact wants_a; (first | exact oc_func rfl | exact oc_clos rfl rfl | exact oc_bnd rfl rfl); (exact rfl); (first | exact fun w hw => hst w hw.n0)) | ((apply ao_yield (H' := H); exact wants_a; exact rfl; exact rfl; exact rfl; exact (List.Perm.of_eq (List.append_nil H).symm); exact hlh; exact hr.symm; exact hrd; intro u H1 hk)) | refine zoS (fun _ => ?_) (fun _ => ?_) | refine zqS (fun _ => ?_) (fun _ => ?_) | refine zwS (fun _ => ?_) (fun _ => ?_))
    rcases hk with ⟨rfl, hJ2⟩ | ⟨rfl, hx⟩
    · repeat' (first | refine aw_seq ?_ | refine zz ?_ | refine zon fun _ => ?_ | refine zoa fun vr lr hr => ?_ | refine zoS (fun _ => ?_) (fun _ => ?_) | refine zqS (fun _ => ?_) (fun _ => ?_) | refine zwS (fun _ => ?_) (fun _ => ?_))
      exact lq_normal' (H' := H1) ⟨i + 1, rfl, by omega, hJ2, rfl⟩ (by omega) (by repeat (first | exact sub_nil | refine sub_cons rfl ?_)) (List.sublist_append_left _ _)
    · repeat' (first | refine aw_seq ?_ | refine zz ?_ | refine zon fun _ => ?_ | refine zoa fun vr lr hr => ?_ | refine zoS (fun _ => ?_) (fun _ => ?_) | refine zqS (fun _ => ?_) (fun _ => ?_) | refine zwS (fun _ => ?_) (fun _ => ?_))
      exact r0_ret ⟨H1, List.sublist_append_left _ _, .inr ⟨i, hx⟩⟩
  · obtain rfl : i = n := by omega
    repeat' (first | refine aw_seq ?_ | refine zz ?_ | refine zon fun _ => ?_ | refine zoa fun vr lr hr => ?_ | refine zoS (fun _ => ?_) (fun _ => ?_) | refine zqS (fun _ => ?_) (fun _ => ?_) | refine zwS (fun _ => ?_) (fun _ => ?_))
    exact r0_normal ⟨H, List.Sublist.refl _, .inl hJ⟩
end Fdt
end Go.Proofs.Ytpenogailhlcaaa
