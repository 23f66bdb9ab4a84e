/- Two lists of numbers that are one; an act without a feed; the live question of layer 10; conditions: none. -/
import Derived.Test.YtpenogailhlcaaaFde
namespace Go.Proofs.Ytpenogailhlcaaa
namespace Fdt
open Go Go.RowKit Sx
attribute [local irreducible] Go.Calls

def cellsN (n : Nat) : List Value := [I n]
theorem cellsN_len (n : Nat) : (cellsN n).length = 1 := rfl
theorem nats_flat (l : List Nat) : nats l = l.flatMap cellsN := by
  induction l with
  | nil => rfl
  | cons e es ih => rw [List.flatMap_cons, ← ih]; rfl
set_option maxHeartbeats 16000000 in
theorem ints_ok (l : List Nat) (hl : l.length ≤ 1000) (u v : Value) (w : World) (hu : OldRow w 1 u l.length (nats l)) (hv : OldRow w 1 v l.length (nats l)) :
    Calls Try.prog 11 #[u, v] w fun e w' => e = .returned (.bool true) ∧ Below w.heap.size w w' := by
  rw [nats_flat] at hu hv
  obtain ⟨a, ca, rfl, hat⟩ := OldRow.cells cellsN_len hu
  obtain ⟨b, cb, rfl, hbt⟩ := OldRow.cells cellsN_len hv
  refine calls1 (args := [.slice a l.length ca, .slice b l.length cb]) Try.func11 rfl rfl rfl rfl ?_
  repeat' (first | refine aw_seq ?_ | refine zz ?_ | refine zon fun _ => ?_ | refine zoa fun vr lr hr => ?_ | refine zoS (fun _ => ?_) (fun _ => ?_) | refine zqS (fun _ => ?_) (fun _ => ?_) | refine zwS (fun _ => ?_) (fun _ => ?_))
  refine aw_for (t0 := [(0, .slice a l.length ca), (1, .slice b l.length cb), (5, I (0 : Nat))]) (fun q t H => ∃ i : Nat, q = l.length - i ∧ i ≤ l.length ∧ t = [(0, .slice a l.length ca), (1, .slice b l.length cb), (5, I i)] ∧ H = []) ⟨0, rfl, by omega, rfl, rfl⟩ (by repeat (first | exact sub_nil | refine sub_cons rfl ?_)) ?_
  rintro q t H ⟨i, rfl, hi, rfl, rfl⟩
  by_cases hlt : i < l.length
  · obtain ⟨x, hx⟩ := getP hlt
    obtain ⟨g1, o1, rfl, hg1, hc1⟩ := hat i _ (i : Int) hx rfl
    obtain ⟨g2, o2, rfl, hg2, hc2⟩ := hbt i _ (i : Int) hx rfl
    have c1 : w.cell? ⟨g1, o1 + (i : Int).toNat * 1, none⟩ = some (I x) := hc1 0 _ rfl
    have c2 : w.cell? ⟨g2, o2 + (i : Int).toNat * 1, none⟩ = some (I x) := hc2 0 _ rfl
    repeat' (first | refine aw_seq ?_ | refine zz ?_ | refine zon fun _ => ?_ | refine zoa fun vr lr hr => ?_ | refine zoS (fun _ => ?_) (fun _ => ?_) | refine zqS (fun _ => ?_) (fun _ => ?_) | refine zwS (fun _ => ?_) (fun _ => ?_))
    exact lq_normal' ⟨i + 1, rfl, by omega, rfl, rfl⟩ (by omega) (by repeat (first | exact sub_nil | refine sub_cons rfl ?_)) hsub_a
  · obtain rfl : i = l.length := by omega
    repeat' (first | refine aw_seq ?_ | refine zz ?_ | refine zon fun _ => ?_ | refine zoa fun vr lr hr => ?_ | refine zoS (fun _ => ?_) (fun _ => ?_) | refine zqS (fun _ => ?_) (fun _ => ?_) | refine zwS (fun _ => ?_) (fun _ => ?_))
    exact fun w' hw => ⟨rfl, hw.below⟩
/-! An act without a feed. -/
set_option maxHeartbeats 16000000 in
theorem ldo0_ok (a : Ac) (h0 : 0 ≤ a.kind) (w : World) : Calls Try.prog 9 #[.pointer none, AV a] w fun e w' => e = .returned (I (if a.kind % 7 < 2 then 0 else 1)) ∧ Below w.heap.size w w' := by
  obtain ⟨kind, k, n⟩ := a
  simp only at h0 ⊢
  have hG := fun w' => lgrow0_ok k w'
  have hT := fun w' => ltell0_ok n w'
  have hD := fun w' => ldrop0_ok n w'
  have hC := fun w' => lcover0_ok n w'
  refine calls1 (args := [.pointer none, AV ⟨kind, k, n⟩]) Try.func9 rfl rfl rfl rfl ?_
  rcases mod7 kind with h7 | h7 | h7 | h7 | h7 | h7 | h7 <;> rw [h7]
  · repeat' (first | refine aw_seq ?_ | ((first | apply ao_val | apply aq_val); exact wants_a; (first | exact ov_rem7 h0 h7 rfl rfl | exact ov_a); (exact rfl)) | refine zy ?_ | refine zon fun _ => ?_ | refine zoa fun vr lr hr => ?_ | ((first | apply ao_call | apply aq_call); exact wants_a; (first | exact oc_func rfl | exact oc_clos rfl rfl | exact oc_bnd rfl rfl); (exact rfl); (first | exact fun w hw => hG w)) | refine zoS (fun _ => ?_) (fun _ => ?_) | refine zqS (fun _ => ?_) (fun _ => ?_) | refine zwS (fun _ => ?_) (fun _ => ?_))
    exact fun w' hw => ⟨rfl, hw.below⟩
  · repeat' (first | refine aw_seq ?_ | ((first | apply ao_val | apply aq_val); exact wants_a; (first | exact ov_rem7 h0 h7 rfl rfl | exact ov_a); (exact rfl)) | refine zy ?_ | refine zon fun _ => ?_ | refine zoa fun vr lr hr => ?_ | ((first | apply ao_call | apply aq_call); exact wants_a; (first | exact oc_func rfl | exact oc_clos rfl rfl | exact oc_bnd rfl rfl); (exact rfl); (first | exact fun w hw => hG w)) | refine zoS (fun _ => ?_) (fun _ => ?_) | refine zqS (fun _ => ?_) (fun _ => ?_) | refine zwS (fun _ => ?_) (fun _ => ?_))
    exact fun w' hw => ⟨rfl, hw.below⟩
  · repeat' (first | refine aw_seq ?_ | ((first | apply ao_val | apply aq_val); exact wants_a; (first | exact ov_rem7 h0 h7 rfl rfl | exact ov_a); (exact rfl)) | refine zy ?_ | refine zon fun _ => ?_ | refine zoa fun vr lr hr => ?_ | ((first | apply ao_call | apply aq_call); exact wants_a; (first | exact oc_func rfl | exact oc_clos rfl rfl | exact oc_bnd rfl rfl); (exact rfl); (first | exact fun w hw => hT w)) | refine zoS (fun _ => ?_) (fun _ => ?_) | refine zqS (fun _ => ?_) (fun _ => ?_) | refine zwS (fun _ => ?_) (fun _ => ?_))
    exact fun w' hw => ⟨rfl, hw.below⟩
  · repeat' (first | refine aw_seq ?_ | ((first | apply ao_val | apply aq_val); exact wants_a; (first | exact ov_rem7 h0 h7 rfl rfl | exact ov_a); (exact rfl)) | refine zy ?_ | refine zon fun _ => ?_ | refine zoa fun vr lr hr => ?_ | ((first | apply ao_call | apply aq_call); exact wants_a; (first | exact oc_func rfl | exact oc_clos rfl rfl | exact oc_bnd rfl rfl); (exact rfl); (first | exact fun w hw => hT w)) | refine zoS (fun _ => ?_) (fun _ => ?_) | refine zqS (fun _ => ?_) (fun _ => ?_) | refine zwS (fun _ => ?_) (fun _ => ?_))
    exact fun w' hw => ⟨rfl, hw.below⟩
  · repeat' (first | refine aw_seq ?_ | ((first | apply ao_val | apply aq_val); exact wants_a; (first | exact ov_rem7 h0 h7 rfl rfl | exact ov_a); (exact rfl)) | refine zy ?_ | refine zon fun _ => ?_ | refine zoa fun vr lr hr => ?_ | ((first | apply ao_call | apply aq_call); exact wants_a; (first | exact oc_func rfl | exact oc_clos rfl rfl | exact oc_bnd rfl rfl); (exact rfl); (first | exact fun w hw => hT w)) | refine zoS (fun _ => ?_) (fun _ => ?_) | refine zqS (fun _ => ?_) (fun _ => ?_) | refine zwS (fun _ => ?_) (fun _ => ?_))
    exact fun w' hw => ⟨rfl, hw.below⟩
  · repeat' (first | refine aw_seq ?_ | ((first | apply ao_val | apply aq_val); exact wants_a; (first | exact ov_rem7 h0 h7 rfl rfl | exact ov_a); (exact rfl)) | refine zy ?_ | refine zon fun _ => ?_ | refine zoa fun vr lr hr => ?_ | ((first | apply ao_call | apply aq_call); exact wants_a; (first | exact oc_func rfl | exact oc_clos rfl rfl | exact oc_bnd rfl rfl); (exact rfl); (first | exact fun w hw => hD w)) | refine zoS (fun _ => ?_) (fun _ => ?_) | refine zqS (fun _ => ?_) (fun _ => ?_) | refine zwS (fun _ => ?_) (fun _ => ?_))
    exact fun w' hw => ⟨rfl, hw.below⟩
  · repeat' (first | refine aw_seq ?_ | ((first | apply ao_val | apply aq_val); exact wants_a; (first | exact ov_rem7 h0 h7 rfl rfl | exact ov_a); (exact rfl)) | refine zy ?_ | refine zon fun _ => ?_ | refine zoa fun vr lr hr => ?_ | ((first | apply ao_call | apply aq_call); exact wants_a; (first | exact oc_func rfl | exact oc_clos rfl rfl | exact oc_bnd rfl rfl); (exact rfl); (first | exact fun w hw => hC w)) | refine zoS (fun _ => ?_) (fun _ => ?_) | refine zqS (fun _ => ?_) (fun _ => ?_) | refine zwS (fun _ => ?_) (fun _ => ?_))
    exact fun w' hw => ⟨rfl, hw.below⟩

/-! The live question. -/
abbrev ka : Kt := ([], [], [97])
abbrev kb : Kt := ([], [], [98])
theorem fit3 {a b c v : Int} (ha : a = 0 ∨ a = 1 ∨ a = 2) (hb : b = 0 ∨ b = 1 ∨ b = 2) (hc : c = 0 ∨ c = 1 ∨ c = 2) (h0 : 0 ≤ v) (h3 : v ≤ 3) : FitF ⟨[(ka, a), (kb, b), (ka, c)], v⟩ := by
  refine ⟨⟨fun e he => ?_, h0, h3⟩, by show (3 : Nat) ≤ 200; omega, fun e he => ?_⟩
  · simp only [List.mem_cons, List.not_mem_nil, or_false] at he
    rcases he with rfl | rfl | rfl <;> assumption
  · simp only [List.mem_cons, List.not_mem_nil, or_false] at he
    have wa : fitK ka := ⟨by decide, by decide, by decide⟩
    have wb : fitK kb := ⟨by decide, by decide, by decide⟩
    rcases he with rfl | rfl | rfl <;> assumption
set_option maxRecDepth 20000 in
set_option maxHeartbeats 64000000 in
theorem alive_ok (w : World) : Calls Try.prog 7 #[] w fun e w' => e = .returned (.bool true) ∧ Below w.heap.size w w' := by
  have wa : fitK ka := ⟨by decide, by decide, by decide⟩
  have wb : fitK kb := ⟨by decide, by decide, by decide⟩
  have f1 : FitF (growF .new ka) := fit_doF (f := .new) FitF.new (by decide) 0 wa 0
  have f2 : FitF (growF (growF .new ka) kb) := fit_doF (f := growF .new ka) f1 (by decide) 0 wb 0
  have p3 : growF (growF (growF .new ka) kb) ka = ⟨[(ka, 0), (kb, 0), (ka, 0)], 0⟩ := rfl
  have f3 : FitF ⟨[(ka, 0), (kb, 0), (ka, 0)], 0⟩ := fit3 (.inl rfl) (.inl rfl) (.inl rfl) (by decide) (by decide)
  have f4 : FitF ⟨[(ka, 0), (kb, 1), (ka, 0)], 0⟩ := fit3 (.inl rfl) (.inr (.inl rfl)) (.inl rfl) (by decide) (by decide)
  have f5 : FitF ⟨[(ka, 2), (kb, 1), (ka, 0)], 0⟩ := fit3 (.inr (.inr rfl)) (.inr (.inl rfl)) (.inl rfl) (by decide) (by decide)
  have f6 : FitF ⟨[(ka, 2), (kb, 1), (ka, 1)], 0⟩ := fit3 (.inr (.inr rfl)) (.inr (.inl rfl)) (.inr (.inl rfl)) (by decide) (by decide)
  have f7 : FitF ⟨[(ka, 2), (kb, 1), (ka, 1)], 1⟩ := fit3 (.inr (.inr rfl)) (.inr (.inl rfl)) (.inr (.inl rfl)) (by decide) (by decide)
  have p4 : tellF ⟨[(ka, 0), (kb, 0), (ka, 0)], 0⟩ 2 = (7, ⟨[(ka, 0), (kb, 0), (ka, 0)], 0⟩) := by kernel_rfl
  have p5 : tellF ⟨[(ka, 0), (kb, 0), (ka, 0)], 0⟩ 1 = (0, ⟨[(ka, 0), (kb, 1), (ka, 0)], 0⟩) := by kernel_rfl
  have p6 : dropF ⟨[(ka, 0), (kb, 1), (ka, 0)], 0⟩ 0 = (0, ⟨[(ka, 2), (kb, 1), (ka, 0)], 0⟩) := by kernel_rfl
  have p7 : tellF ⟨[(ka, 2), (kb, 1), (ka, 0)], 0⟩ 2 = (0, ⟨[(ka, 2), (kb, 1), (ka, 1)], 0⟩) := by kernel_rfl
  have p8 : coverF ⟨[(ka, 2), (kb, 1), (ka, 1)], 0⟩ 1 = (0, ⟨[(ka, 2), (kb, 1), (ka, 1)], 1⟩) := by kernel_rfl
  have p9 : coverF ⟨[(ka, 2), (kb, 1), (ka, 1)], 1⟩ 4 = (1, ⟨[(ka, 2), (kb, 1), (ka, 1)], 1⟩) := by kernel_rfl
  have pa : tellF ⟨[(ka, 2), (kb, 1), (ka, 1)], 1⟩ 0 = (6, ⟨[(ka, 2), (kb, 1), (ka, 1)], 1⟩) := by kernel_rfl
  have pb : dropF ⟨[(ka, 2), (kb, 1), (ka, 1)], 1⟩ 1 = (6, ⟨[(ka, 2), (kb, 1), (ka, 1)], 1⟩) := by kernel_rfl
  have c1 := fun {m g : Nat} {l : Hp} h R => lgrow_ok (m := m) (w0 := w) (g := g) (l := l) h FitF.new ka wa R
  have c2 := fun {m g : Nat} {l : Hp} h R => lgrow_ok (m := m) (w0 := w) (g := g) (l := l) h f1 kb wb R
  have c3 := fun {m g : Nat} {l : Hp} h R => lgrow_ok (m := m) (w0 := w) (g := g) (l := l) h f2 ka wa R
  have c4 := fun {m g : Nat} {l : Hp} h R => ltell_ok (m := m) (w0 := w) (g := g) (l := l) h f3 2 R
  have c5 := fun {m g : Nat} {l : Hp} h R => ltell_ok (m := m) (w0 := w) (g := g) (l := l) h f3 1 R
  have c6 := fun {m g : Nat} {l : Hp} h R => ldrop_ok (m := m) (w0 := w) (g := g) (l := l) h f4 0 R
  have c7 := fun {m g : Nat} {l : Hp} h R => ltell_ok (m := m) (w0 := w) (g := g) (l := l) h f5 2 R
  have c8 := fun {m g : Nat} {l : Hp} h R => lcover_ok (m := m) (w0 := w) (g := g) (l := l) h f6 1 R
  have c9 := fun {m g : Nat} {l : Hp} h R => lcover_ok (m := m) (w0 := w) (g := g) (l := l) h f7 4 R
  have cA := fun {m g : Nat} {l : Hp} h R => ltell_ok (m := m) (w0 := w) (g := g) (l := l) h f7 0 R
  have cB := fun {m g : Nat} {l : Hp} h R => ldrop_ok (m := m) (w0 := w) (g := g) (l := l) h f7 1 R
  rw [p3] at c3
  unfold LDid at c4 c5 c6 c7 c8 c9 cA cB
  simp only [p4] at c4
  simp only [p5] at c5
  simp only [p6] at c6
  simp only [p7] at c7
  simp only [p8] at c8
  simp only [p9] at c9
  simp only [pa] at cA
  simp only [pb] at cB
  refine calls1 (args := []) Try.func7 rfl rfl rfl rfl ?_
  repeat' (first | refine aw_seq ?_ | refine zz ?_ | refine zon fun _ => ?_ | refine zoa fun vr lr hr => ?_ | ((apply ao_callD; exact wants_a; (exact oc_func rfl); (exact rfl); (intro w hw; exact lnew_ok w); intro vr l0 hr; obtain ⟨g, hvr, hL0⟩ := hr; subst hvr)) | refine zoS (fun _ => ?_) (fun _ => ?_) | refine zqS (fun _ => ?_) (fun _ => ?_) | refine zwS (fun _ => ?_) (fun _ => ?_))
  repeat' (first | refine aw_seq ?_ | refine zz ?_ | refine zon fun _ => ?_ | refine zoa fun vr lr hr => ?_ | ((have hq := fun {m} R => c1 (m := m) hL0 R; apply ao_callH (l := l0); exact wants_a; (exact oc_func rfl); (exact rfl); (exact cut_a); (exact hq _); rintro _ _ ⟨rfl, l1, rfl, hL1⟩; clear hq c1)) | refine zoS (fun _ => ?_) (fun _ => ?_) | refine zqS (fun _ => ?_) (fun _ => ?_) | refine zwS (fun _ => ?_) (fun _ => ?_))
  repeat' (first | refine aw_seq ?_ | refine zz ?_ | refine zon fun _ => ?_ | refine zoa fun vr lr hr => ?_ | ((have hq := fun {m} R => c2 (m := m) hL1 R; apply ao_callH (l := l1); exact wants_a; (exact oc_func rfl); (exact rfl); (exact cut_a); (exact hq _); rintro _ _ ⟨rfl, l2, rfl, hL2⟩; clear hq c2)) | refine zoS (fun _ => ?_) (fun _ => ?_) | refine zqS (fun _ => ?_) (fun _ => ?_) | refine zwS (fun _ => ?_) (fun _ => ?_))
  repeat' (first | refine aw_seq ?_ | refine zz ?_ | refine zon fun _ => ?_ | refine zoa fun vr lr hr => ?_ | ((have hq := fun {m} R => c3 (m := m) hL2 R; apply ao_callH (l := l2); exact wants_a; (exact oc_func rfl); (exact rfl); (exact cut_a); (exact hq _); rintro _ _ ⟨rfl, l3, rfl, hL3⟩; clear hq c3)) | refine zoS (fun _ => ?_) (fun _ => ?_) | refine zqS (fun _ => ?_) (fun _ => ?_) | refine zwS (fun _ => ?_) (fun _ => ?_))
  repeat' (first | refine aw_seq ?_ | refine zz ?_ | refine zon fun _ => ?_ | refine zoa fun vr lr hr => ?_ | ((have hq := fun {m} R => c4 (m := m) hL3 R; apply ao_callH (l := l3); exact wants_a; (exact oc_func rfl); (exact rfl); (exact cut_a); (exact hq _); rintro _ _ ⟨rfl, l4, rfl, hL4⟩; clear hq c4)) | refine zoS (fun _ => ?_) (fun _ => ?_) | refine zqS (fun _ => ?_) (fun _ => ?_) | refine zwS (fun _ => ?_) (fun _ => ?_))
  repeat' (first | refine aw_seq ?_ | refine zz ?_ | refine zon fun _ => ?_ | refine zoa fun vr lr hr => ?_ | ((have hq := fun {m} R => c5 (m := m) hL4 R; apply ao_callH (l := l4); exact wants_a; (exact oc_func rfl); (exact rfl); (exact cut_a); (exact hq _); rintro _ _ ⟨rfl, l5, rfl, hL5⟩; clear hq c5)) | refine zoS (fun _ => ?_) (fun _ => ?_) | refine zqS (fun _ => ?_) (fun _ => ?_) | refine zwS (fun _ => ?_) (fun _ => ?_))
  repeat' (first | refine aw_seq ?_ | refine zz ?_ | refine zon fun _ => ?_ | refine zoa fun vr lr hr => ?_ | ((have hq := fun {m} R => c6 (m := m) hL5 R; apply ao_callH (l := l5); exact wants_a; (exact oc_func rfl); (exact rfl); (exact cut_a); (exact hq _); rintro _ _ ⟨rfl, l6, rfl, hL6⟩; clear hq c6)) | refine zoS (fun _ => ?_) (fun _ => ?_) | refine zqS (fun _ => ?_) (fun _ => ?_) | refine zwS (fun _ => ?_) (fun _ => ?_))
  repeat' (first | refine aw_seq ?_ | refine zz ?_ | refine zon fun _ => ?_ | refine zoa fun vr lr hr => ?_ | ((have hq := fun {m} R => c7 (m := m) hL6 R; apply ao_callH (l := l6); exact wants_a; (exact oc_func rfl); (exact rfl); (exact cut_a); (exact hq _); rintro _ _ ⟨rfl, l7, rfl, hL7⟩; clear hq c7)) | refine zoS (fun _ => ?_) (fun _ => ?_) | refine zqS (fun _ => ?_) (fun _ => ?_) | refine zwS (fun _ => ?_) (fun _ => ?_))
  have hs := fun w' (hl : Lies w' l7) => lsafe_ok hL7 f6 w' hl
  have hd := fun w' (hl : Lies w' l7) => ldone_ok hL7 f6 w' hl
  rw [show safeF ⟨[(ka, 2), (kb, 1), (ka, 1)], 0⟩ = 0 by kernel_rfl] at hs
  rw [show settledF ⟨[(ka, 2), (kb, 1), (ka, 1)], 0⟩ = true by kernel_rfl] at hd
  repeat' (first | refine aw_seq ?_ | refine zz ?_ | refine zon fun _ => ?_ | refine zoa fun vr lr hr => ?_ | ((first | apply ao_call | apply aq_call); exact wants_a; (first | exact oc_func rfl | exact oc_clos rfl rfl | exact oc_bnd rfl rfl); (exact rfl); (first | exact fun w hw => hs w (lies_of hw (l := l7) cut_a) | exact fun w hw => hd w (lies_of hw (l := l7) cut_a))) | refine zoS (fun _ => ?_) (fun _ => ?_) | refine zqS (fun _ => ?_) (fun _ => ?_) | refine zwS (fun _ => ?_) (fun _ => ?_))
  clear hs hd
  repeat' (first | refine aw_seq ?_ | refine zz ?_ | refine zon fun _ => ?_ | refine zoa fun vr lr hr => ?_ | ((have hq := fun {m} R => c8 (m := m) hL7 R; apply ao_callH (l := l7); exact wants_a; (exact oc_func rfl); (exact rfl); (exact cut_a); (exact hq _); rintro _ _ ⟨rfl, l8, rfl, hL8⟩; clear hq c8)) | refine zoS (fun _ => ?_) (fun _ => ?_) | refine zqS (fun _ => ?_) (fun _ => ?_) | refine zwS (fun _ => ?_) (fun _ => ?_))
  repeat' (first | refine aw_seq ?_ | refine zz ?_ | refine zon fun _ => ?_ | refine zoa fun vr lr hr => ?_ | ((have hq := fun {m} R => c9 (m := m) hL8 R; apply ao_callH (l := l8); exact wants_a; (exact oc_func rfl); (exact rfl); (exact cut_a); (exact hq _); rintro _ _ ⟨rfl, l9, rfl, hL9⟩; clear hq c9)) | refine zoS (fun _ => ?_) (fun _ => ?_) | refine zqS (fun _ => ?_) (fun _ => ?_) | refine zwS (fun _ => ?_) (fun _ => ?_))
  repeat' (first | refine aw_seq ?_ | refine zz ?_ | refine zon fun _ => ?_ | refine zoa fun vr lr hr => ?_ | ((have hq := fun {m} R => cA (m := m) hL9 R; apply ao_callH (l := l9); exact wants_a; (exact oc_func rfl); (exact rfl); (exact cut_a); (exact hq _); rintro _ _ ⟨rfl, lA, rfl, hLA⟩; clear hq cA)) | refine zoS (fun _ => ?_) (fun _ => ?_) | refine zqS (fun _ => ?_) (fun _ => ?_) | refine zwS (fun _ => ?_) (fun _ => ?_))
  have hs := fun w' (hl : Lies w' lA) => lsafe_ok hLA f7 w' hl
  have hn := fun w' (hl : Lies w' lA) => llen_ok hLA f7 w' hl
  have ho := fun w' (hl : Lies w' lA) => lopen_ok hLA f7 w' hl
  rw [show safeF ⟨[(ka, 2), (kb, 1), (ka, 1)], 1⟩ = 3 by kernel_rfl] at hs
  rw [show openF ⟨[(ka, 2), (kb, 1), (ka, 1)], 1⟩ = [] by kernel_rfl] at ho
  repeat' (first | refine aw_seq ?_ | refine zz ?_ | refine zon fun _ => ?_ | refine zoa fun vr lr hr => ?_ | ((first | apply ao_call | apply aq_call); exact wants_a; (first | exact oc_func rfl | exact oc_clos rfl rfl | exact oc_bnd rfl rfl); (exact rfl); (first | exact fun w hw => hs w (lies_of hw (l := lA) cut_a) | exact fun w hw => hn w (lies_of hw (l := lA) cut_a))) | (apply ao_callr; exact wants_a; (exact oc_func rfl); (exact rfl); (first | exact fun w hw => ho w (lies_of hw (l := lA) cut_a)); intro vr lr hr) | refine zoS (fun _ => ?_) (fun _ => ?_) | refine zqS (fun _ => ?_) (fun _ => ?_) | refine zwS (fun _ => ?_) (fun _ => ?_))
  obtain ⟨xo, yo, hxo⟩ := hr.len
  subst hxo
  repeat' (first | refine aw_seq ?_ | refine zz ?_ | refine zon fun _ => ?_ | refine zoa fun vr lr hr => ?_ | ((have hq := fun {m} R => cB (m := m) hLA R; apply ao_callH (l := lA); exact wants_a; (exact oc_func rfl); (exact rfl); (exact cut_a); (exact hq _); rintro _ _ ⟨rfl, lB, rfl, hLB⟩; clear hq cB)) | refine zoS (fun _ => ?_) (fun _ => ?_) | refine zqS (fun _ => ?_) (fun _ => ?_) | refine zwS (fun _ => ?_) (fun _ => ?_))
  exact fun w' hw => ⟨rfl, hw.below⟩
end Fdt
end Go.Proofs.Ytpenogailhlcaaa
