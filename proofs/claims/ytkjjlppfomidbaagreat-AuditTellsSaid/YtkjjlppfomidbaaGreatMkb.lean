/- What marks are: names, rising; what Mark and Clear make of them; conditions: none. -/
import Derived.Test.YtkjjlppfomidbaaGreatTxs
import Derived.Test.YtkjjlppfomidbaaGreatLabs
/- Mka: What marks are: names, rising; what Mark and Clear make of them; conditions: none. -/
namespace Go.Proofs.YtkjjlppfomidbaaGreat
namespace Mkt
open Go Trt
abbrev Mk := List Nm
abbrev RiseN (l : Mk) : Prop := l.Pairwise fun a b => Op.bytesLess a b = true
def insS (s : Nm) : Mk → Mk
  | [] => [s]
  | e :: l => if Op.bytesLess s e = true then s :: e :: l else e :: insS s l
def markL (l : Mk) (s : Nm) : Mk := if s ∈ l then l else insS s l
theorem insS_mem {s y : Nm} : ∀ {l : Mk}, y ∈ insS s l ↔ y = s ∨ y ∈ l
  | [] => by simp [insS]
  | e :: l => by
    unfold insS
    split
    · exact List.mem_cons
    · rw [List.mem_cons, insS_mem, List.mem_cons]
      constructor
      · rintro (h | h | h)
        · exact .inr (.inl h)
        · exact .inl h
        · exact .inr (.inr h)
      · rintro (h | h | h)
        · exact .inr (.inl h)
        · exact .inl h
        · exact .inr (.inr h)
theorem insS_rise {s : Nm} : ∀ {l : Mk}, RiseN l → s ∉ l → RiseN (insS s l)
  | [], _, _ => List.pairwise_singleton _ _
  | e :: l, h, hn => by
    have h0 := h
    unfold RiseN at h0
    rw [List.pairwise_cons] at h0
    unfold insS
    split
    · rename_i hx
      refine List.pairwise_cons.2 ⟨fun y hy => ?_, h⟩
      rcases List.mem_cons.1 hy with rfl | hy
      · exact hx
      · exact Bord.bl_trans _ _ _ hx (h0.1 y hy)
    · rename_i hx
      refine List.pairwise_cons.2 ⟨fun y hy => ?_, insS_rise h0.2 fun hy => hn (List.mem_cons_of_mem _ hy)⟩
      rcases insS_mem.1 hy with rfl | hy
      · cases hl : Op.bytesLess e y
        · exact absurd (Bord.bl_total _ _ hl (by simpa using hx) ▸ List.mem_cons_self) hn
        · rfl
      · exact h0.1 y hy
theorem mark_mem {l : Mk} {s y : Nm} : y ∈ markL l s ↔ y = s ∨ y ∈ l := by
  unfold markL
  split
  · rename_i h
    exact ⟨.inr, fun h1 => h1.elim (fun e => e ▸ h) id⟩
  · exact insS_mem
theorem mark_rise {l : Mk} (h : RiseN l) (s : Nm) : RiseN (markL l s) := by
  unfold markL
  split
  · exact h
  · rename_i hs; exact insS_rise h hs
theorem rise_nodup {l : Mk} (h : RiseN l) : l.Nodup := h.imp fun {a b} hab e => by
  rw [e, Bord.bl_irrefl] at hab
  cases hab
theorem nodup_le : ∀ {l m : List Nm}, l.Nodup → (∀ x ∈ l, x ∈ m) → l.length ≤ m.length
  | [], m, _, _ => Nat.zero_le _
  | a :: l, m, h, hs => by
    rw [List.nodup_cons] at h
    have ha := hs a List.mem_cons_self
    have h1 := nodup_le (m := m.erase a) h.2 fun x hx => (List.mem_erase_of_ne fun e : x = a => h.1 (by rw [← e]; exact hx)).2 (hs x (List.mem_cons_of_mem _ hx))
    rw [List.length_erase_of_mem ha] at h1
    have := List.length_pos_of_mem ha
    rw [List.length_cons]
    omega
end Mkt
end Go.Proofs.YtkjjlppfomidbaaGreat
/- Mkb: The document's answer for layer 12: Mark, Marks, Clear; conditions: at most 10,000 names, of at most 100 bytes. -/
namespace Go.Proofs.YtkjjlppfomidbaaGreat
namespace Mkt
open Go Go.RowKit Sx Trt
attribute [local irreducible] Go.Calls
abbrev RowN (v : Value) (l : Hp) (ks : List Nm) : Prop := RowB 9 1 v l ks.length (ks.flatMap cells1)
end Mkt
end Go.Proofs.YtkjjlppfomidbaaGreat
