/- What marks are: names, rising; what Mark and Clear make of them; conditions: none. -/
import Derived.Test.YtdakeicfhbggeaaGreatTxs
import Derived.Test.YtdakeicfhbggeaaGreatLabs
/- Mka: What marks are: names, rising; what Mark and Clear make of them; conditions: none. -/
namespace Go.Proofs.YtdakeicfhbggeaaGreat
namespace Mkt
open Go Trt
abbrev Mk := List Nm
abbrev RiseN (l : Mk) : Prop := l.Pairwise fun a b => Op.bytesLess a b = true
def insS (s : Nm) : Mk → Mk
  | [] => [s]
  | e :: l => if Op.bytesLess s e = true then s :: e :: l else e :: insS s l
def markL (l : Mk) (s : Nm) : Mk := if s ∈ l then l else insS s l
theorem insS_mem {s y : Nm} : ∀ {l : Mk}, y ∈ insS s l ↔ y = s ∨ y ∈ l
  | [] => by simp [insS]
  | e :: l => by
    unfold insS
    split
    · exact List.mem_cons
    · rw [List.mem_cons, insS_mem, List.mem_cons]
      constructor
      · rintro (h | h | h)
        · exact .inr (.inl h)
        · exact .inl h
        · exact .inr (.inr h)
      · rintro (h | h | h)
        · exact .inr (.inl h)
        · exact .inl h
        · exact .inr (.inr h)
theorem insS_len {s : Nm} : ∀ {l : Mk}, (insS s l).length = l.length + 1
  | [] => rfl
  | e :: l => by
    unfold insS
    split
    · rfl
    · rw [List.length_cons, insS_len, List.length_cons]
theorem insS_rise {s : Nm} : ∀ {l : Mk}, RiseN l → s ∉ l → RiseN (insS s l)
  | [], _, _ => List.pairwise_singleton _ _
  | e :: l, h, hn => by
    have h0 := h
    unfold RiseN at h0
    rw [List.pairwise_cons] at h0
    unfold insS
    split
    · rename_i hx
      refine List.pairwise_cons.2 ⟨fun y hy => ?_, h⟩
      rcases List.mem_cons.1 hy with rfl | hy
      · exact hx
      · exact Bord.bl_trans _ _ _ hx (h0.1 y hy)
    · rename_i hx
      refine List.pairwise_cons.2 ⟨fun y hy => ?_, insS_rise h0.2 fun hy => hn (List.mem_cons_of_mem _ hy)⟩
      rcases insS_mem.1 hy with rfl | hy
      · cases hl : Op.bytesLess e y
        · exact absurd (Bord.bl_total _ _ hl (by simpa using hx) ▸ List.mem_cons_self) hn
        · rfl
      · exact h0.1 y hy
theorem insS_no {x : Nm} : ∀ {l : Mk}, (∀ e ∈ l, Op.bytesLess x e = false) → insS x l = l ++ [x]
  | [], _ => rfl
  | a :: l, h => by
    unfold insS
    rw [if_neg (by rw [h a List.mem_cons_self]; decide), insS_no fun e he => h e (List.mem_cons_of_mem _ he)]
    rfl
theorem insS_new {x e : Nm} (hx : Op.bytesLess x e = true) : ∀ {l : Mk}, (∀ e ∈ l, Op.bytesLess x e = false) → insS x (l ++ [e]) = l ++ [x] ++ [e]
  | [], _ => by
    show insS x [e] = _
    unfold insS
    rw [if_pos hx]
    rfl
  | a :: l, h => by
    show insS x (a :: (l ++ [e])) = _
    unfold insS
    rw [if_neg (by rw [h a List.mem_cons_self]; decide), insS_new hx fun e he => h e (List.mem_cons_of_mem _ he)]
    rfl
theorem insS_old {x e : Nm} : ∀ {l : Mk}, (∃ e ∈ l, Op.bytesLess x e = true) → insS x (l ++ [e]) = insS x l ++ [e]
  | [], h => by obtain ⟨_, h, _⟩ := h; cases h
  | a :: l, h => by
    show insS x (a :: (l ++ [e])) = _
    unfold insS
    by_cases ha : Op.bytesLess x a = true
    · rw [if_pos ha, if_pos ha]; rfl
    · rw [if_neg ha, if_neg ha, insS_old]
      · rfl
      · obtain ⟨y, hy, hb⟩ := h
        rcases List.mem_cons.1 hy with rfl | hy
        · exact absurd hb ha
        · exact ⟨y, hy, hb⟩
def InsS (x : Nm) (t : Mk) (i : Nat) (D : Bool) (out : Mk) : Prop :=
  (D = true ∧ (∃ e ∈ t.take i, Op.bytesLess x e = true) ∧ out = insS x (t.take i)) ∨ (D = false ∧ (∀ e ∈ t.take i, Op.bytesLess x e = false) ∧ out = t.take i)
theorem InsS.len {x : Nm} {t : Mk} {i : Nat} {D : Bool} {out : Mk} (h : InsS x t i D out) : out.length ≤ i + 1 := by
  have := List.length_take_le i t
  rcases h with ⟨-, -, rfl⟩ | ⟨-, -, rfl⟩
  · rw [insS_len]; omega
  · omega
theorem InsS.done {x : Nm} {t : Mk} {i : Nat} {out : Mk} {e : Nm} (h : InsS x t i true out) (he : t[i]? = some e) : InsS x t (i + 1) true (out ++ [e]) := by
  rcases h with ⟨-, h2, rfl⟩ | ⟨h1, -⟩
  · refine .inl ⟨rfl, ?_, ?_⟩
    · obtain ⟨y, hy, hb⟩ := h2
      exact ⟨y, by rw [List.take_add_one]; exact List.mem_append_left _ hy, hb⟩
    · rw [List.take_add_one, he]; exact (insS_old h2).symm
  · cases h1
theorem InsS.here {x : Nm} {t : Mk} {i : Nat} {out : Mk} {e : Nm} (h : InsS x t i false out) (he : t[i]? = some e) (hb : Op.bytesLess x e = true) : InsS x t (i + 1) true (out ++ [x] ++ [e]) := by
  rcases h with ⟨h1, -⟩ | ⟨-, h2, rfl⟩
  · cases h1
  · refine .inl ⟨rfl, ⟨e, by rw [List.take_add_one, he]; exact List.mem_append_right _ List.mem_cons_self, hb⟩, ?_⟩
    rw [List.take_add_one, he]
    exact (insS_new hb h2).symm
theorem InsS.next {x : Nm} {t : Mk} {i : Nat} {out : Mk} {e : Nm} (h : InsS x t i false out) (he : t[i]? = some e) (hb : Op.bytesLess x e = false) : InsS x t (i + 1) false (out ++ [e]) := by
  rcases h with ⟨h1, -⟩ | ⟨-, h2, rfl⟩
  · cases h1
  · refine .inr ⟨rfl, fun y hy => ?_, by rw [List.take_add_one, he]; rfl⟩
    rw [List.take_add_one, he] at hy
    rcases List.mem_append.1 hy with hy | hy
    · exact h2 y hy
    · cases List.mem_singleton.1 hy; exact hb
theorem InsS.end_t {x : Nm} {t out : Mk} (h : InsS x t t.length true out) : insS x t = out := by
  rcases h with ⟨-, -, rfl⟩ | ⟨h1, -⟩
  · rw [List.take_length]
  · cases h1
theorem InsS.end_f {x : Nm} {t out : Mk} (h : InsS x t t.length false out) : insS x t = out ++ [x] := by
  rcases h with ⟨h1, -⟩ | ⟨-, h2, rfl⟩
  · cases h1
  · rw [List.take_length] at h2 ⊢
    exact insS_no h2
theorem mark_mem {l : Mk} {s y : Nm} : y ∈ markL l s ↔ y = s ∨ y ∈ l := by
  unfold markL
  split
  · rename_i h
    exact ⟨.inr, fun h1 => h1.elim (fun e => e ▸ h) id⟩
  · exact insS_mem
theorem mark_len (l : Mk) (s : Nm) : (markL l s).length ≤ l.length + 1 := by
  unfold markL
  split
  · exact Nat.le_succ _
  · rw [insS_len]; exact Nat.le_refl _
theorem mark_rise {l : Mk} (h : RiseN l) (s : Nm) : RiseN (markL l s) := by
  unfold markL
  split
  · exact h
  · rename_i hs; exact insS_rise h hs
theorem rise_nodup {l : Mk} (h : RiseN l) : l.Nodup := h.imp fun {a b} hab e => by
  rw [e, Bord.bl_irrefl] at hab
  cases hab
end Mkt
end Go.Proofs.YtdakeicfhbggeaaGreat
/- Mkb: The document's answer for layer 12: Mark, Marks, Clear; conditions: at most 10,000 names, of at most 100 bytes. -/
namespace Go.Proofs.YtdakeicfhbggeaaGreat
namespace Mkt
open Go Go.RowKit Sx Trt
attribute [local irreducible] Go.Calls
abbrev RowN (v : Value) (l : Hp) (ks : List Nm) : Prop := RowB 9 1 v l ks.length (ks.flatMap cells1)
theorem flat1 (es : List Nm) : (es.flatMap cells1).all flat = true := by
  rw [List.all_eq_true]
  intro x hx
  obtain ⟨e, -, hxe⟩ := List.mem_flatMap.1 hx
  unfold cells1 at hxe
  simp only [List.mem_cons, List.not_mem_nil, or_false] at hxe
  subst hxe
  rfl
theorem row11 {v : Value} {l : Hp} {ks : List Nm} {k j : Nm} {e : TypeId} (h : RowB e 1 v l (ks.length + 1 + 1) (ks.flatMap cells1 ++ [S k] ++ [S j])) : RowB e 1 v l (ks ++ [k] ++ [j]).length ((ks ++ [k] ++ [j]).flatMap cells1) := by
  rw [List.length_append, List.length_append, List.flatMap_append, List.flatMap_append]
  exact h
set_option maxHeartbeats 16000000 in
theorem rmark_ok {m : Nat} {w0 : World} {l : Mk} {v : Value} {lw : Hp} (h : RowN v lw l) (hl : l.length ≤ 50000) (hn : ∀ e ∈ l, e.length ≤ 100000) (s : Nm) (hs : s.length ≤ 100000) (R : Hp) :
    CallsH Tryz.prog ⟨w0.heap.size, w0, m⟩ 43 [v, S s] (lw ++ R) fun u H' => ∃ l', H' = l' ++ R ∧ RowN u l' (markL l s) := by
  refine callsH1p (args := [v, S s]) Tryz.func43 rfl rfl rfl rfl ?_
  obtain ⟨a, cp, rfl⟩ := h.len
  have hin := fun w' hv => rin_ok l (by omega) s (.slice a l.length cp) w' hv
  unfold markL
  by_cases hm : s ∈ l
  · rw [if_pos hm]
    rw [decide_eq_true hm] at hin
    repeat' (first | refine aw_seq ?_ | refine zz ?_ | refine zon fun _ => ?_ | refine zoa fun vr lr hr => ?_ | ((first | apply ao_call | apply aq_call); exact wants_a; (first | exact oc_func rfl | exact oc_clos rfl rfl | exact oc_bnd rfl rfl); (exact rfl); (first | exact fun w hw => hin w (hw.oldr h cut_a))) | refine zoS (fun _ => ?_) (fun _ => ?_) | refine zqS (fun _ => ?_) (fun _ => ?_) | refine zwS (fun _ => ?_) (fun _ => ?_))
    exact ⟨lw ++ R, _, hsub_a, List.Perm.refl _, lw, rfl, h⟩
  rw [if_neg hm]
  rw [decide_eq_false hm] at hin
  repeat' (first | refine aw_seq ?_ | refine zz ?_ | refine zon fun _ => ?_ | refine zoa fun vr lr hr => ?_ | ((first | apply ao_call | apply aq_call); exact wants_a; (first | exact oc_func rfl | exact oc_clos rfl rfl | exact oc_bnd rfl rfl); (exact rfl); (first | exact fun w hw => hin w (hw.oldr h cut_a))) | refine zoS (fun _ => ?_) (fun _ => ?_) | refine zqS (fun _ => ?_) (fun _ => ?_) | refine zwS (fun _ => ?_) (fun _ => ?_))
  refine aw_forH (t0 := [(0, .slice a l.length cp), (1, S s), (6, .slice none 0 0), (7, .bool false), (8, I (0 : Nat))]) (fun q tm H => ∃ (i : Nat) (D : Bool) (out : Mk) (v5 : Value) (l5 : Hp), q = l.length - i ∧ i ≤ l.length ∧ InsS s l i D out ∧ RowN v5 l5 out ∧ tm = [(0, .slice a l.length cp), (1, S s), (6, v5), (7, .bool D), (8, I i)] ∧ H = l5 ++ (lw ++ R))
    ⟨0, false, [], _, [], rfl, by omega, .inr ⟨rfl, (fun e he => by rw [List.take_zero] at he; cases he), rfl⟩, RowB.nil, rfl, rfl⟩ (by repeat (first | exact sub_nil | refine sub_cons rfl ?_)) hsub_a ?_
  clear hin
  rintro q tm H ⟨i, D, out, v5, l5, rfl, hi, hins, r5, rfl, rfl⟩
  obtain ⟨a5, c5, hv5⟩ := r5.len
  subst hv5
  have hlo := hins.len
  have hfo := flat1 out
  by_cases hlt : i < l.length
  · obtain ⟨x, he⟩ := getP hlt
    obtain ⟨gN, capN, csN, e1, e2, hcN⟩ := RowB.cells cells1_len h he
    cases e1
    subst e2
    have cX : csN[0 + (i : Int).toNat * 1]? = some (S x) := by rw [Int.toNat_natCast]; exact hcN 0 _ rfl
    have hx100 := hn _ (List.mem_of_getElem? he)
    have hb := fun w' => Lab.before_ok s x (by omega) (by omega) w'
    cases D
    · cases hbl : Op.bytesLess s x
      · rw [hbl] at hb
        repeat' (first | refine aw_seq ?_ | refine zz ?_ | refine zon fun _ => ?_ | refine zoa fun vr lr hr => ?_ | ((first | apply ao_call | apply aq_call); exact wants_a; (first | exact oc_func rfl | exact oc_clos rfl rfl | exact oc_bnd rfl rfl); (exact rfl); (first | exact fun w hw => hb w)) | refine zoS (fun _ => ?_) (fun _ => ?_) | refine zqS (fun _ => ?_) (fun _ => ?_) | refine zwS (fun _ => ?_) (fun _ => ?_))
        exact lq_normal' ⟨i + 1, _, _, _, _, rfl, by omega, hins.next he hbl, row1 (by assumption), rfl, rfl⟩ (by omega) (by repeat (first | exact sub_nil | refine sub_cons rfl ?_)) hsub_a
      · rw [hbl] at hb
        repeat' (first | refine aw_seq ?_ | refine zz ?_ | refine zon fun _ => ?_ | refine zoa fun vr lr hr => ?_ | ((first | apply ao_call | apply aq_call); exact wants_a; (first | exact oc_func rfl | exact oc_clos rfl rfl | exact oc_bnd rfl rfl); (exact rfl); (first | exact fun w hw => hb w)) | refine zoS (fun _ => ?_) (fun _ => ?_) | refine zqS (fun _ => ?_) (fun _ => ?_) | refine zwS (fun _ => ?_) (fun _ => ?_))
        exact lq_normal' ⟨i + 1, _, _, _, _, rfl, by omega, hins.here he hbl, row11 (by assumption), rfl, rfl⟩ (by omega) (by repeat (first | exact sub_nil | refine sub_cons rfl ?_)) hsub_a
    · cases hbl : Op.bytesLess s x
      · rw [hbl] at hb
        repeat' (first | refine aw_seq ?_ | refine zz ?_ | refine zon fun _ => ?_ | refine zoa fun vr lr hr => ?_ | ((first | apply ao_call | apply aq_call); exact wants_a; (first | exact oc_func rfl | exact oc_clos rfl rfl | exact oc_bnd rfl rfl); (exact rfl); (first | exact fun w hw => hb w)) | refine zoS (fun _ => ?_) (fun _ => ?_) | refine zqS (fun _ => ?_) (fun _ => ?_) | refine zwS (fun _ => ?_) (fun _ => ?_))
        exact lq_normal' ⟨i + 1, _, _, _, _, rfl, by omega, hins.done he, row1 (by assumption), rfl, rfl⟩ (by omega) (by repeat (first | exact sub_nil | refine sub_cons rfl ?_)) hsub_a
      · rw [hbl] at hb
        repeat' (first | refine aw_seq ?_ | refine zz ?_ | refine zon fun _ => ?_ | refine zoa fun vr lr hr => ?_ | ((first | apply ao_call | apply aq_call); exact wants_a; (first | exact oc_func rfl | exact oc_clos rfl rfl | exact oc_bnd rfl rfl); (exact rfl); (first | exact fun w hw => hb w)) | refine zoS (fun _ => ?_) (fun _ => ?_) | refine zqS (fun _ => ?_) (fun _ => ?_) | refine zwS (fun _ => ?_) (fun _ => ?_))
        exact lq_normal' ⟨i + 1, _, _, _, _, rfl, by omega, hins.done he, row1 (by assumption), rfl, rfl⟩ (by omega) (by repeat (first | exact sub_nil | refine sub_cons rfl ?_)) hsub_a
  · obtain rfl : i = l.length := by omega
    cases D
    · rw [hins.end_f]
      repeat' (first | refine aw_seq ?_ | refine zz ?_ | refine zon fun _ => ?_ | refine zoa fun vr lr hr => ?_ | refine zoS (fun _ => ?_) (fun _ => ?_) | refine zqS (fun _ => ?_) (fun _ => ?_) | refine zwS (fun _ => ?_) (fun _ => ?_))
      exact ⟨lr ++ R, _, hsub_a, List.Perm.refl _, lr, rfl, row1 hr⟩
    · rw [hins.end_t]
      repeat' (first | refine aw_seq ?_ | refine zz ?_ | refine zon fun _ => ?_ | refine zoa fun vr lr hr => ?_ | refine zoS (fun _ => ?_) (fun _ => ?_) | refine zqS (fun _ => ?_) (fun _ => ?_) | refine zwS (fun _ => ?_) (fun _ => ?_))
      exact ⟨l5 ++ R, _, hsub_a, List.Perm.refl _, l5, rfl, r5⟩
end Mkt
end Go.Proofs.YtdakeicfhbggeaaGreat
