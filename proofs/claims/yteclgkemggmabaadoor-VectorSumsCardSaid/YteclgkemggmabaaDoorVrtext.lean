/- Contracts of the document's answer for layer 4: Text, find, Parse; conditions: at most 1,000 entries, names and texts of at most 100,000 bytes. -/
import Derived.Test.YteclgkemggmabaaDoorVrest
import Derived.Test.YteclgkemggmabaaDoorQparse
import Derived.Test.YteclgkemggmabaaDoorWrtext
namespace Go.Proofs.YteclgkemggmabaaDoor
namespace Vec
open Go Go.RowKit Sx Wid Lab
attribute [local irreducible] Go.Calls

/-- A number's text. -/
def txtN (X : Int) : List UInt8 := txt X (Qty.lenF 40 X.natAbs)
theorem txtN_is {X : Int} (h : inW X) : IsLen X.natAbs (Qty.lenF 40 X.natAbs) := Qty.lenF_is 40 _ (by
  unfold inW at h
  rw [show (10 : Int) ^ (40 + 1) = 100000000000000000000000000000000000000000 by decide]
  omega)
theorem txtN_len (X : Int) : (txtN X).length ≤ 42 := by
  unfold txtN
  rw [txt_len]
  have := Qty.lenF_le 40 X.natAbs
  split <;> omega
theorem rtextV (x : Int) (hx : inW x) (w : World) : Calls Tryd.prog 45 #[WV x] w fun e w' => e = .returned (S (txtN x)) ∧ Below w.heap.size w w' := by
  have e1 : num (sHi x) (sLo x) = x := by rw [s_num, sN_in hx]
  have := Wid.rtext_ok (sHi x) (sLo x) (Qty.lenF 40 x.natAbs) (s_isW x) (by rw [e1]; exact txtN_is hx) w
  rwa [e1] at this
/-- An entry's text. -/
def pcE (e : Ent) : List UInt8 := e.1 ++ [61] ++ txtN e.2
def txtV : List Ent → List UInt8
  | [] => []
  | [e] => pcE e
  | e :: f :: r => pcE e ++ [44] ++ txtV (f :: r)
theorem txtV_snoc (e : Ent) : ∀ (l : List Ent), txtV (l ++ [e]) = (if l = [] then [] else txtV l ++ [44]) ++ pcE e
  | [] => by simp [txtV]
  | [f] => by simp [txtV]
  | f :: g :: r => by
    have ih := txtV_snoc e (g :: r)
    simp only [List.cons_append] at ih ⊢
    rw [txtV, ih]
    rw [if_neg (by simp), if_neg (by simp), txtV]
    simp only [List.append_assoc]
theorem pcE_len {e : Ent} (h : e.1.length ≤ 100000) : (pcE e).length ≤ 100043 := by
  have := txtN_len e.2
  simp only [pcE, List.length_append, List.length_cons, List.length_nil]
  omega
theorem txtV_len : ∀ (l : List Ent), (∀ e ∈ l, e.1.length ≤ 100000) → (txtV l).length ≤ l.length * 100044
  | [], _ => by simp [txtV]
  | [e], h => by
    have := pcE_len (h e List.mem_cons_self)
    simp only [txtV, List.length_cons, List.length_nil]
    omega
  | e :: f :: r, h => by
    have := pcE_len (h e List.mem_cons_self)
    have ih := txtV_len (f :: r) fun x hx => h x (List.mem_cons_of_mem _ hx)
    simp only [txtV, List.length_append, List.length_cons, List.length_nil] at ih ⊢
    omega
def textV (es : List Ent) : List UInt8 := if rightV es then txtV es else []
theorem take_snoc {es : List Ent} {i : Nat} {e : Ent} (h : es[i]? = some e) : es.take (i + 1) = es.take i ++ [e] := by
  rw [List.take_add_one, h]; rfl

set_option maxHeartbeats 8000000 in
theorem vtext_ok (v : Value) (es : List Ent) (hw1 : wfV es) (hl1 : es.length ≤ 1000) (w : World) (hv : VecAt w v es) :
    Calls Tryd.prog 21 #[v] w fun e w' => e = .returned (S (textV es)) ∧ Below w.heap.size w w' := by
  obtain ⟨a, c, hv', hat⟩ := OldRow.cells cellsE_len hv
  refine calls1 (args := [v]) Tryd.func21 rfl rfl rfl rfl ?_
  have hra : ∀ w', Below w.heap.size w w' → Calls Tryd.prog 17 #[v] w' fun e w'' => e = .returned (.bool (rightV es)) ∧ Below w'.heap.size w' w'' := fun w' hb => vright_ok v es hw1 w' (hv.below hb)
  cases h1 : rightV es
  · have hq : textV es = [] := by unfold textV; rw [h1]; rfl
    rw [hq]
    rw [h1] at hra
    repeat' (first | refine ao_nil ?_ | refine aq_nil ?_ | refine zov ?_ | refine zqv ?_ | refine zok ?_ | refine zqk ?_ | refine zon fun _ => ?_ | refine zow ?_ | refine zox ?_ | refine zoz ?_ | refine zoa fun vr lr hr => ?_ | ((first | apply ao_call | apply aq_call); exact wants_a; (first | exact oc_func rfl | exact oc_clos rfl rfl); (exact rfl); (first | exact fun w hw => hra w hw.below)) | (refine aw_is ?_; first | refine aw_seq ?_ | refine aw_block ?_ | refine aw_region ?_ | refine aw_skip ?_ | refine aw_exit ?_ | refine aw_ret ?_ | refine aw_label ?_ | refine aw_scope ?_ | refine zwt ?_ | refine zwf ?_ | refine zwd ?_) | refine zoT ?_ | refine zqT ?_ | refine zwT ?_ | refine zoF ?_ | refine zqF ?_ | refine zwF ?_ | refine zp ?_ | refine ib_exit ?_ | refine ib_other ?_ | refine zr1 ?_ | refine zr2 ?_ | refine zr3 ?_ | refine zrt ?_ | refine zrc ?_ | refine zrd ?_ | refine zoS (fun _ => ?_) (fun _ => ?_) | refine zqS (fun _ => ?_) (fun _ => ?_) | refine zwS (fun _ => ?_) (fun _ => ?_))
    exact fun w' hw => ⟨rfl, hw.below⟩
  have hq : textV es = txtV es := by unfold textV; rw [h1]; rfl
  rw [hq]
  rw [h1] at hra
  repeat' (first | refine ao_nil ?_ | refine aq_nil ?_ | refine zov ?_ | refine zqv ?_ | refine zok ?_ | refine zqk ?_ | refine zon fun _ => ?_ | refine zow ?_ | refine zox ?_ | refine zoz ?_ | refine zoa fun vr lr hr => ?_ | ((first | apply ao_call | apply aq_call); exact wants_a; (first | exact oc_func rfl | exact oc_clos rfl rfl); (exact rfl); (first | exact fun w hw => hra w hw.below)) | (refine aw_is ?_; first | refine aw_seq ?_ | refine aw_block ?_ | refine aw_region ?_ | refine aw_skip ?_ | refine aw_exit ?_ | refine aw_ret ?_ | refine aw_label ?_ | refine aw_scope ?_ | refine zwt ?_ | refine zwf ?_ | refine zwd ?_) | refine zoT ?_ | refine zqT ?_ | refine zwT ?_ | refine zoF ?_ | refine zqF ?_ | refine zwF ?_ | refine zp ?_ | refine ib_exit ?_ | refine ib_other ?_ | refine zr1 ?_ | refine zr2 ?_ | refine zr3 ?_ | refine zrt ?_ | refine zrc ?_ | refine zrd ?_ | refine zoS (fun _ => ?_) (fun _ => ?_) | refine zqS (fun _ => ?_) (fun _ => ?_) | refine zwS (fun _ => ?_) (fun _ => ?_))
  refine aw_for (t0 := [(0, v), (4, S []), (5, I (0 : Nat))]) (fun q t H => ∃ (i : Nat), q = es.length - i ∧ i ≤ es.length ∧ t = [(0, v), (4, S (txtV (es.take i))), (5, I i)] ∧ H = []) ⟨0, rfl, by omega, rfl, rfl⟩ (by repeat (first | exact sub_nil | refine sub_cons rfl ?_)) ?_
  rintro q t H ⟨i, rfl, hi, rfl, rfl⟩
  subst hv'
  by_cases hlt : i < es.length
  · obtain ⟨e, he⟩ := getI hlt
    obtain ⟨g, o, rfl, hg, hc⟩ := hat i e (i : Int) he rfl
    obtain ⟨c0, -, -, cW, -⟩ := ent_cells hc
    have hwe := hw1.at he
    have htl := txtV_len (es.take i) fun x hx => (hw1.2 x (List.mem_of_mem_take hx)).1
    have htl2 : (es.take i).length ≤ 1000 := by rw [List.length_take]; omega
    have hnl := txtN_len e.2
    have hs := txtV_snoc e (es.take i)
    rw [← take_snoc he] at hs
    by_cases hi0 : i = 0
    · have ht0 : es.take i = [] := by rw [hi0]; rfl
      rw [ht0, if_pos rfl, List.nil_append] at hs
      rw [ht0]
      have htx : (txtV []).length = 0 := rfl
      repeat' (first | refine ao_nil ?_ | refine aq_nil ?_ | ((first | apply ao_val | apply aq_val); exact wants_a; (first | exact ov_load_oa rfl hg cW rfl | exact ov_a); (exact rfl)) | refine zok ?_ | refine zqk ?_ | refine zon fun _ => ?_ | refine zow ?_ | refine zox ?_ | refine zoz ?_ | refine zoa fun vr lr hr => ?_ | ((first | apply ao_call | apply aq_call); exact wants_a; (first | exact oc_func rfl | exact oc_clos rfl rfl); (exact rfl); (first | exact fun w hw => rtextV e.2 hwe.2 w)) | (refine aw_is ?_; first | refine aw_seq ?_ | refine aw_block ?_ | refine aw_region ?_ | refine aw_skip ?_ | refine aw_exit ?_ | refine aw_ret ?_ | refine aw_label ?_ | refine aw_scope ?_ | refine zwt ?_ | refine zwf ?_ | refine zwd ?_) | refine zoT ?_ | refine zqT ?_ | refine zwT ?_ | refine zoF ?_ | refine zqF ?_ | refine zwF ?_ | refine zp ?_ | refine ib_exit ?_ | refine ib_other ?_ | refine zr1 ?_ | refine zr2 ?_ | refine zr3 ?_ | refine zrt ?_ | refine zrc ?_ | refine zrd ?_ | refine zoS (fun _ => ?_) (fun _ => ?_) | refine zqS (fun _ => ?_) (fun _ => ?_) | refine zwS (fun _ => ?_) (fun _ => ?_))
      all_goals exact lq_normal ⟨i + 1, rfl, by omega, rfl, rfl⟩ (by omega) (sub_cons rfl (sub_cons' rfl (by rw [hs]; simp [pcE, txtV]) (sub_cons rfl sub_nil)))
    · rw [if_neg (by intro h; have := congrArg List.length h; rw [List.length_take, List.length_nil] at this; omega)] at hs
      generalize es.take i = pre at hs htl htl2
      repeat' (first | refine ao_nil ?_ | refine aq_nil ?_ | ((first | apply ao_val | apply aq_val); exact wants_a; (first | exact ov_load_oa rfl hg cW rfl | exact ov_a); (exact rfl)) | refine zok ?_ | refine zqk ?_ | refine zon fun _ => ?_ | refine zow ?_ | refine zox ?_ | refine zoz ?_ | refine zoa fun vr lr hr => ?_ | ((first | apply ao_call | apply aq_call); exact wants_a; (first | exact oc_func rfl | exact oc_clos rfl rfl); (exact rfl); (first | exact fun w hw => rtextV e.2 hwe.2 w)) | (refine aw_is ?_; first | refine aw_seq ?_ | refine aw_block ?_ | refine aw_region ?_ | refine aw_skip ?_ | refine aw_exit ?_ | refine aw_ret ?_ | refine aw_label ?_ | refine aw_scope ?_ | refine zwt ?_ | refine zwf ?_ | refine zwd ?_) | refine zoT ?_ | refine zqT ?_ | refine zwT ?_ | refine zoF ?_ | refine zqF ?_ | refine zwF ?_ | refine zp ?_ | refine ib_exit ?_ | refine ib_other ?_ | refine zr1 ?_ | refine zr2 ?_ | refine zr3 ?_ | refine zrt ?_ | refine zrc ?_ | refine zrd ?_ | refine zoS (fun _ => ?_) (fun _ => ?_) | refine zqS (fun _ => ?_) (fun _ => ?_) | refine zwS (fun _ => ?_) (fun _ => ?_))
      all_goals exact lq_normal ⟨i + 1, rfl, by omega, rfl, rfl⟩ (by omega) (sub_cons rfl (sub_cons' rfl (by rw [hs]; simp [pcE]) (sub_cons rfl sub_nil)))
  · obtain rfl : i = es.length := by omega
    rw [List.take_length]
    repeat' (first | refine ao_nil ?_ | refine aq_nil ?_ | refine zov ?_ | refine zqv ?_ | refine zok ?_ | refine zqk ?_ | refine zon fun _ => ?_ | refine zow ?_ | refine zox ?_ | refine zoz ?_ | refine zoa fun vr lr hr => ?_ | (refine aw_is ?_; first | refine aw_seq ?_ | refine aw_block ?_ | refine aw_region ?_ | refine aw_skip ?_ | refine aw_exit ?_ | refine aw_ret ?_ | refine aw_label ?_ | refine aw_scope ?_ | refine zwt ?_ | refine zwf ?_ | refine zwd ?_) | refine zoT ?_ | refine zqT ?_ | refine zwT ?_ | refine zoF ?_ | refine zqF ?_ | refine zwF ?_ | refine zp ?_ | refine ib_exit ?_ | refine ib_other ?_ | refine zr1 ?_ | refine zr2 ?_ | refine zr3 ?_ | refine zrt ?_ | refine zrc ?_ | refine zrd ?_ | refine zoS (fun _ => ?_) (fun _ => ?_) | refine zqS (fun _ => ?_) (fun _ => ?_) | refine zwS (fun _ => ?_) (fun _ => ?_))
    exact fun w' hw => ⟨rfl, hw.below⟩

/-- How far the first such byte is. -/
def nx (c : UInt8) (l : List UInt8) : Nat := (l.takeWhile (· != c)).length
theorem nx_le (c : UInt8) : ∀ (l : List UInt8), nx c l ≤ l.length
  | [] => by simp [nx]
  | d :: l => by
    have := nx_le c l
    unfold nx at *
    rw [List.takeWhile_cons]
    split
    · simp; omega
    · simp
theorem nx_of (c : UInt8) : ∀ (l : List UInt8) (n : Nat), (∀ (j : Nat) (d : UInt8), j < n → l[j]? = some d → d ≠ c) → n ≤ l.length → (n = l.length ∨ l[n]? = some c) → nx c l = n
  | [], n, _, h, _ => by simp at h; subst h; rfl
  | d :: l, 0, _, _, h => by
    rcases h with h | h
    · simp at h
    · have : d = c := by simpa using h
      simp [nx, this]
  | d :: l, n + 1, h0, h1, h => by
    have ih := nx_of c l n (fun j e hj he => h0 (j + 1) e (by omega) (by simpa using he)) (by simpa using h1) (by simpa using h)
    have hd := h0 0 d (by omega) rfl
    unfold nx at *
    rw [List.takeWhile_cons, if_pos (by simpa using hd), List.length_cons, ih]

set_option maxHeartbeats 1000000 in
theorem vfind_ok (l : List UInt8) (c : UInt8) (z p q : Int) (k m : Nat) (hz : z = c.toNat) (hp : p = (k : Int)) (hq : q = (m : Int)) (hk : k ≤ m) (hm : m ≤ l.length) (hl : l.length ≤ 100000) (w : World) :
    Calls Tryd.prog 53 #[S l, .int .u8 z, I p, I q] w fun e w' => e = .returned (I ((k + nx c ((l.drop k).take (m - k)) : Nat) : Int)) ∧ Below w.heap.size w w' := by
  subst hz hp hq
  refine calls1 (args := [S l, .int .u8 c.toNat, I k, I m]) Tryd.func53 rfl rfl rfl rfl ?_
  repeat' (first | refine ao_nil ?_ | refine aq_nil ?_ | refine zov ?_ | refine zqv ?_ | refine zok ?_ | refine zqk ?_ | refine zon fun _ => ?_ | refine zow ?_ | refine zox ?_ | refine zoz ?_ | refine zoa fun vr lr hr => ?_ | (refine aw_is ?_; first | refine aw_seq ?_ | refine aw_block ?_ | refine aw_region ?_ | refine aw_skip ?_ | refine aw_exit ?_ | refine aw_ret ?_ | refine aw_label ?_ | refine aw_scope ?_ | refine zwt ?_ | refine zwf ?_ | refine zwd ?_) | refine zoT ?_ | refine zqT ?_ | refine zwT ?_ | refine zoF ?_ | refine zqF ?_ | refine zwF ?_ | refine zp ?_ | refine ib_exit ?_ | refine ib_other ?_ | refine zr1 ?_ | refine zr2 ?_ | refine zr3 ?_ | refine zrt ?_ | refine zrc ?_ | refine zrd ?_ | refine zoS (fun _ => ?_) (fun _ => ?_) | refine zqS (fun _ => ?_) (fun _ => ?_) | refine zwS (fun _ => ?_) (fun _ => ?_))
  refine aw_for (t0 := [(0, S l), (1, .int .u8 c.toNat), (3, I m), (9, I k)]) (fun q t H => ∃ i : Nat, q = m - i ∧ k ≤ i ∧ i ≤ m ∧ (∀ (j : Nat) (d : UInt8), k ≤ j → j < i → l[j]? = some d → d ≠ c) ∧ t = [(0, S l), (1, .int .u8 c.toNat), (3, I m), (9, I i)] ∧ H = []) ⟨k, rfl, by omega, hk, fun j d h1 h2 => by omega, rfl, rfl⟩ (by repeat (first | exact sub_nil | refine sub_cons rfl ?_)) ?_
  rintro q t H ⟨i, rfl, h1, h2, hno, rfl, rfl⟩
  have hll : ((l.drop k).take (m - k)).length = m - k := by rw [List.length_take, List.length_drop]; omega
  have hget : ∀ j, j < m - k → ((l.drop k).take (m - k))[j]? = l[k + j]? := fun j hj => by rw [List.getElem?_take_of_lt hj, List.getElem?_drop]
  have key : i = m ∨ l[i]? = some c → k + nx c ((l.drop k).take (m - k)) = i := fun h => by
    have h3 : ∀ (j : Nat) (d : UInt8), j < i - k → ((l.drop k).take (m - k))[j]? = some d → d ≠ c := fun j d hj hd => by
      rw [hget j (by omega)] at hd
      exact hno (k + j) d (by omega) (by omega) hd
    have h4 : i - k = ((l.drop k).take (m - k)).length ∨ ((l.drop k).take (m - k))[i - k]? = some c := by
      by_cases hi : i = m
      · left; omega
      · right
        rw [hget _ (by omega), show k + (i - k) = i by omega]
        exact h.resolve_left hi
    rw [nx_of c _ (i - k) h3 (by omega) h4]
    omega
  by_cases hi : i < m
  · have hg : l[i]? = some (l[i]'(by omega)) := List.getElem?_eq_getElem _
    generalize (l[i]'(by omega)) = d at hg
    by_cases hc : d = c
    · subst hc
      have hcc : ((d.toNat : Int) == (d.toNat : Int)) = true := beq_self_eq_true _
      rw [key (.inr hg)]
      repeat' (first | refine ao_nil ?_ | refine aq_nil ?_ | ((first | apply ao_val | apply aq_val); exact wants_a; (first | exact ov_sindex rfl rfl hg (by omega) | exact ov_a); (exact rfl)) | refine zok ?_ | refine zqk ?_ | refine zon fun _ => ?_ | refine zow ?_ | refine zox ?_ | refine zoz ?_ | refine zoa fun vr lr hr => ?_ | (refine aw_is ?_; first | refine aw_seq ?_ | refine aw_block ?_ | refine aw_region ?_ | refine aw_skip ?_ | refine aw_exit ?_ | refine aw_ret ?_ | refine aw_label ?_ | refine aw_scope ?_ | refine zwt ?_ | refine zwf ?_ | refine zwd ?_) | refine zoT ?_ | refine zqT ?_ | refine zwT ?_ | refine zoF ?_ | refine zqF ?_ | refine zwF ?_ | refine zp ?_ | refine ib_exit ?_ | refine ib_other ?_ | refine zr1 ?_ | refine zr2 ?_ | refine zr3 ?_ | refine zrt ?_ | refine zrc ?_ | refine zrd ?_ | refine zoS (fun _ => ?_) (fun _ => ?_) | refine zqS (fun _ => ?_) (fun _ => ?_) | refine zwS (fun _ => ?_) (fun _ => ?_))
      exact fun w' hw => ⟨rfl, hw.below⟩
    · have hcc : ((d.toNat : Int) == (c.toNat : Int)) = false := by
        rw [beq_eq_false_iff_ne]; intro h; exact hc (UInt8.toNat.inj (by omega))
      repeat' (first | refine ao_nil ?_ | refine aq_nil ?_ | ((first | apply ao_val | apply aq_val); exact wants_a; (first | exact ov_sindex rfl rfl hg (by omega) | exact ov_a); (exact rfl)) | refine zok ?_ | refine zqk ?_ | refine zon fun _ => ?_ | refine zow ?_ | refine zox ?_ | refine zoz ?_ | refine zoa fun vr lr hr => ?_ | (refine aw_is ?_; first | refine aw_seq ?_ | refine aw_block ?_ | refine aw_region ?_ | refine aw_skip ?_ | refine aw_exit ?_ | refine aw_ret ?_ | refine aw_label ?_ | refine aw_scope ?_ | refine zwt ?_ | refine zwf ?_ | refine zwd ?_) | refine zoT ?_ | refine zqT ?_ | refine zwT ?_ | refine zoF ?_ | refine zqF ?_ | refine zwF ?_ | refine zp ?_ | refine ib_exit ?_ | refine ib_other ?_ | refine zr1 ?_ | refine zr2 ?_ | refine zr3 ?_ | refine zrt ?_ | refine zrc ?_ | refine zrd ?_ | refine zoS (fun _ => ?_) (fun _ => ?_) | refine zqS (fun _ => ?_) (fun _ => ?_) | refine zwS (fun _ => ?_) (fun _ => ?_))
      refine lq_normal ⟨i + 1, rfl, by omega, by omega, ?_, rfl, rfl⟩ (by omega) (by repeat (first | exact sub_nil | refine sub_cons rfl ?_))
      intro j e h3 h4 h5
      by_cases e1 : j = i
      · subst e1; rw [hg] at h5; cases h5; exact hc
      · exact hno j e h3 (by omega) h5
  · obtain rfl : i = m := by omega
    rw [key (.inl rfl)]
    repeat' (first | refine ao_nil ?_ | refine aq_nil ?_ | refine zov ?_ | refine zqv ?_ | refine zok ?_ | refine zqk ?_ | refine zon fun _ => ?_ | refine zow ?_ | refine zox ?_ | refine zoz ?_ | refine zoa fun vr lr hr => ?_ | (refine aw_is ?_; first | refine aw_seq ?_ | refine aw_block ?_ | refine aw_region ?_ | refine aw_skip ?_ | refine aw_exit ?_ | refine aw_ret ?_ | refine aw_label ?_ | refine aw_scope ?_ | refine zwt ?_ | refine zwf ?_ | refine zwd ?_) | refine zoT ?_ | refine zqT ?_ | refine zwT ?_ | refine zoF ?_ | refine zqF ?_ | refine zwF ?_ | refine zp ?_ | refine ib_exit ?_ | refine ib_other ?_ | refine zr1 ?_ | refine zr2 ?_ | refine zr3 ?_ | refine zrt ?_ | refine zrc ?_ | refine zrd ?_ | refine zoS (fun _ => ?_) (fun _ => ?_) | refine zqS (fun _ => ?_) (fun _ => ?_) | refine zwS (fun _ => ?_) (fun _ => ?_))
    exact fun w' hw => ⟨rfl, hw.below⟩
end Vec
end Go.Proofs.YteclgkemggmabaaDoor
