/- Copies of slices; scopes with lists of their own; conditions: at most 1,000 scopes. -/
import Derived.Test.YtkjjlppfomidbaaGreatLdf
import Derived.Test.YtkjjlppfomidbaaGreatLcd
import Derived.Test.YtkjjlppfomidbaaGreatLcy
/- Ldg: Copies of slices; scopes with lists of their own; conditions: at most 1,000 scopes. -/
namespace Go.Proofs.YtkjjlppfomidbaaGreat
namespace Sx
open Go Go.RowKit
theorem ov_sleqn {P : Program} {E : Env} {t : Tm} {H : Hp} {ty st e yt : TypeId} {sz by_ n c : Nat} {x y : Operand} {a : Option Addr} [TySl P st e sz by_] (hx : ev t x = some (.slice a n c)) (hy : ev t y = some (.slice none 0 0)) : OpV P E (.binOp .eql st x y yt) ty t H (.bool a.isNone) := by
  refine ov_of fun b w ht _ o ho _ => ⟨_, by simp only [execOp, ho]; rfl, ?_⟩
  obtain ⟨i, z, hm, -⟩ := TySl.sl (P := P) (t := st)
  have h : ∀ d, (Op.equalIn (d + 1) st (.slice a n c) (.slice none 0 0)).run P w = .ok a.isNone w := fun d => by
    unfold Op.equalIn
    simp only [Sem.run_bind, run_underlying hm, Result.andThen]
    cases a <;> rfl
  have hg : (eqGuard .eql st x y (.slice a n c) (.slice none 0 0)).run P w = .ok () w := by unfold eqGuard; rfl
  rw [ev_eval ht hx, ev_eval ht hy, Sem.run_bind, hg]
  simp only [Result.andThen, binOp, Op.equal, Op.maxDepth, Sem.run_bind]
  rw [h 9999]
  rfl
theorem ov_sleq0 {P : Program} {E : Env} {t : Tm} {H : Hp} {ty st e yt : TypeId} {sz by_ n c : Nat} {x y : Operand} [TySl P st e sz by_] (hx : ev t x = some (.slice none n c)) (hy : ev t y = some (.slice none 0 0)) : OpV P E (.binOp .eql st x y yt) ty t H (.bool true) := ov_sleqn hx hy
theorem ov_sleqs {P : Program} {E : Env} {t : Tm} {H : Hp} {ty st e yt : TypeId} {sz by_ n c : Nat} {x y : Operand} {a : Addr} [TySl P st e sz by_] (hx : ev t x = some (.slice (some a) n c)) (hy : ev t y = some (.slice none 0 0)) : OpV P E (.binOp .eql st x y yt) ty t H (.bool false) := ov_sleqn hx hy
end Sx
namespace Lct
open Go Go.RowKit Sx Vec Ojt Scp
attribute [local irreducible] Go.Calls
set_option maxHeartbeats 8000000 in
theorem cloneS_ok {w : World} {v : Value} {n : Nat} {xs : List Value} (h : OldRow w 1 v n xs) (hf : xs.all flat = true) (hn : n ≤ 1000000) : Calls Tryz.prog 101 #[v] w fun e w' => ∃ r, e = .returned r ∧ NewRow 9 1 w w' r n xs := by
  obtain ⟨hl, a, c, rfl, h3⟩ := id h
  refine calls1 (args := [.slice a n c]) Tryz.func101 rfl rfl rfl rfl ?_
  cases a with
  | none =>
    obtain rfl : n = 0 := by
      rcases Nat.eq_zero_or_pos n with h0 | h0
      · exact h0
      · obtain ⟨g, o, e, -⟩ := h3 h0
        cases e
    obtain rfl : xs = [] := List.eq_nil_of_length_eq_zero (by simpa using hl)
    repeat' (first | refine aw_seq ?_ | ((first | apply ao_val | apply aq_val); exact wants_a; (first | exact ov_sleq0 rfl rfl | exact ov_a); (exact rfl)) | refine zy ?_ | refine zon fun _ => ?_ | refine zoa fun vr lr hr => ?_ | refine zoS (fun _ => ?_) (fun _ => ?_) | refine zqS (fun _ => ?_) (fun _ => ?_) | refine zwS (fun _ => ?_) (fun _ => ?_))
    exact fun w' hw => ⟨_, rfl, hw.below, [], RowB.nil, fun _ _ h => by cases h⟩
  | some a =>
    repeat' (first | refine aw_seq ?_ | ((first | apply ao_val | apply aq_val); exact wants_a; (first | exact ov_sleqs rfl rfl | exact ov_a); (exact rfl)) | refine zy ?_ | refine zon fun _ => ?_ | refine zoa fun vr lr hr => ?_ | ((apply ao_append_o; exact wants_a; exact rfl; exact RowB.lit0; exact rfl; exact h; exact rfl; exact cut_a; exact hf; omega; omega; exact rfl; intro v5 l5 r5)) | refine zoS (fun _ => ?_) (fun _ => ?_) | refine zqS (fun _ => ?_) (fun _ => ?_) | refine zwS (fun _ => ?_) (fun _ => ?_))
    rw [Nat.zero_add, List.nil_append] at r5
    exact fun w' hw => ⟨_, rfl, hw.below, _, r5, fun b o hm => hw.at_ b o (List.mem_append_left _ hm)⟩
set_option maxHeartbeats 8000000 in
theorem cloneT_ok {w : World} {v : Value} {n : Nat} {xs : List Value} (h : OldRow w 2 v n xs) (hf : xs.all flat = true) (hn : n ≤ 1000000) : Calls Tryz.prog 100 #[v] w fun e w' => ∃ r, e = .returned r ∧ NewRow 130 2 w w' r n xs := by
  obtain ⟨hl, a, c, rfl, h3⟩ := id h
  refine calls1 (args := [.slice a n c]) Tryz.func100 rfl rfl rfl rfl ?_
  cases a with
  | none =>
    obtain rfl : n = 0 := by
      rcases Nat.eq_zero_or_pos n with h0 | h0
      · exact h0
      · obtain ⟨g, o, e, -⟩ := h3 h0
        cases e
    obtain rfl : xs = [] := List.eq_nil_of_length_eq_zero (by simpa using hl)
    repeat' (first | refine aw_seq ?_ | ((first | apply ao_val | apply aq_val); exact wants_a; (first | exact ov_sleq0 rfl rfl | exact ov_a); (exact rfl)) | refine zy ?_ | refine zon fun _ => ?_ | refine zoa fun vr lr hr => ?_ | refine zoS (fun _ => ?_) (fun _ => ?_) | refine zqS (fun _ => ?_) (fun _ => ?_) | refine zwS (fun _ => ?_) (fun _ => ?_))
    exact fun w' hw => ⟨_, rfl, hw.below, [], RowB.nil, fun _ _ h => by cases h⟩
  | some a =>
    repeat' (first | refine aw_seq ?_ | ((first | apply ao_val | apply aq_val); exact wants_a; (first | exact ov_sleqs rfl rfl | exact ov_a); (exact rfl)) | refine zy ?_ | refine zon fun _ => ?_ | refine zoa fun vr lr hr => ?_ | ((apply ao_append_o; exact wants_a; exact rfl; exact RowB.lit0; exact rfl; exact h; exact rfl; exact cut_a; exact hf; omega; omega; exact rfl; intro v5 l5 r5)) | refine zoS (fun _ => ?_) (fun _ => ?_) | refine zqS (fun _ => ?_) (fun _ => ?_) | refine zwS (fun _ => ?_) (fun _ => ?_))
    rw [Nat.zero_add, List.nil_append] at r5
    exact fun w' hw => ⟨_, rfl, hw.below, _, r5, fun b o hm => hw.at_ b o (List.mem_append_left _ hm)⟩
set_option maxHeartbeats 8000000 in
theorem cloneC_ok {w : World} {v : Value} {n : Nat} {xs : List Value} (h : OldRow w 1 v n xs) (hf : xs.all flat = true) (hn : n ≤ 1000000) : Calls Tryz.prog 99 #[v] w fun e w' => ∃ r, e = .returned r ∧ NewRow 86 1 w w' r n xs := by
  obtain ⟨hl, a, c, rfl, h3⟩ := id h
  refine calls1 (args := [.slice a n c]) Tryz.func99 rfl rfl rfl rfl ?_
  cases a with
  | none =>
    obtain rfl : n = 0 := by
      rcases Nat.eq_zero_or_pos n with h0 | h0
      · exact h0
      · obtain ⟨g, o, e, -⟩ := h3 h0
        cases e
    obtain rfl : xs = [] := List.eq_nil_of_length_eq_zero (by simpa using hl)
    repeat' (first | refine aw_seq ?_ | ((first | apply ao_val | apply aq_val); exact wants_a; (first | exact ov_sleq0 rfl rfl | exact ov_a); (exact rfl)) | refine zy ?_ | refine zon fun _ => ?_ | refine zoa fun vr lr hr => ?_ | refine zoS (fun _ => ?_) (fun _ => ?_) | refine zqS (fun _ => ?_) (fun _ => ?_) | refine zwS (fun _ => ?_) (fun _ => ?_))
    exact fun w' hw => ⟨_, rfl, hw.below, [], RowB.nil, fun _ _ h => by cases h⟩
  | some a =>
    repeat' (first | refine aw_seq ?_ | ((first | apply ao_val | apply aq_val); exact wants_a; (first | exact ov_sleqs rfl rfl | exact ov_a); (exact rfl)) | refine zy ?_ | refine zon fun _ => ?_ | refine zoa fun vr lr hr => ?_ | ((apply ao_append_o; exact wants_a; exact rfl; exact RowB.lit0; exact rfl; exact h; exact rfl; exact cut_a; exact hf; omega; omega; exact rfl; intro v5 l5 r5)) | refine zoS (fun _ => ?_) (fun _ => ?_) | refine zqS (fun _ => ?_) (fun _ => ?_) | refine zwS (fun _ => ?_) (fun _ => ?_))
    rw [Nat.zero_add, List.nil_append] at r5
    exact fun w' hw => ⟨_, rfl, hw.below, _, r5, fun b o hm => hw.at_ b o (List.mem_append_left _ hm)⟩
set_option maxHeartbeats 8000000 in
theorem cloneV_ok {w : World} {v : Value} {n : Nat} {xs : List Value} (h : OldRow w 3 v n xs) (hf : xs.all flat = true) (hn : n ≤ 1000000) : Calls Tryz.prog 41 #[v] w fun e w' => ∃ r, e = .returned r ∧ NewRow 96 3 w w' r n xs := by
  obtain ⟨hl, a, c, rfl, h3⟩ := id h
  refine calls1 (args := [.slice a n c]) Tryz.func41 rfl rfl rfl rfl ?_
  cases a with
  | none =>
    obtain rfl : n = 0 := by
      rcases Nat.eq_zero_or_pos n with h0 | h0
      · exact h0
      · obtain ⟨g, o, e, -⟩ := h3 h0
        cases e
    obtain rfl : xs = [] := List.eq_nil_of_length_eq_zero (by simpa using hl)
    repeat' (first | refine aw_seq ?_ | ((first | apply ao_val | apply aq_val); exact wants_a; (first | exact ov_sleq0 rfl rfl | exact ov_a); (exact rfl)) | refine zy ?_ | refine zon fun _ => ?_ | refine zoa fun vr lr hr => ?_ | refine zoS (fun _ => ?_) (fun _ => ?_) | refine zqS (fun _ => ?_) (fun _ => ?_) | refine zwS (fun _ => ?_) (fun _ => ?_))
    exact fun w' hw => ⟨_, rfl, hw.below, [], RowB.nil, fun _ _ h => by cases h⟩
  | some a =>
    repeat' (first | refine aw_seq ?_ | ((first | apply ao_val | apply aq_val); exact wants_a; (first | exact ov_sleqs rfl rfl | exact ov_a); (exact rfl)) | refine zy ?_ | refine zon fun _ => ?_ | refine zoa fun vr lr hr => ?_ | ((apply ao_append_o; exact wants_a; exact rfl; exact RowB.lit0; exact rfl; exact h; exact rfl; exact cut_a; exact hf; omega; omega; exact rfl; intro v5 l5 r5)) | refine zoS (fun _ => ?_) (fun _ => ?_) | refine zqS (fun _ => ?_) (fun _ => ?_) | refine zwS (fun _ => ?_) (fun _ => ?_))
    rw [Nat.zero_add, List.nil_append] at r5
    exact fun w' hw => ⟨_, rfl, hw.below, _, r5, fun b o hm => hw.at_ b o (List.mem_append_left _ hm)⟩
end Lct
end Go.Proofs.YtkjjlppfomidbaaGreat
/- Ldh: Scopes with lists of their own; conditions: at most 1,000 scopes. -/
namespace Go.Proofs.YtkjjlppfomidbaaGreat
namespace Lct
open Go Go.RowKit Sx Vec Ojt Scp
attribute [local irreducible] Go.Calls
theorem flat_set {α : Type} {f : α → List Value} {sz : Nat} (hf : ∀ a, (f a).length = sz) {r : Nat} (hr : r < sz) {u : Value} : ∀ {xs : List α} {k : Nat} {x x' : α}, xs[k]? = some x → f x' = (f x).set r u → (xs.flatMap f).set (k * sz + r) u = (xs.set k x').flatMap f
  | [], k, x, x', h, _ => by simp at h
  | y :: ys, 0, x, x', h, e => by
    have h2 : y = x := by simpa using h
    subst h2
    rw [Nat.zero_mul, Nat.zero_add, List.flatMap_cons, List.set_cons_zero, List.flatMap_cons, List.set_append_left _ _ (by rw [hf]; exact hr), e]
  | y :: ys, k + 1, x, x', h, e => by
    have h2 : ys[k]? = some x := by simpa using h
    have e1 : (k + 1) * sz + r = sz + (k * sz + r) := by rw [Nat.succ_mul]; omega
    rw [e1, List.flatMap_cons, List.set_cons_succ, List.flatMap_cons, List.set_append_right _ _ (by rw [hf]; omega), hf, show sz + (k * sz + r) - sz = k * sz + r by omega, flat_set hf hr h2 e]
theorem rowB_set {e : TypeId} {sz n g cap : Nat} {cs : List Value} {xs : List Value} (hn : n ≤ cap) (hl : cs.length = cap * sz) (ht : cs.take (n * sz) = xs) (hx : xs.length = n * sz) (j : Nat) (u : Value) : RowB e sz (.slice (some ⟨g, 0, none⟩) n cap) [(g, .cells (cs.set j u).toArray e (0, 0))] n (xs.set j u) :=
  ⟨by rw [List.length_set]; exact hx, .inr ⟨g, cap, (cs.set j u).toArray, rfl, rfl, hn, by simp [hl], by rw [← ht, List.take_set]⟩⟩
theorem openR {e : TypeId} {sz : Nat} {v : Value} {l : Hp} {n : Nat} {xs : List Value} (h : RowB e sz v l n xs) (hn : 0 < n) :
    ∃ g cap cs, v = .slice (some ⟨g, 0, none⟩) n cap ∧ l = [(g, .cells (List.toArray cs) e (0, 0))] ∧ n ≤ cap ∧ cs.length = cap * sz ∧ cs.take (n * sz) = xs := h.open hn
theorem row_at {cs xs : List Value} {m j : Nat} {u : Value} (ht : cs.take m = xs) (h : xs[j]? = some u) : cs[j]? = some u := by
  subst ht
  have hlt := (List.getElem?_eq_some_iff.1 h).1
  rw [List.length_take] at hlt
  rwa [List.getElem?_take_of_lt (by omega)] at h
theorem flatN (vs : List Vec.Nm) : (vs.flatMap cellsS).all flat = true := by
  rw [List.all_eq_true]
  intro x hx
  obtain ⟨s, -, hs⟩ := List.mem_flatMap.1 hx
  rw [List.mem_singleton.1 hs]
  rfl
theorem flatT {w : World} {ps : List (Value × Trm)} (h : ∀ p ∈ ps, TxtAt w p.1 p.2.2) : (ps.flatMap cellsT).all flat = true := by
  rw [List.all_eq_true]
  intro x hx
  obtain ⟨p, hp, hs⟩ := List.mem_flatMap.1 hx
  obtain ⟨-, a, c, e, -⟩ := h p hp
  simp only [cellsT, List.mem_cons, List.not_mem_nil, or_false] at hs
  rcases hs with rfl | rfl
  · rfl
  · rw [e]; rfl
theorem flatC {w : World} {ss : List Sc} (h : ∀ s ∈ ss, ScpAt w s.1 s.2) : (ss.flatMap cellsSc).all flat = true := by
  rw [List.all_eq_true]
  intro x hx
  obtain ⟨s, hs, he⟩ := List.mem_flatMap.1 hx
  obtain ⟨⟨-, a, c, e, -⟩, -⟩ := h s hs
  rw [List.mem_singleton.1 he, e]
  rfl
theorem set_same {α β : Type} {f : α → β} {xs ys : List α} {k : Nat} {x x' : α} (h : xs.map f = ys.map f) (hk : xs[k]? = some x) (e : f x' = f x) : (xs.set k x').map f = ys.map f := by
  rw [List.map_set, e, ← h]
  refine List.ext_getElem? fun j => ?_
  rw [List.getElem?_set]
  by_cases hj : k = j
  · subst hj
    rw [if_pos rfl, List.getElem?_map, hk]
    rw [if_pos (by rw [List.length_map]; exact (List.getElem?_eq_some_iff.1 hk).1)]
    rfl
  · rw [if_neg hj]
theorem wfP_tr {ps qs : List (Value × Trm)} (h : trms ps = trms qs) (hw : wfP qs) : wfP ps := by
  refine ⟨?_, fun p hp => ?_⟩
  · have := congrArg List.length h
    rw [List.length_map, List.length_map] at this
    rw [this]
    exact hw.1
  · have : p.2 ∈ trms qs := by rw [← h]; exact List.mem_map.2 ⟨p, hp, rfl⟩
    obtain ⟨q, hq, e⟩ := List.mem_map.1 this
    rw [← e]
    exact hw.2 q hq
set_option maxHeartbeats 32000000 in
theorem copied_ok {w : World} {v : Value} {ss : List Sc} (h : ScsAt w v ss) (hws : ∀ s ∈ ss, wfP s.2) (hl : ss.length ≤ 1000) : Calls Tryz.prog 63 #[v] w fun e w' => ∃ r, e = .returned r ∧ NewD (fun r l => ∃ (ss' : List Sc) (a : Option Addr) (c : Nat), scT ss' = scT ss ∧ r = .slice a ss.length c ∧ ∀ w, Lies w l → ScsAt w r ss') w w' r := by
  have hcl := fun w' (hb : Below w.heap.size w w') => cloneC_ok (OldRow.below h.1 hb) (flatC h.2) (by omega)
  refine calls1 (args := [v]) Tryz.func63 rfl rfl rfl rfl ?_
  repeat' (first | refine aw_seq ?_ | ((first | apply ao_val | apply aq_val); exact wants_a; (first | exact ov_lenr rfl hr | exact ov_a); (exact rfl)) | refine zy ?_ | refine zon fun _ => ?_ | refine zoa fun vr lr hr => ?_ | (apply ao_callr; exact wants_a; (exact oc_func rfl); (exact rfl); (first | exact fun w hw => hcl w hw.below); intro vr lr hr) | refine zoS (fun _ => ?_) (fun _ => ?_) | refine zqS (fun _ => ?_) (fun _ => ?_) | refine zwS (fun _ => ?_) (fun _ => ?_))
  revert vr lr hr
  intro vO lO rO
  refine aw_for (t0 := [(3, vO), (9, I ss.length), (10, I (0 : Nat))]) (fun q t H => ∃ (i : Nat) (ss5 : List Sc) (lO l5 : Hp), q = ss.length - i ∧ i ≤ ss.length ∧ RowB 86 1 vO lO ss.length (ss5.flatMap cellsSc) ∧ scT ss5 = scT ss ∧ (∀ j, i ≤ j → ss5[j]? = ss[j]?) ∧ (∀ w, Lies w l5 → ∀ (j : Nat) (s : Sc), j < i → ss5[j]? = some s → ScpAt w s.1 s.2) ∧
    t = [(3, vO), (9, I ss.length), (10, I i)] ∧ H.Perm (lO ++ (l5 ++ []))) ⟨0, ss, lO, [], rfl, Nat.zero_le _, rO, rfl, fun _ _ => rfl, (fun _ _ j s hj => by omega), rfl, List.Perm.refl _⟩ (by repeat (first | exact sub_nil | refine sub_cons rfl ?_)) ?_
  clear rO lO
  rintro q t H ⟨i, ss5, lO, l5, rfl, hi, rO, hsc, hrest, hdone, rfl, hpm⟩
  refine aw_permH hpm ?_
  clear hpm
  by_cases hlt : i < ss.length
  · obtain ⟨⟨u, sc⟩, he⟩ := getP hlt
    have hms := List.mem_of_getElem? he
    have hwf := hws _ hms
    have hat := h.2 _ hms
    simp only at hwf hat
    have hscl := hwf.1
    have he5 : ss5[i]? = some (u, sc) := by rw [hrest i (Nat.le_refl _), he]
    obtain ⟨gO, capO, csO, rfl, rfl, hcO, hlO, htO⟩ := openR rO (by omega)
    have xO := rO.1
    have cU : csO[0 + (i : Int).toNat * 1]? = some u := by
      rw [Int.toNat_natCast, Nat.zero_add]
      exact row_at htO (flat_at cellsSc_len ss5 i 0 (u, sc) u he5 rfl)
    have hcT := fun w' (hb : Below w.heap.size w w') => cloneT_ok (OldRow.below hat.1 hb) (flatT hat.2) (by have := hwf.1; omega)
    repeat' (first | refine aw_seq ?_ | refine zz ?_ | refine zon fun _ => ?_ | refine zoa fun vr lr hr => ?_ | ((apply ao_callr; exact wants_a; (exact oc_func rfl); exact rfl; (exact fun w hw => hcT w hw.below); intro vT lT rT; obtain ⟨aT, cT, eT⟩ := rT.len; subst eT)) | refine zoS (fun _ => ?_) (fun _ => ?_) | refine zqS (fun _ => ?_) (fun _ => ?_) | refine zwS (fun _ => ?_) (fun _ => ?_))
    have cN : (csO.set (0 + (i : Int).toNat * 1) (.slice aT sc.length cT))[0 + (i : Int).toNat * 1]? = some (.slice aT sc.length cT) := by
      rw [List.getElem?_set_self (List.getElem?_eq_some_iff.1 cU).1]
    have rN : ∀ sc5 : List (Value × Trm), RowB 86 1 (.slice (some ⟨gO, 0, none⟩) ss.length capO) [(gO, .cells (csO.set (0 + (i : Int).toNat * 1) (.slice aT sc.length cT)).toArray 86 (0, 0))] ss.length ((ss5.set i (.slice aT sc.length cT, sc5)).flatMap cellsSc) := fun sc5 => by
      have h1 := rowB_set (e := 86) (g := gO) hcO hlO htO xO (0 + (i : Int).toNat * 1) (.slice aT sc.length cT)
      have h2 := flat_set cellsSc_len (r := 0) (by omega) (u := .slice aT sc.length cT) (x' := ((.slice aT sc.length cT, sc5) : Sc)) he5 rfl
      rw [show 0 + (i : Int).toNat * 1 = i * 1 + 0 by rw [Int.toNat_natCast]; omega] at h1 ⊢
      rwa [h2] at h1
    generalize csO.set (0 + (i : Int).toNat * 1) (.slice aT sc.length cT) = cs2 at cN rN ⊢
    repeat' (first | refine aw_seq ?_ | refine zz ?_ | refine zon fun _ => ?_ | refine zoa fun vr lr hr => ?_ | refine zoS (fun _ => ?_) (fun _ => ?_) | refine zqS (fun _ => ?_) (fun _ => ?_) | refine zwS (fun _ => ?_) (fun _ => ?_))
    refine aw_for (t0 := [(3, .slice (some ⟨gO, 0, none⟩) ss.length capO), (4, I i), (9, I ss.length), (10, I i), (25, I sc.length), (26, I (0 : Nat))]) (fun q t H => ∃ (k : Nat) (sc5 : List (Value × Trm)) (lT l6 : Hp), q = sc.length - k ∧ k ≤ sc.length ∧ RowB 130 2 (.slice aT sc.length cT) lT sc.length (sc5.flatMap cellsT) ∧ trms sc5 = trms sc ∧ (∀ j, k ≤ j → sc5[j]? = sc[j]?) ∧ (∀ w, Lies w l6 → ∀ (j : Nat) (p : Value × Trm), j < k → sc5[j]? = some p → TxtAt w p.1 p.2.2) ∧
      t = [(3, .slice (some ⟨gO, 0, none⟩) ss.length capO), (4, I i), (9, I ss.length), (10, I i), (25, I sc.length), (26, I k)] ∧ H.Perm (lT ++ ((gO, .cells cs2.toArray 86 (0, 0)) :: (l6 ++ (l5 ++ []))))) ⟨0, sc, lT, [], rfl, Nat.zero_le _, rT, rfl, fun _ _ => rfl, (fun _ _ j s hj => by omega), rfl, List.Perm.refl _⟩ (by repeat (first | exact sub_nil | refine sub_cons rfl ?_)) ?_
    clear rT lT
    rintro q t H ⟨k, sc5, lT, l6, rfl, hk, rT, htr, hrestT, hdoneT, rfl, hpm⟩
    refine aw_permH hpm ?_
    clear hpm
    by_cases hkt : k < sc.length
    · obtain ⟨⟨uk, op, vals⟩, hek⟩ := getP hkt
      have hmk := List.mem_of_getElem? hek
      have hwk := hwf.2 _ hmk
      have hak := hat.2 _ hmk
      simp only at hwk hak
      have hek5 : sc5[k]? = some (uk, op, vals) := by rw [hrestT k (Nat.le_refl _), hek]
      obtain ⟨gT, capT, csT, eT, rfl, hcT2, hlT, htT⟩ := openR rT (by omega)
      cases eT
      have xT := rT.1
      have cK : csT[0 + (k : Int).toNat * 2 + 1]? = some uk := by
        rw [Int.toNat_natCast, Nat.zero_add]
        exact row_at htT (flat_at cellsT_len sc5 k 1 (uk, op, vals) uk hek5 rfl)
      have hcS := fun w' (hb : Below w.heap.size w w') => cloneS_ok (TxtAt.below hak hb) (flatN vals) (by have := hwk.1; omega)
      repeat' (first | (apply ao_nilh; exact hsub_a) | apply ao_nil | apply aq_nil | apply ah_end | ((first | apply ao_val | apply aq_val | (apply ah_take; (exact rfl))); exact wants_a; exact ov_a; (exact rfl)) | ((first | apply ao_skip | apply aq_skip | (apply ah_skip; (exact rfl))); exact nots_a; (exact rfl)) | (refine ao_is ?_; first | (apply ao_new; exact wants_a; exact on_a; (exact rfl); intro _) | (apply ao_store; exact wants_a; exact ow_a; exact upd_a) | (apply ao_valw; exact wants_a; exact ox_a; (exact rfl); exact upd_a) | (apply ao_skip0; exact nots_a) | (apply ao_append; exact wants_a; (exact rfl); assumption; (exact rfl); exact cut_a; exact has_a; (exact rfl); (exact rfl); omega; omega; omega; (exact rfl); intro vr lr hr)) | ((apply ao_callr; exact wants_a; (exact oc_func rfl); exact rfl; (exact fun w hw => hcS w hw.below); intro vS lS rS; obtain ⟨aS, cS, eS⟩ := rS.len; subst eS)) | (apply ah_one; (exact rfl)) | (apply ah_two; (exact rfl); (exact rfl)) | (apply ah_three; (exact rfl); (exact rfl); (exact rfl)) | (refine aw_is ?_; first | (apply aw_held (id := 9) (pl := (.t 0 (.t 1 (.t 2 (.t 3 (.t 4 (.t 5 (.t 6 (.t 7 (.t 8 (.t 9 (.t 10 (.t 11 (.o 12 (.o 13 (.t 14 (.t 15 (.o 16 .e)))))))))))))))))); (kernel_rfl); (kernel_rfl); (kernel_rfl); (solve | (apply hs_skip; exact List.Sublist.refl _))) | refine aw_seq ?_ | refine aw_block ?_ | refine aw_region ?_ | refine aw_skip ?_ | refine aw_exit ?_ | refine aw_ret ?_ | refine aw_label ?_ | refine aw_scope ?_ | refine aw_cond_t rfl (by with_reducible rfl) ?_ | refine aw_cond_f rfl (by with_reducible rfl) ?_ | refine aw_draw (by kernel_rfl) (by kernel_rfl) ?_) | (first | (refine ah_is ?_; (fail_if_success first | refine ah_glit (b := true) rfl rfl rfl (by with_reducible rfl) ?_ | refine ah_glit (b := false) rfl rfl rfl (by with_reducible rfl) ?_); apply ah_gt; (exact rfl); (exact rfl); (exact rfl); exact t_a) | ((refine ao_is ?_; (fail_if_success first | refine ao_glit (b := true) rfl rfl (by with_reducible rfl) ?_ | refine ao_glit (b := false) rfl rfl (by with_reducible rfl) ?_)); apply ao_gt; (exact rfl); (exact rfl); exact t_a) | ((refine aq_is ?_; (fail_if_success first | refine aq_glit (b := true) rfl rfl (by with_reducible rfl) ?_ | refine aq_glit (b := false) rfl rfl (by with_reducible rfl) ?_)); apply aq_gt; (exact rfl); (exact rfl); exact t_a) | (apply aw_ct; (exact rfl); exact t_a)) | (first | (refine ah_is ?_; (fail_if_success first | refine ah_glit (b := true) rfl rfl rfl (by with_reducible rfl) ?_ | refine ah_glit (b := false) rfl rfl rfl (by with_reducible rfl) ?_); apply ah_gf; (exact rfl); (exact rfl); (exact rfl); exact f_a) | ((refine ao_is ?_; (fail_if_success first | refine ao_glit (b := true) rfl rfl (by with_reducible rfl) ?_ | refine ao_glit (b := false) rfl rfl (by with_reducible rfl) ?_)); apply ao_gf; (exact rfl); (exact rfl); exact f_a) | ((refine aq_is ?_; (fail_if_success first | refine aq_glit (b := true) rfl rfl (by with_reducible rfl) ?_ | refine aq_glit (b := false) rfl rfl (by with_reducible rfl) ?_)); apply aq_gf; (exact rfl); (exact rfl); exact f_a) | (apply aw_cf; (exact rfl); exact f_a)) | refine at_normal ?_ | refine at_exit ?_ | refine at_ret ?_ | refine ib_normal ?_ | refine ib_exit ?_ | refine ib_other ?_ | refine ib_ret ?_ | refine lq_exit ?_ | refine lq_ret ?_ | refine ci_ret ?_ | refine ci_exit ?_ | refine r1_ret rfl ?_ | refine r1_normal rfl ?_ | refine r2_ret rfl rfl ?_ | refine r2_normal rfl rfl ?_ | refine r3_ret rfl rfl rfl ?_ | refine r3_normal rfl rfl rfl ?_ | refine ng_normal ?_ | refine ng_exit ?_ | refine ng_ret ?_ | (apply rt_ret; (exact rfl); (exact rfl); (exact rfl); exact has_a; exact has_a; (exact rfl); (exact rfl)) | (apply rc1_ret; (exact rfl); exact has_a; (exact rfl)) | (apply rc2_ret; (exact rfl); exact has_a; (exact rfl); (exact rfl)) | (refine ao_is ?_; (fail_if_success first | refine ao_glit (b := true) rfl rfl (by with_reducible rfl) ?_ | refine ao_glit (b := false) rfl rfl (by with_reducible rfl) ?_); refine ao_gbool rfl rfl (fun _ => ?_) (fun _ => ?_)) | (refine aq_is ?_; (fail_if_success first | refine aq_glit (b := true) rfl rfl (by with_reducible rfl) ?_ | refine aq_glit (b := false) rfl rfl (by with_reducible rfl) ?_); refine aq_gbool rfl rfl (fun _ => ?_) (fun _ => ?_)) | (refine aw_is ?_; refine aw_cond rfl (fun _ => ?_) (fun _ => ?_)))
      have h1 := rowB_set (e := 130) (g := gT) hcT2 hlT htT xT (0 + (k : Int).toNat * 2 + 1) (.slice aS vals.length cS)
      have h2 := flat_set cellsT_len (r := 1) (by omega) (u := .slice aS vals.length cS) (x' := ((.slice aS vals.length cS, op, vals) : Value × Trm)) hek5 rfl
      rw [show (sc5.flatMap cellsT).set (0 + (k : Int).toNat * 2 + 1) (.slice aS vals.length cS) = (sc5.set k (.slice aS vals.length cS, op, vals)).flatMap cellsT by rw [← h2, Int.toNat_natCast, Nat.zero_add]] at h1
      refine lq_normal' (H' := lS ++ ((gT, _) :: ((gO, _) :: (l6 ++ (l5 ++ []))))) ⟨k + 1, _, _, lS ++ l6, rfl, by omega, h1, set_same htr hek5 rfl, fun j hj => ?_, fun w' hl j p hj hp => ?_, rfl, by rw [List.append_assoc]; exact List.perm_append_comm_assoc _ [_, _] _⟩ (by omega) (by repeat (first | exact sub_nil | refine sub_cons rfl ?_)) hsub_a
      · rw [List.getElem?_set_ne (by omega)]
        exact hrestT j (by omega)
      · rw [List.getElem?_set] at hp
        by_cases e : k = j
        · rw [if_pos e, if_pos (List.getElem?_eq_some_iff.1 hek5).1] at hp
          cases hp
          exact old_lies (hl.sub fun x hx => List.mem_append_left _ hx) rS
        · rw [if_neg e] at hp
          exact hdoneT w' (hl.sub fun x hx => List.mem_append_right _ hx) j p (by omega) hp
    · obtain rfl : k = sc.length := by omega
      repeat' (first | refine aw_seq ?_ | refine zz ?_ | refine zon fun _ => ?_ | refine zoa fun vr lr hr => ?_ | refine zoS (fun _ => ?_) (fun _ => ?_) | refine zqS (fun _ => ?_) (fun _ => ?_) | refine zwS (fun _ => ?_) (fun _ => ?_))
      refine lq_normal' ⟨i + 1, _, _, lT ++ (l6 ++ l5), rfl, by omega, rN sc5, set_same hsc he5 htr, fun j hj => ?_, fun w' hl j s hj hp => ?_, rfl, ?_⟩ (by omega) (by repeat (first | exact sub_nil | refine sub_cons rfl ?_)) hsub_a
      · rw [List.getElem?_set_ne (by omega)]
        exact hrest j (by omega)
      · rw [List.getElem?_set] at hp
        by_cases e : i = j
        · rw [if_pos e, if_pos (List.getElem?_eq_some_iff.1 he5).1] at hp
          cases hp
          have hle : sc5.length = sc.length := by
            have := congrArg List.length htr
            rwa [List.length_map, List.length_map] at this
          refine ⟨by show OldRow w' 2 (.slice aT sc.length cT) sc5.length _; rw [hle]; exact old_lies (hl.sub fun x hx => List.mem_append_left _ hx) rT, fun p hp => ?_⟩
          obtain ⟨j2, hj2⟩ := List.getElem?_of_mem hp
          exact hdoneT w' (hl.sub fun x hx => List.mem_append_right _ (List.mem_append_left _ hx)) j2 p (by have h5 : j2 < sc5.length := (List.getElem?_eq_some_iff.1 hj2).1; omega) hj2
        · rw [if_neg e] at hp
          exact hdone w' (hl.sub fun x hx => List.mem_append_right _ (List.mem_append_right _ hx)) j s (by omega) hp
      · simp only [List.append_nil]
        exact List.perm_middle
  · obtain rfl : i = ss.length := by omega
    obtain ⟨aO, cO, eO⟩ := rO.len
    subst eO
    have hle : ss5.length = ss.length := by
      have := congrArg List.length hsc
      rwa [List.length_map, List.length_map] at this
    repeat' (first | refine aw_seq ?_ | refine zz ?_ | refine zon fun _ => ?_ | refine zoa fun vr lr hr => ?_ | refine zoS (fun _ => ?_) (fun _ => ?_) | refine zqS (fun _ => ?_) (fun _ => ?_) | refine zwS (fun _ => ?_) (fun _ => ?_))
    refine fun w' hw => ⟨_, rfl, hw.toD rfl (l := lO ++ l5) (R := []) (by simp [Cut]) ⟨ss5, aO, cO, hsc, rfl, fun w2 hl => ⟨?_, fun s hs => ?_⟩⟩⟩
    · rw [hle]
      exact old_lies (hl.sub fun x hx => List.mem_append_left _ hx) rO
    · obtain ⟨j, hj⟩ := List.getElem?_of_mem hs
      exact hdone w2 (hl.sub fun x hx => List.mem_append_right _ hx) j s (by have := (List.getElem?_eq_some_iff.1 hj).1; omega) hj
end Lct
end Go.Proofs.YtkjjlppfomidbaaGreat
/- Ldi: Where the landed sums lie; New, Scopes, Sum; conditions: at most 8 scopes. -/
namespace Go.Proofs.YtkjjlppfomidbaaGreat
namespace Lct
open Go Go.RowKit Sx Vec Ojt Scp
attribute [local irreducible] Go.Calls
abbrev objL (v : Value) (mb : Nat) : Obj := .cells #[v, .map (some mb)] 115 (0, 0)
structure LoF (scs : List (List Trm)) (L : List Su) (v : Value) (ss : List Sc) (X : List (En Bk)) (c : Nat) (lr : Hp) : Prop where
  sc : scT ss = scs
  wf : ∀ s ∈ ss, wfP s.2
  at_ : ∀ w, Lies w lr → ScsAt w v ss
  tk : Tkn L X c lr
  nd : (L.map (·.1)).Nodup
  sl : ss.length ≤ 1000
def LLo (scs : List (List Trm)) (L : List Su) (g : Nat) (l : Hp) : Prop := ∃ v ss mb X c lr, l = (g, objL v mb) :: (mb, mapO encB X c) :: lr ∧ LoF scs L v ss X c lr
theorem small_get {L : List Su} (h : Small L) (b : Bk) : wfV (getS L b) ∧ (getS L b).length ≤ 17000 := by
  unfold getS
  cases hf : L.find? fun e => decide (e.1 = b) with
  | none => exact ⟨wfV_nil, Nat.zero_le _⟩
  | some e => exact h.vs e (List.mem_of_find?_eq_some hf)
theorem scT_len {ss ss' : List Sc} (h : scT ss' = scT ss) : ss'.length = ss.length := by
  have := congrArg List.length h
  rwa [List.length_map, List.length_map] at this
theorem scT_wf {ss ss' : List Sc} (h : scT ss' = scT ss) (hw : ∀ s ∈ ss, wfP s.2) : ∀ s ∈ ss', wfP s.2 := fun s hs => by
  have h1 : trms s.2 ∈ scT ss := by rw [← h]; exact List.mem_map.2 ⟨s, hs, rfl⟩
  obtain ⟨z, hz, e⟩ := List.mem_map.1 h1
  exact wfP_tr e.symm (hw z hz)
theorem tkn_nil : Tkn [] [] 0 [] := ⟨MpK.new, (fun _ _ x hx => by cases hx), fun b => ⟨(fun h => by cases h), fun h => absurd rfl h⟩⟩
set_option maxHeartbeats 16000000 in
theorem new_ok {w : World} {v : Value} {ss : List Sc} (hs : ScsAt w v ss) (hws : ∀ s ∈ ss, wfP s.2) (hsl : ss.length ≤ 20) :
    Calls Tryz.prog 34 #[v] w fun e w' => ∃ r, e = .returned (.tuple #[r, I (if rightScs (scT ss) = true then 0 else 1)]) ∧ NewD (fun r l => (rightScs (scT ss) = true ∧ ∃ g, r = .pointer (some ⟨g, 0, none⟩) ∧ LLo (scT ss) [] g l) ∨ (rightScs (scT ss) = false ∧ r = .pointer none ∧ l = [])) w w' r := by
  have hcp := fun w' (hb : Below w.heap.size w w') => copied_ok (hs.below hb) hws (by omega)
  obtain ⟨a, cp, rfl, hat⟩ := OldRow.cells cellsSc_len hs.1
  refine calls2 (args := [.slice a ss.length cp]) Tryz.func34 rfl rfl rfl rfl ?_
  have bad : rightScs (scT ss) = false → ∀ {E : Env} {R : Hp} {w' : World}, E.w0 = w → E.B = w.heap.size → RepH E R w' → ∃ r, Ending.returned (.tuple #[.pointer none, I 1]) = Ending.returned (.tuple #[r, I (if rightScs (scT ss) = true then 0 else 1)]) ∧ NewD (fun r l => (rightScs (scT ss) = true ∧ ∃ g, r = .pointer (some ⟨g, 0, none⟩) ∧ LLo (scT ss) [] g l) ∨ (rightScs (scT ss) = false ∧ r = .pointer none ∧ l = [])) w w' r := fun hr E R w' e1 e2 hw => by
    rw [hr]
    subst e1
    exact ⟨_, rfl, hw.toD e2 (l := []) (R := _) (List.Perm.refl _) (.inr ⟨rfl, rfl, rfl⟩)⟩
  by_cases h8 : 8 < ss.length
  · have h8z : (8 : Int) < ss.length := by omega
    repeat' (first | refine aw_seq ?_ | refine zz ?_ | refine zon fun _ => ?_ | refine zoa fun vr lr hr => ?_ | refine zoS (fun _ => ?_) (fun _ => ?_) | refine zqS (fun _ => ?_) (fun _ => ?_) | refine zwS (fun _ => ?_) (fun _ => ?_))
    refine fun w' hw => bad ?_ rfl rfl hw
    unfold rightScs
    rw [decide_eq_false (by rw [List.length_map]; omega), Bool.and_false]
  have h8z : ¬ (8 : Int) < ss.length := by omega
  repeat' (first | refine aw_seq ?_ | refine zz ?_ | refine zon fun _ => ?_ | refine zoa fun vr lr hr => ?_ | refine zoS (fun _ => ?_) (fun _ => ?_) | refine zqS (fun _ => ?_) (fun _ => ?_) | refine zwS (fun _ => ?_) (fun _ => ?_))
  refine aw_for (t0 := [(0, .slice a ss.length cp), (9, .slice a ss.length cp), (10, I ss.length), (11, I (0 : Nat))]) (fun q t H => ∃ i : Nat, q = ss.length - i ∧ i ≤ ss.length ∧ (∀ (j : Nat) (s : Sc), j < i → ss[j]? = some s → rightS (trms s.2) = true) ∧ t = [(0, .slice a ss.length cp), (9, .slice a ss.length cp), (10, I ss.length), (11, I i)] ∧ H = []) ⟨0, rfl, by omega, fun j p hj => by omega, rfl, rfl⟩ (by repeat (first | exact sub_nil | refine sub_cons rfl ?_)) ?_
  rintro q t H ⟨i, rfl, hi, hall, rfl, rfl⟩
  by_cases hlt : i < ss.length
  · obtain ⟨⟨u, sc⟩, he⟩ := getP hlt
    have hms := List.mem_of_getElem? he
    obtain ⟨g, o1, rfl, hg, hc⟩ := hat i _ (i : Int) he rfl
    have cU : w.cell? ⟨g, o1 + (i : Int).toNat * 1, none⟩ = some u := hc 0 _ rfl
    have hrt := fun w' (hb : Below w.heap.size w w') => Scp.pright_ok u sc (hws _ hms) w' ((hs.2 _ hms).below hb)
    cases hr : rightS (trms sc)
    · rw [hr] at hrt
      repeat' (first | refine aw_seq ?_ | refine zz ?_ | refine zon fun _ => ?_ | refine zoa fun vr lr hr => ?_ | ((first | apply ao_call | apply aq_call); exact wants_a; (first | exact oc_func rfl | exact oc_clos rfl rfl | exact oc_bnd rfl rfl); (exact rfl); (first | exact fun w hw => hrt w hw.below)) | refine zoS (fun _ => ?_) (fun _ => ?_) | refine zqS (fun _ => ?_) (fun _ => ?_) | refine zwS (fun _ => ?_) (fun _ => ?_))
      refine fun w' hw => bad ?_ rfl rfl hw
      unfold rightScs
      rw [show (scT ss).all rightS = false from List.all_eq_false.2 ⟨trms sc, List.mem_map.2 ⟨_, hms, rfl⟩, by rw [hr]; decide⟩, Bool.false_and]
    · rw [hr] at hrt
      repeat' (first | refine aw_seq ?_ | refine zz ?_ | refine zon fun _ => ?_ | refine zoa fun vr lr hr => ?_ | ((first | apply ao_call | apply aq_call); exact wants_a; (first | exact oc_func rfl | exact oc_clos rfl rfl | exact oc_bnd rfl rfl); (exact rfl); (first | exact fun w hw => hrt w hw.below)) | refine zoS (fun _ => ?_) (fun _ => ?_) | refine zqS (fun _ => ?_) (fun _ => ?_) | refine zwS (fun _ => ?_) (fun _ => ?_))
      exact lq_normal' ⟨i + 1, rfl, by omega, fun j s hj hs => by
        by_cases e1 : j = i
        · subst e1; rw [he] at hs; cases hs; exact hr
        · exact hall j s (by omega) hs, rfl, rfl⟩ (by omega) (by repeat (first | exact sub_nil | refine sub_cons rfl ?_)) hsub_a
  · obtain rfl : i = ss.length := by omega
    have hR : rightScs (scT ss) = true := by
      unfold rightScs
      rw [decide_eq_true (by rw [List.length_map]; omega), Bool.and_true, List.all_eq_true]
      intro x hx
      obtain ⟨s, hs, rfl⟩ := List.mem_map.1 hx
      obtain ⟨j, hj⟩ := List.getElem?_of_mem hs
      exact hall j s (List.getElem?_eq_some_iff.1 hj).1 hj
    rw [hR]
    repeat' (first | refine aw_seq ?_ | refine zz ?_ | refine zon fun _ => ?_ | refine zoa fun vr lr hr => ?_ | ((apply ao_callD; exact wants_a; (exact oc_func rfl); (exact rfl); (intro w hw; exact hcp w hw.below); rintro _ l5 ⟨ss', a5, c5, hsc, rfl, hF⟩)) | (apply ao_new; exact wants_a; exact on_makeMap; exact rfl; intro bm) | refine zoS (fun _ => ?_) (fun _ => ?_) | refine zqS (fun _ => ?_) (fun _ => ?_) | refine zwS (fun _ => ?_) (fun _ => ?_))
    rename_i gb
    refine fun w' hw => ⟨_, rfl, hw.toD rfl (l := (gb, objL _ bm) :: (bm, mapO encB [] 0) :: (l5 ++ [])) (R := []) (by show List.Perm _ (_ ++ []); simp only [List.append_nil]; exact List.Perm.refl _) (.inl ⟨rfl, gb, rfl, _, ss', bm, [], 0, l5 ++ [], rfl, hsc, scT_wf hsc hws, fun w2 hl => hF w2 (hl.sub fun x hx => List.mem_append_left _ hx), ⟨tkn_nil.mp, (fun _ _ x hx => by cases hx), tkn_nil.ks⟩, List.nodup_nil, by have := scT_len hsc; omega⟩)⟩
end Lct
end Go.Proofs.YtkjjlppfomidbaaGreat
/- Ldj: The landed Apply; conditions: little all the way. -/
namespace Go.Proofs.YtkjjlppfomidbaaGreat
namespace Lct
open Go Go.RowKit Sx Vec Ojt Scp
attribute [local irreducible] Go.Calls
def ADidC (g mb : Nat) (scs : List (List Trm)) (X : List Su × List (List UInt8) × Int) (vs : Value) (ss : List Sc) (lr R : Hp) (u : Value) (H' : Hp) : Prop := ∃ (r : Value) (l7 lu : Hp) (X7 : List (En Bk)) (c7 : Nat), u = .tuple #[r, I X.2.2] ∧ H' = l7 ++ (((g, objL vs mb) :: (mb, mapO encB X7 c7) :: (lu ++ lr)) ++ R) ∧ Mkt.RowN r l7 X.2.1 ∧ LoF scs X.1 vs ss X7 c7 (lu ++ lr)
theorem Nx.len {L L' : List Su} {N : List (En Bk)} {c : Nat} {l : Hp} (h : Nx L L' N c l) : N.length ≤ L'.length := by
  have := nodup_le h.mp.kd h.ks
  rwa [List.length_map, List.length_map] at this
theorem DdL.at {less : Bool} {g mn nb lb cb : Nat} {l : Hp} (h : DdL less g mn nb lb cb l) {w : World} (hl : Lies w l) : w.cell? ⟨nb, 0, none⟩ = some (.map (some mn)) ∧ w.cell? ⟨lb, 0, none⟩ = some (.pointer (some ⟨g, 0, none⟩)) ∧ w.cell? ⟨cb, 0, none⟩ = some (fCV less) := by
  obtain ⟨T1, T2, T3, rfl⟩ := h
  exact ⟨lies_cell (cs := [.map (some mn)]) hl (List.mem_cons_of_mem _ List.mem_cons_self) rfl, lies_cell (cs := [.pointer (some ⟨g, 0, none⟩)]) hl (List.mem_cons_of_mem _ (List.mem_cons_of_mem _ List.mem_cons_self)) rfl, lies_cell (cs := [fCV less]) hl List.mem_cons_self rfl⟩
theorem DdL.dw {less : Bool} {g mn nb lb cb mb : Nat} {l lr l5 : Hp} {vs : Value} {X : List (En Bk)} {c : Nat} (h : DdL less g mn nb lb cb l) {w : World} (hl : Lies w l) (hg : Lies w ((g, objL vs mb) :: (mb, mapO encB X c) :: lr)) (h5 : Lies w l5) : DdW w less nb lb cb g mb mn X c lr l5 :=
  ⟨(h.at hl).1, (h.at hl).2.1, (h.at hl).2.2, lies_cell (cs := [vs, .map (some mb)]) hg List.mem_cons_self rfl, hg _ _ (List.mem_cons_of_mem _ List.mem_cons_self), hg.sub fun _ hx => List.mem_cons_of_mem _ (List.mem_cons_of_mem _ hx), h5⟩
set_option maxHeartbeats 64000000 in
theorem apply_core {m : Nat} {w0 : World} {scs : List (List Trm)} {L : List Su} {g mb : Nat} {vs : Value} {ss : List Sc} {X : List (En Bk)} {c : Nat} {lr : Hp} (hF : LoF scs L vs ss X c lr) (hsc : scs.length ≤ 8) {vd : Value} {ds : List Chm.PD} (hdl : ds.length ≤ 10000) (hwd : ∀ d ∈ ds, wfO d.old.2 ∧ wfO d.new.2) (hsm : SmallA scs ds L) (R : Hp) (hd : ∀ n w, RepH ⟨w0.heap.size, w0, n⟩ R w → DelAt w vd ds) :
    CallsH Tryz.prog ⟨w0.heap.size, w0, m⟩ 64 [.pointer (some ⟨g, 0, none⟩), vd] ((g, objL vs mb) :: (mb, mapO encB X c) :: (lr ++ R)) (ADidC g mb scs (applyS scs L ds) vs ss lr R) := by
  obtain rfl := hF.sc
  have hss : ss.length ≤ 8 := by rwa [List.length_map] at hsc
  have hX := hF.tk
  refine callsH2 (args := [.pointer (some ⟨g, 0, none⟩), vd]) Tryz.func64 rfl rfl rfl rfl ?_
  have hrt := fun {H : Hp} (hs : R.Sublist H) w (hw : RepH ⟨w0.heap.size, w0, Tryz.f64.ntmps⟩ H w) => dright_ok (hd _ w (hw.sub hs)) hdl hwd
  obtain ⟨A, hA⟩ : ∃ A, applyS (scT ss) L ds = A := ⟨_, rfl⟩
  rw [hA]
  unfold applyS at hA
  cases hok : ds.all okP
  · rw [hok] at hrt hA
    rw [if_neg (by decide)] at hA
    subst hA
    repeat' (first | refine aw_seq ?_ | ((first | apply ao_val | apply aq_val); exact wants_a; (first | exact ov_peqs rfl rfl | exact ov_a); (exact rfl)) | refine zy ?_ | refine zon fun _ => ?_ | refine zoa fun vr lr hr => ?_ | ((first | apply ao_call | apply aq_call); exact wants_a; (first | exact oc_func rfl | exact oc_clos rfl rfl | exact oc_bnd rfl rfl); (exact rfl); (first | exact fun w hw => hrt hsub_a w hw)) | refine zoS (fun _ => ?_) (fun _ => ?_) | refine zqS (fun _ => ?_) (fun _ => ?_) | refine zwS (fun _ => ?_) (fun _ => ?_))
    exact ⟨_, _, hsub_a, List.Perm.refl _, _, [], [], X, c, rfl, rfl, RowB.nil, hF⟩
  rw [hok] at hrt hA
  rw [if_pos rfl] at hA
  refine aw_fact (φ := ∃ aD cD, vd = .slice aD ds.length cD) (fun w hw => ?_) ?_
  · obtain ⟨a, cp, h1, -⟩ := OldRow.cells Chm.cellsD_len (hd _ w (hw.sub hsub_a)).1
    exact ⟨a, cp, h1⟩
  rintro ⟨aD, cD, rfl⟩
  repeat' (first | refine aw_seq ?_ | ((first | apply ao_val | apply aq_val); exact wants_a; (first | exact ov_peqs rfl rfl | exact ov_a); (exact rfl)) | refine zy ?_ | refine zon fun _ => ?_ | refine zoa fun vr lr hr => ?_ | ((first | apply ao_call | apply aq_call); exact wants_a; (first | exact oc_func rfl | exact oc_clos rfl rfl | exact oc_bnd rfl rfl); (exact rfl); (first | exact fun w hw => hrt hsub_a w hw)) | (apply ao_new; exact wants_a; exact on_makeMap; exact rfl; intro mn) | refine zoS (fun _ => ?_) (fun _ => ?_) | refine zqS (fun _ => ?_) (fun _ => ?_) | refine zwS (fun _ => ?_) (fun _ => ?_))
  apply ao_callD
  exact wants_a
  exact oc_func rfl
  exact rfl
  exact fun w hw => work_ok true g mn w
  rintro _ l1 ⟨nb1, lb1, cb1, rfl, hd1⟩
  repeat' (first | refine aw_seq ?_ | refine zz ?_ | refine zon fun _ => ?_ | refine zoa fun vr lr hr => ?_ | refine zoS (fun _ => ?_) (fun _ => ?_) | refine zqS (fun _ => ?_) (fun _ => ?_) | refine zwS (fun _ => ?_) (fun _ => ?_))
  apply ao_callD
  exact wants_a
  exact oc_func rfl
  exact rfl
  exact fun w hw => work_ok false g mn w
  rintro _ l2 ⟨nb2, lb2, cb2, rfl, hd2⟩
  repeat' (first | refine aw_seq ?_ | refine zz ?_ | refine zon fun _ => ?_ | refine zoa fun vr lr hr => ?_ | refine zoS (fun _ => ?_) (fun _ => ?_) | refine zqS (fun _ => ?_) (fun _ => ?_) | refine zwS (fun _ => ?_) (fun _ => ?_))
  refine aw_for (t0 := [(0, .pointer (some ⟨g, 0, none⟩)), (6, .map (some mn)), (7, deedV nb1 lb1 cb1), (8, deedV nb2 lb2 cb2), (26, .slice aD ds.length cD), (27, I ds.length), (28, I (0 : Nat))]) (fun q t H => ∃ (i : Nat) (L5 : List Su) (N5 : List (En Bk)) (c5 : Nat) (l5 : Hp), q = ds.length - i ∧ i ≤ ds.length ∧ (if (applyG (scT ss) (ds.drop i) L5).2 ≠ 0 then (L, [], (applyG (scT ss) (ds.drop i) L5).2) else ((applyG (scT ss) (ds.drop i) L5).1, diffS L (applyG (scT ss) (ds.drop i) L5).1, 0)) = A ∧ SmallA (scT ss) (ds.drop i) L5 ∧ Nx L L5 N5 c5 l5 ∧
      t = [(0, .pointer (some ⟨g, 0, none⟩)), (6, .map (some mn)), (7, deedV nb1 lb1 cb1), (8, deedV nb2 lb2 cb2), (26, .slice aD ds.length cD), (27, I ds.length), (28, I i)] ∧ H.Perm ((mn, mapO encB N5 c5) :: (l5 ++ (l2 ++ (l1 ++ ((g, objL vs mb) :: (mb, mapO encB X c) :: (lr ++ R)))))))
    ⟨0, L, [], 0, [], rfl, by omega, hA, hsm, Nx.start hF.nd, rfl, by
      have h := (List.perm_middle (l₁ := l2 ++ l1) (a := (mn, mapO encB [] 0)) (l₂ := (g, objL vs mb) :: (mb, mapO encB X c) :: (lr ++ R)))
      rw [List.append_assoc, List.append_assoc] at h
      exact h⟩ (by repeat (first | exact sub_nil | refine sub_cons rfl ?_)) ?_
  clear hA
  rintro q t H ⟨i, L5, N5, c5, l5, rfl, hi, hA, hsA, hN5, rfl, hpm⟩
  refine aw_permH hpm ?_
  clear hpm
  by_cases hlt : i < ds.length
  · obtain ⟨d, he⟩ := getP hlt
    have hmd := List.mem_of_getElem? he
    have hwo := hwd _ hmd
    have hdr : ds.drop i = d :: ds.drop (i + 1) := by
      have := List.getElem?_eq_some_iff.1 he
      rw [List.drop_eq_getElem_cons hlt, this.2]
    rw [hdr] at hA hsA
    unfold applyG at hA
    obtain ⟨sm0, sm1, sm2, sm3⟩ := hsA
    refine aw_fact (φ := ∃ g1 o1 a3 c3 a4 c4, aD = some ⟨g1, o1, none⟩ ∧ d.old.1 = .slice a3 d.old.2.rs.length c3 ∧ d.new.1 = .slice a4 d.new.2.rs.length c4) (fun w hw => ?_) ?_
    · have hdw := hd _ w (hw.sub hsub_a)
      obtain ⟨a2, cp2, h1, h2⟩ := OldRow.cells Chm.cellsD_len hdw.1
      cases h1
      obtain ⟨g1, o1, h3, -, -⟩ := h2 i _ (i : Int) he rfl
      obtain ⟨⟨-, a3, c3, e3, -⟩, ⟨-, a4, c4, e4, -⟩⟩ := hdw.2 _ hmd
      exact ⟨g1, o1, a3, c3, a4, c4, h3, e3, e4⟩
    rintro ⟨g1, o1, a3, c3, a4, c4, rfl, e3, e4⟩
    have cD : ∀ {H : Hp} (_ : R.Sublist H) w, RepH ⟨w0.heap.size, w0, Tryz.f64.ntmps⟩ H w → ∀ (j : Nat) z, (Chm.cellsD d)[j]? = some z → w.cell? ⟨g1, o1 + (i : Int).toNat * 21 + j, none⟩ = some z := fun hs w hw j z hj => by
      obtain ⟨a2, cp2, h1, h2⟩ := OldRow.cells Chm.cellsD_len (hd _ w (hw.sub hs)).1
      cases h1
      obtain ⟨g2, o2, h3, -, h4⟩ := h2 i _ (i : Int) he rfl
      cases h3
      exact h4 j z hj
    have hfo := fun (b10 : Nat) => follow_ok (m := Tryz.f64.ntmps) hX.mp hX.vs (fun b hb => Classical.not_not.1 fun h => hb ((hX.ks b).2 h)) hN5 (vs := vs) (ss := ss) (d := d) (nb1 := nb1) (lb1 := lb1) (cb1 := cb1) (nb2 := nb2) (lb2 := lb2) (cb2 := cb2) (g := g) (mb := mb) (w0 := w0) hwo hF.wf hss (small_get sm0) (fun h => small_get (sm1 h)) ((b10, .cells (Chm.cellsD d).toArray 118 (0, 0)) :: (l5 ++ (l2 ++ (l1 ++ ((g, objL vs mb) :: (mb, mapO encB X c) :: (lr ++ R))))))
      (fun n w hw => hd1.dw (rep_lies hw (by intro x hx; simp [hx])) (rep_lies (l := (g, objL vs mb) :: (mb, mapO encB X c) :: lr) hw (by intro x hx; simp only [List.mem_cons] at hx; rcases hx with rfl | rfl | hx <;> simp [*])) (rep_lies hw (by intro x hx; simp [hx])))
      (fun n w hw => hd2.dw (rep_lies hw (by intro x hx; simp [hx])) (rep_lies (l := (g, objL vs mb) :: (mb, mapO encB X c) :: lr) hw (by intro x hx; simp only [List.mem_cons] at hx; rcases hx with rfl | rfl | hx <;> simp [*])) (rep_lies hw (by intro x hx; simp [hx])))
      (fun n w hw => ⟨lies_cell (cs := [vs, .map (some mb)]) (rep_lies (l := [(g, objL vs mb)]) hw (by simp)) List.mem_cons_self rfl, hF.at_ w (rep_lies hw (by intro x hx; simp [hx])), (hd n w (hw.sub hsub_a)).2 _ hmd⟩)
    generalize stepP (scT ss) L5 d = P at hA sm2 sm3 hfo
    obtain ⟨L6, e6⟩ := P
    simp only at hA sm2 sm3 hfo
    obtain ⟨⟨dk, ds2, dn⟩, had, has, ⟨uo, oo⟩, ⟨un, on⟩⟩ := d
    obtain ⟨ok1, os1, on1, over, oc1, otm, obs, ors⟩ := oo
    obtain ⟨nk1, ns1, nn1, nver, nc1, ntm, nbs, nrs⟩ := on
    simp only at e3 e4
    subst e3
    subst e4
    have cD2 : ∀ {H : Hp} (_ : R.Sublist H) w, RepH ⟨w0.heap.size, w0, Tryz.f64.ntmps⟩ H w → ∀ (j : Nat) z, [S dk, S ds2, S dn, .bool had, .bool has, S ok1, S os1, S on1, I over, S oc1, .bool otm, .bool obs, .slice a3 ors.length c3, S nk1, S ns1, S nn1, I nver, S nc1, .bool ntm, .bool nbs, .slice a4 nrs.length c4][j]? = some z → w.cell? ⟨g1, o1 + (i : Int).toNat * 21 + j, none⟩ = some z := cD
    clear cD
    by_cases h6 : e6 ≠ 0
    · rw [if_pos h6, if_pos h6] at hA
      subst hA
      have b1 : (e6 != 0) = true := bne_iff_ne.2 h6
      repeat' (first | refine aw_seq ?_ | ((first | apply ao_val | apply aq_val); exact wants_a; (first | exact ov_load_w rfl rfl (cD2 hsub_a) | exact ov_a); (exact rfl)) | refine zy ?_ | refine zon fun _ => ?_ | refine zoa fun vr lr hr => ?_ | ((apply ao_callH (l := [(mn, mapO encB N5 c5)]); exact wants_a; (exact oc_func rfl); exact rfl; exact cut_a; exact hfo _; rintro _ _ ⟨rfl, ⟨-, rfl⟩ | ⟨h2, -⟩⟩; rotate_left; exact absurd h2 h6)) | refine zoS (fun _ => ?_) (fun _ => ?_) | refine zqS (fun _ => ?_) (fun _ => ?_) | refine zwS (fun _ => ?_) (fun _ => ?_))
      exact ⟨(g, objL vs mb) :: (mb, mapO encB X c) :: (lr ++ R), _, hsub_a, List.Perm.refl _, _, [], [], X, c, rfl, rfl, RowB.nil, hF⟩
    · rw [if_neg h6] at hA
      have h6 : e6 = 0 := Classical.not_not.1 h6
      subst h6
      repeat' (first | refine aw_seq ?_ | ((first | apply ao_val | apply aq_val); exact wants_a; (first | exact ov_load_w rfl rfl (cD2 hsub_a) | exact ov_a); (exact rfl)) | refine zy ?_ | refine zon fun _ => ?_ | refine zoa fun vr lr hr => ?_ | ((apply ao_callH (l := [(mn, mapO encB N5 c5)]); exact wants_a; (exact oc_func rfl); exact rfl; exact cut_a; exact hfo _; rintro _ _ ⟨rfl, ⟨h2, -⟩ | ⟨-, N6, c6, lu, rfl, hN6⟩⟩; exact absurd rfl h2)) | refine zoS (fun _ => ?_) (fun _ => ?_) | refine zqS (fun _ => ?_) (fun _ => ?_) | refine zwS (fun _ => ?_) (fun _ => ?_))
      exact lq_normal' (H' := (mn, mapO encB N6 c6) :: (lu ++ (l5 ++ (l2 ++ (l1 ++ ((g, objL vs mb) :: (mb, mapO encB X c) :: (lr ++ R))))))) ⟨i + 1, L6, N6, c6, lu ++ l5, rfl, by omega, hA, sm3, hN6, rfl, by rw [List.append_assoc]⟩ (by omega) (by repeat (first | exact sub_nil | refine sub_cons rfl ?_)) hsub_a
  · obtain rfl : i = ds.length := by omega
    rw [List.drop_length] at hA hsA
    unfold applyG at hA
    rw [if_neg (by simp)] at hA
    subst hA
    have hta := take_ok (m := Tryz.f64.ntmps) (w0 := w0) (g := g) (mb := mb) (mn := mn) hX hN5 (small_get (by cases ds with | nil => exact hsm | cons d ds => exact hsm.1)) (small_get hsA) (by have := hN5.len; have h2 := Small.len hsA; omega) ((mn, mapO encB N5 c5) :: (l5 ++ (l2 ++ (l1 ++ ((g, objL vs mb) :: (lr ++ R))))))
      (fun n w hw => ⟨lies_cell (cs := [vs, .map (some mb)]) (rep_lies (l := [(g, objL vs mb)]) hw (by simp)) List.mem_cons_self rfl, (hw.at_ _ _ List.mem_cons_self).2, rep_lies hw (by intro x hx; simp [hx]), rep_lies hw (by intro x hx; simp [hx])⟩)
    repeat' (first | refine aw_seq ?_ | refine zz ?_ | refine zon fun _ => ?_ | refine zoa fun vr lr hr => ?_ | ((apply ao_callH (l := [(mb, mapO encB X c)]); exact wants_a; (exact oc_func rfl); exact rfl; exact cut_a; exact hta; rintro _ _ ⟨l7, X7, c7, rfl, r7, hT7⟩)) | refine zoS (fun _ => ?_) (fun _ => ?_) | refine zqS (fun _ => ?_) (fun _ => ?_) | refine zwS (fun _ => ?_) (fun _ => ?_))
    refine ⟨l7 ++ ((mb, mapO encB X7 c7) :: (l5 ++ ((g, objL vs mb) :: (lr ++ R)))), _, hsub_a, ?_, _, l7, l5, X7, c7, rfl, rfl, r7, rfl, hF.wf, fun w hl => hF.at_ w (hl.sub fun x hx => List.mem_append_right _ hx), hT7, hN5.nd, hF.sl⟩
    have h := (List.perm_middle (l₁ := (mb, mapO encB X7 c7) :: l5) (a := (g, objL vs mb)) (l₂ := lr ++ R)).append_left l7
    simpa only [List.append_assoc, List.cons_append] using h
end Lct
end Go.Proofs.YtkjjlppfomidbaaGreat
/- Ldk: The landed Sum, Spaces, Scopes; conditions: at most 40,000 sums. -/
namespace Go.Proofs.YtkjjlppfomidbaaGreat
namespace Lct
open Go Go.RowKit Sx Vec Ojt Scp
attribute [local irreducible] Go.Calls
set_option maxHeartbeats 8000000 in
theorem losum_ok {scs : List (List Trm)} {L : List Su} {g : Nat} {l : Hp} (hL : LLo scs L g l) (hsm : Small L) (s : List UInt8) (i : Int) (w : World) (hl : Lies w l) : Calls Tryz.prog 40 #[.pointer (some ⟨g, 0, none⟩), S s, I i] w fun e w' => ∃ r, e = .returned r ∧ NewRow 96 3 w w' r (getS L (s, i)).length (vcells (getS L (s, i))) := by
  obtain ⟨vs, ss, mb, X, c, lr, rfl, hF⟩ := hL
  have hg := lies_lt hl List.mem_cons_self
  have cM : w.cell? ⟨g, 0 + 1, none⟩ = some (.map (some mb)) := lies_cell (cs := [vs, .map (some mb)]) hl List.mem_cons_self rfl
  have hmb := hl mb _ (List.mem_cons_of_mem _ List.mem_cons_self)
  have hml := lies_lt hl (List.mem_cons_of_mem _ List.mem_cons_self)
  obtain ⟨x1, x2⟩ := hF.tk.mp.fnd (s, i)
  have hv := x1 hF.tk.vs (w := w) (hl.sub fun x hx => List.mem_cons_of_mem _ (List.mem_cons_of_mem _ hx))
  rw [show (if (s, i) ∈ X.map (·.1) then getS L (s, i) else []) = getS L (s, i) by
    by_cases hk : (s, i) ∈ X.map (·.1)
    · rw [if_pos hk]
    · rw [if_neg hk, Classical.not_not.1 fun h => hk ((hF.tk.ks _).2 h)]] at hv
  have hlen := (small_get hsm (s, i)).2
  have hcl := fun w' (hb : Below w.heap.size w w') => cloneV_ok (OldRow.below hv.1 hb) (vcells_flat _) (by omega)
  clear x1 hv
  generalize valB X (s, i) = u at x2 hcl
  refine calls1 (args := [.pointer (some ⟨g, 0, none⟩), S s, I i]) Tryz.func40 rfl rfl rfl rfl ?_
  repeat' (first | refine aw_seq ?_ | ((first | apply ao_val | apply aq_val); exact wants_a; (first | exact ov_peqs rfl rfl | exact ov_nilcheck rfl | exact ov_load_o rfl hg cM | exact x2 false rfl rfl (mapAt_old hmb hml) | exact ov_a); (exact rfl)) | refine zy ?_ | refine zon fun _ => ?_ | refine zoa fun vr lr hr => ?_ | (apply ao_callr; exact wants_a; (exact oc_func rfl); (exact rfl); (first | exact fun w hw => hcl w hw.below); intro vr lr hr) | refine zoS (fun _ => ?_) (fun _ => ?_) | refine zqS (fun _ => ?_) (fun _ => ?_) | refine zwS (fun _ => ?_) (fun _ => ?_))
  exact fun w' hw => ⟨_, rfl, hw.below, _, (by assumption), fun b o hm => hw.at_ b o (List.mem_append_left _ hm)⟩
end Lct
end Go.Proofs.YtkjjlppfomidbaaGreat
/- Ldl: The landed Load; conditions: little all the way. -/
namespace Go.Proofs.YtkjjlppfomidbaaGreat
namespace Lct
open Go Go.RowKit Sx Vec Ojt Scp
attribute [local irreducible] Go.Calls
theorem setAllO_some : ∀ (vs cs : List Value) (off : Nat), off + vs.length ≤ cs.length → setAllO cs off vs = some (setAll cs off vs) ∧ (setAll cs off vs).length = cs.length ∧ (setAll cs off vs).take (off + vs.length) = cs.take off ++ vs
  | [], cs, off, _ => ⟨rfl, rfl, by simp [setAll]⟩
  | v :: vs, cs, off, h => by
    rw [List.length_cons] at h
    obtain ⟨h1, h2, h3⟩ := setAllO_some vs (cs.set off v) (off + 1) (by rw [List.length_set]; omega)
    have hs : setO cs off v = some (cs.set off v) := by
      clear h1 h2 h3
      induction cs generalizing off with
      | nil => simp at h
      | cons c cs ih =>
        cases off with
        | zero => rfl
        | succ n =>
          rw [List.length_cons] at h
          simp only [setO, List.set_cons_succ, ih n (by omega)]
    refine ⟨by simp only [setAllO, hs, setAll]; exact h1, by simp only [setAll]; rw [h2, List.length_set], ?_⟩
    rw [List.length_cons, show off + (vs.length + 1) = off + 1 + vs.length by omega]
    simp only [setAll]
    rw [h3, List.take_add_one, List.getElem?_set_self (by omega), List.take_set_of_le (Nat.le_refl _)]
    simp
def comeP (p : Evt.PO) : Chm.PD := ⟨keyB3 p.2, false, true, (.slice none 0 0, Chm.zO), p⟩
theorem come_step (scs : List (List Trm)) (L : List Su) (p : Evt.PO) : stepP scs L (comeP p) = moveS scs L p.2 false := rfl
theorem come_ok (p : Evt.PO) : okP (comeP p) = rightO p.2 := by
  unfold okP comeP
  simp
theorem come_apply (scs : List (List Trm)) : ∀ (os : List Evt.PO) (L : List Su), (applyG scs (os.map comeP) L).2 = (loadG scs (Evt.obs os) L).2 ∧ ((loadG scs (Evt.obs os) L).2 = 0 → (applyG scs (os.map comeP) L).1 = (loadG scs (Evt.obs os) L).1)
  | [], L => ⟨rfl, fun _ => rfl⟩
  | p :: os, L => by
    have e := come_step scs L p
    simp only [List.map_cons, applyG, loadG]
    generalize stepP scs L (comeP p) = P at e ⊢
    generalize moveS scs L p.2 false = M at e ⊢
    subst e
    by_cases h : P.2 ≠ 0
    · rw [if_pos h, if_pos h]
      exact ⟨rfl, fun h2 => absurd h2 h⟩
    · rw [if_neg h, if_neg h]
      exact come_apply scs os _
theorem come_all (scs : List (List Trm)) (os : List Evt.PO) : (applyS scs [] (os.map comeP)).2.2 = (loadS scs (Evt.obs os)).2 ∧ ((loadS scs (Evt.obs os)).2 = 0 → (applyS scs [] (os.map comeP)).1 = (loadS scs (Evt.obs os)).1) := by
  have ha : (os.map comeP).all okP = (Evt.obs os).all rightO := by
    rw [List.all_map, Evt.obs, List.all_map]
    congr 1
    funext p
    exact come_ok p
  unfold applyS loadS
  rw [ha]
  obtain ⟨h1, h2⟩ := come_apply scs os []
  by_cases hr : (Evt.obs os).all rightO = true
  · rw [if_pos hr, if_pos hr]
    by_cases h0 : (applyG scs (os.map comeP) []).2 ≠ 0
    · rw [if_pos h0]
      exact ⟨h1, fun h3 => absurd (h1.trans h3) h0⟩
    · rw [if_neg h0]
      have h0 := Classical.not_not.1 h0
      exact ⟨by rw [← h1, h0], fun h3 => h2 h3⟩
  · rw [if_neg hr, if_neg hr]
    exact ⟨rfl, fun h => absurd h (by decide)⟩
theorem come_small (scs : List (List Trm)) : ∀ (os : List Evt.PO) (L : List Su), SmallL scs (Evt.obs os) L → SmallA scs (os.map comeP) L
  | [], _, h => h
  | p :: os, L, h => by
    have h2 : SmallL scs (Evt.obs os) (moveS scs L p.2 false).1 := h.2
    refine ⟨h.1, (fun h => by cases h), ?_, come_small scs os _ h2⟩
    rw [come_step]
    cases os with
    | nil => exact h2
    | cons q os => exact h2.1
def LoadD (g : Nat) (scs : List (List Trm)) (L : List Su) (os : List Ob) (R : Hp) (u : Value) (H' : Hp) : Prop := u = I (loadS scs os).2 ∧ ∃ l', H' = l' ++ R ∧ LLo scs (if (loadS scs os).2 = 0 then (loadS scs os).1 else L) g l'
set_option maxHeartbeats 64000000 in
theorem loload_ok {m : Nat} {w0 : World} {scs : List (List Trm)} {L : List Su} {g : Nat} {l : Hp} (hL : LLo scs L g l) (hsc : scs.length ≤ 8) {v : Value} {os : List Evt.PO} (hol : os.length ≤ 10000) (hwo : ∀ p ∈ os, wfO p.2) (hsm : SmallL scs (Evt.obs os) []) (R : Hp) (ho : ∀ n w, RepH ⟨w0.heap.size, w0, n⟩ R w → Evt.ObjsAt w v os) :
    CallsH Tryz.prog ⟨w0.heap.size, w0, m⟩ 35 [.pointer (some ⟨g, 0, none⟩), v] (l ++ R) (LoadD g scs L (Evt.obs os) R) := by
  have hL0 := hL
  obtain ⟨vs, ss, mb, X, c, lr, rfl, hF⟩ := hL
  obtain ⟨q1, q2⟩ := come_all scs os
  have hsA := come_small scs os [] hsm
  generalize hQ : loadS scs (Evt.obs os) = Q at q1 q2
  unfold LoadD
  rw [hQ]
  clear hQ
  refine callsH1p (args := [.pointer (some ⟨g, 0, none⟩), v]) Tryz.func35 rfl rfl rfl rfl ?_
  rw [List.cons_append, List.cons_append]
  refine aw_fact (φ := ∃ aD cD, v = .slice aD os.length cD) (fun w hw => ?_) ?_
  · obtain ⟨a, cp, h1, -⟩ := OldRow.cells Evt.cellsO_len (ho _ w (hw.sub hsub_a)).1
    exact ⟨a, cp, h1⟩
  rintro ⟨aD, cD, rfl⟩
  refine aw_fact (φ := ∃ aS cS, vs = .slice aS ss.length cS) (fun w hw => ?_) ?_
  · obtain ⟨a, cp, h1, -⟩ := OldRow.cells cellsSc_len (hF.at_ w (rep_lies hw (by intro x hx; simp [hx]))).1
    exact ⟨a, cp, h1⟩
  rintro ⟨aS, cS, rfl⟩
  repeat' (first | refine aw_seq ?_ | ((first | apply ao_val | apply aq_val); exact wants_a; (first | exact ov_peqs rfl rfl | exact ov_a); (exact rfl)) | refine zy ?_ | refine zon fun _ => ?_ | refine zoa fun vr lr hr => ?_ | ((apply ao_make (n := os.length); exact wants_a; exact rfl; exact rfl; omega; omega; exact rfl; intro bD csD hcs)) | refine zoS (fun _ => ?_) (fun _ => ?_) | refine zqS (fun _ => ?_) (fun _ => ?_) | refine zwS (fun _ => ?_) (fun _ => ?_))
  refine aw_for (t0 := [(0, .pointer (some ⟨g, 0, none⟩)), (5, .slice (some ⟨bD, 0, none⟩) os.length os.length), (16, .slice aD os.length cD), (17, I os.length), (18, I (0 : Nat))]) (fun q t H => ∃ (i : Nat) (cs : List Value), q = os.length - i ∧ i ≤ os.length ∧ cs.length = os.length * 21 ∧ cs.take (i * 21) = ((os.take i).map comeP).flatMap Chm.cellsD ∧
    t = [(0, .pointer (some ⟨g, 0, none⟩)), (5, .slice (some ⟨bD, 0, none⟩) os.length os.length), (16, .slice aD os.length cD), (17, I os.length), (18, I i)] ∧ H = (bD, .cells cs.toArray 118 (0, 0)) :: (g, objL (.slice aS ss.length cS) mb) :: (mb, mapO encB X c) :: (lr ++ R))
    ⟨0, csD, rfl, Nat.zero_le _, hcs, by simp, rfl, rfl⟩ (by repeat (first | exact sub_nil | refine sub_cons rfl ?_)) ?_
  clear hcs csD
  rintro q t H ⟨i, cs, rfl, hi, hcs, htk, rfl, rfl⟩
  by_cases hlt : i < os.length
  · obtain ⟨⟨u, o⟩, he⟩ := getP hlt
    have hmo := List.mem_of_getElem? he
    refine aw_fact (φ := ∃ g1 o1 a3 c3, aD = some ⟨g1, o1, none⟩ ∧ u = .slice a3 o.rs.length c3) (fun w hw => ?_) ?_
    · have how := ho _ w (hw.sub hsub_a)
      obtain ⟨a2, cp2, h1, h2⟩ := OldRow.cells Evt.cellsO_len how.1
      cases h1
      obtain ⟨g1, o1, h3, -, -⟩ := h2 i _ (i : Int) he rfl
      obtain ⟨-, a3, c3, e3, -⟩ := how.2 _ hmo
      exact ⟨g1, o1, a3, c3, h3, e3⟩
    rintro ⟨g1, o1, a3, c3, rfl, rfl⟩
    obtain ⟨k1, s1, n1, ver, c1, tm, bs, rs⟩ := o
    have cO : ∀ {H : Hp} (_ : R.Sublist H) w, RepH ⟨w0.heap.size, w0, Tryz.f35.ntmps⟩ H w → ∀ (j : Nat) z, [S k1, S s1, S n1, I ver, S c1, .bool tm, .bool bs, .slice a3 rs.length c3][j]? = some z → w.cell? ⟨g1, o1 + (i : Int).toNat * 8 + j, none⟩ = some z := fun hs w hw j z hj => by
      obtain ⟨a2, cp2, h1, h2⟩ := OldRow.cells Evt.cellsO_len (ho _ w (hw.sub hs)).1
      cases h1
      obtain ⟨g2, o2, h3, -, h4⟩ := h2 i _ (i : Int) he rfl
      cases h3
      exact h4 j z hj
    generalize hob : (Obj.cells cs.toArray 118 (0, 0)) = ob
    repeat' (first | refine aw_seq ?_ | ((first | apply ao_val | apply aq_val); exact wants_a; (first | exact ov_load_w rfl rfl (cO hsub_a) | exact ov_a); (exact rfl)) | refine zy ?_ | refine zon fun _ => ?_ | refine zoa fun vr lr hr => ?_ | refine zoS (fun _ => ?_) (fun _ => ?_) | refine zqS (fun _ => ?_) (fun _ => ?_) | refine zwS (fun _ => ?_) (fun _ => ?_))
    subst hob
    obtain ⟨s1', s2', s3'⟩ := setAllO_some [S k1, S s1, S n1, .bool false, .bool true, S [], S [], S [], I 0, S [], .bool false, .bool false, .slice none 0 0, S k1, S s1, S n1, I ver, S c1, .bool tm, .bool bs, .slice a3 rs.length c3] cs (0 + (i : Int).toNat * 21) (by rw [hcs, Int.toNat_natCast]; simp only [List.length_cons, List.length_nil]; omega)
    apply ao_store
    exact wants_a
    exact ow_storea rfl rfl has_a rfl rfl rfl s1'
    exact upd_a
    clear s1'
    generalize setAll cs _ _ = cs2 at s2' s3' ⊢
    repeat' (first | refine aw_seq ?_ | refine zz ?_ | refine zon fun _ => ?_ | refine zoa fun vr lr hr => ?_ | refine zoS (fun _ => ?_) (fun _ => ?_) | refine zqS (fun _ => ?_) (fun _ => ?_) | refine zwS (fun _ => ?_) (fun _ => ?_))
    refine lq_normal' ⟨i + 1, cs2, rfl, by omega, s2'.trans hcs, ?_, rfl, rfl⟩ (by omega) (by repeat (first | exact sub_nil | refine sub_cons rfl ?_)) hsub_a
    rw [List.take_add_one, he, Option.toList_some, List.map_append, List.flatMap_append, ← htk]
    rw [show 0 + (i : Int).toNat * 21 = i * 21 by rw [Int.toNat_natCast, Nat.zero_add]] at s3'
    rw [Nat.succ_mul]
    exact s3'
  · obtain rfl : i = os.length := by omega
    rw [List.take_length] at htk
    have r2 : RowB 118 21 (.slice (some ⟨bD, 0, none⟩) os.length os.length) [(bD, .cells cs.toArray 118 (0, 0))] (os.map comeP).length ((os.map comeP).flatMap Chm.cellsD) := by
      rw [List.length_map]
      exact ⟨by rw [← htk, List.length_take, hcs, Nat.min_self], .inr ⟨bD, os.length, cs.toArray, rfl, rfl, Nat.le_refl _, by simp [hcs], by simpa using htk⟩⟩
    have hF2 : LoF scs [] (.slice aS ss.length cS) ss [] 0 lr := ⟨hF.sc, hF.wf, hF.at_, ⟨MpK.new, (fun _ _ x hx => by cases hx), tkn_nil.ks⟩, List.nodup_nil, hF.sl⟩
    have hco := fun (g2 m2 : Nat) => apply_core (m := Tryz.f35.ntmps) (w0 := w0) (g := g2) (mb := m2) hF2 hsc (vd := .slice (some ⟨bD, 0, none⟩) os.length os.length) (ds := os.map comeP) (by rw [List.length_map]; exact hol)
      (fun d hd => by
        obtain ⟨p, hp, rfl⟩ := List.mem_map.1 hd
        exact ⟨wf_zO, hwo p hp⟩) hsA ((bD, .cells cs.toArray 118 (0, 0)) :: (g, objL (.slice aS ss.length cS) mb) :: (mb, mapO encB X c) :: R)
      (fun n w hw => ⟨old_lies (rep_lies hw (by intro x hx; rw [List.mem_singleton.1 hx]; exact List.mem_cons_self)) r2, fun d hd => by
        obtain ⟨p, hp, rfl⟩ := List.mem_map.1 hd
        exact ⟨OldRow.nil, (ho n w (hw.sub hsub_a)).2 p hp⟩⟩)
    clear r2 htk hcs
    generalize (Obj.cells cs.toArray 118 (0, 0)) = ob at hco ⊢
    generalize applyS scs [] (os.map comeP) = A at q1 q2 hco
    obtain ⟨A1, A2, e⟩ := A
    simp only at q1 q2 hco
    subst q1
    obtain ⟨Q1, e⟩ := Q
    simp only at q2 hco
    repeat' (first | refine aw_seq ?_ | ((first | apply ao_val | apply aq_val); exact wants_a; (first | exact ov_nilcheck rfl | exact ov_a); (exact rfl)) | refine zy ?_ | refine zon fun _ => ?_ | refine zoa fun vr lr hr => ?_ | (apply ao_new; exact wants_a; exact on_makeMap; exact rfl; intro m2) | refine zoS (fun _ => ?_) (fun _ => ?_) | refine zqS (fun _ => ?_) (fun _ => ?_) | refine zwS (fun _ => ?_) (fun _ => ?_))
    rename_i g2
    apply ao_callH (l := (g2, objL (.slice aS ss.length cS) m2) :: (m2, mapO encB [] 0) :: lr)
    exact wants_a
    exact oc_func rfl
    exact rfl
    exact (List.perm_append_comm_assoc [(bD, ob), (g, objL (.slice aS ss.length cS) mb), (mb, mapO encB X c)] lr R).append_left [(g2, objL (.slice aS ss.length cS) m2), (m2, mapO encB [] 0)]
    exact hco g2 m2
    rintro _ _ ⟨r, l7, lu, X7, c7, rfl, rfl, r7, hF7⟩
    simp only [List.cons_append, List.append_assoc]
    by_cases h0 : e = 0
    · subst h0
      rw [q2 rfl] at hF7
      repeat' (first | refine aw_seq ?_ | ((first | apply ao_val | apply aq_val); exact wants_a; (first | exact ov_nilcheck rfl | exact ov_a); (exact rfl)) | refine zy ?_ | refine zon fun _ => ?_ | refine zoa fun vr lr hr => ?_ | refine zoS (fun _ => ?_) (fun _ => ?_) | refine zqS (fun _ => ?_) (fun _ => ?_) | refine zwS (fun _ => ?_) (fun _ => ?_))
      refine ⟨(m2, mapO encB X7 c7) :: (lu ++ (lr ++ ((g, objL (.slice aS ss.length cS) m2) :: R))), ((g, objL (.slice aS ss.length cS) m2) :: (m2, mapO encB X7 c7) :: (lu ++ lr)) ++ R, hsub_a, ?_, rfl, _, rfl, ?_⟩
      · have h := List.perm_middle (l₁ := (m2, mapO encB X7 c7) :: (lu ++ lr)) (a := (g, objL (.slice aS ss.length cS) m2)) (l₂ := R)
        simpa only [List.cons_append, List.append_assoc] using h
      · rw [if_pos rfl]
        exact ⟨_, ss, m2, X7, c7, lu ++ lr, rfl, hF7⟩
    · have b0 : (e != 0) = true := bne_iff_ne.2 h0
      repeat' (first | refine aw_seq ?_ | ((first | apply ao_val | apply aq_val); exact wants_a; (first | exact ov_nilcheck rfl | exact ov_a); (exact rfl)) | refine zy ?_ | refine zon fun _ => ?_ | refine zoa fun vr lr hr => ?_ | refine zoS (fun _ => ?_) (fun _ => ?_) | refine zqS (fun _ => ?_) (fun _ => ?_) | refine zwS (fun _ => ?_) (fun _ => ?_))
      refine ⟨lr ++ ((g, objL (.slice aS ss.length cS) mb) :: (mb, mapO encB X c) :: R), ((g, objL (.slice aS ss.length cS) mb) :: (mb, mapO encB X c) :: lr) ++ R, hsub_a, List.perm_append_comm_assoc lr [(g, _), (mb, _)] R, rfl, _, rfl, ?_⟩
      rw [if_neg h0]
      exact hL0
end Lct
end Go.Proofs.YtkjjlppfomidbaaGreat
/- Lcl: The contracts of the landed sums, in the walks' forms; conditions: little of all. -/
namespace Go.Proofs.YtkjjlppfomidbaaGreat
namespace Lct
open Go Go.RowKit Sx Vec Ojt Scp
attribute [local irreducible] Go.Calls
theorem lonew_t {w : World} {v : Value} {ss : List Sc} (hs : ScsAt w v ss) (hws : ∀ s ∈ ss, wfP s.2) (hsl : ss.length ≤ 20) (hr : rightScs (scT ss) = true) :
    Calls Tryz.prog 34 #[v] w fun e w' => ∃ r, e = .returned (.tuple #[r, I 0]) ∧ NewD (fun r l => ∃ g, r = .pointer (some ⟨g, 0, none⟩) ∧ LLo (scT ss) [] g l) w w' r := by
  refine (new_ok hs hws hsl).mono fun e w' h => ?_
  obtain ⟨r, rfl, hb, l, hd, h2⟩ := h
  rw [if_pos hr]
  rcases hd with ⟨-, h3⟩ | ⟨h3, -⟩
  · exact ⟨r, rfl, hb, l, h3, h2⟩
  · rw [hr] at h3; cases h3
theorem lonew_f {w : World} {v : Value} {ss : List Sc} (hs : ScsAt w v ss) (hws : ∀ s ∈ ss, wfP s.2) (hsl : ss.length ≤ 20) (hr : rightScs (scT ss) = false) :
    Calls Tryz.prog 34 #[v] w fun e w' => e = .returned (.tuple #[.pointer none, I 1]) ∧ Below w.heap.size w w' := by
  refine (new_ok hs hws hsl).mono fun e w' h => ?_
  obtain ⟨r, rfl, hb, l, hd, -⟩ := h
  rcases hd with ⟨h3, -⟩ | ⟨-, rfl, -⟩
  · rw [hr] at h3; cases h3
  · rw [hr]
    exact ⟨rfl, hb⟩
end Lct
end Go.Proofs.YtkjjlppfomidbaaGreat
