/- The landed cache's maps as they turn: an object put, an object gone, graves; conditions: none. -/
import Derived.Test.YtbllkmhkpapgeaaCdc
import Derived.Test.YtbllkmhkpapgeaaCsx
import Derived.Test.YtbllkmhkpapgeaaSrd
namespace Go.Proofs.Ytbllkmhkpapgeaa
namespace Chm
open Go Go.RowKit Sx Lab Vec Ojt Evt
attribute [local irreducible] Go.Calls

def repX (k : Kt) (p : PO) : List (PO × Nat) → List (PO × Nat)
  | [] => []
  | x :: X => if k = keyO x.1.2 then (p, x.2) :: X else x :: repX k p X
def delX (k : Kt) : List (PO × Nat) → List (PO × Nat)
  | [] => []
  | x :: X => if k = keyO x.1.2 then X else x :: delX k X
theorem repX_map {k : Kt} {p : PO} (hk : keyO p.2 = k) : ∀ (X : List (PO × Nat)), setK k (OV p.2 p.1) (X.map enO) = (repX k p X).map enO
  | [] => rfl
  | x :: X => by
    rw [List.map_cons]
    unfold setK repX
    show (if k = keyO x.1.2 then _ else _) = _
    by_cases h : k = keyO x.1.2
    · rw [if_pos h, if_pos h, List.map_cons, ← hk]
      rfl
    · rw [if_neg h, if_neg h, List.map_cons, repX_map hk X]
theorem delX_map {k : Kt} : ∀ (X : List (PO × Nat)), delK k (X.map enO) = (delX k X).map enO
  | [] => rfl
  | x :: X => by
    rw [List.map_cons]
    unfold delK delX
    show (if k = keyO x.1.2 then _ else _) = _
    by_cases h : k = keyO x.1.2
    · rw [if_pos h, if_pos h]
    · rw [if_neg h, if_neg h, List.map_cons, delX_map X]
theorem repX_stamps {k : Kt} {p : PO} : ∀ (X : List (PO × Nat)), (repX k p X).map (·.2) = X.map (·.2)
  | [] => rfl
  | x :: X => by
    unfold repX
    by_cases h : k = keyO x.1.2
    · rw [if_pos h, List.map_cons, List.map_cons]
    · rw [if_neg h, List.map_cons, List.map_cons, repX_stamps X]
theorem delX_sub {k : Kt} : ∀ (X : List (PO × Nat)), (delX k X).Sublist X
  | [] => List.Sublist.refl _
  | x :: X => by
    unfold delX
    by_cases h : k = keyO x.1.2
    · rw [if_pos h]; exact List.sublist_cons_self x X
    · rw [if_neg h]; exact (delX_sub X).cons_cons x
/-- The first of a key, taken out. -/
theorem delX_perm {k : Kt} : ∀ (X : List (PO × Nat)), (∃ x ∈ X, keyO x.1.2 = k) → ∃ old : PO × Nat, keyO old.1.2 = k ∧ X.Perm (old :: delX k X) ∧ ∀ p, ((repX k p X).map (·.1)).Perm (p :: (delX k X).map (·.1))
  | [], h => by obtain ⟨x, hx, -⟩ := h; cases hx
  | x :: X, h => by
    by_cases hk : k = keyO x.1.2
    · refine ⟨x, hk.symm, ?_, fun p => ?_⟩
      · unfold delX; rw [if_pos hk]
      · unfold delX repX
        rw [if_pos hk, if_pos hk, List.map_cons]
    · obtain ⟨y, hy, e⟩ := h
      rcases List.mem_cons.1 hy with rfl | hy
      · exact absurd e.symm hk
      · obtain ⟨old, h1, h2, h3⟩ := delX_perm X ⟨y, hy, e⟩
        refine ⟨old, h1, ?_, fun p => ?_⟩
        · unfold delX
          rw [if_neg hk]
          exact (List.Perm.cons x h2).trans (List.Perm.swap _ _ _)
        · unfold delX repX
          rw [if_neg hk, if_neg hk, List.map_cons, List.map_cons]
          exact (List.Perm.cons x.1 (h3 p)).trans (List.Perm.swap _ _ _)
theorem delX_wo {k : Kt} : ∀ {X : List (PO × Nat)}, Own (X.map fun x => x.1.2) → (delX k X).map (fun x => x.1.2) = woO (X.map fun x => x.1.2) k
  | [], _ => rfl
  | x :: X, h => by
    unfold Own at h
    rw [List.map_cons, List.pairwise_cons] at h
    unfold delX
    rw [List.map_cons]
    by_cases hk : k = keyO x.1.2
    · rw [if_pos hk]
      have h2 : woO (X.map fun x => x.1.2) k = X.map fun x => x.1.2 := woO_none fun o ho e => h.1 o ho (by rw [← hk, e])
      unfold woO at h2 ⊢
      rw [List.filter_cons, if_neg (by simp [hk])]
      exact h2.symm
    · rw [if_neg hk, List.map_cons, delX_wo h.2]
      unfold woO
      rw [List.filter_cons, if_pos (by simpa using fun e => hk e.symm)]
section
variable {st : St} {X : List (PO × Nat)} {co : Nat} {G : List (Gr × Nat)} {cg : Nat}
theorem LX.own (h : LX st X co G cg) (ho : Own st.os) : Own (X.map fun x => x.1.2) := (h.os.pairwise_iff (fun h => h.symm)).2 ho
/-- An object is put. -/
theorem LX.put (h : LX st X co G cg) (ho : Own st.os) (p : PO) : ∃ X' co', LX ⟨woO st.os (keyO p.2) ++ [p.2], st.gs, st.fl⟩ X' co' G cg ∧
    (∀ {E : Env} {t : Tm} {H : Hp} {x y z : Operand} {ty : TypeId} {b : Nat}, ev t x = some (.map (some b)) → ev t y = some (K3 (keyO p.2)) → ev t z = some (OV p.2 p.1) → MapAt E H encKt b (X.map enO) co →
      OpW Try.prog E (.mapUpdate 65 x y z) ty t H b (mapO encKt (X'.map enO) co') .skip) ∧
    ∀ Z : List PO, ∃ Z', (p :: (X.map (·.1) ++ Z)).Perm (X'.map (·.1) ++ Z') := by
  have hwo := (h.os.filter fun o => decide (keyO o ≠ keyO p.2))
  cases hf : fndK (keyO p.2) (X.map enO) 0 with
  | none =>
    have hno : ∀ x ∈ X, keyO x.1.2 ≠ keyO p.2 := fun x hx => fndK_none.1 hf (enO x) (List.mem_map.2 ⟨x, hx, rfl⟩)
    have hself : woO (X.map fun x => x.1.2) (keyO p.2) = X.map fun x => x.1.2 := woO_none fun o ho => by
      obtain ⟨x, hx, rfl⟩ := List.mem_map.1 ho
      exact hno x hx
    refine ⟨X ++ [(p, co)], co + 1, ⟨?_, h.gs, ?_, fun x hx => ?_, h.bg, h.lg, h.up⟩, ?_, fun Z => ⟨Z, ?_⟩⟩
    · rw [List.map_append]
      refine List.Perm.append ?_ (List.Perm.refl _)
      rw [← hself]
      exact hwo
    · rw [List.map_append]
      refine List.nodup_append.2 ⟨h.bo, by simp, fun a ha b hb e => ?_⟩
      obtain ⟨x, hx, rfl⟩ := List.mem_map.1 ha
      have := h.lo x hx
      rw [List.map_singleton, List.mem_singleton] at hb
      simp only at *
      omega
    · rcases List.mem_append.1 hx with hx | hx
      · have := h.lo x hx; omega
      · rw [List.mem_singleton.1 hx]; exact Nat.lt_succ_self _
    · intro E t H x y z ty b hx hy hz hb
      have := ow_mput (P := Try.prog) (mt := 65) (kt := 35) (et := 38) (ty := ty) (enc := encKt) (k := keyO p.2) hx hy hz hb hf
      rw [List.map_append]
      exact this
    · rw [List.map_append]
      rw [List.append_assoc]
      exact (List.perm_middle (l₁ := X.map (·.1)) (a := p) (l₂ := Z)).symm
  | some q =>
    obtain ⟨i, u⟩ := q
    obtain ⟨-, bo, hi⟩ := fndK_some hf
    obtain ⟨x0, hx0, e0⟩ := List.mem_map.1 (List.mem_of_getElem? hi)
    have hex : ∃ x ∈ X, keyO x.1.2 = keyO p.2 := ⟨x0, hx0, congrArg Prod.fst e0⟩
    obtain ⟨old, h1, h2, h3⟩ := delX_perm X hex
    refine ⟨repX (keyO p.2) p X, co, ⟨?_, h.gs, ?_, fun x hx => ?_, h.bg, h.lg, h.up⟩, ?_, fun Z => ⟨old.1 :: Z, ?_⟩⟩
    · have e1 : (repX (keyO p.2) p X).map (fun x => x.1.2) = ((repX (keyO p.2) p X).map (·.1)).map (·.2) := by rw [List.map_map]; rfl
      rw [e1]
      refine ((h3 p).map (·.2)).trans ?_
      rw [List.map_cons, List.map_map]
      show (p.2 :: (delX (keyO p.2) X).map fun x => x.1.2).Perm _
      rw [delX_wo (h.own ho)]
      exact (List.Perm.cons p.2 hwo).trans (List.perm_append_comm (l₁ := [p.2]))
    · rw [repX_stamps]; exact h.bo
    · have : x.2 ∈ (repX (keyO p.2) p X).map (·.2) := List.mem_map.2 ⟨x, hx, rfl⟩
      rw [repX_stamps] at this
      obtain ⟨y, hy, e⟩ := List.mem_map.1 this
      rw [← e]; exact h.lo y hy
    · intro E t H x y z ty b hx hy hz hb
      rw [← repX_map rfl]
      exact ow_mset (P := Try.prog) (mt := 65) (kt := 35) (et := 38) (ty := ty) (enc := encKt) (k := keyO p.2) hx hy hz hb hf
    · refine (List.Perm.cons p ((h2.map (·.1)).append_right Z)).trans ?_
      rw [List.map_cons]
      refine List.Perm.trans ?_ ((h3 p).symm.append_right (old.1 :: Z))
      rw [List.cons_append, List.cons_append]
      exact List.Perm.cons p List.perm_middle.symm
/-- An object goes. -/
theorem LX.del (h : LX st X co G cg) (ho : Own st.os) (k : Kt) : LX ⟨woO st.os k, st.gs, st.fl⟩ (delX k X) co G cg ∧
    (∀ {E : Env} {t : Tm} {H : Hp} {x y : Operand} {ty : TypeId} {b : Nat}, ev t x = some (.map (some b)) → ev t y = some (K3 k) → MapAt E H encKt b (X.map enO) co →
      OpW Try.prog E (.call ⟨.builtin .delete, #[x, y], #[65, 35]⟩) ty t H b (mapO encKt ((delX k X).map enO) co) (.value (.tuple #[]))) ∧
    ∀ Z : List PO, ∃ Z', (X.map (·.1) ++ Z).Perm ((delX k X).map (·.1) ++ Z') := by
  refine ⟨⟨?_, h.gs, h.bo.sublist ((delX_sub X).map _), fun x hx => h.lo x ((delX_sub X).subset hx), h.bg, h.lg, h.up⟩, ?_, fun Z => ?_⟩
  · rw [delX_wo (h.own ho)]
    exact h.os.filter _
  · intro E t H x y ty b hx hy hb
    rw [← delX_map]
    exact ow_mdel (P := Try.prog) (mt := 65) (et := 38) (ty := ty) (enc := encKt) (k := k) hx hy hb
  · by_cases hex : ∃ x ∈ X, keyO x.1.2 = k
    · obtain ⟨old, h1, h2, -⟩ := delX_perm X hex
      refine ⟨old.1 :: Z, ((h2.map (·.1)).append_right Z).trans ?_⟩
      rw [List.map_cons]
      exact List.perm_middle.symm
    · refine ⟨Z, ?_⟩
      have : delX k X = X := by
        have key : ∀ Y : List (PO × Nat), (∀ x ∈ Y, keyO x.1.2 ≠ k) → delX k Y = Y := by
          intro Y
          induction Y with
          | nil => intro _; rfl
          | cons y Y ih =>
            intro hY
            unfold delX
            rw [if_neg fun e => hY y List.mem_cons_self e.symm, ih fun x hx => hY x (List.mem_cons_of_mem y hx)]
        exact key X fun x hx e => hex ⟨x, hx, e⟩
      rw [this]
end

/-! Graves. -/
def repG (r : Gr) : List (Gr × Nat) → List (Gr × Nat)
  | [] => []
  | x :: X => if r.1 = x.1.1 then (r, x.2) :: X else x :: repG r X
def delG (k : Kt) : List (Gr × Nat) → List (Gr × Nat)
  | [] => []
  | x :: X => if k = x.1.1 then X else x :: delG k X
theorem repG_map {r : Gr} : ∀ (X : List (Gr × Nat)), setK r.1 (I r.2) (X.map enG) = (repG r X).map enG
  | [] => rfl
  | x :: X => by
    rw [List.map_cons]
    unfold setK repG
    show (if r.1 = x.1.1 then _ else _) = _
    by_cases h : r.1 = x.1.1
    · rw [if_pos h, if_pos h, List.map_cons]
      rfl
    · rw [if_neg h, if_neg h, List.map_cons, repG_map X]
theorem delG_map {k : Kt} : ∀ (X : List (Gr × Nat)), delK k (X.map enG) = (delG k X).map enG
  | [] => rfl
  | x :: X => by
    rw [List.map_cons]
    unfold delK delG
    show (if k = x.1.1 then _ else _) = _
    by_cases h : k = x.1.1
    · rw [if_pos h, if_pos h]
    · rw [if_neg h, if_neg h, List.map_cons, delG_map X]
theorem repG_stamps {r : Gr} : ∀ (X : List (Gr × Nat)), (repG r X).map (·.2) = X.map (·.2)
  | [] => rfl
  | x :: X => by
    unfold repG
    by_cases h : r.1 = x.1.1
    · rw [if_pos h, List.map_cons, List.map_cons]
    · rw [if_neg h, List.map_cons, List.map_cons, repG_stamps X]
theorem delG_sub {k : Kt} : ∀ (X : List (Gr × Nat)), (delG k X).Sublist X
  | [] => List.Sublist.refl _
  | x :: X => by
    unfold delG
    by_cases h : k = x.1.1
    · rw [if_pos h]; exact List.sublist_cons_self x X
    · rw [if_neg h]; exact (delG_sub X).cons_cons x
theorem delG_wo {k : Kt} : ∀ {X : List (Gr × Nat)}, (X.map (·.1)).Pairwise (fun a b => a.1 ≠ b.1) → (delG k X).map (·.1) = (X.map (·.1)).filter fun g => decide (g.1 ≠ k)
  | [], _ => rfl
  | x :: X, h => by
    rw [List.map_cons, List.pairwise_cons] at h
    unfold delG
    rw [List.map_cons]
    by_cases hk : k = x.1.1
    · rw [if_pos hk, List.filter_cons, if_neg (by simp [hk])]
      exact (List.filter_eq_self.2 fun o ho => by simpa using fun e => h.1 o ho (by rw [← hk, e])).symm
    · rw [if_neg hk, List.map_cons, delG_wo h.2, List.filter_cons, if_pos (by simpa using fun e => hk e.symm)]
theorem repG_perm {r : Gr} : ∀ (X : List (Gr × Nat)), (∃ x ∈ X, x.1.1 = r.1) → ((repG r X).map (·.1)).Perm (r :: (delG r.1 X).map (·.1))
  | [], h => by obtain ⟨x, hx, -⟩ := h; cases hx
  | x :: X, h => by
    by_cases hk : r.1 = x.1.1
    · unfold delG repG
      rw [if_pos hk, if_pos hk, List.map_cons]
    · obtain ⟨y, hy, e⟩ := h
      rcases List.mem_cons.1 hy with rfl | hy
      · exact absurd e.symm hk
      · unfold delG repG
        rw [if_neg hk, if_neg hk, List.map_cons, List.map_cons]
        exact (List.Perm.cons x.1 (repG_perm X ⟨y, hy, e⟩)).trans (List.Perm.swap _ _ _)
section
variable {st : St} {X : List (PO × Nat)} {co : Nat} {G : List (Gr × Nat)} {cg : Nat}
theorem LX.ownG (h : LX st X co G cg) (ho : st.gs.Pairwise fun a b => a.1 ≠ b.1) : (G.map (·.1)).Pairwise fun a b => a.1 ≠ b.1 := (h.gs.pairwise_iff (fun h => h.symm)).2 ho
/-- A grave is dug. -/
theorem LX.putG (h : LX st X co G cg) (ho : st.gs.Pairwise fun a b => a.1 ≠ b.1) (r : Gr) (hr : st.fl < r.2) : ∃ G' cg', LX ⟨st.os, r :: st.gs.filter (fun g => decide (g.1 ≠ r.1)), st.fl⟩ X co G' cg' ∧
    (∀ {E : Env} {t : Tm} {H : Hp} {x y z : Operand} {ty : TypeId} {b : Nat}, ev t x = some (.map (some b)) → ev t y = some (K3 r.1) → ev t z = some (I r.2) → MapAt E H encKt b (G.map enG) cg →
      OpW Try.prog E (.mapUpdate 74 x y z) ty t H b (mapO encKt (G'.map enG) cg') .skip) := by
  have hwo := (h.gs.filter fun g => decide (g.1 ≠ r.1))
  have hup : ∀ g ∈ r :: st.gs.filter (fun g => decide (g.1 ≠ r.1)), st.fl < g.2 := fun g hg => by
    rcases List.mem_cons.1 hg with rfl | hg
    · exact hr
    · exact h.up g (List.mem_filter.1 hg).1
  cases hf : fndK r.1 (G.map enG) 0 with
  | none =>
    have hno : ∀ x ∈ G, x.1.1 ≠ r.1 := fun x hx => fndK_none.1 hf (enG x) (List.mem_map.2 ⟨x, hx, rfl⟩)
    have hself : (G.map (·.1)).filter (fun g => decide (g.1 ≠ r.1)) = G.map (·.1) := List.filter_eq_self.2 fun o ho => by
      obtain ⟨x, hx, rfl⟩ := List.mem_map.1 ho
      simpa using hno x hx
    refine ⟨G ++ [(r, cg)], cg + 1, ⟨h.os, ?_, h.bo, h.lo, ?_, fun x hx => ?_, hup⟩, ?_⟩
    · rw [List.map_append]
      refine List.perm_append_comm.trans (List.Perm.cons r ?_)
      rw [hself] at hwo
      exact hwo
    · rw [List.map_append]
      refine List.nodup_append.2 ⟨h.bg, by simp, fun a ha b hb e => ?_⟩
      obtain ⟨x, hx, rfl⟩ := List.mem_map.1 ha
      have := h.lg x hx
      rw [List.map_singleton, List.mem_singleton] at hb
      simp only at *
      omega
    · rcases List.mem_append.1 hx with hx | hx
      · have := h.lg x hx; omega
      · rw [List.mem_singleton.1 hx]; exact Nat.lt_succ_self _
    · intro E t H x y z ty b hx hy hz hb
      have := ow_mput (P := Try.prog) (mt := 74) (kt := 35) (et := 2) (ty := ty) (enc := encKt) (k := r.1) hx hy hz hb hf
      rw [List.map_append]
      exact this
  | some q =>
    obtain ⟨i, u⟩ := q
    obtain ⟨-, bo, hi⟩ := fndK_some hf
    obtain ⟨x0, hx0, e0⟩ := List.mem_map.1 (List.mem_of_getElem? hi)
    have hex : ∃ x ∈ G, x.1.1 = r.1 := ⟨x0, hx0, congrArg (fun y : En Kt => y.1) e0⟩
    refine ⟨repG r G, cg, ⟨h.os, ?_, h.bo, h.lo, ?_, fun x hx => ?_, hup⟩, ?_⟩
    · refine (repG_perm G hex).trans (List.Perm.cons r ?_)
      rw [delG_wo (h.ownG ho)]
      exact hwo
    · rw [repG_stamps]; exact h.bg
    · have : x.2 ∈ (repG r G).map (·.2) := List.mem_map.2 ⟨x, hx, rfl⟩
      rw [repG_stamps] at this
      obtain ⟨y, hy, e⟩ := List.mem_map.1 this
      rw [← e]; exact h.lg y hy
    · intro E t H x y z ty b hx hy hz hb
      rw [← repG_map]
      exact ow_mset (P := Try.prog) (mt := 74) (kt := 35) (et := 2) (ty := ty) (enc := encKt) (k := r.1) hx hy hz hb hf
/-- A grave goes. -/
theorem LX.delG (h : LX st X co G cg) (ho : st.gs.Pairwise fun a b => a.1 ≠ b.1) (k : Kt) : LX ⟨st.os, st.gs.filter (fun g => decide (g.1 ≠ k)), st.fl⟩ X co (delG k G) cg ∧
    (∀ {E : Env} {t : Tm} {H : Hp} {x y : Operand} {ty : TypeId} {b : Nat}, ev t x = some (.map (some b)) → ev t y = some (K3 k) → MapAt E H encKt b (G.map enG) cg →
      OpW Try.prog E (.call ⟨.builtin .delete, #[x, y], #[74, 35]⟩) ty t H b (mapO encKt ((Chm.delG k G).map enG) cg) (.value (.tuple #[]))) := by
  refine ⟨⟨h.os, ?_, h.bo, h.lo, h.bg.sublist ((delG_sub G).map _), fun x hx => h.lg x ((delG_sub G).subset hx), fun g hg => h.up g (List.mem_filter.1 hg).1⟩, ?_⟩
  · rw [delG_wo (h.ownG ho)]
    exact h.gs.filter _
  · intro E t H x y ty b hx hy hb
    rw [← delG_map]
    exact ow_mdel (P := Try.prog) (mt := 74) (et := 2) (ty := ty) (enc := encKt) (k := k) hx hy hb
end
end Chm
end Go.Proofs.Ytbllkmhkpapgeaa
