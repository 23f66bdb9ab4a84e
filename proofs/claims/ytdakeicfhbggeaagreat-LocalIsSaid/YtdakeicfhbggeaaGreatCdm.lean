/- The landed cache's maps as they turn: an object put, an object gone, graves; conditions: none. -/
import Derived.Test.YtdakeicfhbggeaaGreatCdc
import Derived.Test.YtdakeicfhbggeaaGreatCsx
import Derived.Test.YtdakeicfhbggeaaGreatCdi
import Derived.Test.YtdakeicfhbggeaaGreatChy
/- Cdj: The landed cache's maps as they turn: an object put, an object gone, graves; conditions: none. -/
namespace Go.Proofs.YtdakeicfhbggeaaGreat
namespace Chm
open Go Go.RowKit Sx Lab Vec Ojt Evt
attribute [local irreducible] Go.Calls
def repX (k : Kt) (p : PO) : List (PO × Nat) → List (PO × Nat)
  | [] => []
  | x :: X => if k = keyO x.1.2 then (p, x.2) :: X else x :: repX k p X
def delX (k : Kt) : List (PO × Nat) → List (PO × Nat)
  | [] => []
  | x :: X => if k = keyO x.1.2 then X else x :: delX k X
theorem repX_map {k : Kt} {p : PO} (hk : keyO p.2 = k) : ∀ (X : List (PO × Nat)), setK k (OV p.2 p.1) (X.map enO) = (repX k p X).map enO
  | [] => rfl
  | x :: X => by
    rw [List.map_cons]
    unfold setK repX
    show (if k = keyO x.1.2 then _ else _) = _
    by_cases h : k = keyO x.1.2
    · rw [if_pos h, if_pos h, List.map_cons, ← hk]
      rfl
    · rw [if_neg h, if_neg h, List.map_cons, repX_map hk X]
theorem delX_map {k : Kt} : ∀ (X : List (PO × Nat)), delK k (X.map enO) = (delX k X).map enO
  | [] => rfl
  | x :: X => by
    rw [List.map_cons]
    unfold delK delX
    show (if k = keyO x.1.2 then _ else _) = _
    by_cases h : k = keyO x.1.2
    · rw [if_pos h, if_pos h]
    · rw [if_neg h, if_neg h, List.map_cons, delX_map X]
theorem repX_stamps {k : Kt} {p : PO} : ∀ (X : List (PO × Nat)), (repX k p X).map (·.2) = X.map (·.2)
  | [] => rfl
  | x :: X => by
    unfold repX
    by_cases h : k = keyO x.1.2
    · rw [if_pos h, List.map_cons, List.map_cons]
    · rw [if_neg h, List.map_cons, List.map_cons, repX_stamps X]
theorem delX_sub {k : Kt} : ∀ (X : List (PO × Nat)), (delX k X).Sublist X
  | [] => List.Sublist.refl _
  | x :: X => by
    unfold delX
    by_cases h : k = keyO x.1.2
    · rw [if_pos h]; exact List.sublist_cons_self x X
    · rw [if_neg h]; exact (delX_sub X).cons_cons x
theorem delX_perm {k : Kt} : ∀ (X : List (PO × Nat)), (∃ x ∈ X, keyO x.1.2 = k) → ∃ old : PO × Nat, keyO old.1.2 = k ∧ X.Perm (old :: delX k X) ∧ ∀ p, ((repX k p X).map (·.1)).Perm (p :: (delX k X).map (·.1))
  | [], h => by obtain ⟨x, hx, -⟩ := h; cases hx
  | x :: X, h => by
    by_cases hk : k = keyO x.1.2
    · refine ⟨x, hk.symm, ?_, fun p => ?_⟩
      · unfold delX; rw [if_pos hk]
      · unfold delX repX
        rw [if_pos hk, if_pos hk, List.map_cons]
    · obtain ⟨y, hy, e⟩ := h
      rcases List.mem_cons.1 hy with rfl | hy
      · exact absurd e.symm hk
      · obtain ⟨old, h1, h2, h3⟩ := delX_perm X ⟨y, hy, e⟩
        refine ⟨old, h1, ?_, fun p => ?_⟩
        · unfold delX
          rw [if_neg hk]
          exact (List.Perm.cons x h2).trans (List.Perm.swap _ _ _)
        · unfold delX repX
          rw [if_neg hk, if_neg hk, List.map_cons, List.map_cons]
          exact (List.Perm.cons x.1 (h3 p)).trans (List.Perm.swap _ _ _)
theorem delX_wo {k : Kt} : ∀ {X : List (PO × Nat)}, Own (X.map fun x => x.1.2) → (delX k X).map (fun x => x.1.2) = woO (X.map fun x => x.1.2) k
  | [], _ => rfl
  | x :: X, h => by
    unfold Own at h
    rw [List.map_cons, List.pairwise_cons] at h
    unfold delX
    rw [List.map_cons]
    by_cases hk : k = keyO x.1.2
    · rw [if_pos hk]
      have h2 : woO (X.map fun x => x.1.2) k = X.map fun x => x.1.2 := woO_none fun o ho e => h.1 o ho (by rw [← hk, e])
      unfold woO at h2 ⊢
      rw [List.filter_cons, if_neg (by simp [hk])]
      exact h2.symm
    · rw [if_neg hk, List.map_cons, delX_wo h.2]
      unfold woO
      rw [List.filter_cons, if_pos (by simpa using fun e => hk e.symm)]
section
variable {st : St} {X : List (PO × Nat)} {co : Nat} {G : List (Gr × Nat)} {cg : Nat}
theorem LX.own (h : LX st X co G cg) (ho : Own st.os) : Own (X.map fun x => x.1.2) := (h.os.pairwise_iff (fun h => h.symm)).2 ho
theorem LX.put (h : LX st X co G cg) (ho : Own st.os) (p : PO) : ∃ X' co', LX ⟨woO st.os (keyO p.2) ++ [p.2], st.gs, st.fl⟩ X' co' G cg ∧
    (∀ {E : Env} {t : Tm} {H : Hp} {x y z : Operand} {ty : TypeId} {b : Nat}, ev t x = some (.map (some b)) → ev t y = some (K3 (keyO p.2)) → ev t z = some (OV p.2 p.1) → MapAt E H encKt b (X.map enO) co →
      OpW Tryz.prog E (.mapUpdate 115 x y z) ty t H b (mapO encKt (X'.map enO) co') .skip) ∧
    ∀ Z : List PO, ∃ Z', (p :: (X.map (·.1) ++ Z)).Perm (X'.map (·.1) ++ Z') := by
  have hwo := (h.os.filter fun o => decide (keyO o ≠ keyO p.2))
  cases hf : fndK (keyO p.2) (X.map enO) 0 with
  | none =>
    have hno : ∀ x ∈ X, keyO x.1.2 ≠ keyO p.2 := fun x hx => fndK_none.1 hf (enO x) (List.mem_map.2 ⟨x, hx, rfl⟩)
    have hself : woO (X.map fun x => x.1.2) (keyO p.2) = X.map fun x => x.1.2 := woO_none fun o ho => by
      obtain ⟨x, hx, rfl⟩ := List.mem_map.1 ho
      exact hno x hx
    refine ⟨X ++ [(p, co)], co + 1, ⟨?_, h.gs, ?_, fun x hx => ?_, h.bg, h.lg, h.up⟩, ?_, fun Z => ⟨Z, ?_⟩⟩
    · rw [List.map_append]
      refine List.Perm.append ?_ (List.Perm.refl _)
      rw [← hself]
      exact hwo
    · rw [List.map_append]
      refine List.nodup_append.2 ⟨h.bo, by simp, fun a ha b hb e => ?_⟩
      obtain ⟨x, hx, rfl⟩ := List.mem_map.1 ha
      have := h.lo x hx
      rw [List.map_singleton, List.mem_singleton] at hb
      simp only at *
      omega
    · rcases List.mem_append.1 hx with hx | hx
      · have := h.lo x hx; omega
      · rw [List.mem_singleton.1 hx]; exact Nat.lt_succ_self _
    · intro E t H x y z ty b hx hy hz hb
      have := ow_mput (P := Tryz.prog) (mt := 115) (kt := 58) (et := 61) (ty := ty) (enc := encKt) (k := keyO p.2) hx hy hz hb hf
      rw [List.map_append]
      exact this
    · rw [List.map_append]
      rw [List.append_assoc]
      exact (List.perm_middle (l₁ := X.map (·.1)) (a := p) (l₂ := Z)).symm
  | some q =>
    obtain ⟨i, u⟩ := q
    obtain ⟨-, bo, hi⟩ := fndK_some hf
    obtain ⟨x0, hx0, e0⟩ := List.mem_map.1 (List.mem_of_getElem? hi)
    have hex : ∃ x ∈ X, keyO x.1.2 = keyO p.2 := ⟨x0, hx0, congrArg Prod.fst e0⟩
    obtain ⟨old, h1, h2, h3⟩ := delX_perm X hex
    refine ⟨repX (keyO p.2) p X, co, ⟨?_, h.gs, ?_, fun x hx => ?_, h.bg, h.lg, h.up⟩, ?_, fun Z => ⟨old.1 :: Z, ?_⟩⟩
    · have e1 : (repX (keyO p.2) p X).map (fun x => x.1.2) = ((repX (keyO p.2) p X).map (·.1)).map (·.2) := by rw [List.map_map]; rfl
      rw [e1]
      refine ((h3 p).map (·.2)).trans ?_
      rw [List.map_cons, List.map_map]
      show (p.2 :: (delX (keyO p.2) X).map fun x => x.1.2).Perm _
      rw [delX_wo (h.own ho)]
      exact (List.Perm.cons p.2 hwo).trans (List.perm_append_comm (l₁ := [p.2]))
    · rw [repX_stamps]; exact h.bo
    · have : x.2 ∈ (repX (keyO p.2) p X).map (·.2) := List.mem_map.2 ⟨x, hx, rfl⟩
      rw [repX_stamps] at this
      obtain ⟨y, hy, e⟩ := List.mem_map.1 this
      rw [← e]; exact h.lo y hy
    · intro E t H x y z ty b hx hy hz hb
      rw [← repX_map rfl]
      exact ow_mset (P := Tryz.prog) (mt := 115) (kt := 58) (et := 61) (ty := ty) (enc := encKt) (k := keyO p.2) hx hy hz hb hf
    · refine (List.Perm.cons p ((h2.map (·.1)).append_right Z)).trans ?_
      rw [List.map_cons]
      refine List.Perm.trans ?_ ((h3 p).symm.append_right (old.1 :: Z))
      rw [List.cons_append, List.cons_append]
      exact List.Perm.cons p List.perm_middle.symm
theorem LX.del (h : LX st X co G cg) (ho : Own st.os) (k : Kt) : LX ⟨woO st.os k, st.gs, st.fl⟩ (delX k X) co G cg ∧
    (∀ {E : Env} {t : Tm} {H : Hp} {x y : Operand} {ty : TypeId} {b : Nat}, ev t x = some (.map (some b)) → ev t y = some (K3 k) → MapAt E H encKt b (X.map enO) co →
      OpW Tryz.prog E (.call ⟨.builtin .delete, #[x, y], #[115, 58]⟩) ty t H b (mapO encKt ((delX k X).map enO) co) (.value (.tuple #[]))) ∧
    ∀ Z : List PO, ∃ Z', (X.map (·.1) ++ Z).Perm ((delX k X).map (·.1) ++ Z') := by
  refine ⟨⟨?_, h.gs, h.bo.sublist ((delX_sub X).map _), fun x hx => h.lo x ((delX_sub X).subset hx), h.bg, h.lg, h.up⟩, ?_, fun Z => ?_⟩
  · rw [delX_wo (h.own ho)]
    exact h.os.filter _
  · intro E t H x y ty b hx hy hb
    rw [← delX_map]
    exact ow_mdel (P := Tryz.prog) (mt := 115) (et := 61) (ty := ty) (enc := encKt) (k := k) hx hy hb
  · by_cases hex : ∃ x ∈ X, keyO x.1.2 = k
    · obtain ⟨old, h1, h2, -⟩ := delX_perm X hex
      refine ⟨old.1 :: Z, ((h2.map (·.1)).append_right Z).trans ?_⟩
      rw [List.map_cons]
      exact List.perm_middle.symm
    · refine ⟨Z, ?_⟩
      have : delX k X = X := by
        have key : ∀ Y : List (PO × Nat), (∀ x ∈ Y, keyO x.1.2 ≠ k) → delX k Y = Y := by
          intro Y
          induction Y with
          | nil => intro _; rfl
          | cons y Y ih =>
            intro hY
            unfold delX
            rw [if_neg fun e => hY y List.mem_cons_self e.symm, ih fun x hx => hY x (List.mem_cons_of_mem y hx)]
        exact key X fun x hx e => hex ⟨x, hx, e⟩
      rw [this]
end
def repG (r : Gr) : List (Gr × Nat) → List (Gr × Nat)
  | [] => []
  | x :: X => if r.1 = x.1.1 then (r, x.2) :: X else x :: repG r X
def delG (k : Kt) : List (Gr × Nat) → List (Gr × Nat)
  | [] => []
  | x :: X => if k = x.1.1 then X else x :: delG k X
theorem repG_map {r : Gr} : ∀ (X : List (Gr × Nat)), setK r.1 (I r.2) (X.map enG) = (repG r X).map enG
  | [] => rfl
  | x :: X => by
    rw [List.map_cons]
    unfold setK repG
    show (if r.1 = x.1.1 then _ else _) = _
    by_cases h : r.1 = x.1.1
    · rw [if_pos h, if_pos h, List.map_cons]
      rfl
    · rw [if_neg h, if_neg h, List.map_cons, repG_map X]
theorem delG_map {k : Kt} : ∀ (X : List (Gr × Nat)), delK k (X.map enG) = (delG k X).map enG
  | [] => rfl
  | x :: X => by
    rw [List.map_cons]
    unfold delK delG
    show (if k = x.1.1 then _ else _) = _
    by_cases h : k = x.1.1
    · rw [if_pos h, if_pos h]
    · rw [if_neg h, if_neg h, List.map_cons, delG_map X]
theorem repG_stamps {r : Gr} : ∀ (X : List (Gr × Nat)), (repG r X).map (·.2) = X.map (·.2)
  | [] => rfl
  | x :: X => by
    unfold repG
    by_cases h : r.1 = x.1.1
    · rw [if_pos h, List.map_cons, List.map_cons]
    · rw [if_neg h, List.map_cons, List.map_cons, repG_stamps X]
theorem delG_sub {k : Kt} : ∀ (X : List (Gr × Nat)), (delG k X).Sublist X
  | [] => List.Sublist.refl _
  | x :: X => by
    unfold delG
    by_cases h : k = x.1.1
    · rw [if_pos h]; exact List.sublist_cons_self x X
    · rw [if_neg h]; exact (delG_sub X).cons_cons x
theorem delG_wo {k : Kt} : ∀ {X : List (Gr × Nat)}, (X.map (·.1)).Pairwise (fun a b => a.1 ≠ b.1) → (delG k X).map (·.1) = (X.map (·.1)).filter fun g => decide (g.1 ≠ k)
  | [], _ => rfl
  | x :: X, h => by
    rw [List.map_cons, List.pairwise_cons] at h
    unfold delG
    rw [List.map_cons]
    by_cases hk : k = x.1.1
    · rw [if_pos hk, List.filter_cons, if_neg (by simp [hk])]
      exact (List.filter_eq_self.2 fun o ho => by simpa using fun e => h.1 o ho (by rw [← hk, e])).symm
    · rw [if_neg hk, List.map_cons, delG_wo h.2, List.filter_cons, if_pos (by simpa using fun e => hk e.symm)]
theorem repG_perm {r : Gr} : ∀ (X : List (Gr × Nat)), (∃ x ∈ X, x.1.1 = r.1) → ((repG r X).map (·.1)).Perm (r :: (delG r.1 X).map (·.1))
  | [], h => by obtain ⟨x, hx, -⟩ := h; cases hx
  | x :: X, h => by
    by_cases hk : r.1 = x.1.1
    · unfold delG repG
      rw [if_pos hk, if_pos hk, List.map_cons]
    · obtain ⟨y, hy, e⟩ := h
      rcases List.mem_cons.1 hy with rfl | hy
      · exact absurd e.symm hk
      · unfold delG repG
        rw [if_neg hk, if_neg hk, List.map_cons, List.map_cons]
        exact (List.Perm.cons x.1 (repG_perm X ⟨y, hy, e⟩)).trans (List.Perm.swap _ _ _)
section
variable {st : St} {X : List (PO × Nat)} {co : Nat} {G : List (Gr × Nat)} {cg : Nat}
theorem LX.ownG (h : LX st X co G cg) (ho : st.gs.Pairwise fun a b => a.1 ≠ b.1) : (G.map (·.1)).Pairwise fun a b => a.1 ≠ b.1 := (h.gs.pairwise_iff (fun h => h.symm)).2 ho
theorem LX.putG (h : LX st X co G cg) (ho : st.gs.Pairwise fun a b => a.1 ≠ b.1) (r : Gr) (hr : st.fl < r.2) : ∃ G' cg', LX ⟨st.os, r :: st.gs.filter (fun g => decide (g.1 ≠ r.1)), st.fl⟩ X co G' cg' ∧
    (∀ {E : Env} {t : Tm} {H : Hp} {x y z : Operand} {ty : TypeId} {b : Nat}, ev t x = some (.map (some b)) → ev t y = some (K3 r.1) → ev t z = some (I r.2) → MapAt E H encKt b (G.map enG) cg →
      OpW Tryz.prog E (.mapUpdate 116 x y z) ty t H b (mapO encKt (G'.map enG) cg') .skip) := by
  have hwo := (h.gs.filter fun g => decide (g.1 ≠ r.1))
  have hup : ∀ g ∈ r :: st.gs.filter (fun g => decide (g.1 ≠ r.1)), st.fl < g.2 := fun g hg => by
    rcases List.mem_cons.1 hg with rfl | hg
    · exact hr
    · exact h.up g (List.mem_filter.1 hg).1
  cases hf : fndK r.1 (G.map enG) 0 with
  | none =>
    have hno : ∀ x ∈ G, x.1.1 ≠ r.1 := fun x hx => fndK_none.1 hf (enG x) (List.mem_map.2 ⟨x, hx, rfl⟩)
    have hself : (G.map (·.1)).filter (fun g => decide (g.1 ≠ r.1)) = G.map (·.1) := List.filter_eq_self.2 fun o ho => by
      obtain ⟨x, hx, rfl⟩ := List.mem_map.1 ho
      simpa using hno x hx
    refine ⟨G ++ [(r, cg)], cg + 1, ⟨h.os, ?_, h.bo, h.lo, ?_, fun x hx => ?_, hup⟩, ?_⟩
    · rw [List.map_append]
      refine List.perm_append_comm.trans (List.Perm.cons r ?_)
      rw [hself] at hwo
      exact hwo
    · rw [List.map_append]
      refine List.nodup_append.2 ⟨h.bg, by simp, fun a ha b hb e => ?_⟩
      obtain ⟨x, hx, rfl⟩ := List.mem_map.1 ha
      have := h.lg x hx
      rw [List.map_singleton, List.mem_singleton] at hb
      simp only at *
      omega
    · rcases List.mem_append.1 hx with hx | hx
      · have := h.lg x hx; omega
      · rw [List.mem_singleton.1 hx]; exact Nat.lt_succ_self _
    · intro E t H x y z ty b hx hy hz hb
      have := ow_mput (P := Tryz.prog) (mt := 116) (kt := 58) (et := 2) (ty := ty) (enc := encKt) (k := r.1) hx hy hz hb hf
      rw [List.map_append]
      exact this
  | some q =>
    obtain ⟨i, u⟩ := q
    obtain ⟨-, bo, hi⟩ := fndK_some hf
    obtain ⟨x0, hx0, e0⟩ := List.mem_map.1 (List.mem_of_getElem? hi)
    have hex : ∃ x ∈ G, x.1.1 = r.1 := ⟨x0, hx0, congrArg (fun y : En Kt => y.1) e0⟩
    refine ⟨repG r G, cg, ⟨h.os, ?_, h.bo, h.lo, ?_, fun x hx => ?_, hup⟩, ?_⟩
    · refine (repG_perm G hex).trans (List.Perm.cons r ?_)
      rw [delG_wo (h.ownG ho)]
      exact hwo
    · rw [repG_stamps]; exact h.bg
    · have : x.2 ∈ (repG r G).map (·.2) := List.mem_map.2 ⟨x, hx, rfl⟩
      rw [repG_stamps] at this
      obtain ⟨y, hy, e⟩ := List.mem_map.1 this
      rw [← e]; exact h.lg y hy
    · intro E t H x y z ty b hx hy hz hb
      rw [← repG_map]
      exact ow_mset (P := Tryz.prog) (mt := 116) (kt := 58) (et := 2) (ty := ty) (enc := encKt) (k := r.1) hx hy hz hb hf
theorem LX.delG (h : LX st X co G cg) (ho : st.gs.Pairwise fun a b => a.1 ≠ b.1) (k : Kt) : LX ⟨st.os, st.gs.filter (fun g => decide (g.1 ≠ k)), st.fl⟩ X co (delG k G) cg ∧
    (∀ {E : Env} {t : Tm} {H : Hp} {x y : Operand} {ty : TypeId} {b : Nat}, ev t x = some (.map (some b)) → ev t y = some (K3 k) → MapAt E H encKt b (G.map enG) cg →
      OpW Tryz.prog E (.call ⟨.builtin .delete, #[x, y], #[116, 58]⟩) ty t H b (mapO encKt ((Chm.delG k G).map enG) cg) (.value (.tuple #[]))) := by
  refine ⟨⟨h.os, ?_, h.bo, h.lo, h.bg.sublist ((delG_sub G).map _), fun x hx => h.lg x ((delG_sub G).subset hx), fun g hg => h.up g (List.mem_filter.1 hg).1⟩, ?_⟩
  · rw [delG_wo (h.ownG ho)]
    exact h.gs.filter _
  · intro E t H x y ty b hx hy hb
    rw [← delG_map]
    exact ow_mdel (P := Tryz.prog) (mt := 116) (et := 2) (ty := ty) (enc := encKt) (k := k) hx hy hb
end
end Chm
end Go.Proofs.YtdakeicfhbggeaaGreat
/- Cdk: The landed cache as it turns: its maps made, deltas taken, graves dug and covered; conditions: names of at most 1,000 bytes. -/
namespace Go.Proofs.YtdakeicfhbggeaaGreat
namespace Chm
open Go Go.RowKit Sx Lab Vec Ojt Evt
attribute [local irreducible] Go.Calls
abbrev CB (g : Nat) (mo mg : Option Nat) (fl : Int) : Nat × Obj := (g, .cells #[.map mo, .map mg, I fl] 118 (0, 0))
def Made (st : St) (g : Nat) (l : Hp) : Prop :=
  ∃ (bo bg : Nat) (X : List (PO × Nat)) (co : Nat) (G : List (Gr × Nat)) (cg : Nat) (ls : Hp) (Z : List PO), l = CB g (some bo) (some bg) st.fl :: (bo, mapO encKt (X.map enO) co) :: (bg, mapO encKt (G.map enG) cg) :: ls ∧ Parts KO ls ((X.map fun x => x.1) ++ Z) ∧ LX st X co G cg
theorem Made.ch {st : St} {g : Nat} {l : Hp} (h : Made st g l) : LCh st g l := by
  obtain ⟨bo, bg, X, co, G, cg, ls, Z, rfl, h1, h2⟩ := h
  exact ⟨some bo, some bg, X, co, G, cg, [_], [_], ls, Z, rfl, .inr ⟨bo, rfl, rfl⟩, .inr ⟨bg, rfl, rfl⟩, rfl, h1, h2⟩
theorem callsHp {P : Program} {B m : Nat} {w0 : World} {f : FuncId} {fn : Func} {c : Code} {args : List Value} {n : Nat} {H : Hp} {K : Hp → Prop}
    (hf : P.funcs[f]? = some fn) (hb : fn.body = some c) (hn : fn.ntmps = n) (hl : Nat.ble args.length n = true) (hr : fn.results = #[])
    (h : aw P ⟨B, w0, n⟩ c (ret0 fun H' => ∃ H2 H1 : Hp, H2.Sublist H' ∧ H2.Perm H1 ∧ K H1) (tm0 args) H) : CallsH P ⟨B, w0, m⟩ f args H fun u H' => u = .tuple #[] ∧ K H' := by
  have h2 : aw P ⟨B, w0, n⟩ c (ret0 fun H' => ∃ H1 : Hp, H1.Sublist H' ∧ ∃ H2 : Hp, H1.Perm H2 ∧ K H2) (tm0 args) H := aw_mono h fun e t H q => by
    cases e with
    | normal => obtain ⟨H2, H1, a, b, c⟩ := q; exact ⟨H2, a, H1, b, c⟩
    | ret => obtain ⟨H2, H1, a, b, c⟩ := q; exact ⟨H2, a, H1, b, c⟩
    | exit _ => exact q.elim
    | goto _ => exact q.elim
    | panic _ => exact q.elim
    | outgrown => exact q.elim
  intro hid w hh
  exact (callsH0 (m := m) hf hb hn hl hr h2 hid w hh).mono fun _ _ ⟨v, H', he, hr2, hu, H1, hp, hk⟩ => ⟨v, H1, he, hr2.perm (hp.append_right hid), hu, hk⟩
set_option maxHeartbeats 8000000 in
theorem ready_ok {m : Nat} {w0 : World} {st : St} {g : Nat} {l : Hp} (h : LCh st g l) (R : Hp) :
    CallsH Tryz.prog ⟨w0.heap.size, w0, m⟩ 52 [.pointer (some ⟨g, 0, none⟩)] (l ++ R) fun u H' => u = .tuple #[] ∧ ∃ l', H' = l' ++ R ∧ Made st g l' := by
  obtain ⟨mo, mg, X, co, G, cg, lo, lg, ls, Z, rfl, h1, h2, h3, h4, h5⟩ := h
  refine callsHp Tryz.func52 rfl rfl rfl rfl ?_
  rcases h1 with ⟨rfl, hX, rfl, rfl⟩ | ⟨bo, rfl, rfl⟩
  · rcases h2 with ⟨rfl, hG, rfl, rfl⟩ | ⟨bg, rfl, rfl⟩
    · obtain rfl := List.map_eq_nil_iff.1 hX
      obtain rfl := List.map_eq_nil_iff.1 hG
      show aw _ _ _ _ _ (CB g none none st.fl :: (ls ++ R))
      repeat' (first | refine aw_seq ?_ | ((first | apply ao_val | apply aq_val); exact wants_a; (first | exact ov_nilcheck rfl | exact ov_meq0 rfl rfl | exact ov_a); (exact rfl)) | refine zy ?_ | refine zon fun _ => ?_ | refine zoa fun vr lr hr => ?_ | (apply ao_new; exact wants_a; exact on_makeMap; exact rfl; intro bm) | refine zoS (fun _ => ?_) (fun _ => ?_) | refine zqS (fun _ => ?_) (fun _ => ?_) | refine zwS (fun _ => ?_) (fun _ => ?_))
      rename_i bo
      refine r0_normal ⟨_, _, List.Sublist.refl _, ?_, _, rfl, bo, bm, [], 0, [], 0, ls, Z, rfl, h4, h5⟩
      exact (List.perm_middle (l₁ := [_, _])).trans (List.Perm.cons _ (List.Perm.swap _ _ _))
    · cases h3
  · rcases h2 with ⟨rfl, hG, rfl, rfl⟩ | ⟨bg, rfl, rfl⟩
    · cases h3
    · show aw _ _ _ _ _ (CB g (some bo) (some bg) st.fl :: (bo, mapO encKt (X.map enO) co) :: (bg, mapO encKt (G.map enG) cg) :: (ls ++ R))
      repeat' (first | refine aw_seq ?_ | ((first | apply ao_val | apply aq_val); exact wants_a; (first | exact ov_nilcheck rfl | exact ov_meqs rfl rfl | exact ov_a); (exact rfl)) | refine zy ?_ | refine zon fun _ => ?_ | refine zoa fun vr lr hr => ?_ | refine zoS (fun _ => ?_) (fun _ => ?_) | refine zqS (fun _ => ?_) (fun _ => ?_) | refine zwS (fun _ => ?_) (fun _ => ?_))
      exact r0_normal ⟨_, _, List.Sublist.refl _, List.Perm.refl _, _, rfl, _, _, X, co, G, cg, ls, Z, rfl, h4, h5⟩
theorem own_play {os : List Ob} {d : De} (h : Own os) (hk : d.has = true → keyO d.new = d.key) : Own (playO os d) := by
  unfold playO
  by_cases hd : d.has = true
  · rw [if_pos hd]
    refine own_snoc (h.filter) fun q hq => ?_
    rw [hk hd]
    simpa using (List.mem_filter.1 hq).2
  · rw [if_neg hd, List.append_nil]
    exact h.filter
theorem perm_take {α : Type} (l1 x ls T : List α) : (l1 ++ (x ++ (ls ++ T))).Perm (x ++ ((l1 ++ ls) ++ T)) := by
  rw [List.append_assoc l1 ls]
  exact List.perm_append_comm_assoc l1 x _
set_option maxHeartbeats 32000000 in
theorem take_ok {m : Nat} {w0 : World} {st : St} {g : Nat} {l : Hp} (h : Made st g l) (hO : Own st.os) (v : Value) (ps : List PD) (l0 ls0 : Hp) (hr : RowB 82 21 v l0 ps.length (ps.flatMap cellsD)) (hpa : Parts KD ls0 ps) (hn : ps.length ≤ 100000)
    (hk : ∀ d ∈ ps, d.has = true → keyO d.new.2 = d.key) (hwn : ∀ d ∈ ps, wfS d.new.2) (R : Hp) :
    CallsH Tryz.prog ⟨w0.heap.size, w0, m⟩ 53 [.pointer (some ⟨g, 0, none⟩), v] (l ++ (l0 ++ (ls0 ++ R))) fun u H' => u = .tuple #[] ∧ ∃ l', H' = l' ++ (l0 ++ (ls0 ++ R)) ∧ Made ⟨madeO st.os (ps.map deD), st.gs, st.fl⟩ g l' := by
  refine callsHp Tryz.func53 rfl rfl rfl rfl ?_
  obtain ⟨a, cp, hvl⟩ : ∃ a c, v = .slice a ps.length c := by
    rcases hr.2 with ⟨e, h0, -⟩ | ⟨g, cap, cur, e, -⟩
    · refine ⟨none, 0, ?_⟩
      rw [h0]; exact e
    · exact ⟨_, _, e⟩
  subst hvl
  repeat' (first | refine aw_seq ?_ | refine zz ?_ | refine zon fun _ => ?_ | refine zoa fun vr lr hr => ?_ | refine zoS (fun _ => ?_) (fun _ => ?_) | refine zqS (fun _ => ?_) (fun _ => ?_) | refine zwS (fun _ => ?_) (fun _ => ?_))
  refine aw_for (t0 := [(0, .pointer (some ⟨g, 0, none⟩)), (6, .slice a ps.length cp), (7, I ps.length), (8, I (0 : Nat))]) (fun q t H => ∃ (i : Nat) (l : Hp), q = ps.length - i ∧ i ≤ ps.length ∧ Made ⟨madeO st.os ((ps.take i).map deD), st.gs, st.fl⟩ g l ∧ Own (madeO st.os ((ps.take i).map deD)) ∧
    t = [(0, .pointer (some ⟨g, 0, none⟩)), (6, .slice a ps.length cp), (7, I ps.length), (8, I i)] ∧ H.Perm (l ++ (l0 ++ (ls0 ++ R)))) ⟨0, l, rfl, Nat.zero_le _, h, hO, rfl, List.Perm.refl _⟩ (by repeat (first | exact sub_nil | refine sub_cons rfl ?_)) ?_
  clear h hO
  rintro q t H ⟨i, l, rfl, hi, h, hO, rfl, hperm⟩
  refine aw_permH hperm ?_
  clear hperm
  obtain ⟨bo, bg, X, co, G, cg, ls, Z, rfl, h1, h2⟩ := h
  show aw _ _ _ _ _ (CB g (some bo) (some bg) st.fl :: (bo, mapO encKt (X.map enO) co) :: (bg, mapO encKt (G.map enG) cg) :: (ls ++ (l0 ++ (ls0 ++ R))))
  by_cases hlt : i < ps.length
  · obtain ⟨d, he⟩ := getP hlt
    have hdm := List.mem_of_getElem? he
    have hkd := hk d hdm
    have hwd := hwn d hdm
    obtain ⟨ga, capA, cs, hva, hl0, hcell⟩ := RowB.cells_all cellsD_len hr (by omega)
    simp only [Value.slice.injEq] at hva
    obtain ⟨rfl, -, rfl⟩ := hva
    have htk : madeO st.os ((ps.take (i + 1)).map deD) = playO (madeO st.os ((ps.take i).map deD)) (deD d) := by
      rw [List.take_add_one, he, List.map_append]
      unfold madeO
      rw [List.foldl_append]
      rfl
    have hO2 := own_play (d := deD d) hO hkd
    rw [← htk] at hO2
    obtain ⟨lk, Rk, hck, l1, l2, rfl, k1, k2⟩ := hpa.at hdm
    have hck2 : Cut ls0 l2 (l1 ++ Rk) := by
      unfold Cut at hck ⊢
      refine hck.trans ?_
      rw [← List.append_assoc]
      exact List.Perm.append_right Rk List.perm_append_comm
    obtain ⟨⟨kk, ks, kn⟩, had, has, ⟨ov, ⟨ok, os, on, over, oc, otm, obs, ors⟩⟩, ⟨nv, ⟨nk, ns, nn, nver, nc, ntm, nbs, nrs⟩⟩⟩ := d
    obtain ⟨oa, oc2, hov⟩ := k1.len
    obtain ⟨na, nc2, hnv⟩ : ∃ a c, nv = .slice a nrs.length c := by
      rcases k2.2 with ⟨e, h0, -⟩ | ⟨g, cap, cur, e, -⟩
      · have h00 : nrs.length = 0 := h0
        refine ⟨none, 0, ?_⟩
        rw [h00]; exact e
      · exact ⟨_, _, e⟩
    simp only at hov
    subst hov hnv
    have slA := sl_of (off := 0 + (i : Int).toNat * 21) (cs := cs) (vs := cellsD _) (.inl (by rw [cellsD_len]; omega)) fun j y hj => hcell i _ (i : Int) j y he rfl hj
    unfold cellsD at slA
    simp only at slA hwd
    subst hl0
    cases has
    · obtain ⟨q1, q2, q3⟩ := h2.del hO (kk, ks, kn)
      obtain ⟨Z2, hZ⟩ := q3 Z
      have e1 : madeO st.os ((ps.take (i + 1)).map deD) = woO (madeO st.os ((ps.take i).map deD)) (kk, ks, kn) := by
        rw [htk]
        show woO _ _ ++ [] = _
        rw [List.append_nil]
        rfl
      rw [← e1] at q1
      repeat' (first | (apply ao_nilh; exact hsub_a) | apply ao_nil | apply aq_nil | apply ah_end | ((first | apply ao_val | apply aq_val | (apply ah_take; (exact rfl))); exact wants_a; (first | exact ov_nilcheck rfl | exact ov_loada rfl has_a slA rfl | exact ov_a); (exact rfl)) | ((first | apply ao_skip | apply aq_skip | (apply ah_skip; (exact rfl))); exact nots_a; (exact rfl)) | (refine ao_is ?_; first | (apply ao_new; exact wants_a; exact on_a; (exact rfl); intro _) | (apply ao_store; exact wants_a; exact ow_a; exact upd_a) | (apply ao_valw; exact wants_a; exact ox_a; (exact rfl); exact upd_a) | (apply ao_skip0; exact nots_a) | (apply ao_append; exact wants_a; (exact rfl); assumption; (exact rfl); exact cut_a; exact has_a; (exact rfl); (exact rfl); omega; omega; omega; (exact rfl); intro vr lr hr)) | ((apply ao_valw0; exact wants_a; (exact q2 rfl rfl (mapAt_has has_a)); exact upd_a)) | (apply ah_one; (exact rfl)) | (apply ah_two; (exact rfl); (exact rfl)) | (apply ah_three; (exact rfl); (exact rfl); (exact rfl)) | (refine aw_is ?_; first | (apply aw_held (id := 5) (pl := (.t 0 (.t 1 (.t 2 (.t 3 (.t 4 (.t 5 (.o 6 .e)))))))); (kernel_rfl); (kernel_rfl); (kernel_rfl); (solve | (apply hs_keep; apply hs_keep; apply hs_skip; exact List.Sublist.refl _))) | refine aw_seq ?_ | refine aw_block ?_ | refine aw_region ?_ | refine aw_skip ?_ | refine aw_exit ?_ | refine aw_ret ?_ | refine aw_label ?_ | refine aw_scope ?_ | refine aw_cond_t rfl (by with_reducible rfl) ?_ | refine aw_cond_f rfl (by with_reducible rfl) ?_ | refine aw_draw (by kernel_rfl) (by kernel_rfl) ?_) | (first | (refine ah_is ?_; (fail_if_success first | refine ah_glit (b := true) rfl rfl rfl (by with_reducible rfl) ?_ | refine ah_glit (b := false) rfl rfl rfl (by with_reducible rfl) ?_); apply ah_gt; (exact rfl); (exact rfl); (exact rfl); exact t_a) | ((refine ao_is ?_; (fail_if_success first | refine ao_glit (b := true) rfl rfl (by with_reducible rfl) ?_ | refine ao_glit (b := false) rfl rfl (by with_reducible rfl) ?_)); apply ao_gt; (exact rfl); (exact rfl); exact t_a) | ((refine aq_is ?_; (fail_if_success first | refine aq_glit (b := true) rfl rfl (by with_reducible rfl) ?_ | refine aq_glit (b := false) rfl rfl (by with_reducible rfl) ?_)); apply aq_gt; (exact rfl); (exact rfl); exact t_a) | (apply aw_ct; (exact rfl); exact t_a)) | (first | (refine ah_is ?_; (fail_if_success first | refine ah_glit (b := true) rfl rfl rfl (by with_reducible rfl) ?_ | refine ah_glit (b := false) rfl rfl rfl (by with_reducible rfl) ?_); apply ah_gf; (exact rfl); (exact rfl); (exact rfl); exact f_a) | ((refine ao_is ?_; (fail_if_success first | refine ao_glit (b := true) rfl rfl (by with_reducible rfl) ?_ | refine ao_glit (b := false) rfl rfl (by with_reducible rfl) ?_)); apply ao_gf; (exact rfl); (exact rfl); exact f_a) | ((refine aq_is ?_; (fail_if_success first | refine aq_glit (b := true) rfl rfl (by with_reducible rfl) ?_ | refine aq_glit (b := false) rfl rfl (by with_reducible rfl) ?_)); apply aq_gf; (exact rfl); (exact rfl); exact f_a) | (apply aw_cf; (exact rfl); exact f_a)) | refine at_normal ?_ | refine at_exit ?_ | refine at_ret ?_ | refine ib_normal ?_ | refine ib_exit ?_ | refine ib_other ?_ | refine ib_ret ?_ | refine lq_exit ?_ | refine lq_ret ?_ | refine ci_ret ?_ | refine ci_exit ?_ | refine r1_ret rfl ?_ | refine r1_normal rfl ?_ | refine r2_ret rfl rfl ?_ | refine r2_normal rfl rfl ?_ | refine r3_ret rfl rfl rfl ?_ | refine r3_normal rfl rfl rfl ?_ | refine ng_normal ?_ | refine ng_exit ?_ | refine ng_ret ?_ | (apply rt_ret; (exact rfl); (exact rfl); (exact rfl); exact has_a; exact has_a; (exact rfl); (exact rfl)) | (apply rc1_ret; (exact rfl); exact has_a; (exact rfl)) | (apply rc2_ret; (exact rfl); exact has_a; (exact rfl); (exact rfl)) | (refine ao_is ?_; (fail_if_success first | refine ao_glit (b := true) rfl rfl (by with_reducible rfl) ?_ | refine ao_glit (b := false) rfl rfl (by with_reducible rfl) ?_); refine ao_gbool rfl rfl (fun _ => ?_) (fun _ => ?_)) | (refine aq_is ?_; (fail_if_success first | refine aq_glit (b := true) rfl rfl (by with_reducible rfl) ?_ | refine aq_glit (b := false) rfl rfl (by with_reducible rfl) ?_); refine aq_gbool rfl rfl (fun _ => ?_) (fun _ => ?_)) | (refine aw_is ?_; refine aw_cond rfl (fun _ => ?_) (fun _ => ?_)))
      exact lq_normal' ⟨i + 1, _, rfl, by omega, ⟨bo, bg, delX (kk, ks, kn) X, co, G, cg, ls, Z2, rfl, parts_perm hZ h1, q1⟩, hO2, rfl, List.Perm.refl _⟩ (by omega) (by repeat (first | exact sub_nil | refine sub_cons rfl ?_)) hsub_a
    · have hown := fun w' hv => Ojt.own_ok ⟨nk, ns, nn, nver, nc, ntm, nbs, nrs⟩ (.slice na nrs.length nc2) hwd.wfO w' hv
      repeat' (first | (apply ao_nilh; exact hsub_a) | apply ao_nil | apply aq_nil | apply ah_end | ((first | apply ao_val | apply aq_val | (apply ah_take; (exact rfl))); exact wants_a; (first | exact ov_nilcheck rfl | exact ov_loada rfl has_a slA rfl | exact ov_a); (exact rfl)) | ((first | apply ao_skip | apply aq_skip | (apply ah_skip; (exact rfl))); exact nots_a; (exact rfl)) | (refine ao_is ?_; first | (apply ao_new; exact wants_a; exact on_a; (exact rfl); intro _) | (apply ao_store; exact wants_a; exact ow_a; exact upd_a) | (apply ao_valw; exact wants_a; exact ox_a; (exact rfl); exact upd_a) | (apply ao_skip0; exact nots_a) | (apply ao_append; exact wants_a; (exact rfl); assumption; (exact rfl); exact cut_a; exact has_a; (exact rfl); (exact rfl); omega; omega; omega; (exact rfl); intro vr lr hr)) | (apply ao_callrg; exact wants_a; (exact oc_func rfl); (exact rfl); (first | exact fun w hw => hown w (hw.oldr k2 (Cut.trans (l := ls0) cut_a hck2))); intro vr lr hr) | (apply ah_one; (exact rfl)) | (apply ah_two; (exact rfl); (exact rfl)) | (apply ah_three; (exact rfl); (exact rfl); (exact rfl)) | (refine aw_is ?_; first | (apply aw_held (id := 4) (pl := (.t 0 (.t 1 (.t 2 (.t 3 (.t 4 (.t 5 (.t 6 (.t 7 (.o 8 (.o 9 .e))))))))))); (kernel_rfl); (kernel_rfl); (kernel_rfl); (solve | (apply hs_keep; apply hs_keep; apply hs_skip; exact List.Sublist.refl _))) | refine aw_seq ?_ | refine aw_block ?_ | refine aw_region ?_ | refine aw_skip ?_ | refine aw_exit ?_ | refine aw_ret ?_ | refine aw_label ?_ | refine aw_scope ?_ | refine aw_cond_t rfl (by with_reducible rfl) ?_ | refine aw_cond_f rfl (by with_reducible rfl) ?_ | refine aw_draw (by kernel_rfl) (by kernel_rfl) ?_) | (first | (refine ah_is ?_; (fail_if_success first | refine ah_glit (b := true) rfl rfl rfl (by with_reducible rfl) ?_ | refine ah_glit (b := false) rfl rfl rfl (by with_reducible rfl) ?_); apply ah_gt; (exact rfl); (exact rfl); (exact rfl); exact t_a) | ((refine ao_is ?_; (fail_if_success first | refine ao_glit (b := true) rfl rfl (by with_reducible rfl) ?_ | refine ao_glit (b := false) rfl rfl (by with_reducible rfl) ?_)); apply ao_gt; (exact rfl); (exact rfl); exact t_a) | ((refine aq_is ?_; (fail_if_success first | refine aq_glit (b := true) rfl rfl (by with_reducible rfl) ?_ | refine aq_glit (b := false) rfl rfl (by with_reducible rfl) ?_)); apply aq_gt; (exact rfl); (exact rfl); exact t_a) | (apply aw_ct; (exact rfl); exact t_a)) | (first | (refine ah_is ?_; (fail_if_success first | refine ah_glit (b := true) rfl rfl rfl (by with_reducible rfl) ?_ | refine ah_glit (b := false) rfl rfl rfl (by with_reducible rfl) ?_); apply ah_gf; (exact rfl); (exact rfl); (exact rfl); exact f_a) | ((refine ao_is ?_; (fail_if_success first | refine ao_glit (b := true) rfl rfl (by with_reducible rfl) ?_ | refine ao_glit (b := false) rfl rfl (by with_reducible rfl) ?_)); apply ao_gf; (exact rfl); (exact rfl); exact f_a) | ((refine aq_is ?_; (fail_if_success first | refine aq_glit (b := true) rfl rfl (by with_reducible rfl) ?_ | refine aq_glit (b := false) rfl rfl (by with_reducible rfl) ?_)); apply aq_gf; (exact rfl); (exact rfl); exact f_a) | (apply aw_cf; (exact rfl); exact f_a)) | refine at_normal ?_ | refine at_exit ?_ | refine at_ret ?_ | refine ib_normal ?_ | refine ib_exit ?_ | refine ib_other ?_ | refine ib_ret ?_ | refine lq_exit ?_ | refine lq_ret ?_ | refine ci_ret ?_ | refine ci_exit ?_ | refine r1_ret rfl ?_ | refine r1_normal rfl ?_ | refine r2_ret rfl rfl ?_ | refine r2_normal rfl rfl ?_ | refine r3_ret rfl rfl rfl ?_ | refine r3_normal rfl rfl rfl ?_ | refine ng_normal ?_ | refine ng_exit ?_ | refine ng_ret ?_ | (apply rt_ret; (exact rfl); (exact rfl); (exact rfl); exact has_a; exact has_a; (exact rfl); (exact rfl)) | (apply rc1_ret; (exact rfl); exact has_a; (exact rfl)) | (apply rc2_ret; (exact rfl); exact has_a; (exact rfl); (exact rfl)) | (refine ao_is ?_; (fail_if_success first | refine ao_glit (b := true) rfl rfl (by with_reducible rfl) ?_ | refine ao_glit (b := false) rfl rfl (by with_reducible rfl) ?_); refine ao_gbool rfl rfl (fun _ => ?_) (fun _ => ?_)) | (refine aq_is ?_; (fail_if_success first | refine aq_glit (b := true) rfl rfl (by with_reducible rfl) ?_ | refine aq_glit (b := false) rfl rfl (by with_reducible rfl) ?_); refine aq_gbool rfl rfl (fun _ => ?_) (fun _ => ?_)) | (refine aw_is ?_; refine aw_cond rfl (fun _ => ?_) (fun _ => ?_)))
      revert vr lr hr
      intro v3 l3 r3
      obtain ⟨a3, c3, rfl⟩ := r3.len
      have hke : (kk, ks, kn) = (nk, ns, nn) := (hkd rfl).symm
      simp only [Prod.mk.injEq] at hke
      obtain ⟨rfl, rfl, rfl⟩ := hke
      obtain ⟨X2, co2, q1, q2, q3⟩ := h2.put hO (.slice a3 nrs.length c3, ⟨kk, ks, kn, nver, nc, ntm, nbs, nrs⟩)
      obtain ⟨Z2, hZ⟩ := q3 Z
      have e1 : madeO st.os ((ps.take (i + 1)).map deD) = woO (madeO st.os ((ps.take i).map deD)) (kk, ks, kn) ++ [⟨kk, ks, kn, nver, nc, ntm, nbs, nrs⟩] := by
        rw [htk]
        rfl
      simp only at q1
      rw [← e1] at q1
      repeat' (first | (apply ao_nilh; exact hsub_a) | apply ao_nil | apply aq_nil | apply ah_end | ((first | apply ao_val | apply aq_val | (apply ah_take; (exact rfl))); exact wants_a; exact ov_a; (exact rfl)) | ((first | apply ao_skip | apply aq_skip | (apply ah_skip; (exact rfl))); exact nots_a; (exact rfl)) | (refine ao_is ?_; first | (apply ao_new; exact wants_a; exact on_a; (exact rfl); intro _) | (apply ao_store; exact wants_a; exact ow_a; exact upd_a) | (apply ao_valw; exact wants_a; exact ox_a; (exact rfl); exact upd_a) | (apply ao_skip0; exact nots_a) | (apply ao_append; exact wants_a; (exact rfl); assumption; (exact rfl); exact cut_a; exact has_a; (exact rfl); (exact rfl); omega; omega; omega; (exact rfl); intro vr lr hr)) | ((apply ao_store; exact wants_a; (exact q2 rfl rfl rfl (mapAt_has has_a)); exact upd_a)) | (apply ah_one; (exact rfl)) | (apply ah_two; (exact rfl); (exact rfl)) | (apply ah_three; (exact rfl); (exact rfl); (exact rfl)) | (refine aw_is ?_; first | (apply aw_held (id := 4) (pl := (.t 0 (.t 1 (.t 2 (.t 3 (.t 4 (.t 5 (.t 6 (.t 7 (.o 8 (.o 9 .e))))))))))); (kernel_rfl); (kernel_rfl); (kernel_rfl); (solve | (apply hs_keep; apply hs_keep; apply hs_skip; exact List.Sublist.refl _))) | refine aw_seq ?_ | refine aw_block ?_ | refine aw_region ?_ | refine aw_skip ?_ | refine aw_exit ?_ | refine aw_ret ?_ | refine aw_label ?_ | refine aw_scope ?_ | refine aw_cond_t rfl (by with_reducible rfl) ?_ | refine aw_cond_f rfl (by with_reducible rfl) ?_ | refine aw_draw (by kernel_rfl) (by kernel_rfl) ?_) | (first | (refine ah_is ?_; (fail_if_success first | refine ah_glit (b := true) rfl rfl rfl (by with_reducible rfl) ?_ | refine ah_glit (b := false) rfl rfl rfl (by with_reducible rfl) ?_); apply ah_gt; (exact rfl); (exact rfl); (exact rfl); exact t_a) | ((refine ao_is ?_; (fail_if_success first | refine ao_glit (b := true) rfl rfl (by with_reducible rfl) ?_ | refine ao_glit (b := false) rfl rfl (by with_reducible rfl) ?_)); apply ao_gt; (exact rfl); (exact rfl); exact t_a) | ((refine aq_is ?_; (fail_if_success first | refine aq_glit (b := true) rfl rfl (by with_reducible rfl) ?_ | refine aq_glit (b := false) rfl rfl (by with_reducible rfl) ?_)); apply aq_gt; (exact rfl); (exact rfl); exact t_a) | (apply aw_ct; (exact rfl); exact t_a)) | (first | (refine ah_is ?_; (fail_if_success first | refine ah_glit (b := true) rfl rfl rfl (by with_reducible rfl) ?_ | refine ah_glit (b := false) rfl rfl rfl (by with_reducible rfl) ?_); apply ah_gf; (exact rfl); (exact rfl); (exact rfl); exact f_a) | ((refine ao_is ?_; (fail_if_success first | refine ao_glit (b := true) rfl rfl (by with_reducible rfl) ?_ | refine ao_glit (b := false) rfl rfl (by with_reducible rfl) ?_)); apply ao_gf; (exact rfl); (exact rfl); exact f_a) | ((refine aq_is ?_; (fail_if_success first | refine aq_glit (b := true) rfl rfl (by with_reducible rfl) ?_ | refine aq_glit (b := false) rfl rfl (by with_reducible rfl) ?_)); apply aq_gf; (exact rfl); (exact rfl); exact f_a) | (apply aw_cf; (exact rfl); exact f_a)) | refine at_normal ?_ | refine at_exit ?_ | refine at_ret ?_ | refine ib_normal ?_ | refine ib_exit ?_ | refine ib_other ?_ | refine ib_ret ?_ | refine lq_exit ?_ | refine lq_ret ?_ | refine ci_ret ?_ | refine ci_exit ?_ | refine r1_ret rfl ?_ | refine r1_normal rfl ?_ | refine r2_ret rfl rfl ?_ | refine r2_normal rfl rfl ?_ | refine r3_ret rfl rfl rfl ?_ | refine r3_normal rfl rfl rfl ?_ | refine ng_normal ?_ | refine ng_exit ?_ | refine ng_ret ?_ | (apply rt_ret; (exact rfl); (exact rfl); (exact rfl); exact has_a; exact has_a; (exact rfl); (exact rfl)) | (apply rc1_ret; (exact rfl); exact has_a; (exact rfl)) | (apply rc2_ret; (exact rfl); exact has_a; (exact rfl); (exact rfl)) | (refine ao_is ?_; (fail_if_success first | refine ao_glit (b := true) rfl rfl (by with_reducible rfl) ?_ | refine ao_glit (b := false) rfl rfl (by with_reducible rfl) ?_); refine ao_gbool rfl rfl (fun _ => ?_) (fun _ => ?_)) | (refine aq_is ?_; (fail_if_success first | refine aq_glit (b := true) rfl rfl (by with_reducible rfl) ?_ | refine aq_glit (b := false) rfl rfl (by with_reducible rfl) ?_); refine aq_gbool rfl rfl (fun _ => ?_) (fun _ => ?_)) | (refine aw_is ?_; refine aw_cond rfl (fun _ => ?_) (fun _ => ?_)))
      have k3 : KO ((.slice a3 nrs.length c3 : Value), (⟨kk, ks, kn, nver, nc, ntm, nbs, nrs⟩ : Ob)) l3 := r3
      have hps := parts_perm (List.perm_append_comm.trans hZ) (h1.snoc k3)
      exact lq_normal' ⟨i + 1, _, rfl, by omega, ⟨bo, bg, X2, co2, G, cg, l3 ++ ls, Z2, rfl, hps, q1⟩, hO2, rfl, perm_take l3 [_, _, _] ls _⟩ (by omega) (by repeat (first | exact sub_nil | refine sub_cons rfl ?_)) hsub_a
  · obtain rfl : i = ps.length := by omega
    rw [List.take_length] at h2
    repeat' (first | refine aw_seq ?_ | refine zz ?_ | refine zon fun _ => ?_ | refine zoa fun vr lr hr => ?_ | refine zoS (fun _ => ?_) (fun _ => ?_) | refine zqS (fun _ => ?_) (fun _ => ?_) | refine zwS (fun _ => ?_) (fun _ => ?_))
    exact r0_normal ⟨_, _, List.Sublist.refl _, List.Perm.refl _, _, rfl, bo, bg, X, co, G, cg, ls, Z, rfl, h1, h2⟩
end Chm
end Go.Proofs.YtdakeicfhbggeaaGreat
/- Cdl: The landed cache as it turns: the floor raised, an event buried; conditions: names of at most 1,000 bytes. -/
namespace Go.Proofs.YtdakeicfhbggeaaGreat
namespace Chm
open Go Go.RowKit Sx Lab Vec Ojt Evt
attribute [local irreducible] Go.Calls
theorem delG_filter {k : Kt} : ∀ {X : List (Gr × Nat)}, X.Pairwise (fun a b => a.1.1 ≠ b.1.1) → delG k X = X.filter fun x => decide (x.1.1 ≠ k)
  | [], _ => rfl
  | x :: X, h => by
    rw [List.pairwise_cons] at h
    unfold delG
    by_cases hk : k = x.1.1
    · rw [if_pos hk, List.filter_cons, if_neg (by simp [hk])]
      exact (List.filter_eq_self.2 fun o ho => by simpa using fun e => h.1 o ho (by rw [← hk, e])).symm
    · rw [if_neg hk, delG_filter h.2, List.filter_cons, if_pos (by simpa using fun e => hk e.symm)]
def leftG (G : List (Gr × Nat)) (ver : Int) (seen : Array Nat) : List (Gr × Nat) := G.filter fun x => !(seen.contains x.2 && decide (x.1.2 ≤ ver))
theorem left_all {G : List (Gr × Nat)} {ver : Int} {seen : Array Nat} (h : ∀ x ∈ leftG G ver seen, x.2 ∈ seen) : leftG G ver seen = G.filter fun x => decide (ver < x.1.2) := by
  refine List.filter_congr fun x hx => ?_
  by_cases hv : ver < x.1.2
  · rw [decide_eq_true hv, decide_eq_false (by omega), Bool.and_false]; rfl
  · rw [decide_eq_false hv, decide_eq_true (by omega), Bool.and_true]
    cases hc : seen.contains x.2
    · have h2 := h x (List.mem_filter.2 ⟨hx, by rw [hc]; rfl⟩)
      rw [Array.contains_iff_mem.2 h2] at hc
      cases hc
    · rfl
theorem stamp_inj {G : List (Gr × Nat)} (hn : (G.map (·.2)).Nodup) {x y : Gr × Nat} (hx : x ∈ G) (hy : y ∈ G) (h : x.2 = y.2) : x = y := by
  obtain ⟨i, hi⟩ := List.getElem?_of_mem hx
  obtain ⟨j, hj⟩ := List.getElem?_of_mem hy
  have e1 : (G.map (·.2))[i]? = some y.2 := by rw [List.getElem?_map, hi, Option.map_some, h]
  have e2 : (G.map (·.2))[j]? = some y.2 := by rw [List.getElem?_map, hj]; rfl
  have := (List.getElem?_inj (List.getElem?_eq_some_iff.1 e1).1 hn).1 (e1.trans e2.symm)
  subst this
  rw [hi] at hj
  cases hj
  rfl
theorem left_keep {G : List (Gr × Nat)} {ver : Int} {seen : Array Nat} {y : Gr × Nat} (hn : (G.map (·.2)).Nodup) (hy : y ∈ G) (hv : ver < y.1.2) : leftG G ver (seen.push y.2) = leftG G ver seen := by
  refine List.filter_congr fun x hx => ?_
  rw [contains_push]
  by_cases hxy : x.2 = y.2
  · obtain rfl := stamp_inj hn hx hy hxy
    rw [decide_eq_false (by omega), Bool.and_false, Bool.and_false]
  · rw [show (x.2 == y.2) = false from beq_eq_false_iff_ne.2 hxy, Bool.or_false]
theorem left_drop {G : List (Gr × Nat)} {ver : Int} {seen : Array Nat} {y : Gr × Nat} (hn : (G.map (·.2)).Nodup) (hk : G.Pairwise fun a b => a.1.1 ≠ b.1.1) (hy : y ∈ G) (hv : y.1.2 ≤ ver) : delG y.1.1 (leftG G ver seen) = leftG G ver (seen.push y.2) := by
  unfold leftG
  rw [delG_filter (hk.sublist List.filter_sublist), List.filter_filter]
  refine List.filter_congr fun x hx => ?_
  rw [contains_push]
  by_cases hxy : x = y
  · subst hxy
    rw [beq_self_eq_true, Bool.or_true, decide_eq_true hv]
    simp
  · have h1 : (x.2 == y.2) = false := beq_eq_false_iff_ne.2 fun e => hxy (stamp_inj hn hx hy e)
    have h2 : x.1.1 ≠ y.1.1 := by
      obtain ⟨i, hi, rfl⟩ := List.getElem_of_mem hx
      obtain ⟨j, hj, rfl⟩ := List.getElem_of_mem hy
      rcases Nat.lt_trichotomy i j with h3 | rfl | h3
      · exact List.pairwise_iff_getElem.1 hk i j hi hj h3
      · exact absurd rfl hxy
      · exact (List.pairwise_iff_getElem.1 hk j i hj hi h3).symm
    rw [h1, Bool.or_false, decide_eq_true h2, Bool.true_and]
set_option maxHeartbeats 32000000 in
theorem raise_ok {m : Nat} {w0 : World} {st : St} {g : Nat} {l : Hp} (h : Made st g l) (hO : st.gs.Pairwise fun a b => a.1 ≠ b.1) (ver : Int) (R : Hp) :
    CallsH Tryz.prog ⟨w0.heap.size, w0, m⟩ 92 [.pointer (some ⟨g, 0, none⟩), I ver] (l ++ R) fun u H' => u = .tuple #[] ∧ ∃ l', H' = l' ++ R ∧ Made ⟨st.os, st.gs.filter (fun r => decide (ver < r.2)), ver⟩ g l' := by
  obtain ⟨bo, bg, X, co, G, cg, ls, Z, rfl, h1, h2⟩ := h
  have hold : ∀ seen, ∀ y ∈ (leftG G ver seen).map enG, y.2.2 < cg := fun seen y hy => by
    obtain ⟨x, hx, rfl⟩ := List.mem_map.1 hy
    exact h2.lg x (List.mem_filter.1 hx).1
  have hnod : ∀ seen, (((leftG G ver seen).map enG).map (·.2.2)).Nodup := fun seen => by
    rw [List.map_map]
    exact h2.bg.sublist (List.filter_sublist.map _)
  have hkey : G.Pairwise fun a b => a.1.1 ≠ b.1.1 := by
    have := h2.ownG hO
    rwa [List.pairwise_map] at this
  have hleft0 : leftG G ver #[] = G := by
    unfold leftG
    exact List.filter_eq_self.2 fun x _ => by simp
  refine callsHp Tryz.func92 rfl rfl rfl rfl ?_
  show aw _ _ _ _ _ (CB g (some bo) (some bg) st.fl :: (bo, mapO encKt (X.map enO) co) :: (bg, mapO encKt (G.map enG) cg) :: (ls ++ R))
  repeat' (first | refine aw_seq ?_ | ((first | apply ao_val | apply aq_val); exact wants_a; (first | exact ov_nilcheck rfl | exact ov_a); (exact rfl)) | refine zy ?_ | refine zon fun _ => ?_ | refine zoa fun vr lr hr => ?_ | (apply ao_new; exact wants_a; exact on_mrange rfl (mapAt_has has_a); exact rfl; intro bi) | refine zoS (fun _ => ?_) (fun _ => ?_) | refine zqS (fun _ => ?_) (fun _ => ?_) | refine zwS (fun _ => ?_) (fun _ => ?_))
  refine aw_for (t0 := [(0, .pointer (some ⟨g, 0, none⟩)), (1, I ver), (14, .pointer (some ⟨_, 0, none⟩))]) (fun q t H => ∃ (bi : Nat) (seen : Array Nat), q = (G.filter fun y => !seen.contains y.2).length ∧
    t = [(0, .pointer (some ⟨g, 0, none⟩)), (1, I ver), (14, .pointer (some ⟨bi, 0, none⟩))] ∧ H = (bi, .mapIter (some bg) cg seen cg) :: CB g (some bo) (some bg) ver :: (bo, mapO encKt (X.map enO) co) :: (bg, mapO encKt ((leftG G ver seen).map enG) cg) :: (ls ++ R)) ⟨_, #[], rfl, rfl, by rw [hleft0]⟩ (by repeat (first | exact sub_nil | refine sub_cons rfl ?_)) ?_
  rintro q t H ⟨bi, seen, rfl, rfl, rfl⟩
  repeat' (first | refine aw_seq ?_ | refine zz ?_ | refine zon fun _ => ?_ | refine zoa fun vr lr hr => ?_ | (apply ao_mnextO (mo := some bg); exact wants_a; exact rfl; exact cut_a; exact mapAt_has has_a; exact hold seen; exact Nat.le_refl _; exact rfl; intro hall; rotate_left; intro y hy hns; rotate_left) | refine zoS (fun _ => ?_) (fun _ => ?_) | refine zqS (fun _ => ?_) (fun _ => ?_) | refine zwS (fun _ => ?_) (fun _ => ?_))
  · have hl := left_all fun x hx => hall (enG x) (List.mem_map.2 ⟨x, hx, rfl⟩)
    rw [hl]
    refine r0_normal ⟨_, _, List.sublist_cons_self _ _, List.Perm.refl _, _, rfl, bo, bg, X, co, _, cg, ls, Z, rfl, h1, ⟨h2.os, ?_, h2.bo, h2.lo, h2.bg.sublist (List.filter_sublist.map _), fun x hx => h2.lg x (List.mem_filter.1 hx).1, fun r hr => by simpa using (List.mem_filter.1 hr).2⟩⟩
    have := h2.gs.filter fun r => decide (ver < r.2)
    rw [List.filter_map] at this
    exact this
  · obtain ⟨⟨⟨⟨k1, s1, n1⟩, v1⟩, b⟩, hx, rfl⟩ := List.mem_map.1 hy
    have hxG := (List.mem_filter.1 hx).1
    by_cases hv : v1 ≤ ver
    · have hdr := left_drop (seen := seen) h2.bg hkey hxG hv
      have hdel := fun {E : Env} {t : Tm} {H : Hp} {x y : Operand} {ty : TypeId} {b : Nat} hx hy hb => ow_mdel (P := Tryz.prog) (E := E) (t := t) (H := H) (x := x) (y := y) (ty := ty) (b := b) (c := cg) (es := (leftG G ver seen).map enG) (mt := 116) (kt := 58) (et := 2) (enc := encKt) (k := (k1, s1, n1)) hx hy hb
      rw [delG_map, hdr] at hdel
      repeat' (first | (apply ao_nilh; exact hsub_a) | apply ao_nil | apply aq_nil | apply ah_end | ((first | apply ao_val | apply aq_val | (apply ah_take; (exact rfl))); exact wants_a; (first | exact ov_nilcheck rfl | exact ov_entryO (mo := some bg) rfl has_a (mapAt_has has_a) (hnod seen) (List.mem_map.2 ⟨_, hx, rfl⟩) | exact ov_a); (exact rfl)) | ((first | apply ao_skip | apply aq_skip | (apply ah_skip; (exact rfl))); exact nots_a; (exact rfl)) | (refine ao_is ?_; first | (apply ao_new; exact wants_a; exact on_a; (exact rfl); intro _) | (apply ao_store; exact wants_a; exact ow_a; exact upd_a) | (apply ao_valw; exact wants_a; exact ox_a; (exact rfl); exact upd_a) | (apply ao_skip0; exact nots_a) | (apply ao_append; exact wants_a; (exact rfl); assumption; (exact rfl); exact cut_a; exact has_a; (exact rfl); (exact rfl); omega; omega; omega; (exact rfl); intro vr lr hr)) | ((apply ao_valw0; exact wants_a; (exact hdel rfl rfl (mapAt_has has_a)); exact upd_a)) | (apply ah_one; (exact rfl)) | (apply ah_two; (exact rfl); (exact rfl)) | (apply ah_three; (exact rfl); (exact rfl); (exact rfl)) | (refine aw_is ?_; first | (apply aw_held (id := 5) (pl := (.t 0 (.t 1 (.t 2 (.t 3 (.t 4 (.o 5 .e))))))); (kernel_rfl); (kernel_rfl); (kernel_rfl); (solve | (apply hs_keep; apply hs_keep; apply hs_keep; apply hs_keep; apply hs_skip; exact List.Sublist.refl _))) | refine aw_seq ?_ | refine aw_block ?_ | refine aw_region ?_ | refine aw_skip ?_ | refine aw_exit ?_ | refine aw_ret ?_ | refine aw_label ?_ | refine aw_scope ?_ | refine aw_cond_t rfl (by with_reducible rfl) ?_ | refine aw_cond_f rfl (by with_reducible rfl) ?_ | refine aw_draw (by kernel_rfl) (by kernel_rfl) ?_) | (first | (refine ah_is ?_; (fail_if_success first | refine ah_glit (b := true) rfl rfl rfl (by with_reducible rfl) ?_ | refine ah_glit (b := false) rfl rfl rfl (by with_reducible rfl) ?_); apply ah_gt; (exact rfl); (exact rfl); (exact rfl); exact t_a) | ((refine ao_is ?_; (fail_if_success first | refine ao_glit (b := true) rfl rfl (by with_reducible rfl) ?_ | refine ao_glit (b := false) rfl rfl (by with_reducible rfl) ?_)); apply ao_gt; (exact rfl); (exact rfl); exact t_a) | ((refine aq_is ?_; (fail_if_success first | refine aq_glit (b := true) rfl rfl (by with_reducible rfl) ?_ | refine aq_glit (b := false) rfl rfl (by with_reducible rfl) ?_)); apply aq_gt; (exact rfl); (exact rfl); exact t_a) | (apply aw_ct; (exact rfl); exact t_a)) | (first | (refine ah_is ?_; (fail_if_success first | refine ah_glit (b := true) rfl rfl rfl (by with_reducible rfl) ?_ | refine ah_glit (b := false) rfl rfl rfl (by with_reducible rfl) ?_); apply ah_gf; (exact rfl); (exact rfl); (exact rfl); exact f_a) | ((refine ao_is ?_; (fail_if_success first | refine ao_glit (b := true) rfl rfl (by with_reducible rfl) ?_ | refine ao_glit (b := false) rfl rfl (by with_reducible rfl) ?_)); apply ao_gf; (exact rfl); (exact rfl); exact f_a) | ((refine aq_is ?_; (fail_if_success first | refine aq_glit (b := true) rfl rfl (by with_reducible rfl) ?_ | refine aq_glit (b := false) rfl rfl (by with_reducible rfl) ?_)); apply aq_gf; (exact rfl); (exact rfl); exact f_a) | (apply aw_cf; (exact rfl); exact f_a)) | refine at_normal ?_ | refine at_exit ?_ | refine at_ret ?_ | refine ib_normal ?_ | refine ib_exit ?_ | refine ib_other ?_ | refine ib_ret ?_ | refine lq_exit ?_ | refine lq_ret ?_ | refine ci_ret ?_ | refine ci_exit ?_ | refine r1_ret rfl ?_ | refine r1_normal rfl ?_ | refine r2_ret rfl rfl ?_ | refine r2_normal rfl rfl ?_ | refine r3_ret rfl rfl rfl ?_ | refine r3_normal rfl rfl rfl ?_ | refine ng_normal ?_ | refine ng_exit ?_ | refine ng_ret ?_ | (apply rt_ret; (exact rfl); (exact rfl); (exact rfl); exact has_a; exact has_a; (exact rfl); (exact rfl)) | (apply rc1_ret; (exact rfl); exact has_a; (exact rfl)) | (apply rc2_ret; (exact rfl); exact has_a; (exact rfl); (exact rfl)) | (refine ao_is ?_; (fail_if_success first | refine ao_glit (b := true) rfl rfl (by with_reducible rfl) ?_ | refine ao_glit (b := false) rfl rfl (by with_reducible rfl) ?_); refine ao_gbool rfl rfl (fun _ => ?_) (fun _ => ?_)) | (refine aq_is ?_; (fail_if_success first | refine aq_glit (b := true) rfl rfl (by with_reducible rfl) ?_ | refine aq_glit (b := false) rfl rfl (by with_reducible rfl) ?_); refine aq_gbool rfl rfl (fun _ => ?_) (fun _ => ?_)) | (refine aw_is ?_; refine aw_cond rfl (fun _ => ?_) (fun _ => ?_)))
      exact lq_normal' ⟨bi, _, rfl, rfl, rfl⟩ (left_less (fun y : Gr × Nat => y.2) hxG hns) (by repeat (first | exact sub_nil | refine sub_cons rfl ?_)) hsub_a
    · have hkp := left_keep (ver := ver) (seen := seen) h2.bg hxG (by show ver < v1; omega)
      repeat' (first | refine aw_seq ?_ | ((first | apply ao_val | apply aq_val); exact wants_a; (first | exact ov_nilcheck rfl | exact ov_entryO (mo := some bg) rfl has_a (mapAt_has has_a) (hnod seen) (List.mem_map.2 ⟨_, hx, rfl⟩) | exact ov_a); (exact rfl)) | refine zy ?_ | refine zon fun _ => ?_ | refine zoa fun vr lr hr => ?_ | refine zoS (fun _ => ?_) (fun _ => ?_) | refine zqS (fun _ => ?_) (fun _ => ?_) | refine zwS (fun _ => ?_) (fun _ => ?_))
      exact lq_normal' ⟨bi, _, rfl, rfl, by rw [hkp]⟩ (left_less (fun y : Gr × Nat => y.2) hxG hns) (by repeat (first | exact sub_nil | refine sub_cons rfl ?_)) hsub_a
def burG (gs : List Gr) (fl : Int) (kind : Int) (o : Ob) (ver : Int) : List Gr × Int :=
  if kind = 0 then (gravesP gs (keyO o) fl, fl) else if kind = 1 then (insG (keyO o, o.ver) (gravesP gs (keyO o) fl), fl) else (gravesP gs k0 ver, ver)
theorem burG_is (st : St) (kind : Int) (o : Ob) (ver : Int) (qs : List Ob) : nxO st kind o ver qs = ⟨(nxO st kind o ver qs).os, (burG st.gs st.fl kind o ver).1, (burG st.gs st.fl kind o ver).2⟩ := by
  unfold nxO burG
  by_cases h0 : kind = 0
  · rw [if_pos h0, if_pos h0]
  rw [if_neg h0, if_neg h0]
  by_cases h1 : kind = 1
  · rw [if_pos h1, if_pos h1]
  rw [if_neg h1, if_neg h1]
  by_cases h2 : kind = 2
  · rw [if_pos h2]
  · rw [if_neg h2]
theorem insG_perm (g : Gr) : ∀ (l : List Gr), (insG g l).Perm (g :: l)
  | [] => List.Perm.refl _
  | y :: r => by
    unfold insG
    split
    · exact List.Perm.refl _
    · exact (List.Perm.cons y (insG_perm g r)).trans (List.Perm.swap _ _ _)
theorem graves_up {gs : List Gr} {fl : Int} (h : ∀ g ∈ gs, fl < g.2) (k : Kt) : gravesP gs k fl = gs.filter fun g => decide (g.1 ≠ k) := by
  unfold gravesP
  refine List.filter_congr fun g hg => ?_
  rw [decide_eq_true (h g hg), Bool.and_true]
theorem graves_k0 {gs : List Gr} {ver : Int} (h : ∀ g ∈ gs, keyR g.1 = true) : gravesP gs k0 ver = gs.filter fun g => decide (ver < g.2) := by
  unfold gravesP
  refine List.filter_congr fun g hg => ?_
  have hne : g.1 ≠ k0 := fun e => by have := h g hg; rw [e, key0_no] at this; cases this
  rw [decide_eq_true hne, Bool.true_and]
theorem LX.perm {st : St} {X : List (PO × Nat)} {co : Nat} {G : List (Gr × Nat)} {cg : Nat} {gs : List Gr} (h : LX st X co G cg) (hp : st.gs.Perm gs) : LX ⟨st.os, gs, st.fl⟩ X co G cg := ⟨h.os, h.gs.trans hp, h.bo, h.lo, h.bg, h.lg, fun g hg => h.up g (hp.mem_iff.2 hg)⟩
set_option maxHeartbeats 32000000 in
theorem bury_ok {m : Nat} {w0 : World} {st : St} {g : Nat} {l : Hp} (h : Made st g l) (hO : st.gs.Pairwise fun a b => a.1 ≠ b.1) (hgk : ∀ g ∈ st.gs, keyR g.1 = true) (kind : Int) (p : PO) (ver : Int) (v : Value) (hp1 : ∃ a n c, p.1 = .slice a n c) (hv : ∃ a n c, v = .slice a n c) (vn : Int)
    (hk : kind = 0 ∨ kind = 1 ∨ kind = 2 ∨ kind = 3) (hvn : vn = if kind = 0 ∨ kind = 1 then p.2.ver else ver) (hlow : kind = 1 → st.fl < p.2.ver) (R : Hp) :
    CallsH Tryz.prog ⟨w0.heap.size, w0, m⟩ 54 [.pointer (some ⟨g, 0, none⟩), EV kind p ver v, I vn] (l ++ R) fun u H' => u = .tuple #[] ∧ ∃ l', H' = l' ++ R ∧ Made ⟨st.os, (burG st.gs st.fl kind p.2 ver).1, (burG st.gs st.fl kind p.2 ver).2⟩ g l' := by
  obtain ⟨x, k, s, n, over, c, tm, bs, rs⟩ := p
  obtain ⟨xa, xn, xc, hx⟩ := hp1
  obtain ⟨va, vq, vc, hv⟩ := hv
  simp only at hx hlow hvn
  subst hx hv
  refine callsHp Tryz.func54 rfl rfl rfl rfl ?_
  rcases hk with rfl | rfl | hk
  · obtain ⟨bo, bg, X, co, G, cg, ls, Z, rfl, h1, h2⟩ := h
    obtain ⟨q1, q2⟩ := h2.delG hO (k, s, n)
    show aw _ _ _ _ _ (CB g (some bo) (some bg) st.fl :: (bo, mapO encKt (X.map enO) co) :: (bg, mapO encKt (G.map enG) cg) :: (ls ++ R))
    repeat' (first | (apply ao_nilh; exact hsub_a) | apply ao_nil | apply aq_nil | apply ah_end | ((first | apply ao_val | apply aq_val | (apply ah_take; (exact rfl))); exact wants_a; (first | exact ov_nilcheck rfl | exact ov_a); (exact rfl)) | ((first | apply ao_skip | apply aq_skip | (apply ah_skip; (exact rfl))); exact nots_a; (exact rfl)) | (refine ao_is ?_; first | (apply ao_new; exact wants_a; exact on_a; (exact rfl); intro _) | (apply ao_store; exact wants_a; exact ow_a; exact upd_a) | (apply ao_valw; exact wants_a; exact ox_a; (exact rfl); exact upd_a) | (apply ao_skip0; exact nots_a) | (apply ao_append; exact wants_a; (exact rfl); assumption; (exact rfl); exact cut_a; exact has_a; (exact rfl); (exact rfl); omega; omega; omega; (exact rfl); intro vr lr hr)) | ((apply ao_valw0; exact wants_a; (exact q2 rfl rfl (mapAt_has has_a)); exact upd_a)) | (apply ah_one; (exact rfl)) | (apply ah_two; (exact rfl); (exact rfl)) | (apply ah_three; (exact rfl); (exact rfl); (exact rfl)) | (refine aw_is ?_; first | (apply aw_held (id := 4) (pl := (.t 0 (.t 1 (.t 2 (.t 3 (.t 4 (.t 5 (.t 6 (.o 7 .e))))))))); (kernel_rfl); (kernel_rfl); (kernel_rfl); (solve | (apply hs_keep; apply hs_keep; apply hs_keep; apply hs_skip; exact List.Sublist.refl _))) | refine aw_seq ?_ | refine aw_block ?_ | refine aw_region ?_ | refine aw_skip ?_ | refine aw_exit ?_ | refine aw_ret ?_ | refine aw_label ?_ | refine aw_scope ?_ | refine aw_cond_t rfl (by with_reducible rfl) ?_ | refine aw_cond_f rfl (by with_reducible rfl) ?_ | refine aw_draw (by kernel_rfl) (by kernel_rfl) ?_) | (first | (refine ah_is ?_; (fail_if_success first | refine ah_glit (b := true) rfl rfl rfl (by with_reducible rfl) ?_ | refine ah_glit (b := false) rfl rfl rfl (by with_reducible rfl) ?_); apply ah_gt; (exact rfl); (exact rfl); (exact rfl); exact t_a) | ((refine ao_is ?_; (fail_if_success first | refine ao_glit (b := true) rfl rfl (by with_reducible rfl) ?_ | refine ao_glit (b := false) rfl rfl (by with_reducible rfl) ?_)); apply ao_gt; (exact rfl); (exact rfl); exact t_a) | ((refine aq_is ?_; (fail_if_success first | refine aq_glit (b := true) rfl rfl (by with_reducible rfl) ?_ | refine aq_glit (b := false) rfl rfl (by with_reducible rfl) ?_)); apply aq_gt; (exact rfl); (exact rfl); exact t_a) | (apply aw_ct; (exact rfl); exact t_a)) | (first | (refine ah_is ?_; (fail_if_success first | refine ah_glit (b := true) rfl rfl rfl (by with_reducible rfl) ?_ | refine ah_glit (b := false) rfl rfl rfl (by with_reducible rfl) ?_); apply ah_gf; (exact rfl); (exact rfl); (exact rfl); exact f_a) | ((refine ao_is ?_; (fail_if_success first | refine ao_glit (b := true) rfl rfl (by with_reducible rfl) ?_ | refine ao_glit (b := false) rfl rfl (by with_reducible rfl) ?_)); apply ao_gf; (exact rfl); (exact rfl); exact f_a) | ((refine aq_is ?_; (fail_if_success first | refine aq_glit (b := true) rfl rfl (by with_reducible rfl) ?_ | refine aq_glit (b := false) rfl rfl (by with_reducible rfl) ?_)); apply aq_gf; (exact rfl); (exact rfl); exact f_a) | (apply aw_cf; (exact rfl); exact f_a)) | refine at_normal ?_ | refine at_exit ?_ | refine at_ret ?_ | refine ib_normal ?_ | refine ib_exit ?_ | refine ib_other ?_ | refine ib_ret ?_ | refine lq_exit ?_ | refine lq_ret ?_ | refine ci_ret ?_ | refine ci_exit ?_ | refine r1_ret rfl ?_ | refine r1_normal rfl ?_ | refine r2_ret rfl rfl ?_ | refine r2_normal rfl rfl ?_ | refine r3_ret rfl rfl rfl ?_ | refine r3_normal rfl rfl rfl ?_ | refine ng_normal ?_ | refine ng_exit ?_ | refine ng_ret ?_ | (apply rt_ret; (exact rfl); (exact rfl); (exact rfl); exact has_a; exact has_a; (exact rfl); (exact rfl)) | (apply rc1_ret; (exact rfl); exact has_a; (exact rfl)) | (apply rc2_ret; (exact rfl); exact has_a; (exact rfl); (exact rfl)) | (refine ao_is ?_; (fail_if_success first | refine ao_glit (b := true) rfl rfl (by with_reducible rfl) ?_ | refine ao_glit (b := false) rfl rfl (by with_reducible rfl) ?_); refine ao_gbool rfl rfl (fun _ => ?_) (fun _ => ?_)) | (refine aq_is ?_; (fail_if_success first | refine aq_glit (b := true) rfl rfl (by with_reducible rfl) ?_ | refine aq_glit (b := false) rfl rfl (by with_reducible rfl) ?_); refine aq_gbool rfl rfl (fun _ => ?_) (fun _ => ?_)) | (refine aw_is ?_; refine aw_cond rfl (fun _ => ?_) (fun _ => ?_)))
    refine r0_normal ⟨_, _, List.sublist_cons_self _ _, List.Perm.refl _, _, rfl, bo, bg, X, co, _, cg, ls, Z, rfl, h1, ?_⟩
    unfold burG
    rw [if_pos rfl, graves_up h2.up]
    exact q1
  · obtain ⟨bo, bg, X, co, G, cg, ls, Z, rfl, h1, h2⟩ := h
    rw [if_pos (.inr rfl)] at hvn
    subst hvn
    obtain ⟨G2, cg2, q1, q2⟩ := h2.putG hO ((k, s, n), vn) (hlow rfl)
    show aw _ _ _ _ _ (CB g (some bo) (some bg) st.fl :: (bo, mapO encKt (X.map enO) co) :: (bg, mapO encKt (G.map enG) cg) :: (ls ++ R))
    repeat' (first | (apply ao_nilh; exact hsub_a) | apply ao_nil | apply aq_nil | apply ah_end | ((first | apply ao_val | apply aq_val | (apply ah_take; (exact rfl))); exact wants_a; (first | exact ov_nilcheck rfl | exact ov_a); (exact rfl)) | ((first | apply ao_skip | apply aq_skip | (apply ah_skip; (exact rfl))); exact nots_a; (exact rfl)) | (refine ao_is ?_; first | (apply ao_new; exact wants_a; exact on_a; (exact rfl); intro _) | (apply ao_store; exact wants_a; exact ow_a; exact upd_a) | (apply ao_valw; exact wants_a; exact ox_a; (exact rfl); exact upd_a) | (apply ao_skip0; exact nots_a) | (apply ao_append; exact wants_a; (exact rfl); assumption; (exact rfl); exact cut_a; exact has_a; (exact rfl); (exact rfl); omega; omega; omega; (exact rfl); intro vr lr hr)) | ((apply ao_store; exact wants_a; (exact q2 rfl rfl rfl (mapAt_has has_a)); exact upd_a)) | (apply ah_one; (exact rfl)) | (apply ah_two; (exact rfl); (exact rfl)) | (apply ah_three; (exact rfl); (exact rfl); (exact rfl)) | (refine aw_is ?_; first | (apply aw_held (id := 6) (pl := (.t 0 (.t 1 (.t 2 (.t 3 (.t 4 (.t 5 (.t 6 (.t 7 (.o 8 .e)))))))))); (kernel_rfl); (kernel_rfl); (kernel_rfl); (solve | (apply hs_keep; apply hs_keep; apply hs_keep; apply hs_skip; exact List.Sublist.refl _))) | refine aw_seq ?_ | refine aw_block ?_ | refine aw_region ?_ | refine aw_skip ?_ | refine aw_exit ?_ | refine aw_ret ?_ | refine aw_label ?_ | refine aw_scope ?_ | refine aw_cond_t rfl (by with_reducible rfl) ?_ | refine aw_cond_f rfl (by with_reducible rfl) ?_ | refine aw_draw (by kernel_rfl) (by kernel_rfl) ?_) | (first | (refine ah_is ?_; (fail_if_success first | refine ah_glit (b := true) rfl rfl rfl (by with_reducible rfl) ?_ | refine ah_glit (b := false) rfl rfl rfl (by with_reducible rfl) ?_); apply ah_gt; (exact rfl); (exact rfl); (exact rfl); exact t_a) | ((refine ao_is ?_; (fail_if_success first | refine ao_glit (b := true) rfl rfl (by with_reducible rfl) ?_ | refine ao_glit (b := false) rfl rfl (by with_reducible rfl) ?_)); apply ao_gt; (exact rfl); (exact rfl); exact t_a) | ((refine aq_is ?_; (fail_if_success first | refine aq_glit (b := true) rfl rfl (by with_reducible rfl) ?_ | refine aq_glit (b := false) rfl rfl (by with_reducible rfl) ?_)); apply aq_gt; (exact rfl); (exact rfl); exact t_a) | (apply aw_ct; (exact rfl); exact t_a)) | (first | (refine ah_is ?_; (fail_if_success first | refine ah_glit (b := true) rfl rfl rfl (by with_reducible rfl) ?_ | refine ah_glit (b := false) rfl rfl rfl (by with_reducible rfl) ?_); apply ah_gf; (exact rfl); (exact rfl); (exact rfl); exact f_a) | ((refine ao_is ?_; (fail_if_success first | refine ao_glit (b := true) rfl rfl (by with_reducible rfl) ?_ | refine ao_glit (b := false) rfl rfl (by with_reducible rfl) ?_)); apply ao_gf; (exact rfl); (exact rfl); exact f_a) | ((refine aq_is ?_; (fail_if_success first | refine aq_glit (b := true) rfl rfl (by with_reducible rfl) ?_ | refine aq_glit (b := false) rfl rfl (by with_reducible rfl) ?_)); apply aq_gf; (exact rfl); (exact rfl); exact f_a) | (apply aw_cf; (exact rfl); exact f_a)) | refine at_normal ?_ | refine at_exit ?_ | refine at_ret ?_ | refine ib_normal ?_ | refine ib_exit ?_ | refine ib_other ?_ | refine ib_ret ?_ | refine lq_exit ?_ | refine lq_ret ?_ | refine ci_ret ?_ | refine ci_exit ?_ | refine r1_ret rfl ?_ | refine r1_normal rfl ?_ | refine r2_ret rfl rfl ?_ | refine r2_normal rfl rfl ?_ | refine r3_ret rfl rfl rfl ?_ | refine r3_normal rfl rfl rfl ?_ | refine ng_normal ?_ | refine ng_exit ?_ | refine ng_ret ?_ | (apply rt_ret; (exact rfl); (exact rfl); (exact rfl); exact has_a; exact has_a; (exact rfl); (exact rfl)) | (apply rc1_ret; (exact rfl); exact has_a; (exact rfl)) | (apply rc2_ret; (exact rfl); exact has_a; (exact rfl); (exact rfl)) | (refine ao_is ?_; (fail_if_success first | refine ao_glit (b := true) rfl rfl (by with_reducible rfl) ?_ | refine ao_glit (b := false) rfl rfl (by with_reducible rfl) ?_); refine ao_gbool rfl rfl (fun _ => ?_) (fun _ => ?_)) | (refine aq_is ?_; (fail_if_success first | refine aq_glit (b := true) rfl rfl (by with_reducible rfl) ?_ | refine aq_glit (b := false) rfl rfl (by with_reducible rfl) ?_); refine aq_gbool rfl rfl (fun _ => ?_) (fun _ => ?_)) | (refine aw_is ?_; refine aw_cond rfl (fun _ => ?_) (fun _ => ?_)))
    refine r0_normal ⟨_, _, List.sublist_cons_self _ _, List.Perm.refl _, _, rfl, bo, bg, X, co, G2, cg2, ls, Z, rfl, h1, ?_⟩
    unfold burG
    rw [if_neg (by decide), if_pos rfl, graves_up h2.up]
    exact q1.perm (insG_perm _ _).symm
  · have hk0 : kind ≠ 0 := by omega
    have hk1 : kind ≠ 1 := by omega
    have e0 : (kind == 0) = false := beq_eq_false_iff_ne.2 hk0
    have e1 : (kind == 1) = false := beq_eq_false_iff_ne.2 hk1
    rw [if_neg (by omega)] at hvn
    subst hvn
    have hb : burG st.gs st.fl kind ⟨k, s, n, over, c, tm, bs, rs⟩ vn = (st.gs.filter (fun r => decide (vn < r.2)), vn) := by
      unfold burG
      rw [if_neg hk0, if_neg hk1, graves_k0 hgk]
    simp only
    rw [hb]
    repeat' (first | refine aw_seq ?_ | ((first | apply ao_val | apply aq_val); exact wants_a; (first | exact ov_nilcheck rfl | exact ov_a); (exact rfl)) | refine zy ?_ | refine zon fun _ => ?_ | refine zoa fun vr lr hr => ?_ | ((apply ao_callH (l := l); exact wants_a; (exact oc_func rfl); (exact rfl); (exact cut_a); (exact raise_ok h hO vn _); rintro _ _ ⟨rfl, l2, rfl, hM⟩)) | refine zoS (fun _ => ?_) (fun _ => ?_) | refine zqS (fun _ => ?_) (fun _ => ?_) | refine zwS (fun _ => ?_) (fun _ => ?_))
    exact r0_normal ⟨l2 ++ R, _, List.Sublist.append_left (List.sublist_cons_self _ _) l2, List.Perm.refl _, l2, rfl, hM⟩
end Chm
end Go.Proofs.YtdakeicfhbggeaaGreat
/- Cdm: The landed cache: an event is applied; conditions: names of at most 1,000 bytes, at most 1,000 objects. -/
namespace Go.Proofs.YtdakeicfhbggeaaGreat
namespace Chm
open Go Go.RowKit Sx Lab Vec Ojt Evt
attribute [local irreducible] Go.Calls
structure FitSt (st : St) : Prop where
  fine : Fine st
  os : st.os.length ≤ 1000
  gs : wfG st.gs
  wf : ∀ o ∈ st.os, wfS o
theorem dl_new {st : St} {kind : Int} {o : Ob} {ver : Int} {qs : List Ob} (hf : Fine st) (hr : rightE kind o ver qs = true) : ∀ d ∈ dlO st.os (nxO st kind o ver qs).os, d.has = true → keyO d.new = d.key ∧ d.new ∈ (nxO st kind o ver qs).os := fun d hd hh => by
  obtain ⟨k, -, rfl⟩ := (dlO_mem _ _ hf.os (nxO_fine hf hr).os d).1 hd
  cases hg : getO (nxO st kind o ver qs).os k with
  | none => rw [hg] at hh; cases hh
  | some q => exact ⟨(getO_some hg).2, (getO_some hg).1⟩
theorem dlO_len (a b : List Ob) : (dlO a b).length ≤ a.length + b.length := by
  induction a, b using dlO.induct with
  | case1 => rw [dlO]; simp
  | case2 x a ih => rw [dlO]; simp only [List.length_cons] at *; omega
  | case3 y b ih => rw [dlO]; simp only [List.length_cons] at *; omega
  | case4 x a y b h ih => rw [dlO, if_pos h]; simp only [List.length_cons] at *; omega
  | case5 x a y b h h2 ih => rw [dlO, if_neg h, if_pos h2]; simp only [List.length_cons] at *; omega
  | case6 x a b h h2 ih => rw [dlO, if_neg h, if_neg h2, if_pos rfl]; simp only [List.length_cons] at *; omega
  | case7 x a y b h h2 h3 ih => rw [dlO, if_neg h, if_neg h2, if_neg h3]; simp only [List.length_cons] at *; omega
def bareP (os : List Ob) : List PO := os.map fun o => (.slice none 0 0, o)
theorem bare_obs (os : List Ob) : obs (bareP os) = os := by
  show ((os.map fun o => ((.slice none 0 0 : Value), o)).map fun p : PO => p.2) = os
  rw [List.map_map]
  exact List.map_id os
theorem bare_wf {os : List Ob} (hl : os.length ≤ 1000) (h : ∀ o ∈ os, wfS o) : wfL (bareP os) := ⟨by unfold bareP; rw [List.length_map]; omega, fun p hp => by
  obtain ⟨o, ho, rfl⟩ := List.mem_map.1 hp
  exact h o ho⟩
theorem fit_ap {st : St} (h : FitSt st) (hg : st.gs.length ≤ 80000) {kind : Int} {o : Ob} {ver : Int} {qs : List Ob} (hwo : wfS o) (hq : qs.length ≤ 1000) (hw2 : ∀ q ∈ qs, wfS q) : FitSt (apO st kind o ver qs).2.2 ∧ (apO st kind o ver qs).2.2.gs.length ≤ st.gs.length + 1 := by
  obtain ⟨os, gs, fl⟩ := st
  have hobs := apP_obs (bareP os) gs fl kind (.slice none 0 0, o) ver (bareP qs)
  rw [bare_obs, bare_obs] at hobs
  simp only at hobs
  obtain ⟨k1, k2, k3, k4, k5, k6⟩ := apP_keep (fl := fl) (kind := kind) (p := (.slice none 0 0, o)) (ver := ver) (qs := bareP qs) (bare_wf h.os h.wf) hwo (bare_wf hq hw2) h.gs (by unfold bareP; rw [List.length_map]; exact h.os) hg
  have hfine := ap_fine (kind := kind) (o := o) (ver := ver) (qs := qs) h.fine
  rw [hobs] at hfine ⊢
  refine ⟨⟨hfine, by simp only [obs_len]; exact k3, k2, fun q hq => ?_⟩, k4⟩
  obtain ⟨p, hp, rfl⟩ := List.mem_map.1 hq
  exact k1.2 p hp
theorem fit_new : FitSt .new := ⟨Fine.new, by simp, ⟨by simp, (fun g h => by cases h)⟩, (fun o h => by cases h)⟩
theorem nxO_len (st : St) (kind : Int) (o : Ob) (ver : Int) (qs : List Ob) : (nxO st kind o ver qs).os.length ≤ st.os.length + qs.length + 1 := by
  obtain ⟨os, gs, fl⟩ := st
  have h := nxP_obs (bareP os) gs fl kind (.slice none 0 0, o) ver (bareP qs)
  rw [bare_obs, bare_obs] at h
  simp only at h
  rw [h]
  have := (nxP_len (ps := bareP os) (gs := gs) (fl := fl) (kind := kind) (p := (.slice none 0 0, o)) (ver := ver) (qs := bareP qs)).1
  have e1 : (bareP os).length = os.length := List.length_map _
  have e2 : (bareP qs).length = qs.length := List.length_map _
  simp only [obs_len]
  omega
theorem nx_wf {st : St} (h : ∀ o ∈ st.os, wfS o) {kind : Int} {o : Ob} {ver : Int} {qs : List Ob} (hwo : wfS o) (hw2 : ∀ q ∈ qs, wfS q) : ∀ q ∈ (nxO st kind o ver qs).os, wfS q := by
  obtain ⟨os, gs, fl⟩ := st
  have h2 := nxP_obs (bareP os) gs fl kind (.slice none 0 0, o) ver (bareP qs)
  rw [bare_obs, bare_obs] at h2
  simp only at h2
  rw [h2]
  intro q hq
  obtain ⟨p, hp, rfl⟩ := List.mem_map.1 hq
  have hb : ∀ {l : List Ob} {p : PO}, p ∈ bareP l → p.2 ∈ l := fun hp => by
    obtain ⟨o, ho, rfl⟩ := List.mem_map.1 hp
    exact ho
  rcases nxP_mem p hp with h3 | rfl | h3
  · exact h _ (hb h3)
  · exact hwo
  · exact hw2 _ (hb h3)
theorem Made.os {st : St} {g : Nat} {l : Hp} {os : List Ob} (h : Made st g l) (hp : st.os.Perm os) : Made ⟨os, st.gs, st.fl⟩ g l := by
  obtain ⟨bo, bg, X, co, G, cg, ls, Z, rfl, h1, h2⟩ := h
  exact ⟨bo, bg, X, co, G, cg, ls, Z, rfl, h1, ⟨h2.os.trans hp, h2.gs, h2.bo, h2.lo, h2.bg, h2.lg, h2.up⟩⟩
set_option maxHeartbeats 64000000 in
theorem papplyE_ok {m : Nat} {w0 : World} {st : St} {g : Nat} {l le : Hp} (h : LCh st g l) (hf : FitSt st) (kind : Int) (p : PO) (ver : Int) (v2 : Value) (qs : List PO) (hwo : wfS p.2) (hw2 : wfL qs) (hl3 : qs.length ≤ 1000) (hsl1 : ∃ a n c, p.1 = .slice a n c) (hsl2 : ∃ a n c, v2 = .slice a n c)
    (hE : ∀ {n : Nat} {H R2 : Hp} w', RepH ⟨w0.heap.size, w0, n⟩ H w' → Cut H le R2 → ResAt w' p.1 p.2.rs ∧ ObjsAt w' v2 qs) (R : Hp) :
    CallsH Tryz.prog ⟨w0.heap.size, w0, m⟩ 26 [.pointer (some ⟨g, 0, none⟩), EV kind p ver v2] (l ++ (le ++ R)) fun r H' =>
      ∃ rd ld l', r = .tuple #[rd, I (apO st kind p.2 ver (obs qs)).1] ∧ H' = ld ++ (l' ++ (le ++ R)) ∧ LCh (apO st kind p.2 ver (obs qs)).2.2 g l' ∧ DDels (apO st kind p.2 ver (obs qs)).2.1 rd ld := by
  have hvs := fun {n : Nat} {H R2 : Hp} w' (hw : RepH ⟨w0.heap.size, w0, n⟩ H w') (hc : Cut H le R2) => pversion_ok kind p ver v2 qs hwo hw2 w' (hE w' hw hc).1 (hE w' hw hc).2
  have hlw := fun {n : Nat} {H R2 : Hp} w' (hw : RepH ⟨w0.heap.size, w0, n⟩ H w') (hc : Cut H l R2) => (by
    obtain ⟨mo, mg, X, co, G, cg, hC, -⟩ := cAt_of h hw hc
    exact low_ok hC hf.fine kind p ver v2 : Calls Tryz.prog 49 #[.pointer (some ⟨g, 0, none⟩), EV kind p ver v2] w' fun e w'' => e = .returned (I (lowO st kind p.2)) ∧ Below w'.heap.size w' w'')
  have hdl := fun {n : Nat} {H R2 R3 : Hp} w' (hw : RepH ⟨w0.heap.size, w0, n⟩ H w') (hc : Cut H l R2) (hc2 : Cut H le R3) (hr : rightE kind p.2 ver (obs qs) = true) (hlow : lowO st kind p.2 < (versE kind p.2 ver (obs qs)).1) => (by
    obtain ⟨mo, mg, X, co, G, cg, hC, -⟩ := cAt_of h hw hc
    exact deltas_ok hC hf.fine hf.wf hf.os kind p ver v2 qs hwo hw2 hl3 (hE w' hw hc2).1 (hE w' hw hc2).2 hr hlow : Calls Tryz.prog 50 #[.pointer (some ⟨g, 0, none⟩), EV kind p ver v2] w' fun e w'' => ∃ r, e = .returned r ∧ NewD (DDels (dlO st.os (nxO st kind p.2 ver (obs qs)).os)) w' w'' r)
  have hct := fun {n : Nat} {H R2 R3 l0 : Hp} {v : Value} {ds : List PD} w' (hw : RepH ⟨w0.heap.size, w0, n⟩ H w') (hc : Cut H l R2) (hc2 : Cut H l0 R3) (hn : ds.length ≤ 100000) (hr0 : RowB 82 21 v l0 ds.length (ds.flatMap cellsD)) (hpl : ∀ d ∈ ds, (∃ a n c, d.old.1 = .slice a n c) ∧ ∃ a n c, d.new.1 = .slice a n c) => (by
    obtain ⟨mo, mg, X, co, G, cg, hC, -⟩ := cAt_of h hw hc
    exact count_ok hC hf.os v ds hn (hw.oldr hr0 hc2) hpl : Calls Tryz.prog 51 #[.pointer (some ⟨g, 0, none⟩), v] w' fun e w'' => e = .returned (I (cntD st.os.length (ds.map deD))) ∧ Below w'.heap.size w' w'')
  have hby := fun {st2 : St} {l2 : Hp} (hM : Made st2 g l2) hO hgk vn hk hvn hlow R => bury_ok (m := m) (w0 := w0) hM hO hgk kind p ver v2 hsl1 hsl2 vn hk hvn hlow R
  have hnl := nxO_len st kind p.2 ver (obs qs)
  rw [obs_len] at hnl
  have hos := hf.os
  have hdll := dlO_len st.os (nxO st kind p.2 ver (obs qs)).os
  have hcnt := cntD_dl st.os (nxO st kind p.2 ver (obs qs)).os
  unfold apO
  have hfn := nx_wf (kind := kind) (o := p.2) (ver := ver) (qs := obs qs) hf.wf hwo (fun q hq => by obtain ⟨p, hp, rfl⟩ := List.mem_map.1 hq; exact hw2.2 p hp)
  obtain ⟨x, k, s, n, over, c, tm, bs, rs⟩ := p
  obtain ⟨xa, xn, xc, hx⟩ := hsl1
  obtain ⟨va, vn, vc, hv⟩ := hsl2
  simp only at hx
  subst hx hv
  refine callsH2 (fn := Tryz.f26) Tryz.func26 rfl rfl rfl rfl ?_
  by_cases h1 : rightE kind ⟨k, s, n, over, c, tm, bs, rs⟩ ver (obs qs) = false
  · have hve : versE kind ⟨k, s, n, over, c, tm, bs, rs⟩ ver (obs qs) = (0, 1) := by unfold versE; rw [if_neg (by rw [h1]; decide)]
    simp only at hvs ⊢
    rw [hve] at hvs
    rw [if_pos h1]
    simp only at hvs ⊢
    repeat' (first | refine aw_seq ?_ | ((first | apply ao_val | apply aq_val); exact wants_a; (first | exact ov_peqs rfl rfl | exact ov_a); (exact rfl)) | refine zy ?_ | refine zon fun _ => ?_ | refine zoa fun vr lr hr => ?_ | ((first | apply ao_call | apply aq_call); exact wants_a; (first | exact oc_func rfl | exact oc_clos rfl rfl | exact oc_bnd rfl rfl); (exact rfl); (first | exact fun w hw => hvs w hw cut_a)) | refine zoS (fun _ => ?_) (fun _ => ?_) | refine zqS (fun _ => ?_) (fun _ => ?_) | refine zwS (fun _ => ?_) (fun _ => ?_))
    exact ⟨l ++ (le ++ R), l ++ (le ++ R), List.sublist_cons_self _ _, List.Perm.refl _, _, [], l, rfl, rfl, h, dels_none _ rfl⟩
  have hr : rightE kind ⟨k, s, n, over, c, tm, bs, rs⟩ ver (obs qs) = true := by simpa using h1
  have hve : (versE kind ⟨k, s, n, over, c, tm, bs, rs⟩ ver (obs qs)).2 = 0 := by unfold versE; rw [if_pos hr]
  have hvi := vers_is hr
  simp only at hvs hlw hdl hvi hby ⊢
  rw [hve] at hvs
  rw [if_neg h1]
  generalize (versE kind ⟨k, s, n, over, c, tm, bs, rs⟩ ver (obs qs)).1 = V at hvs hdl hvi ⊢
  generalize hLW : lowO st kind ⟨k, s, n, over, c, tm, bs, rs⟩ = W at hlw hdl ⊢
  by_cases h2 : V ≤ W
  · rw [if_pos h2]
    repeat' (first | refine aw_seq ?_ | ((first | apply ao_val | apply aq_val); exact wants_a; (first | exact ov_peqs rfl rfl | exact ov_a); (exact rfl)) | refine zy ?_ | refine zon fun _ => ?_ | refine zoa fun vr lr hr => ?_ | ((first | apply ao_call | apply aq_call); exact wants_a; (first | exact oc_func rfl | exact oc_clos rfl rfl | exact oc_bnd rfl rfl); (exact rfl); (first | exact fun w hw => hvs w hw cut_a | exact fun w hw => hlw w hw cut_a)) | refine zoS (fun _ => ?_) (fun _ => ?_) | refine zqS (fun _ => ?_) (fun _ => ?_) | refine zwS (fun _ => ?_) (fun _ => ?_))
    exact ⟨l ++ (le ++ R), l ++ (le ++ R), List.sublist_cons_self _ _, List.Perm.refl _, _, [], l, rfl, rfl, h, dels_none _ rfl⟩
  rw [if_neg h2]
  repeat' (first | refine aw_seq ?_ | ((first | apply ao_val | apply aq_val); exact wants_a; (first | exact ov_peqs rfl rfl | exact ov_a); (exact rfl)) | refine zy ?_ | refine zon fun _ => ?_ | refine zoa fun vr lr hr => ?_ | ((first | apply ao_call | apply aq_call); exact wants_a; (first | exact oc_func rfl | exact oc_clos rfl rfl | exact oc_bnd rfl rfl); (exact rfl); (first | exact fun w hw => hvs w hw cut_a | exact fun w hw => hlw w hw cut_a)) | (apply ao_callD; exact wants_a; (exact oc_func rfl); (exact rfl); (first | exact fun w hw => hdl w hw cut_a cut_a hr (by omega)); intro vr lr hr) | refine zoS (fun _ => ?_) (fun _ => ?_) | refine zqS (fun _ => ?_) (fun _ => ?_) | refine zwS (fun _ => ?_) (fun _ => ?_))
  revert vr lr hr
  rintro v1 _ ⟨ps, l0, ls0, hds, rfl, r0, hpa⟩
  rw [List.append_assoc]
  have hpl : ∀ d ∈ ps, (∃ a n c, d.old.1 = .slice a n c) ∧ ∃ a n c, d.new.1 = .slice a n c := fun d hd => by
    obtain ⟨l, R, -, l1, l2, rfl, k1, k2⟩ := hpa.at hd
    obtain ⟨a1, c1, e1⟩ := k1.len
    obtain ⟨a2, c2, e2⟩ := k2.len
    exact ⟨⟨a1, _, c1, e1⟩, ⟨a2, _, c2, e2⟩⟩
  have hpn : ps.length ≤ 100000 := by
    have := congrArg List.length hds
    rw [List.length_map] at this
    simp only at hdll hnl
    omega
  have hct2 := fun {n : Nat} {H R2 R3 : Hp} w' (hw : RepH ⟨w0.heap.size, w0, n⟩ H w') (hc : Cut H l R2) (hc2 : Cut H l0 R3) => hct w' hw hc hc2 hpn r0 hpl
  simp only at hcnt hfn hnl
  rw [hds, hcnt] at hct2
  clear hct hcnt hdll
  have hdn := dl_new (ver := ver) (qs := obs qs) hf.fine hr
  have hkn : ∀ d ∈ ps, d.has = true → keyO d.new.2 = d.key := fun d hd hh => (hdn (deD d) (by rw [← hds]; exact List.mem_map.2 ⟨d, hd, rfl⟩) hh).1
  have hwn : ∀ d ∈ ps, wfS d.new.2 := fun d hd => by
    have hm : deD d ∈ dlO st.os (nxO st kind ⟨k, s, n, over, c, tm, bs, rs⟩ ver (obs qs)).os := by rw [← hds]; exact List.mem_map.2 ⟨d, hd, rfl⟩
    cases hh : d.has
    · obtain ⟨j, -, e⟩ := (dlO_mem _ _ hf.fine.os (nxO_fine hf.fine hr).os _).1 hm
      have e1 : d.has = (getB (getO (nxO st kind ⟨k, s, n, over, c, tm, bs, rs⟩ ver (obs qs)).os j)).2 := congrArg De.has e
      have e2 : d.new.2 = (getB (getO (nxO st kind ⟨k, s, n, over, c, tm, bs, rs⟩ ver (obs qs)).os j)).1 := congrArg De.new e
      cases hg : getO (nxO st kind ⟨k, s, n, over, c, tm, bs, rs⟩ ver (obs qs)).os j with
      | none =>
        rw [hg] at e2
        rw [e2]
        simp [getB, wfS, wfR]
      | some q =>
        rw [hg, hh] at e1
        cases e1
    · exact hfn _ (hdn (deD d) hm hh).2
  by_cases h3 : 1000 < (nxO st kind ⟨k, s, n, over, c, tm, bs, rs⟩ ver (obs qs)).os.length
  · rw [if_pos h3]
    generalize (nxO st kind ⟨k, s, n, over, c, tm, bs, rs⟩ ver (obs qs)).os.length = N at hct2 h3
    repeat' (first | refine aw_seq ?_ | refine zz ?_ | refine zon fun _ => ?_ | refine zoa fun vr lr hr => ?_ | ((first | apply ao_call | apply aq_call); exact wants_a; (first | exact oc_func rfl | exact oc_clos rfl rfl | exact oc_bnd rfl rfl); (exact rfl); (first | exact fun w hw => hct2 w hw cut_a cut_a)) | refine zoS (fun _ => ?_) (fun _ => ?_) | refine zqS (fun _ => ?_) (fun _ => ?_) | refine zwS (fun _ => ?_) (fun _ => ?_))
    exact ⟨l ++ (le ++ R), l ++ (le ++ R), (by repeat (first | exact List.Sublist.refl _ | apply hs_app | apply hs_keep | apply hs_skip | apply hs_app0)), List.Perm.refl _, _, [], l, rfl, rfl, h, dels_none _ rfl⟩
  rw [if_neg h3]
  have hmade : (madeO st.os (ps.map deD)).Perm (nxO st kind ⟨k, s, n, over, c, tm, bs, rs⟩ ver (obs qs)).os := by
    rw [hds]
    exact (plays_all st.os (nxO st kind ⟨k, s, n, over, c, tm, bs, rs⟩ ver (obs qs)).os [] st.os (List.Perm.refl _) hf.fine.os.own (nxO_fine hf.fine hr).os.own hf.fine.os (nxO_fine hf.fine hr).os (fun _ hq => by cases hq)).2
  have hnx := burG_is st kind ⟨k, s, n, over, c, tm, bs, rs⟩ ver (obs qs)
  generalize hN : (nxO st kind ⟨k, s, n, over, c, tm, bs, rs⟩ ver (obs qs)).os.length = N at hct2 h3
  repeat' (first | refine aw_seq ?_ | refine zz ?_ | refine zon fun _ => ?_ | refine zoa fun vr lr hr => ?_ | ((first | apply ao_call | apply aq_call); exact wants_a; (first | exact oc_func rfl | exact oc_clos rfl rfl | exact oc_bnd rfl rfl); (exact rfl); (first | exact fun w hw => hct2 w hw cut_a cut_a)) | ((apply ao_callH (l := l); exact wants_a; (exact oc_func rfl); (exact rfl); (exact cut_a); (exact ready_ok h _); rintro _ _ ⟨rfl, l2, rfl, hM⟩)) | refine zoS (fun _ => ?_) (fun _ => ?_) | refine zqS (fun _ => ?_) (fun _ => ?_) | refine zwS (fun _ => ?_) (fun _ => ?_))
  have htk := fun {m : Nat} R => take_ok (m := m) (w0 := w0) hM hf.fine.os.own v1 ps l0 ls0 r0 hpa hpn hkn hwn R
  repeat' (first | refine aw_seq ?_ | refine zz ?_ | refine zon fun _ => ?_ | refine zoa fun vr lr hr => ?_ | ((apply ao_callH (l := l2 ++ (l0 ++ ls0)); exact wants_a; (exact oc_func rfl); (exact rfl); (exact Cut.app cut_a (Cut.app cut_a cut_a)); (rw [List.append_assoc, List.append_assoc]; exact htk _); rintro _ _ ⟨rfl, l3, rfl, hM3⟩)) | refine zoS (fun _ => ?_) (fun _ => ?_) | refine zqS (fun _ => ?_) (fun _ => ?_) | refine zwS (fun _ => ?_) (fun _ => ?_))
  have hlow : kind = 1 → st.fl < over := fun e => by
    subst e
    rw [if_pos (.inr rfl)] at hvi
    have := kn_fl st (k, s, n)
    rw [lowO, if_pos (.inr rfl)] at hLW
    have e2 : knO st (k, s, n) = W := hLW
    omega
  have hb4 := fun {m : Nat} R => bury_ok (m := m) (w0 := w0) hM3 hf.fine.gk2 hf.fine.gk kind (.slice xa xn xc, ⟨k, s, n, over, c, tm, bs, rs⟩) ver (.slice va vn vc) ⟨xa, xn, xc, rfl⟩ ⟨va, vn, vc, rfl⟩ V (right_kind hr) hvi hlow R
  repeat' (first | refine aw_seq ?_ | refine zz ?_ | refine zon fun _ => ?_ | refine zoa fun vr lr hr => ?_ | ((apply ao_callH (l := l3); exact wants_a; (exact oc_func rfl); (exact rfl); (exact cut_a); (exact hb4 _); rintro _ _ ⟨rfl, l4, rfl, hM4⟩)) | refine zoS (fun _ => ?_) (fun _ => ?_) | refine zqS (fun _ => ?_) (fun _ => ?_) | refine zwS (fun _ => ?_) (fun _ => ?_))
  have hL : LCh (nxO st kind ⟨k, s, n, over, c, tm, bs, rs⟩ ver (obs qs)) g l4 := by
    have := (hM4.os hmade).ch
    rwa [← hnx] at this
  exact ⟨l4 ++ (l0 ++ (ls0 ++ (le ++ R))), (l0 ++ ls0) ++ (l4 ++ (le ++ R)), (by repeat (first | exact List.Sublist.refl _ | apply hs_app | apply hs_keep | apply hs_skip | apply hs_app0)), (by rw [← List.append_assoc l0 ls0 (le ++ R)]; exact List.perm_append_comm_assoc l4 (l0 ++ ls0) _), v1, l0 ++ ls0, l4, rfl, rfl, hL, ⟨ps, l0, ls0, hds, rfl, r0, hpa⟩⟩
theorem papply_ok {m : Nat} {w0 : World} {st : St} {g : Nat} {l : Hp} (h : LCh st g l) (hf : FitSt st) (kind : Int) (p : PO) (ver : Int) (v2 : Value) (qs : List PO) (hwo : wfS p.2) (hw2 : wfL qs) (hl3 : qs.length ≤ 1000) (ho : ResAt w0 p.1 p.2.rs) (hv2 : ObjsAt w0 v2 qs) (R : Hp) :
    CallsH Tryz.prog ⟨w0.heap.size, w0, m⟩ 26 [.pointer (some ⟨g, 0, none⟩), EV kind p ver v2] (l ++ R) fun r H' =>
      ∃ rd ld l', r = .tuple #[rd, I (apO st kind p.2 ver (obs qs)).1] ∧ H' = ld ++ (l' ++ R) ∧ LCh (apO st kind p.2 ver (obs qs)).2.2 g l' ∧ DDels (apO st kind p.2 ver (obs qs)).2.1 rd ld :=
  papplyE_ok (le := []) h hf kind p ver v2 qs hwo hw2 hl3 (by obtain ⟨a, c, e⟩ := ho.len; exact ⟨a, _, c, e⟩) (by obtain ⟨a, c, e⟩ := hv2.1.len; exact ⟨a, _, c, e⟩) (fun w' hw _ => ⟨ho.below hw.below, hv2.below hw.below⟩) R
end Chm
end Go.Proofs.YtdakeicfhbggeaaGreat
