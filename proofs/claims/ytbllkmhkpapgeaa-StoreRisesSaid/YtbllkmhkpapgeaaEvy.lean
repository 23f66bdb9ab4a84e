/- Contracts of the landed code of layer 7: Same, lists of objects' own, Own; conditions: names of at most 1,000 bytes, at most 100,000 objects and resources. -/
import Derived.Test.YtbllkmhkpapgeaaSxw
import Derived.Test.YtbllkmhkpapgeaaEvs
namespace Go.Proofs.Ytbllkmhkpapgeaa
namespace Evt
open Go Go.RowKit Sx Lab Vec Ojt
attribute [local irreducible] Go.Calls

/-- Objects in new memory, all of whose room is in use. -/
def DOwn (os : List Ob) (v : Value) (l : Hp) : Prop := ∃ (outs : List PO) (g : Nat) (ls : Hp), obs outs = os ∧ v = .slice (some ⟨g, 0, none⟩) outs.length outs.length ∧ l = (g, .cells (outs.flatMap cellsO).toArray 38 (0, 0)) :: ls ∧ Parts KO ls outs
theorem DOwn.objs {os : List Ob} {v : Value} {l : Hp} (h : DOwn os v l) : DObjs os v l := by
  obtain ⟨outs, g, ls, h1, rfl, rfl, h2⟩ := h
  exact ⟨outs, [(g, _)], ls, h1, rfl, RowB.lit (flat_len cellsO_len outs), h2⟩
theorem flat_o {e : TypeId} {sz n : Nat} {v : Value} {l : Hp} {xs : List Value} (h : RowB e sz v l n xs) (o : Ob) : (cellsO (v, o)).all flat = true := by
  obtain ⟨a, c, rfl⟩ := h.len
  rfl
abbrev Cs8 := { l : List Value // l.length = 8 }

set_option maxHeartbeats 16000000 in
theorem powned_ok (v : Value) (ps : List PO) (hwf : wfL ps) (w : World) (hv : ObjsAt w v ps) :
    Calls Try.prog 50 #[v] w fun e w' => ∃ r, e = .returned r ∧ NewD (DOwn (obs ps)) w w' r := by
  have hln := hwf.1
  obtain ⟨a, cp, rfl, hat⟩ := OldRow.cells cellsO_len hv.1
  refine calls1 (args := [.slice a ps.length cp]) Try.func50 rfl rfl rfl rfl ?_
  repeat' (first | refine aw_seq ?_ | refine zz ?_ | refine zon fun _ => ?_ | refine zoa fun vr lr hr => ?_ | ((apply ao_make; exact wants_a; exact rfl; exact rfl; omega; omega; exact rfl; intro b1 cs1 hl1)) | refine zoS (fun _ => ?_) (fun _ => ?_) | refine zqS (fun _ => ?_) (fun _ => ?_) | refine zwS (fun _ => ?_) (fun _ => ?_))
  obtain ⟨d0, rfl⟩ := cells_row hl1
  refine aw_for (t0 := [(3, .slice (some ⟨b1, 0, none⟩) ps.length ps.length), (9, .slice a ps.length cp), (10, I ps.length), (11, I (0 : Nat))])
    (fun q t H => ∃ (i : Nat) (d : Nat → Cs8) (outs : List PO) (ls : Hp), q = ps.length - i ∧ i ≤ ps.length ∧ outs.length = i ∧ obs outs = (obs ps).take i ∧ (∀ (k : Nat) u, outs[k]? = some u → (d k).val = cellsO u) ∧ Parts KO ls outs ∧
      t = [(3, .slice (some ⟨b1, 0, none⟩) ps.length ps.length), (9, .slice a ps.length cp), (10, I ps.length), (11, I i)] ∧ H = ls ++ [(b1, .cells (rowL Subtype.val ps.length d).toArray 38 (0, 0))])
    ⟨0, d0, [], [], rfl, by omega, rfl, rfl, fun k u h => by simp at h, Parts.nil, rfl, rfl⟩ (by repeat (first | exact sub_nil | refine sub_cons rfl ?_)) ?_
  rintro q t H ⟨i, d, outs, ls, rfl, hi, hol, hobs, hcells, hparts, rfl, rfl⟩
  by_cases hlt : i < ps.length
  · obtain ⟨⟨x, o⟩, he⟩ := getP hlt
    have m1 := List.mem_of_getElem? he
    have hra := hv.2 _ m1
    have hws := hwf.2 _ m1
    obtain ⟨xa, xc, hx⟩ := hra.len
    simp only at hx
    subst hx
    obtain ⟨g, o1, rfl, hg, hc⟩ := hat i _ (i : Int) he rfl
    have cA : ∀ (j : Nat) z, [S o.k, S o.s, S o.n, I o.ver, S o.c, .bool o.tm, .bool o.bs, .slice xa o.rs.length xc][j]? = some z → w.cell? ⟨g, o1 + (i : Int).toNat * 8 + j, none⟩ = some z := hc
    repeat' (first | refine aw_seq ?_ | ((first | apply ao_val | apply aq_val); exact wants_a; (first | exact ov_load_oa rfl hg cA rfl | exact ov_a); (exact rfl)) | refine zy ?_ | refine zon fun _ => ?_ | refine zoa fun vr lr hr => ?_ | (apply ao_callrg; exact wants_a; (exact oc_func rfl); (exact rfl); (first | exact fun w hw => Ojt.own_ok o _ hws.wfO w (hra.below hw.below)); intro vr lr hr) | ((refine ao_is ?_; apply ao_store; exact wants_a; (apply ow_storeX (f := Subtype.val) (x := (⟨cellsO (vr, o), rfl⟩ : Cs8)) (fun a => a.2) (flat_o hr o) (i := i); (exact rfl); omega; (exact rfl); exact has_a; omega); exact upd_a)) | refine zoS (fun _ => ?_) (fun _ => ?_) | refine zqS (fun _ => ?_) (fun _ => ?_) | refine zwS (fun _ => ?_) (fun _ => ?_))
    refine lq_normal' (H' := (lr ++ ls) ++ [(b1, .cells (rowL Subtype.val ps.length (upd d i (⟨cellsO (vr, o), rfl⟩ : Cs8))).toArray 38 (0, 0))]) ⟨i + 1, _, outs ++ [(vr, o)], lr ++ ls, rfl, by omega, by rw [List.length_append, hol]; rfl, ?_, fun k u hk => ?_, hparts.snoc hr, rfl, rfl⟩ (by omega) (by repeat (first | exact sub_nil | refine sub_cons rfl ?_)) (by rw [List.append_assoc]; exact hsub_a)
    · have t1 : (obs ps)[i]? = some o := by rw [List.getElem?_map, he]; rfl
      rw [List.take_add_one, t1, ← hobs]
      exact List.map_append
    · unfold upd
      by_cases hki : k = i
      · subst hki
        rw [if_pos rfl]
        rw [← hol, List.getElem?_append_right (Nat.le_refl _), Nat.sub_self] at hk
        simp only [List.getElem?_cons_zero, Option.some.injEq] at hk
        subst hk
        rfl
      · rw [if_neg hki]
        have hlt2 := (List.getElem?_eq_some_iff.1 hk).1
        rw [List.length_append, List.length_singleton] at hlt2
        rw [List.getElem?_append_left (by omega)] at hk
        exact hcells k u hk
  · obtain rfl : i = ps.length := by omega
    rw [← obs_len, List.take_length] at hobs
    have hrow := row_is hol hcells
    rw [hrow]
    repeat' (first | refine aw_seq ?_ | refine zz ?_ | refine zon fun _ => ?_ | refine zoa fun vr lr hr => ?_ | refine zoS (fun _ => ?_) (fun _ => ?_) | refine zqS (fun _ => ?_) (fun _ => ?_) | refine zwS (fun _ => ?_) (fun _ => ?_))
    exact fun w' hw => ⟨_, rfl, hw.toD rfl (l := (b1, .cells (outs.flatMap cellsO).toArray 38 (0, 0)) :: ls) (R := []) (by unfold Cut; rw [List.append_nil]; exact List.perm_append_comm) ⟨outs, b1, ls, hobs, by rw [hol], rfl, hparts⟩⟩
end Evt
end Go.Proofs.Ytbllkmhkpapgeaa
