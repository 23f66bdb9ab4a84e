/- What the document's answer for layer 8 does with lists: has, without; conditions: names of at most 1,000 bytes, at most 1,000 objects. -/
import Derived.Test.YtboimmfegeinaaaGreatEvn
/- Chm: What the document's answer for layer 8 does with lists: has, without; conditions: names of at most 1,000 bytes, at most 1,000 objects. -/
namespace Go.Proofs.YtboimmfegeinaaaGreat
namespace Chm
open Go Go.RowKit Sx Lab Vec Ojt Evt
attribute [local irreducible] Go.Calls

theorem ov_nilcheck {P : Program} {E : Env} {t : Tm} {H : Hp} {ty : TypeId} {x : Operand} {a : Addr} (hx : ev t x = some (.pointer (some a))) : OpV P E (.nilCheck x) ty t H (.pointer (some a)) := by
  refine ov_of fun b w ht _ o ho _ => ⟨pure (.pointer (some a)), ?_, rfl⟩
  simp only [execOp, ho, ev_eval ht hx]
  rfl
/-- A key. -/
abbrev Kt := Nm × Nm × Nm
abbrev keyO (o : Ob) : Kt := (o.k, o.s, o.n)
abbrev K3 (k : Kt) : Value := .agg #[S k.1, S k.2.1, S k.2.2]
theorem key_eq (a b : Kt) : eqAll [S a.1, S a.2.1, S a.2.2] [S b.1, S b.2.1, S b.2.2] = decide (a = b) := by
  obtain ⟨a1, a2, a3⟩ := a
  obtain ⟨b1, b2, b3⟩ := b
  rw [Bool.eq_iff_iff]
  simp [eqAll, eqB]
theorem key_load {w : World} {g b : Nat} {o : Ob} {y : Value} (hc : ∀ (j : Nat) z, (cellsO (y, o))[j]? = some z → w.cell? ⟨g, b + j, none⟩ = some z) : ∀ (j : Nat) z, [S o.k, S o.s, S o.n][j]? = some z → w.cell? ⟨g, b + 0 + j, none⟩ = some z := fun j z hj => hc j z (by
  rcases j with _ | _ | _ | j
  · exact hj
  · exact hj
  · exact hj
  · simp at hj)
def hasK (ps : List PO) (k : Kt) : Bool := ps.any fun p => decide (keyO p.2 = k)
def withoutP (ps : List PO) (k : Kt) : List PO := ps.filter fun p => decide (keyO p.2 ≠ k)

set_option maxHeartbeats 8000000 in
theorem rhas_ok (v : Value) (ps : List PO) (k : Kt) (hl : ps.length ≤ 100000) (w : World) (hv : ObjsAt w v ps) : Calls Tryz.prog 69 #[v, K3 k] w fun e w' => e = .returned (.bool (hasK ps k)) ∧ Below w.heap.size w w' := by
  obtain ⟨a, c, rfl, hat⟩ := OldRow.cells cellsO_len hv.1
  refine calls1 (args := [.slice a ps.length c, K3 k]) Tryz.func69 rfl rfl rfl rfl ?_
  repeat' (first | refine aw_seq ?_ | refine zz ?_ | refine zon fun _ => ?_ | refine zoa fun vr lr hr => ?_ | refine zoS (fun _ => ?_) (fun _ => ?_) | refine zqS (fun _ => ?_) (fun _ => ?_) | refine zwS (fun _ => ?_) (fun _ => ?_))
  refine aw_for (t0 := [(0, .slice a ps.length c), (3, .pointer (some ⟨_, 0, none⟩)), (5, I (0 : Nat))]) (fun q t H => ∃ (gb i : Nat), q = ps.length - i ∧ i ≤ ps.length ∧ (∀ (j : Nat) (p : PO), j < i → ps[j]? = some p → keyO p.2 ≠ k) ∧ t = [(0, .slice a ps.length c), (3, .pointer (some ⟨gb, 0, none⟩)), (5, I i)] ∧ H = [(gb, .cells #[S k.1, S k.2.1, S k.2.2] 33)]) ⟨_, 0, rfl, by omega, fun j p hj => by omega, rfl, rfl⟩ (by repeat (first | exact sub_nil | refine sub_cons rfl ?_)) ?_
  rintro q t H ⟨gb, i, rfl, hi, hall, rfl, rfl⟩
  by_cases hlt : i < ps.length
  · obtain ⟨⟨x, o⟩, he⟩ := getP hlt
    obtain ⟨g, o1, rfl, hg, hc⟩ := hat i _ (i : Int) he rfl
    have cK := key_load hc
    have hke := key_eq (keyO o) k
    by_cases hk : keyO o = k
    · rw [show hasK ps k = true from List.any_eq_true.2 ⟨_, List.mem_of_getElem? he, decide_eq_true hk⟩]
      rw [decide_eq_true hk] at hke
      repeat' (first | refine aw_seq ?_ | ((first | apply ao_val | apply aq_val); exact wants_a; (first | exact ov_load_oa rfl hg cK rfl | exact ov_a); (exact rfl)) | refine zy ?_ | refine zon fun _ => ?_ | refine zoa fun vr lr hr => ?_ | refine zoS (fun _ => ?_) (fun _ => ?_) | refine zqS (fun _ => ?_) (fun _ => ?_) | refine zwS (fun _ => ?_) (fun _ => ?_))
      exact fun w' hw => ⟨rfl, hw.below⟩
    · rw [decide_eq_false hk] at hke
      repeat' (first | refine aw_seq ?_ | ((first | apply ao_val | apply aq_val); exact wants_a; (first | exact ov_load_oa rfl hg cK rfl | exact ov_a); (exact rfl)) | refine zy ?_ | refine zon fun _ => ?_ | refine zoa fun vr lr hr => ?_ | refine zoS (fun _ => ?_) (fun _ => ?_) | refine zqS (fun _ => ?_) (fun _ => ?_) | refine zwS (fun _ => ?_) (fun _ => ?_))
      exact lq_normal' ⟨gb, i + 1, rfl, by omega, fun j p hj hp => by
        by_cases e1 : j = i
        · subst e1; rw [he] at hp; cases hp; exact hk
        · exact hall j p (by omega) hp, rfl, rfl⟩ (by omega) (by repeat (first | exact sub_nil | refine sub_cons rfl ?_)) hsub_a
  · obtain rfl : i = ps.length := by omega
    rw [show hasK ps k = false from List.any_eq_false.2 fun p hp => by
      obtain ⟨j, hj⟩ := List.getElem?_of_mem hp
      simpa using hall j p (List.getElem?_eq_some_iff.1 hj).1 hj]
    repeat' (first | refine aw_seq ?_ | refine zz ?_ | refine zon fun _ => ?_ | refine zoa fun vr lr hr => ?_ | refine zoS (fun _ => ?_) (fun _ => ?_) | refine zqS (fun _ => ?_) (fun _ => ?_) | refine zwS (fun _ => ?_) (fun _ => ?_))
    exact fun w' hw => ⟨rfl, hw.below⟩

theorem row_o {v : Value} {k : Hp} {os : List PO} {u : Value} {o : Ob} {e : TypeId} (h : RowB e 8 v k (os.length + 1) (os.flatMap cellsO ++ [S o.k, S o.s, S o.n, I o.ver, S o.c, .bool o.tm, .bool o.bs, u])) : RowB e 8 v k (os ++ [(u, o)]).length ((os ++ [(u, o)]).flatMap cellsO) := by
  rw [List.length_append, List.flatMap_append]
  exact h
set_option maxHeartbeats 16000000 in
theorem rwithout_ok (v : Value) (ps : List PO) (k : Kt) (hl : ps.length ≤ 100000) (w : World) (hv : ObjsAt w v ps) :
    Calls Tryz.prog 46 #[v, K3 k] w fun e w' => ∃ r, e = .returned r ∧ NewRow 36 8 w w' r (withoutP ps k).length ((withoutP ps k).flatMap cellsO) := by
  obtain ⟨a, c, rfl, hat⟩ := OldRow.cells cellsO_len hv.1
  refine calls1 (args := [.slice a ps.length c, K3 k]) Tryz.func46 rfl rfl rfl rfl ?_
  repeat' (first | refine aw_seq ?_ | refine zz ?_ | refine zon fun _ => ?_ | refine zoa fun vr lr hr => ?_ | refine zoS (fun _ => ?_) (fun _ => ?_) | refine zqS (fun _ => ?_) (fun _ => ?_) | refine zwS (fun _ => ?_) (fun _ => ?_))
  refine aw_for (t0 := [(0, .slice a ps.length c), (3, .pointer (some ⟨_, 0, none⟩)), (5, .slice none 0 0), (6, I (0 : Nat))]) (fun q t H => ∃ (gb i : Nat) (v5 : Value) (l5 : Hp) (outs : List PO), q = ps.length - i ∧ i ≤ ps.length ∧ outs = withoutP (ps.take i) k ∧ RowB 36 8 v5 l5 outs.length (outs.flatMap cellsO) ∧ t = [(0, .slice a ps.length c), (3, .pointer (some ⟨gb, 0, none⟩)), (5, v5), (6, I i)] ∧ H = l5 ++ [(gb, .cells #[S k.1, S k.2.1, S k.2.2] 33)])
    ⟨_, 0, _, [], [], rfl, by omega, rfl, RowB.nil, rfl, rfl⟩ (by repeat (first | exact sub_nil | refine sub_cons rfl ?_)) ?_
  rintro q t H ⟨gb, i, v5, l5, outs, rfl, hi, hout, r5, rfl, rfl⟩
  by_cases hlt : i < ps.length
  · obtain ⟨⟨x, o⟩, he⟩ := getP hlt
    have hra := hv.2 _ (List.mem_of_getElem? he)
    obtain ⟨xa, xc, hx⟩ := hra.len
    simp only at hx
    subst hx
    obtain ⟨g, o1, rfl, hg, hc⟩ := hat i _ (i : Int) he rfl
    have cA : ∀ (j : Nat) z, [S o.k, S o.s, S o.n, I o.ver, S o.c, .bool o.tm, .bool o.bs, .slice xa o.rs.length xc][j]? = some z → w.cell? ⟨g, o1 + (i : Int).toNat * 8 + j, none⟩ = some z := hc
    have cK := key_load hc
    have hke := key_eq (keyO o) k
    have hln : outs.length ≤ i := by rw [hout]; exact Nat.le_trans (List.length_filter_le _ _) (List.length_take_le _ _)
    have hnx : withoutP (ps.take (i + 1)) k = outs ++ (if keyO o ≠ k then [((.slice xa o.rs.length xc : Value), o)] else []) := by
      unfold withoutP at *
      rw [List.take_add_one, he, List.filter_append, ← hout]
      by_cases hk : keyO o = k <;> simp [hk]
    by_cases hk : keyO o = k
    · rw [if_neg (by simpa using hk), List.append_nil] at hnx
      rw [decide_eq_true hk] at hke
      repeat' (first | refine aw_seq ?_ | ((first | apply ao_val | apply aq_val); exact wants_a; (first | exact ov_load_oa rfl hg cA rfl | exact ov_load_oa rfl hg cK rfl | exact ov_a); (exact rfl)) | refine zy ?_ | refine zon fun _ => ?_ | refine zoa fun vr lr hr => ?_ | refine zoS (fun _ => ?_) (fun _ => ?_) | refine zqS (fun _ => ?_) (fun _ => ?_) | refine zwS (fun _ => ?_) (fun _ => ?_))
      exact lq_normal' ⟨gb, i + 1, v5, _, outs, rfl, by omega, hnx.symm, r5, rfl, rfl⟩ (by omega) (by repeat (first | exact sub_nil | refine sub_cons rfl ?_)) hsub_a
    · rw [if_pos hk] at hnx
      rw [decide_eq_false hk] at hke
      repeat' (first | refine aw_seq ?_ | ((first | apply ao_val | apply aq_val); exact wants_a; (first | exact ov_load_oa rfl hg cA rfl | exact ov_load_oa rfl hg cK rfl | exact ov_a); (exact rfl)) | refine zy ?_ | refine zon fun _ => ?_ | refine zoa fun vr lr hr => ?_ | refine zoS (fun _ => ?_) (fun _ => ?_) | refine zqS (fun _ => ?_) (fun _ => ?_) | refine zwS (fun _ => ?_) (fun _ => ?_))
      exact lq_normal' ⟨gb, i + 1, _, _, outs ++ [(_, o)], rfl, by omega, hnx.symm, row_o hr, rfl, rfl⟩ (by omega) (by repeat (first | exact sub_nil | refine sub_cons rfl ?_)) hsub_a
  · obtain rfl : i = ps.length := by omega
    rw [List.take_length] at hout
    subst hout
    repeat' (first | refine aw_seq ?_ | refine zz ?_ | refine zon fun _ => ?_ | refine zoa fun vr lr hr => ?_ | refine zoS (fun _ => ?_) (fun _ => ?_) | refine zqS (fun _ => ?_) (fun _ => ?_) | refine zwS (fun _ => ?_) (fun _ => ?_))
    exact fun w' hw => ⟨_, rfl, hw.below, _, r5, fun b o hm => hw.at_ b o (List.mem_append_left _ hm)⟩
end Chm
end Go.Proofs.YtboimmfegeinaaaGreat
/- Chg: What the document's answer for layer 8 does with lists: graves, Get; conditions: names of at most 1,000 bytes, at most 1,000 objects. -/
namespace Go.Proofs.YtboimmfegeinaaaGreat
namespace Chm
open Go Go.RowKit Sx Lab Vec Ojt Evt
attribute [local irreducible] Go.Calls

/-- A grave: a key, a version. -/
abbrev Gr := Kt × Int
def cellsG (g : Gr) : List Value := [S g.1.1, S g.1.2.1, S g.1.2.2, I g.2]
theorem cellsG_len (g : Gr) : (cellsG g).length = 4 := rfl
def GrAt (w : World) (v : Value) (gs : List Gr) : Prop := OldRow w 4 v gs.length (gs.flatMap cellsG)
def gravesP (gs : List Gr) (k : Kt) (fl : Int) : List Gr := gs.filter fun g => decide (g.1 ≠ k) && decide (fl < g.2)
theorem grow_o {v : Value} {k : Hp} {os : List Gr} {g : Gr} {e : TypeId} (h : RowB e 4 v k (os.length + 1) (os.flatMap cellsG ++ [S g.1.1, S g.1.2.1, S g.1.2.2, I g.2])) : RowB e 4 v k (os ++ [g]).length ((os ++ [g]).flatMap cellsG) := by
  rw [List.length_append, List.flatMap_append]
  simpa [cellsG] using h

set_option maxHeartbeats 16000000 in
theorem rgraves_ok (v : Value) (gs : List Gr) (k : Kt) (fl : Int) (hl : gs.length ≤ 100000) (w : World) (hv : GrAt w v gs) :
    Calls Tryz.prog 44 #[v, K3 k, I fl] w fun e w' => ∃ r, e = .returned r ∧ NewRow 73 4 w w' r (gravesP gs k fl).length ((gravesP gs k fl).flatMap cellsG) := by
  obtain ⟨a, c, rfl, hat⟩ := OldRow.cells cellsG_len hv
  refine calls1 (args := [.slice a gs.length c, K3 k, I fl]) Tryz.func44 rfl rfl rfl rfl ?_
  repeat' (first | refine aw_seq ?_ | refine zz ?_ | refine zon fun _ => ?_ | refine zoa fun vr lr hr => ?_ | refine zoS (fun _ => ?_) (fun _ => ?_) | refine zqS (fun _ => ?_) (fun _ => ?_) | refine zwS (fun _ => ?_) (fun _ => ?_))
  refine aw_for (t0 := [(0, .slice a gs.length c), (2, I fl), (4, .pointer (some ⟨_, 0, none⟩)), (7, .slice none 0 0), (8, I (0 : Nat))]) (fun q t H => ∃ (gb i : Nat) (v5 : Value) (l5 : Hp) (outs : List Gr), q = gs.length - i ∧ i ≤ gs.length ∧ outs = gravesP (gs.take i) k fl ∧ RowB 73 4 v5 l5 outs.length (outs.flatMap cellsG) ∧ t = [(0, .slice a gs.length c), (2, I fl), (4, .pointer (some ⟨gb, 0, none⟩)), (7, v5), (8, I i)] ∧ H = l5 ++ [(gb, .cells #[S k.1, S k.2.1, S k.2.2] 33)])
    ⟨_, 0, _, [], [], rfl, by omega, rfl, RowB.nil, rfl, rfl⟩ (by repeat (first | exact sub_nil | refine sub_cons rfl ?_)) ?_
  rintro q t H ⟨gb, i, v5, l5, outs, rfl, hi, hout, r5, rfl, rfl⟩
  by_cases hlt : i < gs.length
  · obtain ⟨⟨k2, n⟩, he⟩ := getP hlt
    obtain ⟨g, o1, rfl, hg, hc⟩ := hat i _ (i : Int) he rfl
    have cA : ∀ (j : Nat) z, [S k2.1, S k2.2.1, S k2.2.2, I n][j]? = some z → w.cell? ⟨g, o1 + (i : Int).toNat * 4 + j, none⟩ = some z := hc
    have cK : ∀ (j : Nat) z, [S k2.1, S k2.2.1, S k2.2.2][j]? = some z → w.cell? ⟨g, o1 + (i : Int).toNat * 4 + 0 + j, none⟩ = some z := fun j z hj => hc j z (by
      rcases j with _ | _ | _ | j
      · exact hj
      · exact hj
      · exact hj
      · simp at hj)
    have c3 : w.cell? ⟨g, o1 + (i : Int).toNat * 4 + 3, none⟩ = some (I n) := hc 3 _ rfl
    have hke := key_eq k2 k
    have hln : outs.length ≤ i := by rw [hout]; exact Nat.le_trans (List.length_filter_le _ _) (List.length_take_le _ _)
    have hnx : gravesP (gs.take (i + 1)) k fl = outs ++ (if k2 ≠ k ∧ fl < n then [(k2, n)] else []) := by
      unfold gravesP at *
      rw [List.take_add_one, he, List.filter_append, ← hout]
      by_cases hk : k2 = k <;> by_cases hn : fl < n <;> simp [hk, hn]
    by_cases hk : k2 = k
    · rw [if_neg fun h => h.1 hk, List.append_nil] at hnx
      rw [decide_eq_true hk] at hke
      repeat' (first | refine aw_seq ?_ | ((first | apply ao_val | apply aq_val); exact wants_a; (first | exact ov_load_oa rfl hg cA rfl | exact ov_load_oa rfl hg cK rfl | exact ov_a); (exact rfl)) | refine zy ?_ | refine zon fun _ => ?_ | refine zoa fun vr lr hr => ?_ | refine zoS (fun _ => ?_) (fun _ => ?_) | refine zqS (fun _ => ?_) (fun _ => ?_) | refine zwS (fun _ => ?_) (fun _ => ?_))
      exact lq_normal' ⟨gb, i + 1, v5, _, outs, rfl, by omega, hnx.symm, r5, rfl, rfl⟩ (by omega) (by repeat (first | exact sub_nil | refine sub_cons rfl ?_)) hsub_a
    · rw [decide_eq_false hk] at hke
      by_cases hn : fl < n
      · rw [if_pos ⟨hk, hn⟩] at hnx
        repeat' (first | refine aw_seq ?_ | ((first | apply ao_val | apply aq_val); exact wants_a; (first | exact ov_load_oa rfl hg cA rfl | exact ov_load_oa rfl hg cK rfl | exact ov_a); (exact rfl)) | refine zy ?_ | refine zon fun _ => ?_ | refine zoa fun vr lr hr => ?_ | refine zoS (fun _ => ?_) (fun _ => ?_) | refine zqS (fun _ => ?_) (fun _ => ?_) | refine zwS (fun _ => ?_) (fun _ => ?_))
        exact lq_normal' ⟨gb, i + 1, _, _, outs ++ [(k2, n)], rfl, by omega, hnx.symm, grow_o hr, rfl, rfl⟩ (by omega) (by repeat (first | exact sub_nil | refine sub_cons rfl ?_)) hsub_a
      · rw [if_neg fun h => hn h.2, List.append_nil] at hnx
        repeat' (first | refine aw_seq ?_ | ((first | apply ao_val | apply aq_val); exact wants_a; (first | exact ov_load_oa rfl hg cA rfl | exact ov_load_oa rfl hg cK rfl | exact ov_a); (exact rfl)) | refine zy ?_ | refine zon fun _ => ?_ | refine zoa fun vr lr hr => ?_ | refine zoS (fun _ => ?_) (fun _ => ?_) | refine zqS (fun _ => ?_) (fun _ => ?_) | refine zwS (fun _ => ?_) (fun _ => ?_))
        exact lq_normal' ⟨gb, i + 1, v5, _, outs, rfl, by omega, hnx.symm, r5, rfl, rfl⟩ (by omega) (by repeat (first | exact sub_nil | refine sub_cons rfl ?_)) hsub_a
  · obtain rfl : i = gs.length := by omega
    rw [List.take_length] at hout
    subst hout
    repeat' (first | refine aw_seq ?_ | refine zz ?_ | refine zon fun _ => ?_ | refine zoa fun vr lr hr => ?_ | refine zoS (fun _ => ?_) (fun _ => ?_) | refine zqS (fun _ => ?_) (fun _ => ?_) | refine zwS (fun _ => ?_) (fun _ => ?_))
    exact fun w' hw => ⟨_, rfl, hw.below, _, r5, fun b o hm => hw.at_ b o (List.mem_append_left _ hm)⟩

/-- The document's cache: where it lies, its objects, its graves, its floor. -/
def ChAt (w : World) (g : Nat) (v : Value) (ps : List PO) (u : Value) (gs : List Gr) (fl : Int) : Prop :=
  g < w.heap.size ∧ w.cell? ⟨g, 0 + 0, none⟩ = some v ∧ w.cell? ⟨g, 0 + 1, none⟩ = some u ∧ w.cell? ⟨g, 0 + 2, none⟩ = some (I fl) ∧ ObjsAt w v ps ∧ GrAt w u gs
def findK (ps : List PO) (k : Kt) : Option PO := ps.find? fun p => decide (keyO p.2 = k)
def getV (r : Option PO) : Value :=
  match r with
  | some p => .tuple #[OV p.2 p.1, .bool true]
  | none => .tuple #[.agg #[S [], S [], S [], I 0, S [], .bool false, .bool false, .slice none 0 0], .bool false]

set_option maxHeartbeats 16000000 in
theorem rget_ok (gc : Nat) (v : Value) (ps : List PO) (u : Value) (gs : List Gr) (fl : Int) (k : Kt) (hl : ps.length ≤ 100000) (w : World) (hc0 : ChAt w gc v ps u gs fl) :
    Calls Tryz.prog 15 #[.pointer (some ⟨gc, 0, none⟩), K3 k] w fun e w' => e = .returned (getV (findK ps k)) ∧ Below w.heap.size w w' := by
  obtain ⟨hgc, q0, -, -, hv, -⟩ := hc0
  obtain ⟨a, c, rfl, hat⟩ := OldRow.cells cellsO_len hv.1
  refine callsC2 (rt := 36) (args := [.pointer (some ⟨gc, 0, none⟩), K3 k]) Tryz.func15 rfl rfl rfl rfl ?_
  repeat' (first | refine aw_seq ?_ | ((first | apply ao_val | apply aq_val); exact wants_a; (first | exact ov_nilcheck rfl | exact ov_a); (exact rfl)) | refine zy ?_ | refine zon fun _ => ?_ | refine zoa fun vr lr hr => ?_ | refine zoS (fun _ => ?_) (fun _ => ?_) | refine zqS (fun _ => ?_) (fun _ => ?_) | refine zwS (fun _ => ?_) (fun _ => ?_))
  refine aw_for (t0 := [(0, .pointer (some ⟨gc, 0, none⟩)), (3, .pointer (some ⟨_, 0, none⟩)), (4, .pointer (some ⟨_, 0, none⟩)), (6, I (0 : Nat))]) (fun q t H => ∃ (gb gr i : Nat), q = ps.length - i ∧ i ≤ ps.length ∧ (∀ (j : Nat) (p : PO), j < i → ps[j]? = some p → keyO p.2 ≠ k) ∧ t = [(0, .pointer (some ⟨gc, 0, none⟩)), (3, .pointer (some ⟨gb, 0, none⟩)), (4, .pointer (some ⟨gr, 0, none⟩)), (6, I i)] ∧ H = [(gr, .cells #[S [], S [], S [], I 0, S [], .bool false, .bool false, .slice none 0 0] 36), (gb, .cells #[S k.1, S k.2.1, S k.2.2] 33)]) ⟨_, _, 0, rfl, by omega, fun j p hj => by omega, rfl, rfl⟩ (by repeat (first | exact sub_nil | refine sub_cons rfl ?_)) ?_
  rintro q t H ⟨gb, gr, i, rfl, hi, hall, rfl, rfl⟩
  by_cases hlt : i < ps.length
  · obtain ⟨⟨x, o⟩, he⟩ := getP hlt
    have hra := hv.2 _ (List.mem_of_getElem? he)
    obtain ⟨xa, xc, hx⟩ := hra.len
    simp only at hx
    subst hx
    obtain ⟨g, o1, rfl, hg, hc⟩ := hat i _ (i : Int) he rfl
    have cA : ∀ (j : Nat) z, [S o.k, S o.s, S o.n, I o.ver, S o.c, .bool o.tm, .bool o.bs, .slice xa o.rs.length xc][j]? = some z → w.cell? ⟨g, o1 + (i : Int).toNat * 8 + j, none⟩ = some z := hc
    have cK := key_load hc
    have hke := key_eq (keyO o) k
    by_cases hk : keyO o = k
    · rw [show findK ps k = some (.slice xa o.rs.length xc, o) by
        unfold findK
        rw [List.find?_eq_some_iff_getElem]
        refine ⟨decide_eq_true hk, i, hlt, (List.getElem?_eq_some_iff.1 he).2, fun j hj => ?_⟩
        have := hall j _ hj (List.getElem?_eq_getElem (by omega))
        simpa using this]
      rw [decide_eq_true hk] at hke
      repeat' (first | refine aw_seq ?_ | ((first | apply ao_val | apply aq_val); exact wants_a; (first | exact ov_nilcheck rfl | exact ov_load_oa rfl hg cA rfl | exact ov_load_oa rfl hg cK rfl | exact ov_a); (exact rfl)) | refine zy ?_ | refine zon fun _ => ?_ | refine zoa fun vr lr hr => ?_ | refine zoS (fun _ => ?_) (fun _ => ?_) | refine zqS (fun _ => ?_) (fun _ => ?_) | refine zwS (fun _ => ?_) (fun _ => ?_))
      exact fun w' hw => ⟨rfl, hw.below⟩
    · rw [decide_eq_false hk] at hke
      repeat' (first | refine aw_seq ?_ | ((first | apply ao_val | apply aq_val); exact wants_a; (first | exact ov_nilcheck rfl | exact ov_load_oa rfl hg cA rfl | exact ov_load_oa rfl hg cK rfl | exact ov_a); (exact rfl)) | refine zy ?_ | refine zon fun _ => ?_ | refine zoa fun vr lr hr => ?_ | refine zoS (fun _ => ?_) (fun _ => ?_) | refine zqS (fun _ => ?_) (fun _ => ?_) | refine zwS (fun _ => ?_) (fun _ => ?_))
      exact lq_normal' ⟨gb, gr, i + 1, rfl, by omega, fun j p hj hp => by
        by_cases e1 : j = i
        · subst e1; rw [he] at hp; cases hp; exact hk
        · exact hall j p (by omega) hp, rfl, rfl⟩ (by omega) (by repeat (first | exact sub_nil | refine sub_cons rfl ?_)) hsub_a
  · obtain rfl : i = ps.length := by omega
    rw [show findK ps k = none by
      unfold findK
      rw [List.find?_eq_none]
      intro p hp
      obtain ⟨j, hj⟩ := List.getElem?_of_mem hp
      simpa using hall j p (List.getElem?_eq_some_iff.1 hj).1 hj]
    repeat' (first | refine aw_seq ?_ | ((first | apply ao_val | apply aq_val); exact wants_a; (first | exact ov_nilcheck rfl | exact ov_a); (exact rfl)) | refine zy ?_ | refine zon fun _ => ?_ | refine zoa fun vr lr hr => ?_ | refine zoS (fun _ => ?_) (fun _ => ?_) | refine zqS (fun _ => ?_) (fun _ => ?_) | refine zwS (fun _ => ?_) (fun _ => ?_))
    exact fun w' hw => ⟨rfl, hw.below⟩
end Chm
end Go.Proofs.YtboimmfegeinaaaGreat
/- Chk: What the document's answer for layer 8 does with lists: Known; conditions: names of at most 1,000 bytes, at most 1,000 objects. -/
namespace Go.Proofs.YtboimmfegeinaaaGreat
namespace Chm
open Go Go.RowKit Sx Lab Vec Ojt Evt
attribute [local irreducible] Go.Calls

def mx (p q : Int) : Int := if q > p then q else p
def knownG (gs : List Gr) (k : Kt) (n : Int) : Int := gs.foldl (fun n g => if g.1 = k then mx n g.2 else n) n
/-- What is known of a key. -/
def knownC (ps : List PO) (gs : List Gr) (fl : Int) (k : Kt) : Int := knownG gs k (match findK ps k with | some p => mx fl p.2.ver | none => fl)

set_option maxHeartbeats 32000000 in
theorem rknown_ok (gc : Nat) (v : Value) (ps : List PO) (u : Value) (gs : List Gr) (fl : Int) (k : Kt) (hl : ps.length ≤ 100000) (hl2 : gs.length ≤ 100000) (w : World) (hc0 : ChAt w gc v ps u gs fl) :
    Calls Tryz.prog 19 #[.pointer (some ⟨gc, 0, none⟩), K3 k] w fun e w' => e = .returned (I (knownC ps gs fl k)) ∧ Below w.heap.size w w' := by
  have hget := fun w' (hb : Below w.heap.size w w') (h : ChAt w' gc v ps u gs fl) => rget_ok gc v ps u gs fl k hl w' h
  have hbel : ∀ w', Below w.heap.size w w' → ChAt w' gc v ps u gs fl := fun w' hb => by
    obtain ⟨h1, h2, h3, h4, h5, h6⟩ := hc0
    exact ⟨Nat.lt_of_lt_of_le h1 hb.size, (hb.cell h1).trans h2, (hb.cell h1).trans h3, (hb.cell h1).trans h4, h5.below hb, OldRow.below h6 hb⟩
  have hgt := fun w' (hb : Below w.heap.size w w') => hget w' hb (hbel w' hb)
  clear hget
  obtain ⟨hgc, q0, q1, q2, hv, hgr⟩ := hc0
  obtain ⟨a, c, rfl, hat⟩ := OldRow.cells cellsG_len hgr
  refine calls1 (args := [.pointer (some ⟨gc, 0, none⟩), K3 k]) Tryz.func19 rfl rfl rfl rfl ?_
  unfold knownC
  cases hf : findK ps k with
  | none =>
    rw [hf] at hgt
    simp only [getV] at hgt ⊢
    repeat' (first | refine aw_cutI_at (id := 5) (fun t H => ∃ gb, t = [(0, .pointer (some ⟨gc, 0, none⟩)), (3, .pointer (some ⟨gb, 0, none⟩)), (5, I (fl))] ∧ H = [(gb, .cells #[S k.1, S k.2.1, S k.2.2] 33)]) ?_ ?_ | refine aw_cutI_at2 (id := 5) (fun t H => ∃ gb, t = [(0, .pointer (some ⟨gc, 0, none⟩)), (3, .pointer (some ⟨gb, 0, none⟩)), (5, I (fl))] ∧ H = [(gb, .cells #[S k.1, S k.2.1, S k.2.2] 33)]) ?_ ?_ | refine aw_seq ?_ | ((first | apply ao_val | apply aq_val); exact wants_a; (first | exact ov_nilcheck rfl | exact ov_maxR _ rfl rfl rfl | exact ov_a); (exact rfl)) | refine zy ?_ | refine zon fun _ => ?_ | refine zoa fun vr lr hr => ?_ | ((first | apply ao_call | apply aq_call); exact wants_a; (first | exact oc_func rfl | exact oc_clos rfl rfl); (exact rfl); (first | exact fun w hw => hgt w hw.below)) | refine zoS (fun _ => ?_) (fun _ => ?_) | refine zqS (fun _ => ?_) (fun _ => ?_) | refine zwS (fun _ => ?_) (fun _ => ?_))
    · exact ci_normal ⟨_, rfl, rfl⟩ (by repeat (first | exact sub_nil | refine sub_cons rfl ?_)) hsub_a
    rintro t H ⟨gb, rfl, rfl⟩
    repeat' (first | refine aw_seq ?_ | refine zz ?_ | refine zon fun _ => ?_ | refine zoa fun vr lr hr => ?_ | refine zoS (fun _ => ?_) (fun _ => ?_) | refine zqS (fun _ => ?_) (fun _ => ?_) | refine zwS (fun _ => ?_) (fun _ => ?_))
    refine aw_for (t0 := [(0, .pointer (some ⟨gc, 0, none⟩)), (3, .pointer (some ⟨gb, 0, none⟩)), (5, I (fl)), (8, I (0 : Nat))]) (fun q t H => ∃ (i : Nat) (n : Int), q = gs.length - i ∧ i ≤ gs.length ∧ n = knownG (gs.take i) k (fl) ∧ t = [(0, .pointer (some ⟨gc, 0, none⟩)), (3, .pointer (some ⟨gb, 0, none⟩)), (5, I n), (8, I i)] ∧ H = [(gb, .cells #[S k.1, S k.2.1, S k.2.2] 33)]) ⟨0, _, rfl, by omega, rfl, rfl, rfl⟩ (by repeat (first | exact sub_nil | refine sub_cons rfl ?_)) ?_
    rintro q t H ⟨i, n, rfl, hi, hn, rfl, rfl⟩
    by_cases hlt : i < gs.length
    · obtain ⟨⟨k2, m⟩, he⟩ := getP hlt
      obtain ⟨g, o1, rfl, hg, hc⟩ := hat i _ (i : Int) he rfl
      have cK : ∀ (j : Nat) z, [S k2.1, S k2.2.1, S k2.2.2][j]? = some z → w.cell? ⟨g, o1 + (i : Int).toNat * 4 + 0 + j, none⟩ = some z := fun j z hj => hc j z (by
        rcases j with _ | _ | _ | j
        · exact hj
        · exact hj
        · exact hj
        · simp at hj)
      have c3 : w.cell? ⟨g, o1 + (i : Int).toNat * 4 + 3, none⟩ = some (I m) := hc 3 _ rfl
      have hke := key_eq k2 k
      have hnx : knownG (gs.take (i + 1)) k (fl) = if k2 = k then mx n m else n := by
        unfold knownG at *
        rw [List.take_add_one, he, List.foldl_append, ← hn]
        rfl
      by_cases hk : k2 = k
      · rw [if_pos hk] at hnx
        rw [decide_eq_true hk] at hke
        repeat' (first | refine aw_seq ?_ | ((first | apply ao_val | apply aq_val); exact wants_a; (first | exact ov_nilcheck rfl | exact ov_maxR _ rfl rfl rfl | exact ov_load_oa rfl hg cK rfl | exact ov_a); (exact rfl)) | refine zy ?_ | refine zon fun _ => ?_ | refine zoa fun vr lr hr => ?_ | refine zoS (fun _ => ?_) (fun _ => ?_) | refine zqS (fun _ => ?_) (fun _ => ?_) | refine zwS (fun _ => ?_) (fun _ => ?_))
        exact lq_normal' ⟨i + 1, mx n m, rfl, by omega, hnx.symm, rfl, rfl⟩ (by omega) (by repeat (first | exact sub_nil | refine sub_cons rfl ?_)) hsub_a
      · rw [if_neg hk] at hnx
        rw [decide_eq_false hk] at hke
        repeat' (first | refine aw_seq ?_ | ((first | apply ao_val | apply aq_val); exact wants_a; (first | exact ov_nilcheck rfl | exact ov_maxR _ rfl rfl rfl | exact ov_load_oa rfl hg cK rfl | exact ov_a); (exact rfl)) | refine zy ?_ | refine zon fun _ => ?_ | refine zoa fun vr lr hr => ?_ | refine zoS (fun _ => ?_) (fun _ => ?_) | refine zqS (fun _ => ?_) (fun _ => ?_) | refine zwS (fun _ => ?_) (fun _ => ?_))
        exact lq_normal' ⟨i + 1, n, rfl, by omega, hnx.symm, rfl, rfl⟩ (by omega) (by repeat (first | exact sub_nil | refine sub_cons rfl ?_)) hsub_a
    · obtain rfl : i = gs.length := by omega
      rw [List.take_length] at hn
      rw [← hn]
      repeat' (first | refine aw_seq ?_ | ((first | apply ao_val | apply aq_val); exact wants_a; (first | exact ov_nilcheck rfl | exact ov_a); (exact rfl)) | refine zy ?_ | refine zon fun _ => ?_ | refine zoa fun vr lr hr => ?_ | refine zoS (fun _ => ?_) (fun _ => ?_) | refine zqS (fun _ => ?_) (fun _ => ?_) | refine zwS (fun _ => ?_) (fun _ => ?_))
      exact fun w' hw => ⟨rfl, hw.below⟩
  | some p =>
    obtain ⟨x, o⟩ := p
    have hm : ((x, o) : PO) ∈ ps := List.mem_of_find?_eq_some hf
    obtain ⟨xa, xc, hx⟩ := (hv.2 _ hm).len
    simp only at hx
    subst hx
    rw [hf] at hgt
    simp only [getV] at hgt ⊢
    repeat' (first | refine aw_cutI_at (id := 5) (fun t H => ∃ gb, t = [(0, .pointer (some ⟨gc, 0, none⟩)), (3, .pointer (some ⟨gb, 0, none⟩)), (5, I (mx fl o.ver))] ∧ H = [(gb, .cells #[S k.1, S k.2.1, S k.2.2] 33)]) ?_ ?_ | refine aw_cutI_at2 (id := 5) (fun t H => ∃ gb, t = [(0, .pointer (some ⟨gc, 0, none⟩)), (3, .pointer (some ⟨gb, 0, none⟩)), (5, I (mx fl o.ver))] ∧ H = [(gb, .cells #[S k.1, S k.2.1, S k.2.2] 33)]) ?_ ?_ | refine aw_seq ?_ | ((first | apply ao_val | apply aq_val); exact wants_a; (first | exact ov_nilcheck rfl | exact ov_maxR _ rfl rfl rfl | exact ov_a); (exact rfl)) | refine zy ?_ | refine zon fun _ => ?_ | refine zoa fun vr lr hr => ?_ | ((first | apply ao_call | apply aq_call); exact wants_a; (first | exact oc_func rfl | exact oc_clos rfl rfl); (exact rfl); (first | exact fun w hw => hgt w hw.below)) | refine zoS (fun _ => ?_) (fun _ => ?_) | refine zqS (fun _ => ?_) (fun _ => ?_) | refine zwS (fun _ => ?_) (fun _ => ?_))
    · exact ci_normal ⟨_, rfl, rfl⟩ (by repeat (first | exact sub_nil | refine sub_cons rfl ?_)) hsub_a
    rintro t H ⟨gb, rfl, rfl⟩
    repeat' (first | refine aw_seq ?_ | refine zz ?_ | refine zon fun _ => ?_ | refine zoa fun vr lr hr => ?_ | refine zoS (fun _ => ?_) (fun _ => ?_) | refine zqS (fun _ => ?_) (fun _ => ?_) | refine zwS (fun _ => ?_) (fun _ => ?_))
    refine aw_for (t0 := [(0, .pointer (some ⟨gc, 0, none⟩)), (3, .pointer (some ⟨gb, 0, none⟩)), (5, I (mx fl o.ver)), (8, I (0 : Nat))]) (fun q t H => ∃ (i : Nat) (n : Int), q = gs.length - i ∧ i ≤ gs.length ∧ n = knownG (gs.take i) k (mx fl o.ver) ∧ t = [(0, .pointer (some ⟨gc, 0, none⟩)), (3, .pointer (some ⟨gb, 0, none⟩)), (5, I n), (8, I i)] ∧ H = [(gb, .cells #[S k.1, S k.2.1, S k.2.2] 33)]) ⟨0, _, rfl, by omega, rfl, rfl, rfl⟩ (by repeat (first | exact sub_nil | refine sub_cons rfl ?_)) ?_
    rintro q t H ⟨i, n, rfl, hi, hn, rfl, rfl⟩
    by_cases hlt : i < gs.length
    · obtain ⟨⟨k2, m⟩, he⟩ := getP hlt
      obtain ⟨g, o1, rfl, hg, hc⟩ := hat i _ (i : Int) he rfl
      have cK : ∀ (j : Nat) z, [S k2.1, S k2.2.1, S k2.2.2][j]? = some z → w.cell? ⟨g, o1 + (i : Int).toNat * 4 + 0 + j, none⟩ = some z := fun j z hj => hc j z (by
        rcases j with _ | _ | _ | j
        · exact hj
        · exact hj
        · exact hj
        · simp at hj)
      have c3 : w.cell? ⟨g, o1 + (i : Int).toNat * 4 + 3, none⟩ = some (I m) := hc 3 _ rfl
      have hke := key_eq k2 k
      have hnx : knownG (gs.take (i + 1)) k (mx fl o.ver) = if k2 = k then mx n m else n := by
        unfold knownG at *
        rw [List.take_add_one, he, List.foldl_append, ← hn]
        rfl
      by_cases hk : k2 = k
      · rw [if_pos hk] at hnx
        rw [decide_eq_true hk] at hke
        repeat' (first | refine aw_seq ?_ | ((first | apply ao_val | apply aq_val); exact wants_a; (first | exact ov_nilcheck rfl | exact ov_maxR _ rfl rfl rfl | exact ov_load_oa rfl hg cK rfl | exact ov_a); (exact rfl)) | refine zy ?_ | refine zon fun _ => ?_ | refine zoa fun vr lr hr => ?_ | refine zoS (fun _ => ?_) (fun _ => ?_) | refine zqS (fun _ => ?_) (fun _ => ?_) | refine zwS (fun _ => ?_) (fun _ => ?_))
        exact lq_normal' ⟨i + 1, mx n m, rfl, by omega, hnx.symm, rfl, rfl⟩ (by omega) (by repeat (first | exact sub_nil | refine sub_cons rfl ?_)) hsub_a
      · rw [if_neg hk] at hnx
        rw [decide_eq_false hk] at hke
        repeat' (first | refine aw_seq ?_ | ((first | apply ao_val | apply aq_val); exact wants_a; (first | exact ov_nilcheck rfl | exact ov_maxR _ rfl rfl rfl | exact ov_load_oa rfl hg cK rfl | exact ov_a); (exact rfl)) | refine zy ?_ | refine zon fun _ => ?_ | refine zoa fun vr lr hr => ?_ | refine zoS (fun _ => ?_) (fun _ => ?_) | refine zqS (fun _ => ?_) (fun _ => ?_) | refine zwS (fun _ => ?_) (fun _ => ?_))
        exact lq_normal' ⟨i + 1, n, rfl, by omega, hnx.symm, rfl, rfl⟩ (by omega) (by repeat (first | exact sub_nil | refine sub_cons rfl ?_)) hsub_a
    · obtain rfl : i = gs.length := by omega
      rw [List.take_length] at hn
      rw [← hn]
      repeat' (first | refine aw_seq ?_ | ((first | apply ao_val | apply aq_val); exact wants_a; (first | exact ov_nilcheck rfl | exact ov_a); (exact rfl)) | refine zy ?_ | refine zon fun _ => ?_ | refine zoa fun vr lr hr => ?_ | refine zoS (fun _ => ?_) (fun _ => ?_) | refine zqS (fun _ => ?_) (fun _ => ?_) | refine zwS (fun _ => ?_) (fun _ => ?_))
      exact fun w' hw => ⟨rfl, hw.below⟩
end Chm
end Go.Proofs.YtboimmfegeinaaaGreat
