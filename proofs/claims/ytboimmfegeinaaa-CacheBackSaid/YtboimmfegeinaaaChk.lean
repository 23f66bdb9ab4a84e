/- What the document's answer for layer 8 does with lists: has, without; conditions: names of at most 1,000 bytes, at most 1,000 objects. -/
import Derived.Test.YtboimmfegeinaaaEvn
/- Chm: What the document's answer for layer 8 does with lists: has, without; conditions: names of at most 1,000 bytes, at most 1,000 objects. -/
namespace Go.Proofs.Ytboimmfegeinaaa
namespace Chm
open Go Go.RowKit Sx Lab Vec Ojt Evt
attribute [local irreducible] Go.Calls

theorem ov_nilcheck {P : Program} {E : Env} {t : Tm} {H : Hp} {ty : TypeId} {x : Operand} {a : Addr} (hx : ev t x = some (.pointer (some a))) : OpV P E (.nilCheck x) ty t H (.pointer (some a)) := by
  refine ov_of fun b w ht _ o ho _ => ⟨pure (.pointer (some a)), ?_, rfl⟩
  simp only [execOp, ho, ev_eval ht hx]
  rfl
/-- A key. -/
abbrev Kt := Nm × Nm × Nm
abbrev keyO (o : Ob) : Kt := (o.k, o.s, o.n)
abbrev K3 (k : Kt) : Value := .agg #[S k.1, S k.2.1, S k.2.2]
theorem key_eq (a b : Kt) : eqAll [S a.1, S a.2.1, S a.2.2] [S b.1, S b.2.1, S b.2.2] = decide (a = b) := by
  obtain ⟨a1, a2, a3⟩ := a
  obtain ⟨b1, b2, b3⟩ := b
  rw [Bool.eq_iff_iff]
  simp [eqAll, eqB]
theorem key_load {w : World} {g b : Nat} {o : Ob} {y : Value} (hc : ∀ (j : Nat) z, (cellsO (y, o))[j]? = some z → w.cell? ⟨g, b + j, none⟩ = some z) : ∀ (j : Nat) z, [S o.k, S o.s, S o.n][j]? = some z → w.cell? ⟨g, b + 0 + j, none⟩ = some z := fun j z hj => hc j z (by
  rcases j with _ | _ | _ | j
  · exact hj
  · exact hj
  · exact hj
  · simp at hj)
def hasK (ps : List PO) (k : Kt) : Bool := ps.any fun p => decide (keyO p.2 = k)
def withoutP (ps : List PO) (k : Kt) : List PO := ps.filter fun p => decide (keyO p.2 ≠ k)

theorem row_o {v : Value} {k : Hp} {os : List PO} {u : Value} {o : Ob} {e : TypeId} (h : RowB e 8 v k (os.length + 1) (os.flatMap cellsO ++ [S o.k, S o.s, S o.n, I o.ver, S o.c, .bool o.tm, .bool o.bs, u])) : RowB e 8 v k (os ++ [(u, o)]).length ((os ++ [(u, o)]).flatMap cellsO) := by
  rw [List.length_append, List.flatMap_append]
  exact h
end Chm
end Go.Proofs.Ytboimmfegeinaaa
/- Chg: What the document's answer for layer 8 does with lists: graves, Get; conditions: names of at most 1,000 bytes, at most 1,000 objects. -/
namespace Go.Proofs.Ytboimmfegeinaaa
namespace Chm
open Go Go.RowKit Sx Lab Vec Ojt Evt
attribute [local irreducible] Go.Calls

/-- A grave: a key, a version. -/
abbrev Gr := Kt × Int
def cellsG (g : Gr) : List Value := [S g.1.1, S g.1.2.1, S g.1.2.2, I g.2]
theorem cellsG_len (g : Gr) : (cellsG g).length = 4 := rfl
def GrAt (w : World) (v : Value) (gs : List Gr) : Prop := OldRow w 4 v gs.length (gs.flatMap cellsG)
def gravesP (gs : List Gr) (k : Kt) (fl : Int) : List Gr := gs.filter fun g => decide (g.1 ≠ k) && decide (fl < g.2)
theorem grow_o {v : Value} {k : Hp} {os : List Gr} {g : Gr} {e : TypeId} (h : RowB e 4 v k (os.length + 1) (os.flatMap cellsG ++ [S g.1.1, S g.1.2.1, S g.1.2.2, I g.2])) : RowB e 4 v k (os ++ [g]).length ((os ++ [g]).flatMap cellsG) := by
  rw [List.length_append, List.flatMap_append]
  simpa [cellsG] using h

/-- The document's cache: where it lies, its objects, its graves, its floor. -/
def ChAt (w : World) (g : Nat) (v : Value) (ps : List PO) (u : Value) (gs : List Gr) (fl : Int) : Prop :=
  g < w.heap.size ∧ w.cell? ⟨g, 0 + 0, none⟩ = some v ∧ w.cell? ⟨g, 0 + 1, none⟩ = some u ∧ w.cell? ⟨g, 0 + 2, none⟩ = some (I fl) ∧ ObjsAt w v ps ∧ GrAt w u gs
def findK (ps : List PO) (k : Kt) : Option PO := ps.find? fun p => decide (keyO p.2 = k)
def getV (r : Option PO) : Value :=
  match r with
  | some p => .tuple #[OV p.2 p.1, .bool true]
  | none => .tuple #[.agg #[S [], S [], S [], I 0, S [], .bool false, .bool false, .slice none 0 0], .bool false]

set_option maxHeartbeats 16000000 in
theorem rget_ok (gc : Nat) (v : Value) (ps : List PO) (u : Value) (gs : List Gr) (fl : Int) (k : Kt) (hl : ps.length ≤ 100000) (w : World) (hc0 : ChAt w gc v ps u gs fl) :
    Calls Try.prog 16 #[.pointer (some ⟨gc, 0, none⟩), K3 k] w fun e w' => e = .returned (getV (findK ps k)) ∧ Below w.heap.size w w' := by
  obtain ⟨hgc, q0, -, -, hv, -⟩ := hc0
  obtain ⟨a, c, rfl, hat⟩ := OldRow.cells cellsO_len hv.1
  refine callsC2 (rt := 40) (args := [.pointer (some ⟨gc, 0, none⟩), K3 k]) Try.func16 rfl rfl rfl rfl ?_
  repeat' (first | refine aw_seq ?_ | ((first | apply ao_val | apply aq_val); exact wants_a; (first | exact ov_nilcheck rfl | exact ov_a); (exact rfl)) | refine zy ?_ | refine zon fun _ => ?_ | refine zoa fun vr lr hr => ?_ | refine zoS (fun _ => ?_) (fun _ => ?_) | refine zqS (fun _ => ?_) (fun _ => ?_) | refine zwS (fun _ => ?_) (fun _ => ?_))
  refine aw_for (t0 := [(0, .pointer (some ⟨gc, 0, none⟩)), (3, .pointer (some ⟨_, 0, none⟩)), (4, .pointer (some ⟨_, 0, none⟩)), (6, I (0 : Nat))]) (fun q t H => ∃ (gb gr i : Nat), q = ps.length - i ∧ i ≤ ps.length ∧ (∀ (j : Nat) (p : PO), j < i → ps[j]? = some p → keyO p.2 ≠ k) ∧ t = [(0, .pointer (some ⟨gc, 0, none⟩)), (3, .pointer (some ⟨gb, 0, none⟩)), (4, .pointer (some ⟨gr, 0, none⟩)), (6, I i)] ∧ H = [(gr, .cells #[S [], S [], S [], I 0, S [], .bool false, .bool false, .slice none 0 0] 40), (gb, .cells #[S k.1, S k.2.1, S k.2.2] 24)]) ⟨_, _, 0, rfl, by omega, fun j p hj => by omega, rfl, rfl⟩ (by repeat (first | exact sub_nil | refine sub_cons rfl ?_)) ?_
  rintro q t H ⟨gb, gr, i, rfl, hi, hall, rfl, rfl⟩
  by_cases hlt : i < ps.length
  · obtain ⟨⟨x, o⟩, he⟩ := getP hlt
    have hra := hv.2 _ (List.mem_of_getElem? he)
    obtain ⟨xa, xc, hx⟩ := hra.len
    simp only at hx
    subst hx
    obtain ⟨g, o1, rfl, hg, hc⟩ := hat i _ (i : Int) he rfl
    have cA : ∀ (j : Nat) z, [S o.k, S o.s, S o.n, I o.ver, S o.c, .bool o.tm, .bool o.bs, .slice xa o.rs.length xc][j]? = some z → w.cell? ⟨g, o1 + (i : Int).toNat * 8 + j, none⟩ = some z := hc
    have cK := key_load hc
    have hke := key_eq (keyO o) k
    by_cases hk : keyO o = k
    · rw [show findK ps k = some (.slice xa o.rs.length xc, o) by
        unfold findK
        rw [List.find?_eq_some_iff_getElem]
        refine ⟨decide_eq_true hk, i, hlt, (List.getElem?_eq_some_iff.1 he).2, fun j hj => ?_⟩
        have := hall j _ hj (List.getElem?_eq_getElem (by omega))
        simpa using this]
      rw [decide_eq_true hk] at hke
      repeat' (first | refine aw_seq ?_ | ((first | apply ao_val | apply aq_val); exact wants_a; (first | exact ov_nilcheck rfl | exact ov_load_oa rfl hg cA rfl | exact ov_load_oa rfl hg cK rfl | exact ov_a); (exact rfl)) | refine zy ?_ | refine zon fun _ => ?_ | refine zoa fun vr lr hr => ?_ | refine zoS (fun _ => ?_) (fun _ => ?_) | refine zqS (fun _ => ?_) (fun _ => ?_) | refine zwS (fun _ => ?_) (fun _ => ?_))
      exact fun w' hw => ⟨rfl, hw.below⟩
    · rw [decide_eq_false hk] at hke
      repeat' (first | refine aw_seq ?_ | ((first | apply ao_val | apply aq_val); exact wants_a; (first | exact ov_nilcheck rfl | exact ov_load_oa rfl hg cA rfl | exact ov_load_oa rfl hg cK rfl | exact ov_a); (exact rfl)) | refine zy ?_ | refine zon fun _ => ?_ | refine zoa fun vr lr hr => ?_ | refine zoS (fun _ => ?_) (fun _ => ?_) | refine zqS (fun _ => ?_) (fun _ => ?_) | refine zwS (fun _ => ?_) (fun _ => ?_))
      exact lq_normal' ⟨gb, gr, i + 1, rfl, by omega, fun j p hj hp => by
        by_cases e1 : j = i
        · subst e1; rw [he] at hp; cases hp; exact hk
        · exact hall j p (by omega) hp, rfl, rfl⟩ (by omega) (by repeat (first | exact sub_nil | refine sub_cons rfl ?_)) hsub_a
  · obtain rfl : i = ps.length := by omega
    rw [show findK ps k = none by
      unfold findK
      rw [List.find?_eq_none]
      intro p hp
      obtain ⟨j, hj⟩ := List.getElem?_of_mem hp
      simpa using hall j p (List.getElem?_eq_some_iff.1 hj).1 hj]
    repeat' (first | refine aw_seq ?_ | ((first | apply ao_val | apply aq_val); exact wants_a; (first | exact ov_nilcheck rfl | exact ov_a); (exact rfl)) | refine zy ?_ | refine zon fun _ => ?_ | refine zoa fun vr lr hr => ?_ | refine zoS (fun _ => ?_) (fun _ => ?_) | refine zqS (fun _ => ?_) (fun _ => ?_) | refine zwS (fun _ => ?_) (fun _ => ?_))
    exact fun w' hw => ⟨rfl, hw.below⟩
end Chm
end Go.Proofs.Ytboimmfegeinaaa
/- Chk: What the document's answer for layer 8 does with lists: Known; conditions: names of at most 1,000 bytes, at most 1,000 objects. -/
namespace Go.Proofs.Ytboimmfegeinaaa
namespace Chm
open Go Go.RowKit Sx Lab Vec Ojt Evt
attribute [local irreducible] Go.Calls

def mx (p q : Int) : Int := if q > p then q else p
def knownG (gs : List Gr) (k : Kt) (n : Int) : Int := gs.foldl (fun n g => if g.1 = k then mx n g.2 else n) n
/-- What is known of a key. -/
def knownC (ps : List PO) (gs : List Gr) (fl : Int) (k : Kt) : Int := knownG gs k (match findK ps k with | some p => mx fl p.2.ver | none => fl)

end Chm
end Go.Proofs.Ytboimmfegeinaaa
