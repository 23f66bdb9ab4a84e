/- The landed cache: where it lies, what its maps tell; conditions: none. -/
import Derived.Test.YtdakeicfhbggeaaGreatSxy
import Derived.Test.YtdakeicfhbggeaaGreatChy
import Derived.Test.YtdakeicfhbggeaaGreatEvl
/- Cda: The landed cache: where it lies, what its maps tell; conditions: none. -/
namespace Go.Proofs.YtdakeicfhbggeaaGreat
namespace Chm
open Go Go.RowKit Sx Lab Vec Ojt Evt
attribute [local irreducible] Go.Calls
instance : TyMapT Tryz.prog 115 58 61 := ⟨by kernel_rfl⟩
instance : TyMapT Tryz.prog 116 58 2 := ⟨by kernel_rfl⟩
instance : TyMapT Tryz.prog 185 58 4 := ⟨by kernel_rfl⟩
instance : TyPtr Tryz.prog 67 118 := ⟨by kernel_rfl⟩
def encKt (k : Kt) : Value := K3 k
theorem same3 (a b c : Nm) : Instr.sameBits 10000 (.agg #[S a, S b, S c]) (.agg #[S a, S b, S c]) = true := by
  show Instr.sameBits (9999 + 1) _ _ = true
  simp [Instr.sameBits, MapKept.bytes_beq]
instance : KeyK Tryz.prog 58 encKt := keyK_struct (ds := [.string, .string, .string]) cellsK (fun _ => rfl) key_eq (fun k => same3 k.1 k.2.1 k.2.2)
def enO (x : PO × Nat) : En Kt := (keyO x.1.2, OV x.1.2 x.1.1, x.2)
def enG (x : Gr × Nat) : En Kt := (x.1.1, I x.1.2, x.2)
def grG (gs : List Gr) (k : Kt) : Int := match gs.find? fun g => decide (g.1 = k) with | some g => g.2 | none => 0
def getB (r : Option Ob) : Ob × Bool := match r with | some o => (o, true) | none => (zO, false)
structure LX (st : St) (X : List (PO × Nat)) (co : Nat) (G : List (Gr × Nat)) (cg : Nat) : Prop where
  os : (X.map fun x => x.1.2).Perm st.os
  gs : (G.map fun x => x.1).Perm st.gs
  bo : (X.map fun x => x.2).Nodup
  lo : ∀ x ∈ X, x.2 < co
  bg : (G.map fun x => x.2).Nodup
  lg : ∀ x ∈ G, x.2 < cg
  up : ∀ g ∈ st.gs, st.fl < g.2
def MapL (mo : Option Nat) (es : List (En Kt)) (c : Nat) (l : Hp) : Prop := (mo = none ∧ es = [] ∧ c = 0 ∧ l = []) ∨ ∃ b, mo = some b ∧ l = [(b, mapO encKt es c)]
def LCh (st : St) (g : Nat) (l : Hp) : Prop :=
  ∃ (mo mg : Option Nat) (X : List (PO × Nat)) (co : Nat) (G : List (Gr × Nat)) (cg : Nat) (lo lg ls : Hp) (Z : List PO), l = (g, .cells #[.map mo, .map mg, I st.fl] 118 (0, 0)) :: (lo ++ (lg ++ ls)) ∧
    MapL mo (X.map enO) co lo ∧ MapL mg (G.map enG) cg lg ∧ mo.isNone = mg.isNone ∧ Parts KO ls ((X.map fun x => x.1) ++ Z) ∧ LX st X co G cg
structure CAt (w : World) (g : Nat) (st : St) (mo mg : Option Nat) (X : List (PO × Nat)) (co : Nat) (G : List (Gr × Nat)) (cg : Nat) : Prop where
  lt : g < w.heap.size
  c0 : w.cell? ⟨g, 0, none⟩ = some (.map mo)
  c1 : w.cell? ⟨g, 1, none⟩ = some (.map mg)
  c2 : w.cell? ⟨g, 2, none⟩ = some (I st.fl)
  ho : ∀ b, mo = some b → b < w.heap.size ∧ w.heap[b]? = some (mapO encKt (X.map enO) co)
  no : mo = none → X = [] ∧ co = 0
  hg : ∀ b, mg = some b → b < w.heap.size ∧ w.heap[b]? = some (mapO encKt (G.map enG) cg)
  ng : mg = none → G = [] ∧ cg = 0
  res : ∀ x ∈ X, ResAt w x.1.1 x.1.2.rs
  lx : LX st X co G cg
theorem CAt.below {w w' : World} {g : Nat} {st : St} {mo mg : Option Nat} {X : List (PO × Nat)} {co : Nat} {G : List (Gr × Nat)} {cg : Nat} (h : CAt w g st mo mg X co G cg) (hb : Below w.heap.size w w') : CAt w' g st mo mg X co G cg := by
  obtain ⟨h1, h2, h3, h4, h5, h6, h7, h8, h9, h10⟩ := h
  exact ⟨Nat.lt_of_lt_of_le h1 hb.size, (hb.cell h1).trans h2, (hb.cell h1).trans h3, (hb.cell h1).trans h4,
    fun b e => ⟨Nat.lt_of_lt_of_le (h5 b e).1 hb.size, by rw [hb.block b (h5 b e).1]; exact (h5 b e).2⟩, h6,
    fun b e => ⟨Nat.lt_of_lt_of_le (h7 b e).1 hb.size, by rw [hb.block b (h7 b e).1]; exact (h7 b e).2⟩, h8, fun x hx => (h9 x hx).below hb, h10⟩
theorem lies_lt {w : World} {l : Hp} {b : Nat} {o : Obj} (h : Lies w l) (hm : (b, o) ∈ l) : b < w.heap.size := (Array.getElem?_eq_some_iff.1 (h b o hm)).1
theorem old_lies {w : World} {l : Hp} {e : TypeId} {sz n : Nat} {v : Value} {xs : List Value} (h : Lies w l) (hr : RowB e sz v l n xs) : OldRow w sz v n xs := by
  refine ⟨hr.1, ?_⟩
  rcases hr.2 with ⟨rfl, h0, _⟩ | ⟨g, cap, cur, rfl, rfl, hnc, hcs, htake⟩
  · exact ⟨none, 0, by rw [h0], fun h => by omega⟩
  · refine ⟨_, _, rfl, fun _ => ⟨g, 0, rfl, lies_lt h List.mem_cons_self, fun j u hj => ?_⟩⟩
    have hg := h g _ List.mem_cons_self
    have hg2 : w.heap[g]? = some (.cells cur.toList.toArray e (0, 0)) := by simpa using hg
    rw [cell_of hg2, Nat.zero_add]
    rw [← htake] at hj
    have hlt := (List.getElem?_eq_some_iff.1 hj).1
    simp only [List.length_take] at hlt
    rwa [List.getElem?_take_of_lt (by omega)] at hj
theorem Lies.sub {w : World} {l m : Hp} (h : Lies w l) (hs : ∀ x ∈ m, x ∈ l) : Lies w m := fun b o hm => h b o (hs _ hm)
theorem cAt_lies {w : World} {st : St} {g : Nat} {l : Hp} (h : LCh st g l) (hl : Lies w l) : ∃ mo mg X co G cg, CAt w g st mo mg X co G cg ∧ mo.isNone = mg.isNone := by
  obtain ⟨mo, mg, X, co, G, cg, lo, lg, ls, Z, rfl, h1, h2, h3, h4, h5⟩ := h
  have hg := hl g _ List.mem_cons_self
  have hg2 : w.heap[g]? = some (.cells (List.toArray [.map mo, .map mg, I st.fl]) 118 (0, 0)) := hg
  refine ⟨mo, mg, X, co, G, cg, ⟨lies_lt hl List.mem_cons_self, by rw [cell_of hg2]; rfl, by rw [cell_of hg2]; rfl, by rw [cell_of hg2]; rfl, fun b e => ?_, fun e => ?_, fun b e => ?_, fun e => ?_, fun x hx => ?_, h5⟩, h3⟩
  · rcases h1 with ⟨rfl, -, -, -⟩ | ⟨b2, rfl, rfl⟩
    · cases e
    · cases e
      have hm := hl b (mapO encKt (X.map enO) co) (List.mem_cons_of_mem _ (List.mem_append_left _ List.mem_cons_self))
      exact ⟨(Array.getElem?_eq_some_iff.1 hm).1, hm⟩
  · rcases h1 with ⟨-, h0, h6, -⟩ | ⟨b2, rfl, -⟩
    · exact ⟨List.map_eq_nil_iff.1 h0, h6⟩
    · cases e
  · rcases h2 with ⟨rfl, -, -, -⟩ | ⟨b2, rfl, rfl⟩
    · cases e
    · cases e
      have hm := hl b (mapO encKt (G.map enG) cg) (List.mem_cons_of_mem _ (List.mem_append_right _ (List.mem_append_left _ List.mem_cons_self)))
      exact ⟨(Array.getElem?_eq_some_iff.1 hm).1, hm⟩
  · rcases h2 with ⟨-, h0, h6, -⟩ | ⟨b2, rfl, -⟩
    · exact ⟨List.map_eq_nil_iff.1 h0, h6⟩
    · cases e
  · obtain ⟨l, R, hc, hk⟩ := h4.at (p := x.1) (List.mem_append_left _ (List.mem_map.2 ⟨x, hx, rfl⟩))
    refine old_lies (hl.sub fun y hy => ?_) hk
    exact List.mem_cons_of_mem _ (List.mem_append_right _ (List.mem_append_right _ ((List.Perm.mem_iff hc).2 (List.mem_append_left _ hy))))
theorem cAt_of {E : Env} {H l R : Hp} {w : World} {st : St} {g : Nat} (h : LCh st g l) (hw : RepH E H w) (hc : Cut H l R) : ∃ mo mg X co G cg, CAt w g st mo mg X co G cg ∧ mo.isNone = mg.isNone := cAt_lies h (lies_of hw hc)
section
variable {w : World} {g : Nat} {st : St} {mo mg : Option Nat} {X : List (PO × Nat)} {co : Nat} {G : List (Gr × Nat)} {cg : Nat}
theorem LX.keys (h : LX st X co G cg) (ho : Own st.os) : ((X.map enO).map (·.1)).Nodup := by
  have h1 : ((X.map fun x => x.1.2).map keyO).Nodup := (h.os.map keyO).nodup_iff.2 (List.pairwise_map.2 ho)
  rwa [List.map_map] at h1 ⊢
theorem LX.mem (h : LX st X co G cg) {o : Ob} : o ∈ st.os ↔ ∃ x ∈ X, x.1.2 = o := by
  rw [← h.os.mem_iff]
  simp
theorem LX.memG (h : LX st X co G cg) {r : Gr} : r ∈ st.gs ↔ ∃ x ∈ G, x.1 = r := by
  rw [← h.gs.mem_iff]
  simp
theorem fnd_o (h : LX st X co G cg) (ho : Own st.os) (k : Kt) : (getO st.os k = none ∧ fndK k (X.map enO) 0 = none) ∨ ∃ x ∈ X, getO st.os k = some x.1.2 ∧ ∃ i, fndK k (X.map enO) 0 = some (i, OV x.1.2 x.1.1) := by
  cases hg : getO st.os k with
  | none =>
    refine .inl ⟨rfl, fndK_none.2 fun y hy => ?_⟩
    obtain ⟨x, hx, rfl⟩ := List.mem_map.1 hy
    exact getO_none.1 hg x.1.2 (h.mem.2 ⟨x, hx, rfl⟩)
  | some o =>
    obtain ⟨h1, h2⟩ := getO_some hg
    obtain ⟨x, hx, rfl⟩ := h.mem.1 h1
    refine .inr ⟨x, hx, rfl, fndK_mem (b := x.2) (h.keys ho) (List.mem_map.2 ⟨x, hx, ?_⟩)⟩
    unfold enO
    rw [h2]
theorem grG_none {gs : List Gr} {k : Kt} (h : ∀ r ∈ gs, r.1 ≠ k) : grG gs k = 0 := by
  unfold grG
  have : (gs.find? fun g => decide (g.1 = k)) = none := List.find?_eq_none.2 fun r hr => by simpa using h r hr
  rw [this]
theorem grG_some {gs : List Gr} {r : Gr} (ho : gs.Pairwise fun a b => a.1 ≠ b.1) (h : r ∈ gs) : grG gs r.1 = r.2 := by
  unfold grG
  cases hf : gs.find? fun g => decide (g.1 = r.1) with
  | none => exact absurd (decide_eq_true rfl) (List.find?_eq_none.1 hf r h)
  | some q =>
    have h1 := List.mem_of_find?_eq_some hf
    have h2 : q.1 = r.1 := by
      have := List.find?_some hf
      simpa using this
    obtain ⟨i, hi, rfl⟩ := List.getElem_of_mem h1
    obtain ⟨j, hj, rfl⟩ := List.getElem_of_mem h
    rcases Nat.lt_trichotomy i j with h3 | rfl | h3
    · exact absurd h2 (List.pairwise_iff_getElem.1 ho i j hi hj h3)
    · rfl
    · exact absurd h2.symm (List.pairwise_iff_getElem.1 ho j i hj hi h3)
theorem fnd_g (h : LX st X co G cg) (ho : st.gs.Pairwise fun a b => a.1 ≠ b.1) (k : Kt) : (grG st.gs k = 0 ∧ fndK k (G.map enG) 0 = none) ∨ ∃ i, fndK k (G.map enG) 0 = some (i, I (grG st.gs k)) := by
  cases hf : fndK k (G.map enG) 0 with
  | none =>
    refine .inl ⟨grG_none fun r hr => ?_, rfl⟩
    obtain ⟨x, hx, rfl⟩ := h.memG.1 hr
    exact fndK_none.1 hf (enG x) (List.mem_map.2 ⟨x, hx, rfl⟩)
  | some p =>
    obtain ⟨i, u⟩ := p
    obtain ⟨-, b, hb⟩ := fndK_some hf
    obtain ⟨x, hx, e⟩ := List.mem_map.1 (List.mem_of_getElem? hb)
    unfold enG at e
    simp only [Prod.mk.injEq] at e
    obtain ⟨e1, e2, e3⟩ := e
    have := grG_some ho (h.memG.2 ⟨x, hx, rfl⟩)
    rw [e1] at this
    exact .inr ⟨i, by rw [this, e2]⟩
theorem CAt.look_o (h : CAt w g st mo mg X co G cg) (ho : Own st.os) (k : Kt) : ∃ v : Value, ResAt w v (getB (getO st.os k)).1.rs ∧
    ∀ {n : Nat} {t : Tm} {H : Hp} {x y : Operand} {ty : TypeId} (ok : Bool), ev t x = some (.map mo) → ev t y = some (K3 k) →
      OpV Tryz.prog ⟨w.heap.size, w, n⟩ (.lookup 115 x y ok) ty t H (if ok then .tuple #[OV (getB (getO st.os k)).1 v, .bool (getB (getO st.os k)).2] else OV (getB (getO st.os k)).1 v) := by
  rcases fnd_o h.lx ho k with ⟨h1, h2⟩ | ⟨x, hx, h1, i, h2⟩
  · refine ⟨.slice none 0 0, by rw [h1]; exact OldRow.nil, ?_⟩
    intro n t H x y ty ok hx hy
    rw [h1]
    cases mo with
    | none => exact ov_mgetn (enc := encKt) (k := k) ok hx hy
    | some b => exact ov_mget0 (enc := encKt) (k := k) ok hx hy (mapAt_old (h.ho b rfl).2 (h.ho b rfl).1) h2
  · refine ⟨x.1.1, by rw [h1]; exact h.res x hx, ?_⟩
    intro n t H x2 y ty ok hx2 hy
    rw [h1]
    cases mo with
    | none => rw [(h.no rfl).1] at hx; cases hx
    | some b => exact ov_mget (enc := encKt) (k := k) ok hx2 hy (mapAt_old (h.ho b rfl).2 (h.ho b rfl).1) h2
theorem CAt.look_g (h : CAt w g st mo mg X co G cg) (ho : st.gs.Pairwise fun a b => a.1 ≠ b.1) (k : Kt) {n : Nat} {t : Tm} {H : Hp} {x y : Operand} {ty : TypeId} (hx : ev t x = some (.map mg)) (hy : ev t y = some (K3 k)) :
    OpV Tryz.prog ⟨w.heap.size, w, n⟩ (.lookup 116 x y false) ty t H (I (grG st.gs k)) := by
  rcases fnd_g h.lx ho k with ⟨h1, h2⟩ | ⟨i, h2⟩
  · rw [h1]
    cases mg with
    | none => exact ov_mgetn (enc := encKt) (k := k) false hx hy
    | some b => exact ov_mget0 (enc := encKt) (k := k) false hx hy (mapAt_old (h.hg b rfl).2 (h.hg b rfl).1) h2
  · cases mg with
    | none =>
      rw [(h.ng rfl).1] at h2
      simp [fndK] at h2
    | some b => exact ov_mget (enc := encKt) (k := k) false hx hy (mapAt_old (h.hg b rfl).2 (h.hg b rfl).1) h2
theorem CAt.map_o (h : CAt w g st mo mg X co G cg) {n : Nat} {H : Hp} : MapOf ⟨w.heap.size, w, n⟩ H encKt mo (X.map enO) co := by
  cases mo with
  | none => rw [(h.no rfl).1]; exact ⟨rfl, (h.no rfl).2⟩
  | some b => exact mapAt_old (h.ho b rfl).2 (h.ho b rfl).1
theorem CAt.len_o (h : CAt w g st mo mg X co G cg) {n : Nat} {t : Tm} {H : Hp} {x : Operand} {ty : TypeId} (hx : ev t x = some (.map mo)) : OpV Tryz.prog ⟨w.heap.size, w, n⟩ (.call ⟨.builtin .len, #[x], #[115]⟩) ty t H (I st.os.length) := by
  have hl : st.os.length = (X.map enO).length := by rw [← h.lx.os.length_eq, List.length_map, List.length_map]
  rw [hl]
  cases mo with
  | none => rw [(h.no rfl).1]; exact ov_mlen0 hx
  | some b => exact ov_mlen (enc := encKt) hx (mapAt_old (h.ho b rfl).2 (h.ho b rfl).1)
theorem known_is (hf : Fine st) (k : Kt) : mx3 st.fl (getB (getO st.os k)).1.ver (grG st.gs k) = knO st k := by
  have hgo : st.gs.Pairwise fun a b => a.1 ≠ b.1 := hf.gs.imp lessK_ne
  have hle : ∀ n, mx3 st.fl (getB (getO st.os k)).1.ver (grG st.gs k) ≤ n ↔ knO st k ≤ n := fun n => by
    rw [mx3_le, knO_le]
    refine and_congr_right fun h0 => ?_
    have hn : 0 ≤ n := Int.le_trans hf.fl h0
    refine and_congr ?_ ?_
    · cases hg : getO st.os k with
      | none =>
        constructor
        · intro _ o h; cases h
        · intro _; exact hn
      | some o =>
        constructor
        · intro h q hq; cases hq; exact h
        · intro h; exact h o rfl
    · constructor
      · intro h r hr e
        rw [← e, grG_some hgo hr] at h
        exact h
      · intro h
        unfold grG
        cases hq : st.gs.find? fun g => decide (g.1 = k) with
        | none => exact hn
        | some r => exact h r (List.mem_of_find?_eq_some hq) (by have := List.find?_some hq; simpa using this)
  exact Int.le_antisymm ((hle _).2 (Int.le_refl _)) ((hle _).1 (Int.le_refl _))
end
end Chm
end Go.Proofs.YtdakeicfhbggeaaGreat
/- Cdo: What a range over a map has handed out; conditions: none. -/
namespace Go.Proofs.YtdakeicfhbggeaaGreat
namespace Chm
open Go Go.RowKit Sx Lab Vec Ojt Evt
structure Out {α : Type} (X done : List (α × Nat)) (seen : Array Nat) : Prop where
  sub : ∀ x ∈ done, x ∈ X
  nd : done.Nodup
  is : seen.toList = done.map (·.2)
theorem Out.nil {α : Type} {X : List (α × Nat)} : Out X [] #[] := ⟨(fun _ h => by cases h), List.nodup_nil, rfl⟩
theorem Out.snoc {α : Type} {X done : List (α × Nat)} {seen : Array Nat} (h : Out X done seen) {x : α × Nat} (hx : x ∈ X) (hn : x.2 ∉ seen) : Out X (done ++ [x]) (seen.push x.2) := by
  refine ⟨fun y hy => ?_, ?_, ?_⟩
  · rcases List.mem_append.1 hy with hy | hy
    · exact h.sub y hy
    · rw [List.mem_singleton.1 hy]; exact hx
  · refine List.nodup_append.2 ⟨h.nd, by simp, fun a ha b hb e => ?_⟩
    rw [List.mem_singleton.1 hb] at e
    subst e
    refine hn ?_
    rw [← Array.mem_toList_iff, h.is]
    exact List.mem_map.2 ⟨_, ha, rfl⟩
  · rw [Array.toList_push, h.is, List.map_append]
    rfl
theorem Out.all {α : Type} {X done : List (α × Nat)} {seen : Array Nat} (h : Out X done seen) (hX : (X.map (·.2)).Nodup) (ha : ∀ x ∈ X, x.2 ∈ seen) : done.Perm X := by
  have hXn : X.Nodup := List.Pairwise.imp (fun h e => h (by rw [e])) (List.pairwise_map.1 hX)
  refine perm_mem h.nd hXn fun x => ⟨h.sub x, fun hx => ?_⟩
  have h1 := ha x hx
  rw [← Array.mem_toList_iff, h.is] at h1
  obtain ⟨y, hy, e⟩ := List.mem_map.1 h1
  obtain ⟨i, hi⟩ := List.getElem?_of_mem (h.sub y hy)
  obtain ⟨j, hj⟩ := List.getElem?_of_mem hx
  have e1 : (X.map (·.2))[i]? = some x.2 := by rw [List.getElem?_map, hi, Option.map_some, e]
  have e2 : (X.map (·.2))[j]? = some x.2 := by rw [List.getElem?_map, hj]; rfl
  have := (List.getElem?_inj (List.getElem?_eq_some_iff.1 e1).1 hX).1 (e1.trans e2.symm)
  subst this
  rw [hi] at hj
  cases hj
  exact hy
theorem nodup_len {α : Type} : ∀ {l m : List α}, l.Nodup → (∀ x ∈ l, x ∈ m) → l.length ≤ m.length
  | [], _, _, _ => Nat.zero_le _
  | a :: l, m, hl, h => by
    obtain ⟨s, u, rfl⟩ := List.append_of_mem (h a List.mem_cons_self)
    rw [List.nodup_cons] at hl
    have := nodup_len (m := s ++ u) hl.2 fun x hx => by
      have h2 := h x (List.mem_cons_of_mem a hx)
      rw [List.mem_append, List.mem_cons] at h2
      rcases h2 with h2 | rfl | h2
      · exact List.mem_append_left _ h2
      · exact absurd hx hl.1
      · exact List.mem_append_right _ h2
    simp only [List.length_append, List.length_cons] at this ⊢
    omega
end Chm
end Go.Proofs.YtdakeicfhbggeaaGreat
/- Cdb: What the landed cache tells: Floor, Known, Get; no cache; conditions: names of at most 1,000 bytes. -/
namespace Go.Proofs.YtdakeicfhbggeaaGreat
namespace Chm
open Go Go.RowKit Sx Lab Vec Ojt Evt
attribute [local irreducible] Go.Calls
theorem Fine.gk2 {st : St} (h : Fine st) : st.gs.Pairwise fun a b => a.1 ≠ b.1 := h.gs.imp lessK_ne
section
variable {w : World} {g : Nat} {st : St} {mo mg : Option Nat} {X : List (PO × Nat)} {co : Nat} {G : List (Gr × Nat)} {cg : Nat}
set_option maxHeartbeats 8000000 in
theorem known_ok (h : CAt w g st mo mg X co G cg) (hf : Fine st) (k : Kt) : Calls Tryz.prog 87 #[.pointer (some ⟨g, 0, none⟩), K3 k] w fun e w' => e = .returned (I (knO st k)) ∧ Below w.heap.size w w' := by
  obtain ⟨v, -, hlo⟩ := h.look_o hf.os.own k
  have hlg := fun {n : Nat} {t : Tm} {H : Hp} {x y : Operand} {ty : TypeId} hx hy => h.look_g hf.gk2 k (n := n) (t := t) (H := H) (x := x) (y := y) (ty := ty) hx hy
  rw [← known_is hf k]
  have c0 := h.c0
  have c1 := h.c1
  have c2 := h.c2
  have lt := h.lt
  generalize grG st.gs k = gv at hlg ⊢
  generalize getB (getO st.os k) = ob at hlo ⊢
  obtain ⟨⟨k1, s1, n1, ver, c, tm, bs, rs⟩, b⟩ := ob
  refine calls1 (args := [.pointer (some ⟨g, 0, none⟩), K3 k]) Tryz.func87 rfl rfl rfl rfl ?_
  repeat' (first | refine aw_seq ?_ | ((first | apply ao_val | apply aq_val); exact wants_a; (first | exact ov_nilcheck rfl | exact ov_peqs rfl rfl | exact hlo false rfl rfl | exact hlg rfl rfl | exact ov_max3 rfl rfl rfl | exact ov_a); (exact rfl)) | refine zy ?_ | refine zon fun _ => ?_ | refine zoa fun vr lr hr => ?_ | refine zoS (fun _ => ?_) (fun _ => ?_) | refine zqS (fun _ => ?_) (fun _ => ?_) | refine zwS (fun _ => ?_) (fun _ => ?_))
  exact fun w' hw => ⟨rfl, hw.below⟩
set_option maxHeartbeats 8000000 in
theorem low_ok (h : CAt w g st mo mg X co G cg) (hf : Fine st) (kind : Int) (p : PO) (ver : Int) (v : Value) :
    Calls Tryz.prog 49 #[.pointer (some ⟨g, 0, none⟩), EV kind p ver v] w fun e w' => e = .returned (I (lowO st kind p.2)) ∧ Below w.heap.size w w' := by
  obtain ⟨x, k, s, n, over, c, tm, bs, rs⟩ := p
  have hk := fun w' (hb : Below w.heap.size w w') => known_ok (h.below hb) hf (k, s, n)
  have c2 := h.c2
  have lt := h.lt
  unfold lowO
  refine calls1 (args := [.pointer (some ⟨g, 0, none⟩), EV kind (x, ⟨k, s, n, over, c, tm, bs, rs⟩) ver v]) Tryz.func49 rfl rfl rfl rfl ?_
  by_cases h0 : kind = 0
  · subst h0
    rw [if_pos (.inl rfl)]
    repeat' (first | refine aw_seq ?_ | ((first | apply ao_val | apply aq_val); exact wants_a; (first | exact ov_nilcheck rfl | exact ov_a); (exact rfl)) | refine zy ?_ | refine zon fun _ => ?_ | refine zoa fun vr lr hr => ?_ | ((first | apply ao_call | apply aq_call); exact wants_a; (first | exact oc_func rfl | exact oc_clos rfl rfl | exact oc_bnd rfl rfl); (exact rfl); (first | exact fun w hw => hk w hw.below)) | refine zoS (fun _ => ?_) (fun _ => ?_) | refine zqS (fun _ => ?_) (fun _ => ?_) | refine zwS (fun _ => ?_) (fun _ => ?_))
    exact fun w' hw => ⟨rfl, hw.below⟩
  by_cases h1 : kind = 1
  · subst h1
    rw [if_pos (.inr rfl)]
    repeat' (first | refine aw_seq ?_ | ((first | apply ao_val | apply aq_val); exact wants_a; (first | exact ov_nilcheck rfl | exact ov_a); (exact rfl)) | refine zy ?_ | refine zon fun _ => ?_ | refine zoa fun vr lr hr => ?_ | ((first | apply ao_call | apply aq_call); exact wants_a; (first | exact oc_func rfl | exact oc_clos rfl rfl | exact oc_bnd rfl rfl); (exact rfl); (first | exact fun w hw => hk w hw.below)) | refine zoS (fun _ => ?_) (fun _ => ?_) | refine zqS (fun _ => ?_) (fun _ => ?_) | refine zwS (fun _ => ?_) (fun _ => ?_))
    exact fun w' hw => ⟨rfl, hw.below⟩
  · rw [if_neg (by omega)]
    have e0 : (kind == 0) = false := beq_eq_false_iff_ne.2 h0
    have e1 : (kind == 1) = false := beq_eq_false_iff_ne.2 h1
    repeat' (first | refine aw_seq ?_ | ((first | apply ao_val | apply aq_val); exact wants_a; (first | exact ov_nilcheck rfl | exact ov_a); (exact rfl)) | refine zy ?_ | refine zon fun _ => ?_ | refine zoa fun vr lr hr => ?_ | ((first | apply ao_call | apply aq_call); exact wants_a; (first | exact oc_func rfl | exact oc_clos rfl rfl | exact oc_bnd rfl rfl); (exact rfl); (first | exact fun w hw => hk w hw.below)) | refine zoS (fun _ => ?_) (fun _ => ?_) | refine zqS (fun _ => ?_) (fun _ => ?_) | refine zwS (fun _ => ?_) (fun _ => ?_))
    exact fun w' hw => ⟨rfl, hw.below⟩
end
end Chm
end Go.Proofs.YtdakeicfhbggeaaGreat
/- Cdc: The landed cache: a new one, none, and the deltas of an object that comes, and of one that goes; conditions: names of at most 1,000 bytes. -/
namespace Go.Proofs.YtdakeicfhbggeaaGreat
namespace Chm
open Go Go.RowKit Sx Lab Vec Ojt Evt
attribute [local irreducible] Go.Calls
set_option maxHeartbeats 8000000 in
theorem pnew_ok (w : World) : Calls Tryz.prog 25 #[] w fun e w' => ∃ r, e = .returned r ∧ NewD (fun r l => ∃ g, r = .pointer (some ⟨g, 0, none⟩) ∧ LCh .new g l) w w' r := by
  refine calls1 (args := []) Tryz.func25 rfl rfl rfl rfl ?_
  repeat' (first | refine aw_seq ?_ | refine zz ?_ | refine zon fun _ => ?_ | refine zoa fun vr lr hr => ?_ | refine zoS (fun _ => ?_) (fun _ => ?_) | refine zqS (fun _ => ?_) (fun _ => ?_) | refine zwS (fun _ => ?_) (fun _ => ?_))
  exact fun w' hw => ⟨_, rfl, hw.toD rfl (l := [(_, .cells #[.map none, .map none, I 0] 118 (0, 0))]) (R := []) (by unfold Cut; exact List.Perm.refl _) ⟨_, rfl, none, none, [], 0, [], 0, [], [], [], [], rfl, .inl ⟨rfl, rfl, rfl, rfl⟩, .inl ⟨rfl, rfl, rfl, rfl⟩, rfl, Parts.nil, ⟨List.Perm.refl _, List.Perm.refl _, List.nodup_nil, (fun _ h => by cases h), List.nodup_nil, (fun _ h => by cases h), fun _ h => by cases h⟩⟩⟩
def comesD (st : St) (o : Ob) : De := ⟨keyO o, (getB (getO st.os (keyO o))).2, true, (getB (getO st.os (keyO o))).1, o⟩
def goesD (o : Ob) : De := ⟨keyO o, true, false, o, zO⟩
def DDel (x : De) (r : Value) (l : Hp) : Prop := ∃ d : PD, r = .agg (cellsD d).toArray ∧ deD d = x ∧ KD d l
set_option maxHeartbeats 16000000 in
theorem goes_ok (p : PO) (hp : wfS p.2) (w : World) (hres : ResAt w p.1 p.2.rs) : Calls Tryz.prog 89 #[OV p.2 p.1] w fun e w' => ∃ r, e = .returned r ∧ NewD (DDel (goesD p.2)) w w' r := by
  have h1 := fun w' (hb : Below w.heap.size w w') => Ojt.own_ok p.2 _ hp.wfO w' (hres.below hb)
  obtain ⟨x, k, s, n, over, c, tm, bs, rs⟩ := p
  obtain ⟨xa, xc, hx⟩ := hres.len
  simp only at hx
  subst hx
  refine callsC1 (rt := 82) (args := [OV ⟨k, s, n, over, c, tm, bs, rs⟩ (.slice xa rs.length xc)]) Tryz.func89 rfl rfl rfl rfl ?_
  repeat' (first | (apply ao_nilh; exact hsub_a) | apply ao_nil | apply aq_nil | apply ah_end | ((first | apply ao_val | apply aq_val | (apply ah_take; (exact rfl))); exact wants_a; exact ov_a; (exact rfl)) | ((first | apply ao_skip | apply aq_skip | (apply ah_skip; (exact rfl))); exact nots_a; (exact rfl)) | (refine ao_is ?_; first | (apply ao_new; exact wants_a; exact on_a; (exact rfl); intro _) | (apply ao_store; exact wants_a; exact ow_a; exact upd_a) | (apply ao_valw; exact wants_a; exact ox_a; (exact rfl); exact upd_a) | (apply ao_skip0; exact nots_a) | (apply ao_append; exact wants_a; (exact rfl); assumption; (exact rfl); exact cut_a; exact has_a; (exact rfl); (exact rfl); omega; omega; omega; (exact rfl); intro vr lr hr)) | (apply ao_callrg; exact wants_a; (exact oc_func rfl); (exact rfl); (first | exact fun w hw => h1 w hw.below); intro vr lr hr) | (apply ah_one; (exact rfl)) | (apply ah_two; (exact rfl); (exact rfl)) | (apply ah_three; (exact rfl); (exact rfl); (exact rfl)) | (refine aw_is ?_; first | (apply aw_held (id := 1) (pl := (.t 0 (.t 1 (.t 2 (.o 3 (.t 4 (.o 5 .e))))))); (kernel_rfl); (kernel_rfl); (kernel_rfl); (solve | (apply hs_skip; exact List.Sublist.refl _))) | refine aw_seq ?_ | refine aw_block ?_ | refine aw_region ?_ | refine aw_skip ?_ | refine aw_exit ?_ | refine aw_ret ?_ | refine aw_label ?_ | refine aw_scope ?_ | refine aw_cond_t rfl (by with_reducible rfl) ?_ | refine aw_cond_f rfl (by with_reducible rfl) ?_ | refine aw_draw (by kernel_rfl) (by kernel_rfl) ?_) | (first | (refine ah_is ?_; (fail_if_success first | refine ah_glit (b := true) rfl rfl rfl (by with_reducible rfl) ?_ | refine ah_glit (b := false) rfl rfl rfl (by with_reducible rfl) ?_); apply ah_gt; (exact rfl); (exact rfl); (exact rfl); exact t_a) | ((refine ao_is ?_; (fail_if_success first | refine ao_glit (b := true) rfl rfl (by with_reducible rfl) ?_ | refine ao_glit (b := false) rfl rfl (by with_reducible rfl) ?_)); apply ao_gt; (exact rfl); (exact rfl); exact t_a) | ((refine aq_is ?_; (fail_if_success first | refine aq_glit (b := true) rfl rfl (by with_reducible rfl) ?_ | refine aq_glit (b := false) rfl rfl (by with_reducible rfl) ?_)); apply aq_gt; (exact rfl); (exact rfl); exact t_a) | (apply aw_ct; (exact rfl); exact t_a)) | (first | (refine ah_is ?_; (fail_if_success first | refine ah_glit (b := true) rfl rfl rfl (by with_reducible rfl) ?_ | refine ah_glit (b := false) rfl rfl rfl (by with_reducible rfl) ?_); apply ah_gf; (exact rfl); (exact rfl); (exact rfl); exact f_a) | ((refine ao_is ?_; (fail_if_success first | refine ao_glit (b := true) rfl rfl (by with_reducible rfl) ?_ | refine ao_glit (b := false) rfl rfl (by with_reducible rfl) ?_)); apply ao_gf; (exact rfl); (exact rfl); exact f_a) | ((refine aq_is ?_; (fail_if_success first | refine aq_glit (b := true) rfl rfl (by with_reducible rfl) ?_ | refine aq_glit (b := false) rfl rfl (by with_reducible rfl) ?_)); apply aq_gf; (exact rfl); (exact rfl); exact f_a) | (apply aw_cf; (exact rfl); exact f_a)) | refine at_normal ?_ | refine at_exit ?_ | refine at_ret ?_ | refine ib_normal ?_ | refine ib_exit ?_ | refine ib_other ?_ | refine ib_ret ?_ | refine lq_exit ?_ | refine lq_ret ?_ | refine ci_ret ?_ | refine ci_exit ?_ | refine r1_ret rfl ?_ | refine r1_normal rfl ?_ | refine r2_ret rfl rfl ?_ | refine r2_normal rfl rfl ?_ | refine r3_ret rfl rfl rfl ?_ | refine r3_normal rfl rfl rfl ?_ | refine ng_normal ?_ | refine ng_exit ?_ | refine ng_ret ?_ | (apply rt_ret; (exact rfl); (exact rfl); (exact rfl); exact has_a; exact has_a; (exact rfl); (exact rfl)) | (apply rc1_ret; (exact rfl); exact has_a; (exact rfl)) | (apply rc2_ret; (exact rfl); exact has_a; (exact rfl); (exact rfl)) | (refine ao_is ?_; (fail_if_success first | refine ao_glit (b := true) rfl rfl (by with_reducible rfl) ?_ | refine ao_glit (b := false) rfl rfl (by with_reducible rfl) ?_); refine ao_gbool rfl rfl (fun _ => ?_) (fun _ => ?_)) | (refine aq_is ?_; (fail_if_success first | refine aq_glit (b := true) rfl rfl (by with_reducible rfl) ?_ | refine aq_glit (b := false) rfl rfl (by with_reducible rfl) ?_); refine aq_gbool rfl rfl (fun _ => ?_) (fun _ => ?_)) | (refine aw_is ?_; refine aw_cond rfl (fun _ => ?_) (fun _ => ?_)))
  revert vr lr hr
  intro v1 l1 r1
  obtain ⟨a1, q1, rfl⟩ := r1.len
  repeat' (first | (apply ao_nilh; exact hsub_a) | apply ao_nil | apply aq_nil | apply ah_end | ((first | apply ao_val | apply aq_val | (apply ah_take; (exact rfl))); exact wants_a; exact ov_a; (exact rfl)) | ((first | apply ao_skip | apply aq_skip | (apply ah_skip; (exact rfl))); exact nots_a; (exact rfl)) | (refine ao_is ?_; first | (apply ao_new; exact wants_a; exact on_a; (exact rfl); intro _) | (apply ao_store; exact wants_a; exact ow_a; exact upd_a) | (apply ao_valw; exact wants_a; exact ox_a; (exact rfl); exact upd_a) | (apply ao_skip0; exact nots_a) | (apply ao_append; exact wants_a; (exact rfl); assumption; (exact rfl); exact cut_a; exact has_a; (exact rfl); (exact rfl); omega; omega; omega; (exact rfl); intro vr lr hr)) | (apply ah_one; (exact rfl)) | (apply ah_two; (exact rfl); (exact rfl)) | (apply ah_three; (exact rfl); (exact rfl); (exact rfl)) | (refine aw_is ?_; first | (apply aw_held (id := 1) (pl := (.t 0 (.t 1 (.t 2 (.o 3 (.t 4 (.o 5 .e))))))); (kernel_rfl); (kernel_rfl); (kernel_rfl); (solve | (apply hs_skip; exact List.Sublist.refl _))) | refine aw_seq ?_ | refine aw_block ?_ | refine aw_region ?_ | refine aw_skip ?_ | refine aw_exit ?_ | refine aw_ret ?_ | refine aw_label ?_ | refine aw_scope ?_ | refine aw_cond_t rfl (by with_reducible rfl) ?_ | refine aw_cond_f rfl (by with_reducible rfl) ?_ | refine aw_draw (by kernel_rfl) (by kernel_rfl) ?_) | (first | (refine ah_is ?_; (fail_if_success first | refine ah_glit (b := true) rfl rfl rfl (by with_reducible rfl) ?_ | refine ah_glit (b := false) rfl rfl rfl (by with_reducible rfl) ?_); apply ah_gt; (exact rfl); (exact rfl); (exact rfl); exact t_a) | ((refine ao_is ?_; (fail_if_success first | refine ao_glit (b := true) rfl rfl (by with_reducible rfl) ?_ | refine ao_glit (b := false) rfl rfl (by with_reducible rfl) ?_)); apply ao_gt; (exact rfl); (exact rfl); exact t_a) | ((refine aq_is ?_; (fail_if_success first | refine aq_glit (b := true) rfl rfl (by with_reducible rfl) ?_ | refine aq_glit (b := false) rfl rfl (by with_reducible rfl) ?_)); apply aq_gt; (exact rfl); (exact rfl); exact t_a) | (apply aw_ct; (exact rfl); exact t_a)) | (first | (refine ah_is ?_; (fail_if_success first | refine ah_glit (b := true) rfl rfl rfl (by with_reducible rfl) ?_ | refine ah_glit (b := false) rfl rfl rfl (by with_reducible rfl) ?_); apply ah_gf; (exact rfl); (exact rfl); (exact rfl); exact f_a) | ((refine ao_is ?_; (fail_if_success first | refine ao_glit (b := true) rfl rfl (by with_reducible rfl) ?_ | refine ao_glit (b := false) rfl rfl (by with_reducible rfl) ?_)); apply ao_gf; (exact rfl); (exact rfl); exact f_a) | ((refine aq_is ?_; (fail_if_success first | refine aq_glit (b := true) rfl rfl (by with_reducible rfl) ?_ | refine aq_glit (b := false) rfl rfl (by with_reducible rfl) ?_)); apply aq_gf; (exact rfl); (exact rfl); exact f_a) | (apply aw_cf; (exact rfl); exact f_a)) | refine at_normal ?_ | refine at_exit ?_ | refine at_ret ?_ | refine ib_normal ?_ | refine ib_exit ?_ | refine ib_other ?_ | refine ib_ret ?_ | refine lq_exit ?_ | refine lq_ret ?_ | refine ci_ret ?_ | refine ci_exit ?_ | refine r1_ret rfl ?_ | refine r1_normal rfl ?_ | refine r2_ret rfl rfl ?_ | refine r2_normal rfl rfl ?_ | refine r3_ret rfl rfl rfl ?_ | refine r3_normal rfl rfl rfl ?_ | refine ng_normal ?_ | refine ng_exit ?_ | refine ng_ret ?_ | (apply rt_ret; (exact rfl); (exact rfl); (exact rfl); exact has_a; exact has_a; (exact rfl); (exact rfl)) | (apply rc1_ret; (exact rfl); exact has_a; (exact rfl)) | (apply rc2_ret; (exact rfl); exact has_a; (exact rfl); (exact rfl)) | (refine ao_is ?_; (fail_if_success first | refine ao_glit (b := true) rfl rfl (by with_reducible rfl) ?_ | refine ao_glit (b := false) rfl rfl (by with_reducible rfl) ?_); refine ao_gbool rfl rfl (fun _ => ?_) (fun _ => ?_)) | (refine aq_is ?_; (fail_if_success first | refine aq_glit (b := true) rfl rfl (by with_reducible rfl) ?_ | refine aq_glit (b := false) rfl rfl (by with_reducible rfl) ?_); refine aq_gbool rfl rfl (fun _ => ?_) (fun _ => ?_)) | (refine aw_is ?_; refine aw_cond rfl (fun _ => ?_) (fun _ => ?_)))
  exact fun w' hw => ⟨_, rfl, hw.toD rfl (l := l1 ++ []) (R := [(_, _), (_, _)]) (by unfold Cut; rw [List.append_nil]) ⟨⟨(k, s, n), true, false, (.slice a1 rs.length q1, ⟨k, s, n, over, c, tm, bs, rs⟩), zP⟩, rfl, rfl, l1, [], rfl, r1, RowB.nil⟩⟩
theorem Cut.app {H l m R1 R : Hp} (h1 : Cut H l R1) (h2 : Cut R1 m R) : Cut H (l ++ m) R := by
  unfold Cut at *
  refine h1.trans ?_
  rw [List.append_assoc]
  exact List.Perm.append_left l h2
section
variable {w : World} {g : Nat} {st : St} {mo mg : Option Nat} {X : List (PO × Nat)} {co : Nat} {G : List (Gr × Nat)} {cg : Nat}
set_option maxHeartbeats 32000000 in
theorem comes_ok (h : CAt w g st mo mg X co G cg) (hf : Fine st) (hwf : ∀ o ∈ st.os, wfS o) (p : PO) (hp : wfS p.2) (hres : ResAt w p.1 p.2.rs) :
    Calls Tryz.prog 88 #[.pointer (some ⟨g, 0, none⟩), OV p.2 p.1] w fun e w' => ∃ r, e = .returned r ∧ NewD (DDel (comesD st p.2)) w w' r := by
  have h1 := fun w' (hb : Below w.heap.size w w') => Ojt.own_ok p.2 _ hp.wfO w' (hres.below hb)
  obtain ⟨v, hv, hlo⟩ := h.look_o hf.os.own (keyO p.2)
  have c0 := h.c0
  have lt := h.lt
  obtain ⟨va, vc, hvl⟩ := hv.len
  subst hvl
  unfold comesD
  obtain ⟨x, k, s, n, over, c, tm, bs, rs⟩ := p
  obtain ⟨xa, xc, hx⟩ := hres.len
  simp only at hx
  subst hx
  simp only at hlo hv ⊢
  cases hg : getO st.os (k, s, n) with
  | none =>
    rw [hg] at hlo
    unfold getB at hlo ⊢
    simp only at hlo ⊢
    refine callsC1 (rt := 82) (args := [.pointer (some ⟨g, 0, none⟩), OV ⟨k, s, n, over, c, tm, bs, rs⟩ (.slice xa rs.length xc)]) Tryz.func88 rfl rfl rfl rfl ?_
    repeat' (first | (apply ao_nilh; exact hsub_a) | apply ao_nil | apply aq_nil | apply ah_end | ((first | apply ao_val | apply aq_val | (apply ah_take; (exact rfl))); exact wants_a; exact ov_a; (exact rfl)) | ((first | apply ao_skip | apply aq_skip | (apply ah_skip; (exact rfl))); exact nots_a; (exact rfl)) | (refine ao_is ?_; first | (apply ao_new; exact wants_a; exact on_a; (exact rfl); intro _) | (apply ao_store; exact wants_a; exact ow_a; exact upd_a) | (apply ao_valw; exact wants_a; exact ox_a; (exact rfl); exact upd_a) | (apply ao_skip0; exact nots_a) | (apply ao_append; exact wants_a; (exact rfl); assumption; (exact rfl); exact cut_a; exact has_a; (exact rfl); (exact rfl); omega; omega; omega; (exact rfl); intro vr lr hr)) | (apply ao_callrg; exact wants_a; (exact oc_func rfl); (exact rfl); (first | exact fun w hw => h1 w hw.below); intro vr lr hr) | (apply ah_one; (exact rfl)) | (apply ah_two; (exact rfl); (exact rfl)) | (apply ah_three; (exact rfl); (exact rfl); (exact rfl)) | (refine aw_is ?_; first | (apply aw_held (id := 1) (pl := (.t 0 (.t 1 (.t 2 (.w 3 (.t 4 (.o 5 (.o 6 .e))) 5 (.o 3 (.t 4 (.o 6 .e)))))))); (kernel_rfl); (kernel_rfl); (kernel_rfl); (solve | (exact List.Sublist.refl _))) | refine aw_seq ?_ | refine aw_block ?_ | refine aw_region ?_ | refine aw_skip ?_ | refine aw_exit ?_ | refine aw_ret ?_ | refine aw_label ?_ | refine aw_scope ?_ | refine aw_cond_t rfl (by with_reducible rfl) ?_ | refine aw_cond_f rfl (by with_reducible rfl) ?_ | refine aw_draw (by kernel_rfl) (by kernel_rfl) ?_) | (first | (refine ah_is ?_; (fail_if_success first | refine ah_glit (b := true) rfl rfl rfl (by with_reducible rfl) ?_ | refine ah_glit (b := false) rfl rfl rfl (by with_reducible rfl) ?_); apply ah_gt; (exact rfl); (exact rfl); (exact rfl); exact t_a) | ((refine ao_is ?_; (fail_if_success first | refine ao_glit (b := true) rfl rfl (by with_reducible rfl) ?_ | refine ao_glit (b := false) rfl rfl (by with_reducible rfl) ?_)); apply ao_gt; (exact rfl); (exact rfl); exact t_a) | ((refine aq_is ?_; (fail_if_success first | refine aq_glit (b := true) rfl rfl (by with_reducible rfl) ?_ | refine aq_glit (b := false) rfl rfl (by with_reducible rfl) ?_)); apply aq_gt; (exact rfl); (exact rfl); exact t_a) | (apply aw_ct; (exact rfl); exact t_a)) | (first | (refine ah_is ?_; (fail_if_success first | refine ah_glit (b := true) rfl rfl rfl (by with_reducible rfl) ?_ | refine ah_glit (b := false) rfl rfl rfl (by with_reducible rfl) ?_); apply ah_gf; (exact rfl); (exact rfl); (exact rfl); exact f_a) | ((refine ao_is ?_; (fail_if_success first | refine ao_glit (b := true) rfl rfl (by with_reducible rfl) ?_ | refine ao_glit (b := false) rfl rfl (by with_reducible rfl) ?_)); apply ao_gf; (exact rfl); (exact rfl); exact f_a) | ((refine aq_is ?_; (fail_if_success first | refine aq_glit (b := true) rfl rfl (by with_reducible rfl) ?_ | refine aq_glit (b := false) rfl rfl (by with_reducible rfl) ?_)); apply aq_gf; (exact rfl); (exact rfl); exact f_a) | (apply aw_cf; (exact rfl); exact f_a)) | refine at_normal ?_ | refine at_exit ?_ | refine at_ret ?_ | refine ib_normal ?_ | refine ib_exit ?_ | refine ib_other ?_ | refine ib_ret ?_ | refine lq_exit ?_ | refine lq_ret ?_ | refine ci_ret ?_ | refine ci_exit ?_ | refine r1_ret rfl ?_ | refine r1_normal rfl ?_ | refine r2_ret rfl rfl ?_ | refine r2_normal rfl rfl ?_ | refine r3_ret rfl rfl rfl ?_ | refine r3_normal rfl rfl rfl ?_ | refine ng_normal ?_ | refine ng_exit ?_ | refine ng_ret ?_ | (apply rt_ret; (exact rfl); (exact rfl); (exact rfl); exact has_a; exact has_a; (exact rfl); (exact rfl)) | (apply rc1_ret; (exact rfl); exact has_a; (exact rfl)) | (apply rc2_ret; (exact rfl); exact has_a; (exact rfl); (exact rfl)) | (refine ao_is ?_; (fail_if_success first | refine ao_glit (b := true) rfl rfl (by with_reducible rfl) ?_ | refine ao_glit (b := false) rfl rfl (by with_reducible rfl) ?_); refine ao_gbool rfl rfl (fun _ => ?_) (fun _ => ?_)) | (refine aq_is ?_; (fail_if_success first | refine aq_glit (b := true) rfl rfl (by with_reducible rfl) ?_ | refine aq_glit (b := false) rfl rfl (by with_reducible rfl) ?_); refine aq_gbool rfl rfl (fun _ => ?_) (fun _ => ?_)) | (refine aw_is ?_; refine aw_cond rfl (fun _ => ?_) (fun _ => ?_)))
    all_goals
      revert vr lr hr
      intro v1 l1 r1
      obtain ⟨a1, q1, rfl⟩ := r1.len
      repeat' (first | (apply ao_nilh; exact hsub_a) | apply ao_nil | apply aq_nil | apply ah_end | ((first | apply ao_val | apply aq_val | (apply ah_take; (exact rfl))); exact wants_a; (first | exact ov_nilcheck rfl | exact hlo true rfl rfl | exact ov_a); (exact rfl)) | ((first | apply ao_skip | apply aq_skip | (apply ah_skip; (exact rfl))); exact nots_a; (exact rfl)) | (refine ao_is ?_; first | (apply ao_new; exact wants_a; exact on_a; (exact rfl); intro _) | (apply ao_store; exact wants_a; exact ow_a; exact upd_a) | (apply ao_valw; exact wants_a; exact ox_a; (exact rfl); exact upd_a) | (apply ao_skip0; exact nots_a) | (apply ao_append; exact wants_a; (exact rfl); assumption; (exact rfl); exact cut_a; exact has_a; (exact rfl); (exact rfl); omega; omega; omega; (exact rfl); intro vr lr hr)) | (apply ah_one; (exact rfl)) | (apply ah_two; (exact rfl); (exact rfl)) | (apply ah_three; (exact rfl); (exact rfl); (exact rfl)) | (refine aw_is ?_; first | (apply aw_held (id := 1) (pl := (.t 0 (.t 1 (.t 2 (.w 3 (.t 4 (.o 5 (.o 6 .e))) 5 (.o 3 (.t 4 (.o 6 .e)))))))); (kernel_rfl); (kernel_rfl); (kernel_rfl); (solve | (exact List.Sublist.refl _))) | (apply aw_held (id := 2) (pl := (.t 0 (.t 1 (.t 2 (.t 3 (.t 4 (.t 5 (.t 6 (.t 7 (.t 8 (.t 9 (.o 10 (.o 11 (.t 12 .e)))))))))))))); (kernel_rfl); (kernel_rfl); (kernel_rfl); (solve | (exact List.Sublist.refl _))) | refine aw_seq ?_ | refine aw_block ?_ | refine aw_region ?_ | refine aw_skip ?_ | refine aw_exit ?_ | refine aw_ret ?_ | refine aw_label ?_ | refine aw_scope ?_ | refine aw_cond_t rfl (by with_reducible rfl) ?_ | refine aw_cond_f rfl (by with_reducible rfl) ?_ | refine aw_draw (by kernel_rfl) (by kernel_rfl) ?_) | (first | (refine ah_is ?_; (fail_if_success first | refine ah_glit (b := true) rfl rfl rfl (by with_reducible rfl) ?_ | refine ah_glit (b := false) rfl rfl rfl (by with_reducible rfl) ?_); apply ah_gt; (exact rfl); (exact rfl); (exact rfl); exact t_a) | ((refine ao_is ?_; (fail_if_success first | refine ao_glit (b := true) rfl rfl (by with_reducible rfl) ?_ | refine ao_glit (b := false) rfl rfl (by with_reducible rfl) ?_)); apply ao_gt; (exact rfl); (exact rfl); exact t_a) | ((refine aq_is ?_; (fail_if_success first | refine aq_glit (b := true) rfl rfl (by with_reducible rfl) ?_ | refine aq_glit (b := false) rfl rfl (by with_reducible rfl) ?_)); apply aq_gt; (exact rfl); (exact rfl); exact t_a) | (apply aw_ct; (exact rfl); exact t_a)) | (first | (refine ah_is ?_; (fail_if_success first | refine ah_glit (b := true) rfl rfl rfl (by with_reducible rfl) ?_ | refine ah_glit (b := false) rfl rfl rfl (by with_reducible rfl) ?_); apply ah_gf; (exact rfl); (exact rfl); (exact rfl); exact f_a) | ((refine ao_is ?_; (fail_if_success first | refine ao_glit (b := true) rfl rfl (by with_reducible rfl) ?_ | refine ao_glit (b := false) rfl rfl (by with_reducible rfl) ?_)); apply ao_gf; (exact rfl); (exact rfl); exact f_a) | ((refine aq_is ?_; (fail_if_success first | refine aq_glit (b := true) rfl rfl (by with_reducible rfl) ?_ | refine aq_glit (b := false) rfl rfl (by with_reducible rfl) ?_)); apply aq_gf; (exact rfl); (exact rfl); exact f_a) | (apply aw_cf; (exact rfl); exact f_a)) | refine at_normal ?_ | refine at_exit ?_ | refine at_ret ?_ | refine ib_normal ?_ | refine ib_exit ?_ | refine ib_other ?_ | refine ib_ret ?_ | refine lq_exit ?_ | refine lq_ret ?_ | refine ci_ret ?_ | refine ci_exit ?_ | refine r1_ret rfl ?_ | refine r1_normal rfl ?_ | refine r2_ret rfl rfl ?_ | refine r2_normal rfl rfl ?_ | refine r3_ret rfl rfl rfl ?_ | refine r3_normal rfl rfl rfl ?_ | refine ng_normal ?_ | refine ng_exit ?_ | refine ng_ret ?_ | (apply rt_ret; (exact rfl); (exact rfl); (exact rfl); exact has_a; exact has_a; (exact rfl); (exact rfl)) | (apply rc1_ret; (exact rfl); exact has_a; (exact rfl)) | (apply rc2_ret; (exact rfl); exact has_a; (exact rfl); (exact rfl)) | (refine ao_is ?_; (fail_if_success first | refine ao_glit (b := true) rfl rfl (by with_reducible rfl) ?_ | refine ao_glit (b := false) rfl rfl (by with_reducible rfl) ?_); refine ao_gbool rfl rfl (fun _ => ?_) (fun _ => ?_)) | (refine aq_is ?_; (fail_if_success first | refine aq_glit (b := true) rfl rfl (by with_reducible rfl) ?_ | refine aq_glit (b := false) rfl rfl (by with_reducible rfl) ?_); refine aq_gbool rfl rfl (fun _ => ?_) (fun _ => ?_)) | (refine aw_is ?_; refine aw_cond rfl (fun _ => ?_) (fun _ => ?_)))
      exact fun w' hw => ⟨_, rfl, hw.toD rfl (l := l1) (by solve | (repeat (first | exact Cut.here | exact Cut.here1 | exact Cut.nil | apply Cut.skip | apply Cut.skipA))) ⟨⟨(k, s, n), false, true, zP, (.slice a1 rs.length q1, ⟨k, s, n, over, c, tm, bs, rs⟩)⟩, rfl, rfl, [], l1, rfl, RowB.nil, r1⟩⟩
  | some o =>
    rw [hg] at hlo hv
    have ho := hwf o (getO_some hg).1
    unfold getB at hlo hv ⊢
    simp only at hlo hv ⊢
    have h2 := fun w' (hb : Below w.heap.size w w') => Ojt.own_ok o _ ho.wfO w' (hv.below hb)
    obtain ⟨k1, s1, n1, ver2, c2, tm2, bs2, rs2⟩ := o
    simp only at hlo hv h2 ⊢
    refine callsC1 (rt := 82) (args := [.pointer (some ⟨g, 0, none⟩), OV ⟨k, s, n, over, c, tm, bs, rs⟩ (.slice xa rs.length xc)]) Tryz.func88 rfl rfl rfl rfl ?_
    repeat' (first | (apply ao_nilh; exact hsub_a) | apply ao_nil | apply aq_nil | apply ah_end | ((first | apply ao_val | apply aq_val | (apply ah_take; (exact rfl))); exact wants_a; exact ov_a; (exact rfl)) | ((first | apply ao_skip | apply aq_skip | (apply ah_skip; (exact rfl))); exact nots_a; (exact rfl)) | (refine ao_is ?_; first | (apply ao_new; exact wants_a; exact on_a; (exact rfl); intro _) | (apply ao_store; exact wants_a; exact ow_a; exact upd_a) | (apply ao_valw; exact wants_a; exact ox_a; (exact rfl); exact upd_a) | (apply ao_skip0; exact nots_a) | (apply ao_append; exact wants_a; (exact rfl); assumption; (exact rfl); exact cut_a; exact has_a; (exact rfl); (exact rfl); omega; omega; omega; (exact rfl); intro vr lr hr)) | (apply ao_callrg; exact wants_a; (exact oc_func rfl); (exact rfl); (first | exact fun w hw => h1 w hw.below); intro vr lr hr) | (apply ah_one; (exact rfl)) | (apply ah_two; (exact rfl); (exact rfl)) | (apply ah_three; (exact rfl); (exact rfl); (exact rfl)) | (refine aw_is ?_; first | (apply aw_held (id := 1) (pl := (.t 0 (.t 1 (.t 2 (.w 3 (.t 4 (.o 5 (.o 6 .e))) 5 (.o 3 (.t 4 (.o 6 .e)))))))); (kernel_rfl); (kernel_rfl); (kernel_rfl); (solve | (exact List.Sublist.refl _))) | refine aw_seq ?_ | refine aw_block ?_ | refine aw_region ?_ | refine aw_skip ?_ | refine aw_exit ?_ | refine aw_ret ?_ | refine aw_label ?_ | refine aw_scope ?_ | refine aw_cond_t rfl (by with_reducible rfl) ?_ | refine aw_cond_f rfl (by with_reducible rfl) ?_ | refine aw_draw (by kernel_rfl) (by kernel_rfl) ?_) | (first | (refine ah_is ?_; (fail_if_success first | refine ah_glit (b := true) rfl rfl rfl (by with_reducible rfl) ?_ | refine ah_glit (b := false) rfl rfl rfl (by with_reducible rfl) ?_); apply ah_gt; (exact rfl); (exact rfl); (exact rfl); exact t_a) | ((refine ao_is ?_; (fail_if_success first | refine ao_glit (b := true) rfl rfl (by with_reducible rfl) ?_ | refine ao_glit (b := false) rfl rfl (by with_reducible rfl) ?_)); apply ao_gt; (exact rfl); (exact rfl); exact t_a) | ((refine aq_is ?_; (fail_if_success first | refine aq_glit (b := true) rfl rfl (by with_reducible rfl) ?_ | refine aq_glit (b := false) rfl rfl (by with_reducible rfl) ?_)); apply aq_gt; (exact rfl); (exact rfl); exact t_a) | (apply aw_ct; (exact rfl); exact t_a)) | (first | (refine ah_is ?_; (fail_if_success first | refine ah_glit (b := true) rfl rfl rfl (by with_reducible rfl) ?_ | refine ah_glit (b := false) rfl rfl rfl (by with_reducible rfl) ?_); apply ah_gf; (exact rfl); (exact rfl); (exact rfl); exact f_a) | ((refine ao_is ?_; (fail_if_success first | refine ao_glit (b := true) rfl rfl (by with_reducible rfl) ?_ | refine ao_glit (b := false) rfl rfl (by with_reducible rfl) ?_)); apply ao_gf; (exact rfl); (exact rfl); exact f_a) | ((refine aq_is ?_; (fail_if_success first | refine aq_glit (b := true) rfl rfl (by with_reducible rfl) ?_ | refine aq_glit (b := false) rfl rfl (by with_reducible rfl) ?_)); apply aq_gf; (exact rfl); (exact rfl); exact f_a) | (apply aw_cf; (exact rfl); exact f_a)) | refine at_normal ?_ | refine at_exit ?_ | refine at_ret ?_ | refine ib_normal ?_ | refine ib_exit ?_ | refine ib_other ?_ | refine ib_ret ?_ | refine lq_exit ?_ | refine lq_ret ?_ | refine ci_ret ?_ | refine ci_exit ?_ | refine r1_ret rfl ?_ | refine r1_normal rfl ?_ | refine r2_ret rfl rfl ?_ | refine r2_normal rfl rfl ?_ | refine r3_ret rfl rfl rfl ?_ | refine r3_normal rfl rfl rfl ?_ | refine ng_normal ?_ | refine ng_exit ?_ | refine ng_ret ?_ | (apply rt_ret; (exact rfl); (exact rfl); (exact rfl); exact has_a; exact has_a; (exact rfl); (exact rfl)) | (apply rc1_ret; (exact rfl); exact has_a; (exact rfl)) | (apply rc2_ret; (exact rfl); exact has_a; (exact rfl); (exact rfl)) | (refine ao_is ?_; (fail_if_success first | refine ao_glit (b := true) rfl rfl (by with_reducible rfl) ?_ | refine ao_glit (b := false) rfl rfl (by with_reducible rfl) ?_); refine ao_gbool rfl rfl (fun _ => ?_) (fun _ => ?_)) | (refine aq_is ?_; (fail_if_success first | refine aq_glit (b := true) rfl rfl (by with_reducible rfl) ?_ | refine aq_glit (b := false) rfl rfl (by with_reducible rfl) ?_); refine aq_gbool rfl rfl (fun _ => ?_) (fun _ => ?_)) | (refine aw_is ?_; refine aw_cond rfl (fun _ => ?_) (fun _ => ?_)))
    all_goals
      revert vr lr hr
      intro v1 l1 r1
      obtain ⟨a1, q1, rfl⟩ := r1.len
      repeat' (first | (apply ao_nilh; exact hsub_a) | apply ao_nil | apply aq_nil | apply ah_end | ((first | apply ao_val | apply aq_val | (apply ah_take; (exact rfl))); exact wants_a; (first | exact ov_nilcheck rfl | exact hlo true rfl rfl | exact ov_a); (exact rfl)) | ((first | apply ao_skip | apply aq_skip | (apply ah_skip; (exact rfl))); exact nots_a; (exact rfl)) | (refine ao_is ?_; first | (apply ao_new; exact wants_a; exact on_a; (exact rfl); intro _) | (apply ao_store; exact wants_a; exact ow_a; exact upd_a) | (apply ao_valw; exact wants_a; exact ox_a; (exact rfl); exact upd_a) | (apply ao_skip0; exact nots_a) | (apply ao_append; exact wants_a; (exact rfl); assumption; (exact rfl); exact cut_a; exact has_a; (exact rfl); (exact rfl); omega; omega; omega; (exact rfl); intro vr lr hr)) | (apply ao_callrg; exact wants_a; (exact oc_func rfl); (exact rfl); (first | exact fun w hw => h2 w hw.below); intro vr lr hr) | (apply ah_one; (exact rfl)) | (apply ah_two; (exact rfl); (exact rfl)) | (apply ah_three; (exact rfl); (exact rfl); (exact rfl)) | (refine aw_is ?_; first | (apply aw_held (id := 1) (pl := (.t 0 (.t 1 (.t 2 (.w 3 (.t 4 (.o 5 (.o 6 .e))) 5 (.o 3 (.t 4 (.o 6 .e)))))))); (kernel_rfl); (kernel_rfl); (kernel_rfl); (solve | (exact List.Sublist.refl _))) | (apply aw_held (id := 2) (pl := (.t 0 (.t 1 (.t 2 (.t 3 (.t 4 (.t 5 (.t 6 (.t 7 (.t 8 (.t 9 (.o 10 (.o 11 (.t 12 .e)))))))))))))); (kernel_rfl); (kernel_rfl); (kernel_rfl); (solve | (exact List.Sublist.refl _))) | refine aw_seq ?_ | refine aw_block ?_ | refine aw_region ?_ | refine aw_skip ?_ | refine aw_exit ?_ | refine aw_ret ?_ | refine aw_label ?_ | refine aw_scope ?_ | refine aw_cond_t rfl (by with_reducible rfl) ?_ | refine aw_cond_f rfl (by with_reducible rfl) ?_ | refine aw_draw (by kernel_rfl) (by kernel_rfl) ?_) | (first | (refine ah_is ?_; (fail_if_success first | refine ah_glit (b := true) rfl rfl rfl (by with_reducible rfl) ?_ | refine ah_glit (b := false) rfl rfl rfl (by with_reducible rfl) ?_); apply ah_gt; (exact rfl); (exact rfl); (exact rfl); exact t_a) | ((refine ao_is ?_; (fail_if_success first | refine ao_glit (b := true) rfl rfl (by with_reducible rfl) ?_ | refine ao_glit (b := false) rfl rfl (by with_reducible rfl) ?_)); apply ao_gt; (exact rfl); (exact rfl); exact t_a) | ((refine aq_is ?_; (fail_if_success first | refine aq_glit (b := true) rfl rfl (by with_reducible rfl) ?_ | refine aq_glit (b := false) rfl rfl (by with_reducible rfl) ?_)); apply aq_gt; (exact rfl); (exact rfl); exact t_a) | (apply aw_ct; (exact rfl); exact t_a)) | (first | (refine ah_is ?_; (fail_if_success first | refine ah_glit (b := true) rfl rfl rfl (by with_reducible rfl) ?_ | refine ah_glit (b := false) rfl rfl rfl (by with_reducible rfl) ?_); apply ah_gf; (exact rfl); (exact rfl); (exact rfl); exact f_a) | ((refine ao_is ?_; (fail_if_success first | refine ao_glit (b := true) rfl rfl (by with_reducible rfl) ?_ | refine ao_glit (b := false) rfl rfl (by with_reducible rfl) ?_)); apply ao_gf; (exact rfl); (exact rfl); exact f_a) | ((refine aq_is ?_; (fail_if_success first | refine aq_glit (b := true) rfl rfl (by with_reducible rfl) ?_ | refine aq_glit (b := false) rfl rfl (by with_reducible rfl) ?_)); apply aq_gf; (exact rfl); (exact rfl); exact f_a) | (apply aw_cf; (exact rfl); exact f_a)) | refine at_normal ?_ | refine at_exit ?_ | refine at_ret ?_ | refine ib_normal ?_ | refine ib_exit ?_ | refine ib_other ?_ | refine ib_ret ?_ | refine lq_exit ?_ | refine lq_ret ?_ | refine ci_ret ?_ | refine ci_exit ?_ | refine r1_ret rfl ?_ | refine r1_normal rfl ?_ | refine r2_ret rfl rfl ?_ | refine r2_normal rfl rfl ?_ | refine r3_ret rfl rfl rfl ?_ | refine r3_normal rfl rfl rfl ?_ | refine ng_normal ?_ | refine ng_exit ?_ | refine ng_ret ?_ | (apply rt_ret; (exact rfl); (exact rfl); (exact rfl); exact has_a; exact has_a; (exact rfl); (exact rfl)) | (apply rc1_ret; (exact rfl); exact has_a; (exact rfl)) | (apply rc2_ret; (exact rfl); exact has_a; (exact rfl); (exact rfl)) | (refine ao_is ?_; (fail_if_success first | refine ao_glit (b := true) rfl rfl (by with_reducible rfl) ?_ | refine ao_glit (b := false) rfl rfl (by with_reducible rfl) ?_); refine ao_gbool rfl rfl (fun _ => ?_) (fun _ => ?_)) | (refine aq_is ?_; (fail_if_success first | refine aq_glit (b := true) rfl rfl (by with_reducible rfl) ?_ | refine aq_glit (b := false) rfl rfl (by with_reducible rfl) ?_); refine aq_gbool rfl rfl (fun _ => ?_) (fun _ => ?_)) | (refine aw_is ?_; refine aw_cond rfl (fun _ => ?_) (fun _ => ?_)))
      revert vr lr hr
      intro v2 l2 r2
      obtain ⟨a2, q2, rfl⟩ := r2.len
      repeat' (first | refine aw_seq ?_ | refine zz ?_ | refine zon fun _ => ?_ | refine zoa fun vr lr hr => ?_ | refine zoS (fun _ => ?_) (fun _ => ?_) | refine zqS (fun _ => ?_) (fun _ => ?_) | refine zwS (fun _ => ?_) (fun _ => ?_))
      exact fun w' hw => ⟨_, rfl, hw.toD rfl (l := l2 ++ l1) (Cut.app (by solve | (repeat (first | exact Cut.here | exact Cut.here1 | exact Cut.nil | apply Cut.skip | apply Cut.skipA))) (by solve | (repeat (first | exact Cut.here | exact Cut.here1 | exact Cut.nil | apply Cut.skip | apply Cut.skipA)))) ⟨⟨(k, s, n), true, true, (.slice a2 rs2.length q2, ⟨k1, s1, n1, ver2, c2, tm2, bs2, rs2⟩), (.slice a1 rs.length q1, ⟨k, s, n, over, c, tm, bs, rs⟩)⟩, rfl, rfl, l2, l1, rfl, r2, r1⟩⟩
end
end Chm
end Go.Proofs.YtdakeicfhbggeaaGreat
