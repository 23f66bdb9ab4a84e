/- The landed sums: a map from buckets to vectors, a map from names, as facts; what is asked, put, taken; conditions: none. -/
import Derived.Test.YtkjjlppfomidbaaGreatLcy
import Derived.Test.YtkjjlppfomidbaaGreatLcm
import Derived.Test.YtkjjlppfomidbaaGreatSxn
import Derived.Test.YtkjjlppfomidbaaGreatTxs
import Derived.Test.YtkjjlppfomidbaaGreatScpy
/- Lda: The landed sums: a map from buckets to vectors, a map from names, as facts; what is asked, put, taken; conditions: none. -/
namespace Go.Proofs.YtkjjlppfomidbaaGreat
namespace Lct
open Go Go.RowKit Sx Vec Ojt Scp
attribute [local irreducible] Go.Calls
instance : TyPtr Tryz.prog 74 115 := ⟨by kernel_rfl⟩
instance : TyMapT Tryz.prog 78 52 48 := ⟨by kernel_rfl⟩
instance : TyMapT Tryz.prog 187 9 4 := ⟨by kernel_rfl⟩
def encB (b : Bk) : Value := .agg #[S b.1, I b.2]
theorem same2 (s : List UInt8) (i : Int) : Instr.sameBits 10000 (.agg #[S s, I i]) (.agg #[S s, I i]) = true := by
  show Instr.sameBits (9999 + 1) _ _ = true
  simp [Instr.sameBits, MapKept.bytes_beq]
instance : KeyK Tryz.prog 52 encB := keyK_struct (ds := [.string, .int .i64]) (fun b : Bk => [S b.1, I b.2]) (fun _ => rfl) bk_eq (fun b => same2 b.1 b.2)
def encN (s : Tx) : Value := S s
theorem findNow_n (k : Tx) : ∀ (es : List (En Tx)) (i : Nat), Instr.findNow .string (encN k) (es.map (ent encN)) i = some (fndK k es i)
  | [], _ => rfl
  | x :: es, i => by
    have ih := findNow_n k es (i + 1)
    have h1 : Instr.sameNow .string (encN k) (ent encN x).key = some (decide (k = x.1)) := by
      show some _ = _
      congr 1
      rw [Bool.eq_iff_iff, MapKept.bytes_beq, decide_eq_true_eq]
      constructor
      · intro h
        have := congrArg (fun b : ByteArray => b.data.toList) h
        simpa using this
      · rintro rfl; rfl
    rw [List.map_cons]
    unfold Instr.findNow fndK
    rw [h1]
    by_cases e : k = x.1
    · rw [decide_eq_true e, if_pos e]; rfl
    · rw [decide_eq_false e, if_neg e]; exact ih
instance : KeyK Tryz.prog 9 encN where
  check b w k := MapKept.run_checkKey (d := .string) (by kernel_rfl) (k := encN k) trivial b 9999
  find w k es := MapKept.run_findKey (d := .string) (by kernel_rfl) (findNow_n k es 0)
  stays w k := by
    unfold Instr.keyThatStays
    rw [if_pos (by show (_ == _) = true; rw [MapKept.bytes_beq])]
    rfl
structure OutK {κ : Type} (X done : List (En κ)) (seen : Array Nat) : Prop where
  sub : ∀ x ∈ done, x ∈ X
  nd : done.Nodup
  is : seen.toList = done.map (·.2.2)
section
variable {κ : Type} {X done : List (En κ)} {seen : Array Nat}
theorem OutK.nil : OutK X [] #[] := ⟨(fun _ h => by cases h), List.nodup_nil, rfl⟩
theorem OutK.snoc (h : OutK X done seen) {x : En κ} (hx : x ∈ X) (hn : x.2.2 ∉ seen) : OutK X (done ++ [x]) (seen.push x.2.2) := by
  refine ⟨fun y hy => ?_, ?_, ?_⟩
  · rcases List.mem_append.1 hy with hy | hy
    · exact h.sub y hy
    · rw [List.mem_singleton.1 hy]; exact hx
  · refine List.nodup_append.2 ⟨h.nd, by simp, fun a ha b hb e => ?_⟩
    rw [List.mem_singleton.1 hb] at e
    subst e
    refine hn ?_
    rw [← Array.mem_toList_iff, h.is]
    exact List.mem_map.2 ⟨_, ha, rfl⟩
  · rw [Array.toList_push, h.is, List.map_append]
    rfl
theorem OutK.all (h : OutK X done seen) (hX : (X.map (·.2.2)).Nodup) (ha : ∀ x ∈ X, x.2.2 ∈ seen) : done.Perm X := by
  have hXn : X.Nodup := List.Pairwise.imp (fun h e => h (by rw [e])) (List.pairwise_map.1 hX)
  refine perm_mem h.nd hXn fun x => ⟨h.sub x, fun hx => ?_⟩
  have h1 := ha x hx
  rw [← Array.mem_toList_iff, h.is] at h1
  obtain ⟨y, hy, e⟩ := List.mem_map.1 h1
  obtain ⟨i, hi⟩ := List.getElem?_of_mem (h.sub y hy)
  obtain ⟨j, hj⟩ := List.getElem?_of_mem hx
  have e1 : (X.map (·.2.2))[i]? = some x.2.2 := by rw [List.getElem?_map, hi, Option.map_some, e]
  have e2 : (X.map (·.2.2))[j]? = some x.2.2 := by rw [List.getElem?_map, hj]; rfl
  have h3 : i = j := (List.getElem?_inj (List.getElem?_eq_some_iff.1 e1).1 hX).1 (e1.trans e2.symm)
  subst h3
  rw [hi] at hj
  cases hj
  exact hy
end
theorem nodup_le {α : Type} : ∀ {l m : List α}, l.Nodup → (∀ x ∈ l, x ∈ m) → l.length ≤ m.length
  | [], _, _, _ => Nat.zero_le _
  | a :: l, m, hl, h => by
    obtain ⟨s, u, rfl⟩ := List.append_of_mem (h a List.mem_cons_self)
    rw [List.nodup_cons] at hl
    have := nodup_le (m := s ++ u) hl.2 fun x hx => by
      have h2 := h x (List.mem_cons_of_mem a hx)
      rw [List.mem_append, List.mem_cons] at h2
      rcases h2 with h2 | rfl | h2
      · exact List.mem_append_left _ h2
      · exact absurd hx hl.1
      · exact List.mem_append_right _ h2
    simp only [List.length_append, List.length_cons] at this ⊢
    omega
theorem setK_mem {κ : Type} [DecidableEq κ] {k : κ} {u : Value} {y : En κ} : ∀ {es : List (En κ)}, (es.map (·.1)).Nodup → y ∈ setK k u es → (y ∈ es ∧ y.1 ≠ k) ∨ (y.1 = k ∧ y.2.1 = u)
  | [], _, h => by cases h
  | x :: es, hn, h => by
    rw [List.map_cons, List.nodup_cons] at hn
    unfold setK at h
    by_cases e : k = x.1
    · rw [if_pos e] at h
      rcases List.mem_cons.1 h with rfl | h
      · exact .inr ⟨rfl, rfl⟩
      · exact .inl ⟨List.mem_cons_of_mem _ h, fun e2 => hn.1 (by rw [← e, ← e2]; exact List.mem_map.2 ⟨y, h, rfl⟩)⟩
    · rw [if_neg e] at h
      rcases List.mem_cons.1 h with rfl | h
      · exact .inl ⟨List.mem_cons_self, fun e2 => e e2.symm⟩
      · rcases setK_mem hn.2 h with h | h
        · exact .inl ⟨List.mem_cons_of_mem _ h.1, h.2⟩
        · exact .inr h
structure MpK {κ : Type} (X : List (En κ)) (c : Nat) : Prop where
  kd : (X.map (·.1)).Nodup
  bd : (X.map (·.2.2)).Nodup
  bl : ∀ x ∈ X, x.2.2 < c
section
variable {κ : Type} [DecidableEq κ] {X : List (En κ)} {c : Nat}
omit [DecidableEq κ] in
theorem MpK.new : MpK (κ := κ) [] 0 := ⟨List.nodup_nil, List.nodup_nil, fun _ h => by cases h⟩
omit [DecidableEq κ] in
theorem MpK.put (h : MpK X c) {k : κ} (hk : k ∉ X.map (·.1)) (u : Value) : MpK (X ++ [(k, u, c)]) (c + 1) := by
  refine ⟨?_, ?_, fun x hx => ?_⟩
  · rw [List.map_append]
    refine List.nodup_append.2 ⟨h.kd, by simp, fun a ha b hb e => ?_⟩
    rw [List.map_singleton, List.mem_singleton] at hb
    exact hk (by rw [← show b = k from hb, ← e]; exact ha)
  · rw [List.map_append]
    refine List.nodup_append.2 ⟨h.bd, by simp, fun a ha b hb e => ?_⟩
    rw [List.map_singleton, List.mem_singleton] at hb
    obtain ⟨x, hx, rfl⟩ := List.mem_map.1 ha
    have := h.bl x hx
    simp only at hb
    omega
  · rcases List.mem_append.1 hx with hx | hx
    · exact Nat.lt_succ_of_lt (h.bl x hx)
    · rw [List.mem_singleton.1 hx]; exact Nat.lt_succ_self c
theorem MpK.set (h : MpK X c) (k : κ) (u : Value) : MpK (setK k u X) c := by
  refine ⟨by rw [setK_keys]; exact h.kd, by rw [setK_born]; exact h.bd, fun x hx => ?_⟩
  have h1 : x.2.2 ∈ (setK k u X).map (·.2.2) := List.mem_map.2 ⟨x, hx, rfl⟩
  rw [setK_born] at h1
  obtain ⟨y, hy, e⟩ := List.mem_map.1 h1
  rw [← e]
  exact h.bl y hy
theorem MpK.del (h : MpK X c) (k : κ) : MpK (delK k X) c := ⟨h.kd.sublist (delK_sub.map _), h.bd.sublist (delK_sub.map _), fun x hx => h.bl x (delK_sub.subset hx)⟩
theorem MpK.upd (h : MpK X c) (k : κ) (u : Value) {enc : κ → Value} {mt kt et : TypeId} [KeyK Tryz.prog kt enc] [TyMapT Tryz.prog mt kt et] : ∃ (X' : List (En κ)) (c' : Nat), MpK X' c' ∧ (∀ y, y ∈ X'.map (·.1) ↔ y = k ∨ y ∈ X.map (·.1)) ∧ (∀ y ∈ X', (y ∈ X ∧ y.1 ≠ k) ∨ (y.1 = k ∧ y.2.1 = u)) ∧
    ∀ {E : Env} {t : Tm} {H : Hp} {ty : TypeId} {x y z : Operand} {mb : Nat}, ev t x = some (.map (some mb)) → ev t y = some (enc k) → ev t z = some u → MapAt E H enc mb X c → OpW Tryz.prog E (.mapUpdate mt x y z) ty t H mb (mapO enc X' c') .skip := by
  cases hf : fndK k X 0 with
  | none =>
    have hk : k ∉ X.map (·.1) := fun hm => by
      obtain ⟨x, hx, e⟩ := List.mem_map.1 hm
      exact fndK_none.1 hf x hx e
    refine ⟨X ++ [(k, u, c)], c + 1, h.put hk u, fun y => ?_, fun y hy => ?_, fun hx hy hz hb => ow_mput (P := Tryz.prog) (kt := kt) (et := et) (enc := enc) (k := k) hx hy hz hb hf⟩
    · rw [List.map_append, List.mem_append, List.map_singleton, List.mem_singleton, or_comm]
    · rcases List.mem_append.1 hy with hy | hy
      · exact .inl ⟨hy, fun e => hk (by rw [← e]; exact List.mem_map.2 ⟨y, hy, rfl⟩)⟩
      · rw [List.mem_singleton.1 hy]; exact .inr ⟨rfl, rfl⟩
  | some q =>
    obtain ⟨i, v⟩ := q
    have hk : k ∈ X.map (·.1) := by
      obtain ⟨-, b, hb⟩ := fndK_some hf
      exact List.mem_map.2 ⟨_, List.mem_of_getElem? hb, rfl⟩
    refine ⟨setK k u X, c, h.set k u, fun y => ?_, fun y hy => setK_mem h.kd hy, fun hx hy hz hb => ow_mset (P := Tryz.prog) (kt := kt) (et := et) (enc := enc) (k := k) hx hy hz hb hf⟩
    rw [setK_keys]
    exact ⟨.inr, fun hy => hy.elim (fun e => e ▸ hk) id⟩
end
def VecsL (F : Bk → List Ent) (X : List (En Bk)) (l : Hp) : Prop := ∀ w, Lies w l → ∀ x ∈ X, VecCap w x.2.1 (F x.1)
def valB (X : List (En Bk)) (b : Bk) : Value := match fndK b X 0 with | some r => r.2 | none => .slice none 0 0
theorem vecCap_nil (w : World) : VecCap w (.slice none 0 0) [] := ⟨⟨rfl, none, 0, rfl, fun h => by simp at h⟩, fun a k c e => by cases e; exact Nat.le_refl _⟩
theorem MpK.fnd {X : List (En Bk)} {c : Nat} (_h : MpK X c) (b : Bk) :
    (∀ {F : Bk → List Ent} {l : Hp} {w : World}, VecsL F X l → Lies w l → VecCap w (valB X b) (if b ∈ X.map (·.1) then F b else [])) ∧
    ∀ {E : Env} {t : Tm} {H : Hp} {ty : TypeId} {x y : Operand} {mb : Nat} (ok : Bool), ev t x = some (.map (some mb)) → ev t y = some (encB b) → MapAt E H encB mb X c →
      OpV Tryz.prog E (.lookup 78 x y ok) ty t H (if ok then .tuple #[valB X b, .bool (decide (b ∈ X.map (·.1)))] else valB X b) := by
  cases hf : fndK b X 0 with
  | none =>
    have hk : b ∉ X.map (·.1) := fun hm => by
      obtain ⟨x, hx, e⟩ := List.mem_map.1 hm
      exact fndK_none.1 hf x hx e
    have hv : valB X b = .slice none 0 0 := by unfold valB; rw [hf]
    rw [hv]
    refine ⟨fun _ _ => by rw [if_neg hk]; exact vecCap_nil _, fun ok hx hy hb => ?_⟩
    rw [decide_eq_false hk]
    exact ov_mget0 (P := Tryz.prog) (kt := 52) (et := 48) (enc := encB) (k := b) (z := .slice none 0 0) ok hx hy hb hf
  | some q =>
    obtain ⟨i, u⟩ := q
    obtain ⟨-, n, hn⟩ := fndK_some hf
    have hm := List.mem_of_getElem? hn
    have hk : b ∈ X.map (·.1) := List.mem_map.2 ⟨_, hm, rfl⟩
    have hv : valB X b = u := by unfold valB; rw [hf]
    rw [hv]
    refine ⟨fun hF hl => by rw [if_pos hk]; exact hF _ hl _ hm, fun ok hx hy hb => ?_⟩
    rw [decide_eq_true hk]
    exact ov_mget (P := Tryz.prog) (kt := 52) (et := 48) (enc := encB) (k := b) ok hx hy hb hf
theorem VecsL.up {F F' : Bk → List Ent} {X X' : List (En Bk)} {l lu : Hp} {b : Bk} {u : Value} (h : VecsL F X l) (hX : ∀ y ∈ X', (y ∈ X ∧ y.1 ≠ b) ∨ (y.1 = b ∧ y.2.1 = u)) (hF : ∀ k, k ≠ b → F' k = F k) (hu : ∀ w, Lies w lu → VecCap w u (F' b)) : VecsL F' X' (lu ++ l) := by
  intro w hl x hx
  rcases hX x hx with ⟨h1, h2⟩ | ⟨h1, h2⟩
  · rw [hF _ h2]
    exact h w (hl.sub fun y hy => List.mem_append_right _ hy) x h1
  · rw [h1, h2]
    exact hu w (hl.sub fun y hy => List.mem_append_left _ hy)
theorem VecsL.mono {F F' : Bk → List Ent} {X X' : List (En Bk)} {l l' : Hp} (h : VecsL F X l) (hX : ∀ x ∈ X', x ∈ X ∧ F' x.1 = F x.1) (hl : ∀ x ∈ l, x ∈ l') : VecsL F' X' l' := fun w hw x hx => by
  rw [(hX x hx).2]
  exact h w (hw.sub hl) x (hX x hx).1
theorem old_cap {w : World} {l : Hp} {e : TypeId} {v : Value} {es : List Ent} (h : Lies w l) (hr : RowB e 3 v l es.length (vcells es)) : VecCap w v es := ⟨old_lies h hr, hr.capd⟩
theorem put_keys {L : List Su} (h : (L.map (·.1)).Nodup) (b : Bk) (v : List Ent) : ((putS L b v).map (·.1)).Nodup := by
  unfold putS
  rw [List.map_append]
  refine List.nodup_append.2 ⟨h.sublist (List.filter_sublist.map _), by simp, fun a ha c hc e => ?_⟩
  obtain ⟨x, hx, rfl⟩ := List.mem_map.1 ha
  have h2 := (List.mem_filter.1 hx).2
  rw [decide_eq_true_eq] at h2
  rw [List.map_singleton, List.mem_singleton] at hc
  exact h2 (e.trans hc)
theorem put_mem (L : List Su) (b : Bk) (v : List Ent) (k : Bk) : k ∈ (putS L b v).map (·.1) ↔ k = b ∨ k ∈ L.map (·.1) := by
  unfold putS
  rw [List.map_append, List.mem_append, List.map_singleton, List.mem_singleton]
  constructor
  · rintro (h | h)
    · obtain ⟨x, hx, rfl⟩ := List.mem_map.1 h
      exact .inr (List.mem_map.2 ⟨x, (List.mem_filter.1 hx).1, rfl⟩)
    · exact .inl h
  · rintro (h | h)
    · exact .inr h
    · by_cases e : k = b
      · exact .inr e
      · obtain ⟨x, hx, rfl⟩ := List.mem_map.1 h
        exact .inl (List.mem_map.2 ⟨x, List.mem_filter.2 ⟨hx, by rw [decide_eq_true_eq]; exact e⟩, rfl⟩)
theorem getS_no {L : List Su} {b : Bk} (h : b ∉ L.map (·.1)) : getS L b = [] := by
  unfold getS
  rw [List.find?_eq_none.2 fun x hx => by
    rw [decide_eq_true_eq]
    exact fun e => h (List.mem_map.2 ⟨x, hx, e⟩)]
structure Nx (L L' : List Su) (N : List (En Bk)) (c : Nat) (l : Hp) : Prop where
  mp : MpK N c
  vs : VecsL (getS L') N l
  out : ∀ b, b ∉ N.map (·.1) → getS L' b = getS L b
  ks : ∀ b ∈ N.map (·.1), b ∈ L'.map (·.1)
  nd : (L'.map (·.1)).Nodup
theorem Nx.start {L : List Su} (h : (L.map (·.1)).Nodup) : Nx L L [] 0 [] := ⟨MpK.new, (fun _ _ x hx => by cases hx), (fun _ _ => rfl), (fun b hb => by cases hb), h⟩
theorem Nx.put {L L' : List Su} {N N' : List (En Bk)} {c c' : Nat} {l lu : Hp} {b : Bk} {u : Value} {v : List Ent} (h : Nx L L' N c l) (h1 : MpK N' c') (h2 : ∀ y, y ∈ N'.map (·.1) ↔ y = b ∨ y ∈ N.map (·.1)) (h3 : ∀ y ∈ N', (y ∈ N ∧ y.1 ≠ b) ∨ (y.1 = b ∧ y.2.1 = u))
    (hu : ∀ w, Lies w lu → VecCap w u v) : Nx L (putS L' b v) N' c' (lu ++ l) := by
  refine ⟨h1, h.vs.up h3 (fun k hk => by rw [getS_put, if_neg hk]) (by rw [getS_put, if_pos rfl]; exact hu), fun k hk => ?_, fun k hk => ?_, put_keys h.nd b v⟩
  · rw [h2] at hk
    rw [getS_put, if_neg fun e => hk (.inl e)]
    exact h.out k fun e => hk (.inr e)
  · rw [put_mem]
    rcases (h2 k).1 hk with e | e
    · exact .inl e
    · exact .inr (h.ks k e)
end Lct
end Go.Proofs.YtkjjlppfomidbaaGreat
/- Ldb: Names that a map holds: handed over by an iterator, collected, sorted; conditions: at most 50,000 names. -/
namespace Go.Proofs.YtkjjlppfomidbaaGreat
namespace Lct
open Go Go.RowKit Sx
attribute [local irreducible] Go.Calls
abbrev boxM (b : Nat) : Obj := .cells #[.map (some b)] 187 (0, 0)
abbrev keyV (tb : Nat) : Value := .func (.func 161) #[] #[.pointer (some ⟨tb, 0, none⟩)]
set_option maxHeartbeats 8000000 in
theorem keys_ok (b : Nat) (w : World) : Calls Tryz.prog 135 #[.map (some b)] w fun e w' => ∃ r, e = .returned r ∧ NewD (fun r l => ∃ tb, r = keyV tb ∧ l = [(tb, boxM b)]) w w' r := by
  refine calls1 (args := [.map (some b)]) Tryz.func135 rfl rfl rfl rfl ?_
  repeat' (first | refine aw_seq ?_ | refine zz ?_ | refine zon fun _ => ?_ | refine zoa fun vr lr hr => ?_ | refine zoS (fun _ => ?_) (fun _ => ?_) | refine zqS (fun _ => ?_) (fun _ => ?_) | refine zwS (fun _ => ?_) (fun _ => ?_))
  exact fun w' hw => ⟨_, rfl, hw.toD rfl (l := [(_, boxM b)]) (R := []) (List.Perm.refl _) ⟨_, rfl, rfl⟩⟩
structure KAt (w : World) (tb b : Nat) (X : List (En Tx)) (c : Nat) : Prop where
  ct : w.cell? ⟨tb, 0, none⟩ = some (.map (some b))
  at_ : w.heap[b]? = some (mapO encN X c)
theorem KAt.below {w w' : World} {tb b : Nat} {X : List (En Tx)} {c : Nat} (h : KAt w tb b X c) (ht : tb < w.heap.size) (hb : Below w.heap.size w w') : KAt w' tb b X c := ⟨(hb.cell ht).trans h.ct, by rw [hb.block b (Array.getElem?_eq_some_iff.1 h.at_).1]; exact h.at_⟩
theorem kat_of {E : Env} {H : Hp} {w : World} {tb b : Nat} {X : List (En Tx)} {c : Nat} (hw : RepH E H w) (ht : Has H tb (boxM b)) (hq : Has H b (mapO encN X c)) : KAt w tb b X c := by
  have h2 : w.heap[tb]? = some (.cells (List.toArray [.map (some b)]) 187 (0, 0)) := (hw.has ht).2
  exact ⟨by rw [cell_of h2]; rfl, (hw.has hq).2⟩
theorem has_lt {E : Env} {H : Hp} {w : World} {b : Nat} {o : Obj} (hw : RepH E H w) (hm : Has H b o) : b < w.heap.size := (Array.getElem?_eq_some_iff.1 (hw.has hm).2).1
set_option maxHeartbeats 16000000 in
theorem keys_it {m : Nat} {w0 : World} {l tb b : Nat} {X : List (En Tx)} {c : Nat} {r : Loop} (hX : MpK X c) (hr : r.params.size = 1) (J : List Tx → Hp → Prop) (Jx : Hp → Prop)
    (hb : ∀ d H, J d H → Has H l (Lp r .ready none))
    (hF : ∀ d H, J d H → ∀ w, RepH ⟨w0.heap.size, w0, 0⟩ H w → KAt w tb b X c)
    (hR : ∀ d n H, n ∈ X.map (·.1) → d.length < X.length → J d H → RoundH Tryz.prog ⟨w0.heap.size, w0, 0⟩ l r [S n] H fun u H' => (u = .bool true ∧ J (d ++ [n]) H') ∨ (u = .bool false ∧ Jx H'))
    (H : Hp) (h0 : J [] H) :
    CallsH Tryz.prog ⟨w0.heap.size, w0, m⟩ 161 [.func (.yield l) #[] #[], .pointer (some ⟨tb, 0, none⟩)] H fun u H' => u = .tuple #[] ∧ ((∃ d, d.Perm (X.map (·.1)) ∧ J d H') ∨ Jx H') := by
  have cT := fun w (hw : RepH ⟨w0.heap.size, w0, Tryz.f161.ntmps⟩ H w) => (hF _ H h0 w hw.n0).ct
  have hmap : MapOf ⟨w0.heap.size, w0, Tryz.f161.ntmps⟩ H encN (some b) X c := fun w (hw : RepH ⟨w0.heap.size, w0, Tryz.f161.ntmps⟩ H w) => (hF _ H h0 w hw.n0).at_
  refine callsH0 Tryz.func161 rfl rfl rfl rfl ?_
  repeat' (first | refine aw_seq ?_ | ((first | apply ao_val | apply aq_val); exact wants_a; (first | exact ov_load_w1 rfl cT | exact ov_a); (exact rfl)) | refine zy ?_ | refine zon fun _ => ?_ | refine zoa fun vr lr hr => ?_ | (apply ao_new; exact wants_a; exact on_mrangeO rfl hmap; exact rfl; intro bi) | refine zoS (fun _ => ?_) (fun _ => ?_) | refine zqS (fun _ => ?_) (fun _ => ?_) | refine zwS (fun _ => ?_) (fun _ => ?_))
  refine aw_for (t0 := [(0, .func (.yield l) #[] #[]), (5, .pointer (some ⟨_, 0, none⟩))]) (fun k tm H => ∃ (bi : Nat) (seen : Array Nat) (done : List (En Tx)) (HJ : Hp), k = (X.filter fun y => !seen.contains y.2.2).length ∧ OutK X done seen ∧ J (done.map (·.1)) HJ ∧
    tm = [(0, .func (.yield l) #[] #[]), (5, .pointer (some ⟨bi, 0, none⟩))] ∧ H.Perm ((bi, .mapIter (some b) c seen c) :: HJ)) ⟨_, _, [], H, rfl, OutK.nil, h0, rfl, List.Perm.refl _⟩ (by repeat (first | exact sub_nil | refine sub_cons rfl ?_)) ?_
  clear cT hmap
  rintro _ tm H ⟨bi, seen, done, HJ, rfl, hout, hJ, rfl, hpm⟩
  refine aw_permH hpm ?_
  have hN : ∀ {w : World} {R : Hp} {o : Obj}, RepH ⟨w0.heap.size, w0, Tryz.f161.ntmps⟩ ((bi, o) :: R) w → RepH ⟨w0.heap.size, w0, 0⟩ R w := fun hw => (RepH.n0 hw).sub (List.sublist_cons_self _ _)
  have hmap : ∀ {o : Obj}, MapOf ⟨w0.heap.size, w0, Tryz.f161.ntmps⟩ ((bi, o) :: HJ) encN (some b) X c := fun w hw => (hF _ HJ hJ w (hN hw)).at_
  repeat' (first | refine aw_seq ?_ | refine zz ?_ | refine zon fun _ => ?_ | refine zoa fun vr lr hr => ?_ | (apply ao_mnextO; exact wants_a; exact rfl; exact cut_a; exact hmap; exact hX.bl; exact Nat.le_refl _; exact rfl; intro hall; rotate_left; intro y hy hns; rotate_left) | refine zoS (fun _ => ?_) (fun _ => ?_) | refine zqS (fun _ => ?_) (fun _ => ?_) | refine zwS (fun _ => ?_) (fun _ => ?_))
  · repeat' (first | refine aw_seq ?_ | refine zz ?_ | refine zon fun _ => ?_ | refine zoa fun vr lr hr => ?_ | refine zoS (fun _ => ?_) (fun _ => ?_) | refine zqS (fun _ => ?_) (fun _ => ?_) | refine zwS (fun _ => ?_) (fun _ => ?_))
    exact r0_normal ⟨HJ, List.sublist_cons_self _ _, .inl ⟨_, (hout.all hX.bd hall).map _, hJ⟩⟩
  · obtain ⟨yk, yv, yb⟩ := y
    simp only at hns
    have hln : (done.map (·.1)).length < X.length := by
      rw [List.length_map]
      have h1 := hout.snoc hy hns
      have h2 := nodup_le h1.nd h1.sub
      rw [List.length_append] at h2
      have h3 : (List.length [((yk, yv, yb) : En Tx)]) = 1 := rfl
      omega
    have hmem : yk ∈ X.map (·.1) := List.mem_map.2 ⟨_, hy, rfl⟩
    have hrd := hR _ yk HJ hmem hln hJ
    repeat' (first | refine aw_seq ?_ | ((first | apply ao_val | apply aq_val); exact wants_a; (first | exact ov_entryO rfl has_a hmap hX.bd hy | exact ov_a); (exact rfl)) | refine zy ?_ | refine zon fun _ => ?_ | refine zoa fun vr lr hr => ?_ | ((apply ao_yield (H' := HJ); exact wants_a; exact rfl; exact rfl; exact rfl; exact (List.perm_append_singleton _ _).symm; exact hb _ HJ hJ; exact hr.symm; exact hrd; intro u H2 hk)) | refine zoS (fun _ => ?_) (fun _ => ?_) | refine zqS (fun _ => ?_) (fun _ => ?_) | refine zwS (fun _ => ?_) (fun _ => ?_))
    rcases hk with ⟨rfl, hJ3⟩ | ⟨rfl, hx⟩
    · repeat' (first | refine aw_seq ?_ | refine zz ?_ | refine zon fun _ => ?_ | refine zoa fun vr lr hr => ?_ | refine zoS (fun _ => ?_) (fun _ => ?_) | refine zqS (fun _ => ?_) (fun _ => ?_) | refine zwS (fun _ => ?_) (fun _ => ?_))
      exact lq_normal' ⟨bi, _, done ++ [(yk, yv, yb)], H2, rfl, hout.snoc hy hns, by rw [List.map_append]; exact hJ3, rfl, List.perm_append_singleton _ _⟩ (left_less (fun y : En Tx => y.2.2) hy hns) (by repeat (first | exact sub_nil | refine sub_cons rfl ?_)) hsub_a
    · repeat' (first | refine aw_seq ?_ | refine zz ?_ | refine zon fun _ => ?_ | refine zoa fun vr lr hr => ?_ | refine zoS (fun _ => ?_) (fun _ => ?_) | refine zqS (fun _ => ?_) (fun _ => ?_) | refine zwS (fun _ => ?_) (fun _ => ?_))
      exact r0_ret ⟨H2, List.sublist_append_left _ _, .inr hx⟩
def DPerm (ks : List Tx) (v : Value) (l : Hp) : Prop := ∃ d : List Tx, d.Perm ks ∧ RowB 9 1 v l d.length (d.flatMap Trt.cells1)
set_option maxHeartbeats 16000000 in
theorem kseq_ok {w : World} {tb b : Nat} {X : List (En Tx)} {c : Nat} (h : KAt w tb b X c) (hXc : MpK X c) (hX : X.length ≤ 50000) (ht : tb < w.heap.size) :
    Calls Tryz.prog 152 #[.slice none 0 0, keyV tb] w fun e w' => ∃ r, e = .returned r ∧ NewD (DPerm (X.map (·.1))) w w' r := by
  have hF := fun w' (hb : Below w.heap.size w w') => h.below ht hb
  refine calls1 (args := [.slice none 0 0, keyV tb]) Tryz.func152 rfl rfl rfl rfl ?_
  repeat' (first | refine aw_seq ?_ | refine zz ?_ | refine zon fun _ => ?_ | refine zoa fun vr lr hr => ?_ | refine zoS (fun _ => ?_) (fun _ => ?_) | refine zqS (fun _ => ?_) (fun _ => ?_) | refine zwS (fun _ => ?_) (fun _ => ?_))
  rename_i b2
  refine aw_range (gf := 161) (bs := []) (lb := [.pointer (some ⟨tb, 0, none⟩)]) rfl fun l r e1 e2 e3 hts => ?_
  refine CallsH.mono (keys_it hXc (by rw [e1]; rfl)
    (fun d H => d.length ≤ 50000 ∧ ∃ v5 l5, RowB 9 1 v5 l5 d.length (d.flatMap Trt.cells1) ∧ H.Perm ((l, Lp r .ready none) :: (b2, .cells #[v5] 39 (0, 0)) :: (l5 ++ [])))
    (fun _ => False) ?_ (fun d H _ w' hw => hF w' hw.below) ?_ _ ?_) ?_
  · rintro d H ⟨-, v5, l5, -, hp⟩
    exact has_perm hp has_a
  · rintro d k H - hdl ⟨hpl, v5, l5, r5, hp⟩
    refine RoundH.perm hp ?_
    obtain ⟨av, cv, hv5⟩ := r5.len
    subst hv5
    refine roundH_of (E := ⟨w.heap.size, w, Tryz.f152.ntmps⟩) (ps := [7]) e1 rfl (by rw [e2]; rfl) (by rw [e3]; rfl) hts ?_
    rw [e2, e3]
    simp only [putTm]
    repeat' (first | refine aw_seq ?_ | refine zz ?_ | refine zon fun _ => ?_ | refine zoa fun vr lr hr => ?_ | refine zoS (fun _ => ?_) (fun _ => ?_) | refine zqS (fun _ => ?_) (fun _ => ?_) | refine zwS (fun _ => ?_) (fun _ => ?_))
    refine asg_done has_a upd_a ?_
    repeat' (first | refine aw_seq ?_ | refine zz ?_ | refine zon fun _ => ?_ | refine zoa fun vr lr hr => ?_ | refine zoS (fun _ => ?_) (fun _ => ?_) | refine zqS (fun _ => ?_) (fun _ => ?_) | refine zwS (fun _ => ?_) (fun _ => ?_))
    obtain ⟨xv, yv, hxv⟩ := hr.len
    subst hxv
    repeat' (first | refine aw_seq ?_ | refine zz ?_ | refine zon fun _ => ?_ | refine zoa fun vr lr hr => ?_ | refine zoS (fun _ => ?_) (fun _ => ?_) | refine zqS (fun _ => ?_) (fun _ => ?_) | refine zwS (fun _ => ?_) (fun _ => ?_))
    exact rq_normal has_a upd_a (H2 := lr ++ [_, _]) hsub_a (Or.inl ⟨rfl, by rw [List.length_append]; show d.length + 1 ≤ 50000; omega, _, lr, Trt.row1 hr, perm_tail lr [_, _]⟩)
  · exact ⟨Nat.zero_le _, _, [], RowB.nil, List.Perm.refl _⟩
  · rintro v H' ⟨-, ⟨d, hd, -, v5, l5, r5, hp⟩ | hf⟩
    · refine ⟨.ready, none, _, by simp, hp, ?_⟩
      obtain ⟨av, cv, hv5⟩ := r5.len
      subst hv5
      unfold jumpQ
      repeat' (first | refine aw_seq ?_ | refine zz ?_ | refine zon fun _ => ?_ | refine zoa fun vr lr hr => ?_ | refine zoS (fun _ => ?_) (fun _ => ?_) | refine zqS (fun _ => ?_) (fun _ => ?_) | refine zwS (fun _ => ?_) (fun _ => ?_))
      exact fun w' hw => ⟨_, rfl, hw.toD rfl (l := l5) (R := [_]) (by simpa [Cut] using (List.perm_append_singleton _ _).symm) ⟨d, hd, r5⟩⟩
    · exact hf.elim
set_option maxHeartbeats 16000000 in
theorem kcoll_ok {w : World} {tb b : Nat} {X : List (En Tx)} {c : Nat} (h : KAt w tb b X c) (hXc : MpK X c) (hX : X.length ≤ 50000) (ht : tb < w.heap.size) :
    Calls Tryz.prog 121 #[keyV tb] w fun e w' => ∃ r, e = .returned r ∧ NewD (DPerm (X.map (·.1))) w w' r := by
  have hF := fun w' (hb : Below w.heap.size w w') => kseq_ok (h.below ht hb) hXc hX (Nat.lt_of_lt_of_le ht hb.size)
  refine calls1 (args := [keyV tb]) Tryz.func121 rfl rfl rfl rfl ?_
  repeat' (first | refine aw_seq ?_ | refine zz ?_ | refine zon fun _ => ?_ | refine zoa fun vr lr hr => ?_ | (apply ao_callD; exact wants_a; (exact oc_func rfl); (exact rfl); (first | exact fun w hw => hF w hw.below); intro vr lr hr) | refine zoS (fun _ => ?_) (fun _ => ?_) | refine zqS (fun _ => ?_) (fun _ => ?_) | refine zwS (fun _ => ?_) (fun _ => ?_))
  exact fun w' hw => ⟨_, rfl, hw.toD rfl (l := lr) (R := []) (List.Perm.refl _) hr⟩
set_option maxHeartbeats 16000000 in
theorem ksort_ok {w : World} {tb b : Nat} {X : List (En Tx)} {c : Nat} {ms : List Tx} (h : KAt w tb b X c) (hXc : MpK X c) (hX : X.length ≤ 50000) (hr : Mkt.RiseN ms) (his : ∀ s, s ∈ X.map (·.1) ↔ s ∈ ms) (ht : tb < w.heap.size) :
    Calls Tryz.prog 134 #[keyV tb] w fun e w' => ∃ r, e = .returned r ∧ NewRow 9 1 w w' r ms.length (ms.flatMap Trt.cells1) := by
  have hF := fun w' (hb : Below w.heap.size w w') => kcoll_ok (h.below ht hb) hXc hX (Nat.lt_of_lt_of_le ht hb.size)
  have hper : (X.map (·.1)).Perm ms := perm_mem hXc.kd (Mkt.rise_nodup hr) his
  refine calls1 (args := [keyV tb]) Tryz.func134 rfl rfl rfl rfl ?_
  repeat' (first | refine aw_seq ?_ | refine zz ?_ | refine zon fun _ => ?_ | refine zoa fun vr lr hr => ?_ | ((apply ao_callD; exact wants_a; (exact oc_func rfl); (exact rfl); (intro w hw; exact hF w hw.below); rintro v5 l5 ⟨d, hd, r5⟩)) | refine zoS (fun _ => ?_) (fun _ => ?_) | refine zqS (fun _ => ?_) (fun _ => ?_) | refine zwS (fun _ => ?_) (fun _ => ?_))
  have hdl : d.length ≤ 100000 := by
    have := hd.length_eq
    rw [List.length_map] at this
    omega
  have hso := fun R => Trt.sortS_ok (E := ⟨w.heap.size, w, Tryz.f134.ntmps⟩) d r5 hdl R
  rw [Trt.srt_eq (hd.trans hper) hr] at hso
  repeat' (first | refine aw_seq ?_ | refine zz ?_ | refine zon fun _ => ?_ | refine zoa fun vr lr hr => ?_ | ((apply ao_callH (l := l5); exact wants_a; (exact oc_func rfl); (exact rfl); (exact cut_a); (exact hso _); rintro _ _ ⟨rfl, l6, rfl, r6⟩)) | refine zoS (fun _ => ?_) (fun _ => ?_) | refine zqS (fun _ => ?_) (fun _ => ?_) | refine zwS (fun _ => ?_) (fun _ => ?_))
  exact fun w' hw => ⟨_, rfl, hw.below, _, r6, fun b o hm => hw.at_ b o (List.mem_append_left _ hm)⟩
end Lct
end Go.Proofs.YtkjjlppfomidbaaGreat
/- Ldc: What is done to a sum: the closure that adds or takes; what an object does to all the sums that it counts in; conditions: little of all. -/
namespace Go.Proofs.YtkjjlppfomidbaaGreat
namespace Lct
open Go Go.RowKit Sx Vec Ojt Scp
attribute [local irreducible] Go.Calls
abbrev fC (less : Bool) : FuncId := if less then 104 else 66
abbrev fCV (less : Bool) : Value := .func (.func (fC less)) #[] #[]
abbrev deedV (nb lb cb : Nat) : Value := .func (.func 130) #[] #[.pointer (some ⟨nb, 0, none⟩), .pointer (some ⟨lb, 0, none⟩), .pointer (some ⟨cb, 0, none⟩)]
structure DdW (w : World) (less : Bool) (nb lb cb g mb mn : Nat) (X : List (En Bk)) (c : Nat) (lX lN : Hp) : Prop where
  n : w.cell? ⟨nb, 0, none⟩ = some (.map (some mn))
  l : w.cell? ⟨lb, 0, none⟩ = some (.pointer (some ⟨g, 0, none⟩))
  k : w.cell? ⟨cb, 0, none⟩ = some (fCV less)
  s : w.cell? ⟨g, 1, none⟩ = some (.map (some mb))
  x : w.heap[mb]? = some (mapO encB X c)
  lx : Lies w lX
  ln : Lies w lN
theorem pcomb_ok (less : Bool) (v u : Value) (es fs : List Ent) (hw1 : wfV es) (hw2 : wfV fs) (hl1 : es.length ≤ 30000) (hl2 : fs.length ≤ 30000) (w : World) (hv : VecCap w v es) (hu : VecCap w u fs) :
    Calls Tryz.prog (fC less) #[v, u] w fun e w' => ∃ r, e = .returned (.tuple #[r, I (combV less es fs).2]) ∧ NewRow 96 3 w w' r (combV less es fs).1.length (vcells (combV less es fs).1) := by
  cases less
  · exact padd_ok v u es fs hw1 hw2 hl1 hl2 w hv hu
  · exact psub_ok v u es fs hw1 hw2 hl1 hl2 w hv hu
instance (less : Bool) : FnB Tryz.prog (fC less) := by
  cases less
  · exact inferInstanceAs (FnB Tryz.prog 66)
  · exact inferInstanceAs (FnB Tryz.prog 104)
def DdK (L L2 : List Su) (mn : Nat) (lN : Hp) (x : Int) (R : Hp) (u : Value) (H' : Hp) : Prop :=
  u = I x ∧ (x ≠ 0 ∧ H' = R ∨ x = 0 ∧ ∃ N' cn' lu, H' = (mn, mapO encB N' cn') :: (lu ++ R) ∧ Nx L L2 N' cn' (lu ++ lN))
section
variable {w0 : World} {nb lb cb g mb mn : Nat} {L L' : List Su} {X : List (En Bk)} {c : Nat} {N : List (En Bk)} {cn : Nat} {lX lN : Hp}
set_option maxHeartbeats 16000000 in
theorem deed_ok {m : Nat} {less : Bool} (hX : MpK X c) (hXv : VecsL (getS L) X lX) (hXk : ∀ b, b ∉ X.map (·.1) → getS L b = []) (hN : Nx L L' N cn lN) (s : Tx) (i : Int) {vc : Value} {es : List Ent} (w5 : wfV (getS L' (s, i)) ∧ (getS L' (s, i)).length ≤ 17000) (cw : wfV es) (cl : es.length ≤ 17) (R : Hp)
    (hR : ∀ n w, RepH ⟨w0.heap.size, w0, n⟩ R w → DdW w less nb lb cb g mb mn X c lX lN) (hc : ∀ n w, RepH ⟨w0.heap.size, w0, n⟩ R w → VecCap w vc es) :
    CallsH Tryz.prog ⟨w0.heap.size, w0, m⟩ 130 [.agg #[S s, I i], vc, .pointer (some ⟨nb, 0, none⟩), .pointer (some ⟨lb, 0, none⟩), .pointer (some ⟨cb, 0, none⟩)] ((mn, mapO encB N cn) :: R)
      (DdK L (putS L' (s, i) (combV less (getS L' (s, i)) es).1) mn lN (combV less (getS L' (s, i)) es).2 R) := by
  refine callsH1p (args := [.agg #[S s, I i], vc, .pointer (some ⟨nb, 0, none⟩), .pointer (some ⟨lb, 0, none⟩), .pointer (some ⟨cb, 0, none⟩)]) Tryz.func130 rfl rfl rfl rfl ?_
  have cN := fun {H : Hp} (hs : R.Sublist H) w (hw : RepH ⟨w0.heap.size, w0, Tryz.f130.ntmps⟩ H w) => (hR _ w (hw.sub hs)).n
  have cL := fun {H : Hp} (hs : R.Sublist H) w (hw : RepH ⟨w0.heap.size, w0, Tryz.f130.ntmps⟩ H w) => (hR _ w (hw.sub hs)).l
  have cK := fun {H : Hp} (hs : R.Sublist H) w (hw : RepH ⟨w0.heap.size, w0, Tryz.f130.ntmps⟩ H w) => (hR _ w (hw.sub hs)).k
  have cS := fun {H : Hp} (hs : R.Sublist H) w (hw : RepH ⟨w0.heap.size, w0, Tryz.f130.ntmps⟩ H w) => (hR _ w (hw.sub hs)).s
  have cM : ∀ {H : Hp} (_ : R.Sublist H), MapAt ⟨w0.heap.size, w0, Tryz.f130.ntmps⟩ H encB mb X c := fun hs w hw => (hR _ w (hw.sub hs)).x
  obtain ⟨n1, n2⟩ := hN.mp.fnd (s, i)
  obtain ⟨x1, x2⟩ := hX.fnd (s, i)
  obtain ⟨was, hwas, hgo⟩ : ∃ was, (∀ w, DdW w less nb lb cb g mb mn X c lX lN → VecCap w was (getS L' (s, i))) ∧ ((s, i) ∈ N.map (·.1) ∧ valB N (s, i) = was ∨ (s, i) ∉ N.map (·.1) ∧ valB X (s, i) = was) := by
    by_cases hk : (s, i) ∈ N.map (·.1)
    · refine ⟨valB N (s, i), fun w h => ?_, .inl ⟨hk, rfl⟩⟩
      have := n1 hN.vs h.ln
      rwa [if_pos hk] at this
    · refine ⟨valB X (s, i), fun w h => ?_, .inr ⟨hk, rfl⟩⟩
      have := x1 hXv h.lx
      rw [hN.out _ hk]
      by_cases hx : (s, i) ∈ X.map (·.1)
      · rwa [if_pos hx] at this
      · rw [if_neg hx] at this
        rwa [hXk _ hx]
  have hcm := fun {H : Hp} (hs : R.Sublist H) w (hw : RepH ⟨w0.heap.size, w0, Tryz.f130.ntmps⟩ H w) => pcomb_ok less was vc (getS L' (s, i)) es w5.1 cw (by omega) (by omega) w (hwas w (hR _ w (hw.sub hs))) (hc _ w (hw.sub hs))
  generalize combV less (getS L' (s, i)) es = C at hcm ⊢
  obtain ⟨o, x⟩ := C
  simp only at hcm ⊢
  have fin : ∀ {u : Value} {lr : Hp}, RowB 96 3 u lr o.length (vcells o) → ∀ {N' : List (En Bk)} {cn' : Nat}, MpK N' cn' → (∀ y, y ∈ N'.map (·.1) ↔ y = (s, i) ∨ y ∈ N.map (·.1)) → (∀ y ∈ N', (y ∈ N ∧ y.1 ≠ (s, i)) ∨ (y.1 = (s, i) ∧ y.2.1 = u)) → Nx L (putS L' (s, i) o) N' cn' (lr ++ lN) :=
    fun hr _ _ h1 h2 h3 => hN.put h1 h2 h3 fun w hl => old_cap hl hr
  rcases hgo with ⟨hk, hv⟩ | ⟨hk, hv⟩
  · rw [decide_eq_true hk, hv] at n2
    by_cases hx : x = 0
    · subst hx
      repeat' (first | refine aw_seq ?_ | ((first | apply ao_val | apply aq_val); exact wants_a; (first | exact ov_load_w1 rfl (cN hsub_a) | exact ov_load_w1 rfl (cL hsub_a) | exact ov_load_w1 rfl (cK hsub_a) | exact n2 true rfl rfl (mapAt_has has_a) | exact ov_a); (exact rfl)) | refine zy ?_ | refine zon fun _ => ?_ | refine zoa fun vr lr hr => ?_ | ((apply ao_callr2; exact wants_a; (exact oc_clos (cs := []) rfl rfl); exact rfl; (exact fun w hw => hcm hsub_a w hw); intro vr lr hr)) | refine zoS (fun _ => ?_) (fun _ => ?_) | refine zqS (fun _ => ?_) (fun _ => ?_) | refine zwS (fun _ => ?_) (fun _ => ?_))
      obtain ⟨N', cn', h1, h2, h3, hup⟩ := hN.mp.upd (s, i) vr (enc := encB) (mt := 78) (kt := 52) (et := 48)
      repeat' (first | refine aw_seq ?_ | refine zz ?_ | refine zon fun _ => ?_ | refine zoa fun vr lr hr => ?_ | ((apply ao_store; exact wants_a; (exact hup rfl rfl rfl (mapAt_has has_a)); exact upd_a)) | refine zoS (fun _ => ?_) (fun _ => ?_) | refine zqS (fun _ => ?_) (fun _ => ?_) | refine zwS (fun _ => ?_) (fun _ => ?_))
      exact ⟨_, (mn, mapO encB N' cn') :: (lr ++ R), hsub_a, List.perm_middle, rfl, .inr ⟨rfl, N', cn', lr, rfl, fin hr h1 h2 h3⟩⟩
    · have b1 : (x != 0) = true := bne_iff_ne.2 hx
      repeat' (first | refine aw_seq ?_ | ((first | apply ao_val | apply aq_val); exact wants_a; (first | exact ov_load_w1 rfl (cN hsub_a) | exact ov_load_w1 rfl (cL hsub_a) | exact ov_load_w1 rfl (cK hsub_a) | exact n2 true rfl rfl (mapAt_has has_a) | exact ov_a); (exact rfl)) | refine zy ?_ | refine zon fun _ => ?_ | refine zoa fun vr lr hr => ?_ | ((apply ao_callr2; exact wants_a; (exact oc_clos (cs := []) rfl rfl); exact rfl; (exact fun w hw => hcm hsub_a w hw); intro vr lr hr)) | refine zoS (fun _ => ?_) (fun _ => ?_) | refine zqS (fun _ => ?_) (fun _ => ?_) | refine zwS (fun _ => ?_) (fun _ => ?_))
      exact ⟨_, R, hsub_a, List.Perm.refl _, rfl, .inl ⟨hx, rfl⟩⟩
  · rw [decide_eq_false hk] at n2
    rw [hv] at x2
    by_cases hx : x = 0
    · subst hx
      repeat' (first | refine aw_seq ?_ | ((first | apply ao_val | apply aq_val); exact wants_a; (first | exact ov_load_w1 rfl (cN hsub_a) | exact ov_load_w1 rfl (cL hsub_a) | exact ov_load_w1 rfl (cK hsub_a) | exact ov_load_w1 rfl (cS hsub_a) | exact ov_nilcheck rfl | exact n2 true rfl rfl (mapAt_has has_a) | exact x2 false rfl rfl (cM hsub_a) | exact ov_a); (exact rfl)) | refine zy ?_ | refine zon fun _ => ?_ | refine zoa fun vr lr hr => ?_ | ((apply ao_callr2; exact wants_a; (exact oc_clos (cs := []) rfl rfl); exact rfl; (exact fun w hw => hcm hsub_a w hw); intro vr lr hr)) | refine zoS (fun _ => ?_) (fun _ => ?_) | refine zqS (fun _ => ?_) (fun _ => ?_) | refine zwS (fun _ => ?_) (fun _ => ?_))
      obtain ⟨N', cn', h1, h2, h3, hup⟩ := hN.mp.upd (s, i) vr (enc := encB) (mt := 78) (kt := 52) (et := 48)
      repeat' (first | refine aw_seq ?_ | refine zz ?_ | refine zon fun _ => ?_ | refine zoa fun vr lr hr => ?_ | ((apply ao_store; exact wants_a; (exact hup rfl rfl rfl (mapAt_has has_a)); exact upd_a)) | refine zoS (fun _ => ?_) (fun _ => ?_) | refine zqS (fun _ => ?_) (fun _ => ?_) | refine zwS (fun _ => ?_) (fun _ => ?_))
      exact ⟨_, (mn, mapO encB N' cn') :: (lr ++ R), hsub_a, List.perm_middle, rfl, .inr ⟨rfl, N', cn', lr, rfl, fin hr h1 h2 h3⟩⟩
    · have b1 : (x != 0) = true := bne_iff_ne.2 hx
      repeat' (first | refine aw_seq ?_ | ((first | apply ao_val | apply aq_val); exact wants_a; (first | exact ov_load_w1 rfl (cN hsub_a) | exact ov_load_w1 rfl (cL hsub_a) | exact ov_load_w1 rfl (cK hsub_a) | exact ov_load_w1 rfl (cS hsub_a) | exact ov_nilcheck rfl | exact n2 true rfl rfl (mapAt_has has_a) | exact x2 false rfl rfl (cM hsub_a) | exact ov_a); (exact rfl)) | refine zy ?_ | refine zon fun _ => ?_ | refine zoa fun vr lr hr => ?_ | ((apply ao_callr2; exact wants_a; (exact oc_clos (cs := []) rfl rfl); exact rfl; (exact fun w hw => hcm hsub_a w hw); intro vr lr hr)) | refine zoS (fun _ => ?_) (fun _ => ?_) | refine zqS (fun _ => ?_) (fun _ => ?_) | refine zwS (fun _ => ?_) (fun _ => ?_))
      exact ⟨_, R, hsub_a, List.Perm.refl _, rfl, .inl ⟨hx, rfl⟩⟩
end
end Lct
end Go.Proofs.YtkjjlppfomidbaaGreat
/- Ldd: What an object does to all the sums that it counts in; what a delta does; conditions: little of all. -/
namespace Go.Proofs.YtkjjlppfomidbaaGreat
namespace Lct
open Go Go.RowKit Sx Vec Ojt Scp
attribute [local irreducible] Go.Calls
section
variable {w0 : World} {nb lb cb g mb mn : Nat} {L L' : List Su} {X : List (En Bk)} {c : Nat} {N : List (En Bk)} {cn : Nat} {lX lN : Hp}
theorem DdW.more {w : World} {less : Bool} {l5 : Hp} (h : DdW w less nb lb cb g mb mn X c lX lN) (hl : Lies w l5) : DdW w less nb lb cb g mb mn X c lX (l5 ++ lN) :=
  { h with ln := fun b o hm => (List.mem_append.1 hm).elim (hl b o) (h.ln b o) }
theorem perm_mid2 {l : Hp} {a b : Nat × Obj} {R : Hp} : (l ++ a :: b :: R).Perm (b :: (l ++ a :: R)) := by simpa using (List.perm_middle (l₁ := l ++ [a]) (a := b) (l₂ := R))
set_option maxHeartbeats 32000000 in
theorem count_ok {m : Nat} {less : Bool} (hX : MpK X c) (hXv : VecsL (getS L) X lX) (hXk : ∀ b, b ∉ X.map (·.1) → getS L b = []) (hN : Nx L L' N cn lN) {vs vo : Value} {ss : List Sc} {o : Ob} (ho : wfO o) (hws : ∀ s ∈ ss, wfP s.2) (hss : ss.length ≤ 8) (hsm : ∀ b, wfV (getS L' b) ∧ (getS L' b).length ≤ 17000) (R : Hp)
    (hR : ∀ n w, RepH ⟨w0.heap.size, w0, n⟩ R w → DdW w less nb lb cb g mb mn X c lX lN) (hG : ∀ n w, RepH ⟨w0.heap.size, w0, n⟩ R w → w.cell? ⟨g, 0, none⟩ = some vs ∧ ScsAt w vs ss ∧ ResAt w vo o.rs) :
    CallsH Tryz.prog ⟨w0.heap.size, w0, m⟩ 132 [.pointer (some ⟨g, 0, none⟩), OV o vo, deedV nb lb cb] ((mn, mapO encB N cn) :: R) (DdK L (moveS (scT ss) L' o less).1 mn lN (moveS (scT ss) L' o less).2 R) := by
  obtain ⟨cw, cl⟩ := charge_wf ho
  have hch := fun {H : Hp} (hs : R.Sublist H) w (hw : RepH ⟨w0.heap.size, w0, Tryz.f132.ntmps⟩ H w) => Ojt.charge_ok o vo ho w (hG _ w (hw.sub hs)).2.2
  obtain ⟨k1, s1, n1, ver, c1, tm, bs, rs⟩ := o
  refine callsH1p (args := [.pointer (some ⟨g, 0, none⟩), Ojt.OC k1 s1 n1 ver c1 tm bs vo, deedV nb lb cb]) Tryz.func132 rfl rfl rfl rfl ?_
  refine aw_fact (φ := ∃ aS cS, vs = .slice aS ss.length cS) (fun w hw => ?_) ?_
  · obtain ⟨a, cp, h1, -⟩ := OldRow.cells cellsSc_len (hG _ w (hw.sub hsub_a)).2.1.1
    exact ⟨a, cp, h1⟩
  rintro ⟨aS, cS, rfl⟩
  have cG := fun {H : Hp} (hs : R.Sublist H) w (hw : RepH ⟨w0.heap.size, w0, Tryz.f132.ntmps⟩ H w) => (hG _ w (hw.sub hs)).1
  obtain ⟨M, hM⟩ : ∃ M, moveS (scT ss) L' ⟨k1, s1, n1, ver, c1, tm, bs, rs⟩ less = M := ⟨_, rfl⟩
  rw [hM]
  unfold moveS at hM
  generalize chargeO ⟨k1, s1, n1, ver, c1, tm, bs, rs⟩ = C at hch cw cl hM
  obtain ⟨cc, ce⟩ := C
  simp only at hch cw cl hM
  by_cases h0 : ce ≠ 0
  · rw [if_pos h0] at hM
    subst hM
    have b0 : (ce != 0) = true := bne_iff_ne.2 h0
    repeat' (first | refine aw_seq ?_ | refine zz ?_ | refine zon fun _ => ?_ | refine zoa fun vr lr hr => ?_ | (apply ao_callr2; exact wants_a; (exact oc_func rfl); (exact rfl); (first | exact fun w hw => hch hsub_a w hw); intro vr lr hr) | refine zoS (fun _ => ?_) (fun _ => ?_) | refine zqS (fun _ => ?_) (fun _ => ?_) | refine zwS (fun _ => ?_) (fun _ => ?_))
    exact ⟨_, R, hsub_a, List.Perm.refl _, rfl, .inl ⟨h0, rfl⟩⟩
  rw [if_neg h0] at hM
  have h0 : ce = 0 := Classical.not_not.1 h0
  subst h0
  generalize hGd : moveG ⟨k1, s1, n1, ver, c1, tm, bs, rs⟩ cc less 0 (scT ss) L' = G at hM
  repeat' (first | refine aw_seq ?_ | ((first | apply ao_val | apply aq_val); exact wants_a; (first | exact ov_load_w1 rfl (cG hsub_a) | exact ov_nilcheck rfl | exact ov_a); (exact rfl)) | refine zy ?_ | refine zon fun _ => ?_ | refine zoa fun vr lr hr => ?_ | (apply ao_callr2; exact wants_a; (exact oc_func rfl); (exact rfl); (first | exact fun w hw => hch hsub_a w hw); intro vr lr hr) | refine zoS (fun _ => ?_) (fun _ => ?_) | refine zqS (fun _ => ?_) (fun _ => ?_) | refine zwS (fun _ => ?_) (fun _ => ?_))
  revert vr lr hr
  intro vc lc rc
  rename_i b4
  refine aw_for (t0 := [(2, deedV nb lb cb), (4, .pointer (some ⟨b4, 0, none⟩)), (7, vc), (23, .slice aS ss.length cS), (24, I ss.length), (25, I (0 : Nat))]) (fun q t H => ∃ (i : Nat) (L5 : List Su) (N5 : List (En Bk)) (c5 : Nat) (l5 : Hp), q = ss.length - i ∧ i ≤ ss.length ∧ moveG ⟨k1, s1, n1, ver, c1, tm, bs, rs⟩ cc less i (scT (ss.drop i)) L5 = G ∧ (∀ j : Nat, i ≤ j → getS L5 (s1, (j : Int)) = getS L' (s1, (j : Int))) ∧ Nx L L5 N5 c5 (l5 ++ lN) ∧
      t = [(2, deedV nb lb cb), (4, .pointer (some ⟨b4, 0, none⟩)), (7, vc), (23, .slice aS ss.length cS), (24, I ss.length), (25, I i)] ∧ H.Perm ((mn, mapO encB N5 c5) :: (l5 ++ (lc ++ (b4, .cells #[S k1, S s1, S n1, I ver, S c1, .bool tm, .bool bs, vo] 45 (0, 0)) :: R))))
    ⟨0, L', N, cn, [], rfl, by omega, hGd, fun _ _ => rfl, hN, rfl, perm_mid2⟩ (by repeat (first | exact sub_nil | refine sub_cons rfl ?_)) ?_
  clear hch hN hGd
  rintro q t H ⟨i, L5, N5, c5, l5, rfl, hi, hG5, hsame, hN5, rfl, hpm⟩
  refine aw_permH hpm ?_
  clear hpm
  by_cases hlt : i < ss.length
  · obtain ⟨⟨u, sc⟩, he⟩ := getP hlt
    have hms := List.mem_of_getElem? he
    refine aw_fact (φ := ∃ g1 o1, aS = some ⟨g1, o1, none⟩) (fun w hw => ?_) ?_
    · obtain ⟨a2, cp2, h1, h2⟩ := OldRow.cells cellsSc_len (hG _ w (hw.sub hsub_a)).2.1.1
      cases h1
      obtain ⟨g1, o1, h3, -, -⟩ := h2 i _ (i : Int) he rfl
      exact ⟨g1, o1, h3⟩
    rintro ⟨g1, o1, rfl⟩
    have cU : ∀ {H : Hp} (_ : R.Sublist H) w, RepH ⟨w0.heap.size, w0, Tryz.f132.ntmps⟩ H w → w.cell? ⟨g1, o1 + (i : Int).toNat * 1, none⟩ = some u := fun hs w hw => by
      obtain ⟨a2, cp2, h1, h2⟩ := OldRow.cells cellsSc_len (hG _ w (hw.sub hs)).2.1.1
      cases h1
      obtain ⟨g2, o2, h3, -, h4⟩ := h2 i _ (i : Int) he rfl
      cases h3
      exact h4 0 _ rfl
    have hmt := fun {H : Hp} (hs : R.Sublist H) w (hw : RepH ⟨w0.heap.size, w0, Tryz.f132.ntmps⟩ H w) => Scp.pmatch_ok u sc k1 s1 n1 ver c1 tm bs vo (hws _ hms) w ((hG _ w (hw.sub hs)).2.1.2 _ hms)
    have hdr : ss.drop i = (u, sc) :: ss.drop (i + 1) := by
      have := List.getElem?_eq_some_iff.1 he
      rw [List.drop_eq_getElem_cons hlt, this.2]
    rw [hdr] at hG5
    unfold scT at hG5
    rw [List.map_cons] at hG5
    unfold moveG at hG5
    simp only at hG5
    cases hmv : matchS (trms sc) c1 tm bs
    · rw [hmv] at hmt hG5
      rw [if_pos rfl] at hG5
      repeat' (first | refine aw_seq ?_ | ((first | apply ao_val | apply aq_val); exact wants_a; (first | exact ov_load_w1 rfl (cU hsub_a) | exact ov_a); (exact rfl)) | refine zy ?_ | refine zon fun _ => ?_ | refine zoa fun vr lr hr => ?_ | ((first | apply ao_call | apply aq_call); exact wants_a; (first | exact oc_func rfl | exact oc_clos rfl rfl | exact oc_bnd rfl rfl); (exact rfl); (first | exact fun w hw => hmt hsub_a w hw)) | refine zoS (fun _ => ?_) (fun _ => ?_) | refine zqS (fun _ => ?_) (fun _ => ?_) | refine zwS (fun _ => ?_) (fun _ => ?_))
      exact lq_normal' ⟨i + 1, L5, N5, c5, l5, rfl, by omega, hG5, fun j hj => hsame j (by omega), hN5, rfl, List.Perm.refl _⟩ (by omega) (by repeat (first | exact sub_nil | refine sub_cons rfl ?_)) hsub_a
    · rw [hmv] at hmt hG5
      rw [if_neg (by decide)] at hG5
      have w5 := hsm (s1, (i : Int))
      rw [← hsame i (Nat.le_refl _)] at w5
      have hdeed := deed_ok (m := Tryz.f132.ntmps) (less := less) hX hXv hXk hN5 s1 (i : Int) (vc := vc) (es := cc) w5 cw cl (l5 ++ (lc ++ (b4, .cells #[S k1, S s1, S n1, I ver, S c1, .bool tm, .bool bs, vo] 45 (0, 0)) :: R))
        (fun n w hw => (hR n w (hw.sub hsub_a)).more fun b o hm => (hw.at_ b o (List.mem_append_left _ hm)).2)
        (fun n w hw => old_cap (fun b o hm => (hw.at_ b o (List.mem_append_right _ (List.mem_append_left _ hm))).2) rc)
      generalize hXe : combV less (getS L5 (s1, (i : Int))) cc = Xe at hG5 hdeed
      obtain ⟨x, xe⟩ := Xe
      simp only at hG5 hdeed
      by_cases hxe : xe ≠ 0
      · rw [if_pos hxe] at hG5
        subst hG5
        rw [if_pos hxe] at hM
        subst hM
        have b1 : (xe != 0) = true := bne_iff_ne.2 hxe
        repeat' (first | refine aw_seq ?_ | ((first | apply ao_val | apply aq_val); exact wants_a; (first | exact ov_load_w1 rfl (cU hsub_a) | exact ov_a); (exact rfl)) | refine zy ?_ | refine zon fun _ => ?_ | refine zoa fun vr lr hr => ?_ | ((first | apply ao_call | apply aq_call); exact wants_a; (first | exact oc_func rfl | exact oc_clos rfl rfl | exact oc_bnd rfl rfl); (exact rfl); (first | exact fun w hw => hmt hsub_a w hw)) | ((apply ao_callH (l := [(mn, mapO encB N5 c5)]); exact wants_a; (exact oc_clos rfl rfl); exact rfl; exact cut_a; exact hdeed; rintro _ _ ⟨rfl, ⟨-, rfl⟩ | ⟨h2, -⟩⟩; rotate_left; exact absurd h2 hxe)) | refine zoS (fun _ => ?_) (fun _ => ?_) | refine zqS (fun _ => ?_) (fun _ => ?_) | refine zwS (fun _ => ?_) (fun _ => ?_))
        exact ⟨_, R, hsub_a, List.Perm.refl _, rfl, .inl ⟨hxe, rfl⟩⟩
      · rw [if_neg hxe] at hG5
        have hxe : xe = 0 := Classical.not_not.1 hxe
        subst hxe
        repeat' (first | refine aw_seq ?_ | ((first | apply ao_val | apply aq_val); exact wants_a; (first | exact ov_load_w1 rfl (cU hsub_a) | exact ov_a); (exact rfl)) | refine zy ?_ | refine zon fun _ => ?_ | refine zoa fun vr lr hr => ?_ | ((first | apply ao_call | apply aq_call); exact wants_a; (first | exact oc_func rfl | exact oc_clos rfl rfl | exact oc_bnd rfl rfl); (exact rfl); (first | exact fun w hw => hmt hsub_a w hw)) | ((apply ao_callH (l := [(mn, mapO encB N5 c5)]); exact wants_a; (exact oc_clos rfl rfl); exact rfl; exact cut_a; exact hdeed; rintro _ _ ⟨rfl, ⟨h2, -⟩ | ⟨-, N6, c6, lu, rfl, hN6⟩⟩; exact absurd rfl h2)) | refine zoS (fun _ => ?_) (fun _ => ?_) | refine zqS (fun _ => ?_) (fun _ => ?_) | refine zwS (fun _ => ?_) (fun _ => ?_))
        exact lq_normal' ⟨i + 1, _, N6, c6, lu ++ l5, rfl, by omega, hG5, fun j hj => by rw [getS_put, if_neg (by simp; omega)]; exact hsame j (by omega), by rw [List.append_assoc]; exact hN6, rfl, by rw [List.append_assoc]⟩ (by omega) (by repeat (first | exact sub_nil | refine sub_cons rfl ?_)) hsub_a
  · obtain rfl : i = ss.length := by omega
    rw [List.drop_length] at hG5
    simp only [scT, List.map_nil, moveG] at hG5
    subst hG5
    rw [if_neg (by simp)] at hM
    subst hM
    repeat' (first | refine aw_seq ?_ | refine zz ?_ | refine zon fun _ => ?_ | refine zoa fun vr lr hr => ?_ | refine zoS (fun _ => ?_) (fun _ => ?_) | refine zqS (fun _ => ?_) (fun _ => ?_) | refine zwS (fun _ => ?_) (fun _ => ?_))
    exact ⟨_, (mn, mapO encB N5 c5) :: (l5 ++ R), hsub_a, List.Perm.refl _, rfl, .inr ⟨rfl, N5, c5, l5, rfl, hN5⟩⟩
end
end Lct
end Go.Proofs.YtkjjlppfomidbaaGreat
/- Lde: What a delta does to the sums; the closures of a work; may a delta be; conditions: little of all. -/
namespace Go.Proofs.YtkjjlppfomidbaaGreat
namespace Lct
open Go Go.RowKit Sx Vec Ojt Scp
attribute [local irreducible] Go.Calls
section
variable {w0 : World} {nb1 lb1 cb1 nb2 lb2 cb2 g mb mn : Nat} {L L' : List Su} {X : List (En Bk)} {c : Nat} {N : List (En Bk)} {cn : Nat} {lX lN : Hp}
set_option maxHeartbeats 32000000 in
theorem follow_ok {m : Nat} (hX : MpK X c) (hXv : VecsL (getS L) X lX) (hXk : ∀ b, b ∉ X.map (·.1) → getS L b = []) (hN : Nx L L' N cn lN) {vs : Value} {ss : List Sc} {d : Chm.PD} (hwo : wfO d.old.2 ∧ wfO d.new.2) (hws : ∀ s ∈ ss, wfP s.2) (hss : ss.length ≤ 8)
    (hs1 : ∀ b, wfV (getS L' b) ∧ (getS L' b).length ≤ 17000) (hs2 : d.had = true → ∀ b, wfV (getS (moveS (scT ss) L' d.old.2 true).1 b) ∧ (getS (moveS (scT ss) L' d.old.2 true).1 b).length ≤ 17000) (R : Hp)
    (hR1 : ∀ n w, RepH ⟨w0.heap.size, w0, n⟩ R w → DdW w true nb1 lb1 cb1 g mb mn X c lX lN) (hR2 : ∀ n w, RepH ⟨w0.heap.size, w0, n⟩ R w → DdW w false nb2 lb2 cb2 g mb mn X c lX lN)
    (hG : ∀ n w, RepH ⟨w0.heap.size, w0, n⟩ R w → w.cell? ⟨g, 0, none⟩ = some vs ∧ ScsAt w vs ss ∧ ResAt w d.old.1 d.old.2.rs ∧ ResAt w d.new.1 d.new.2.rs) :
    CallsH Tryz.prog ⟨w0.heap.size, w0, m⟩ 105 [.pointer (some ⟨g, 0, none⟩), .agg (Chm.cellsD d).toArray, deedV nb1 lb1 cb1, deedV nb2 lb2 cb2] ((mn, mapO encB N cn) :: R) (DdK L (stepP (scT ss) L' d).1 mn lN (stepP (scT ss) L' d).2 R) := by
  obtain ⟨⟨dk, ds2, dn⟩, had, has, ⟨uo, oo⟩, ⟨un, on⟩⟩ := d
  simp only at hwo hs2 hG
  obtain ⟨bx, hbx⟩ : ∃ bx : Obj, bx = .cells (Chm.cellsD ⟨(dk, ds2, dn), had, has, (uo, oo), (un, on)⟩).toArray 118 (0, 0) := ⟨_, rfl⟩
  have hc1 := fun b5 => count_ok (m := Tryz.f105.ntmps) (less := true) hX hXv hXk hN (vs := vs) (vo := uo) (o := oo) hwo.1 hws hss hs1 ((b5, bx) :: R) (fun n w hw => hR1 n w (hw.sub hsub_a)) (fun n w hw => ⟨(hG n w (hw.sub hsub_a)).1, (hG n w (hw.sub hsub_a)).2.1, (hG n w (hw.sub hsub_a)).2.2.1⟩)
  have hc2 := fun (b5 : Nat) (L5 : List Su) (N5 : List (En Bk)) (c5 : Nat) (l5 : Hp) (hN5 : Nx L L5 N5 c5 (l5 ++ lN)) hs5 => count_ok (m := Tryz.f105.ntmps) (less := false) hX hXv hXk hN5 (vs := vs) (vo := un) (o := on) hwo.2 hws hss hs5 (l5 ++ ((b5, bx) :: R))
    (fun n w hw => (hR2 n w (hw.sub hsub_a)).more fun b o hm => (hw.at_ b o (List.mem_append_left _ hm)).2) (fun n w hw => ⟨(hG n w (hw.sub hsub_a)).1, (hG n w (hw.sub hsub_a)).2.1, (hG n w (hw.sub hsub_a)).2.2.2⟩)
  obtain ⟨M, hM⟩ : ∃ M, stepP (scT ss) L' ⟨(dk, ds2, dn), had, has, (uo, oo), (un, on)⟩ = M := ⟨_, rfl⟩
  rw [hM]
  unfold stepP at hM
  simp only at hM
  obtain ⟨ok1, os1, on1, over, oc1, otm, obs, ors⟩ := oo
  obtain ⟨nk1, ns1, nn1, nver, nc1, ntm, nbs, nrs⟩ := on
  subst hbx
  refine callsH1p (args := [.pointer (some ⟨g, 0, none⟩), .agg #[S dk, S ds2, S dn, .bool had, .bool has, S ok1, S os1, S on1, I over, S oc1, .bool otm, .bool obs, uo, S nk1, S ns1, S nn1, I nver, S nc1, .bool ntm, .bool nbs, un], deedV nb1 lb1 cb1, deedV nb2 lb2 cb2]) Tryz.func105 rfl rfl rfl rfl ?_
  cases had
  · simp only [Bool.false_eq_true, if_false, ne_eq, not_true_eq_false] at hM
    have hc2 := fun b5 => hc2 b5 L' N cn [] hN hs1
    cases has
    · simp only [Bool.false_eq_true, if_false] at hM
      subst hM
      repeat' (first | refine aw_seq ?_ | refine zz ?_ | refine zon fun _ => ?_ | refine zoa fun vr lr hr => ?_ | refine zoS (fun _ => ?_) (fun _ => ?_) | refine zqS (fun _ => ?_) (fun _ => ?_) | refine zwS (fun _ => ?_) (fun _ => ?_))
      exact ⟨_, (mn, mapO encB N cn) :: ([] ++ R), hsub_a, List.Perm.refl _, rfl, .inr ⟨rfl, N, cn, [], rfl, hN⟩⟩
    · simp only [if_true] at hM
      subst hM
      repeat' (first | refine aw_seq ?_ | refine zz ?_ | refine zon fun _ => ?_ | refine zoa fun vr lr hr => ?_ | ((apply ao_callH (l := [(mn, mapO encB N cn)]); exact wants_a; (exact oc_func rfl); exact rfl; exact cut_a; exact hc2 _; rintro _ _ ⟨rfl, ⟨h2, rfl⟩ | ⟨h2, N6, c6, lu, rfl, hN6⟩⟩)) | refine zoS (fun _ => ?_) (fun _ => ?_) | refine zqS (fun _ => ?_) (fun _ => ?_) | refine zwS (fun _ => ?_) (fun _ => ?_))
      · exact ⟨_, R, hsub_a, List.Perm.refl _, rfl, .inl ⟨h2, rfl⟩⟩
      · exact ⟨_, (mn, mapO encB N6 c6) :: (lu ++ R), hsub_a, List.Perm.refl _, rfl, .inr ⟨h2, N6, c6, lu, rfl, hN6⟩⟩
  · simp only [if_true] at hM
    have hs2 := hs2 rfl
    generalize moveS (scT ss) L' ⟨ok1, os1, on1, over, oc1, otm, obs, ors⟩ true = M1 at hM hc1 hs2
    obtain ⟨L1, e1⟩ := M1
    simp only at hM hc1 hs2
    by_cases h0 : e1 ≠ 0
    · rw [if_pos h0] at hM
      subst hM
      have b0 : (e1 != 0) = true := bne_iff_ne.2 h0
      repeat' (first | refine aw_seq ?_ | refine zz ?_ | refine zon fun _ => ?_ | refine zoa fun vr lr hr => ?_ | ((apply ao_callH (l := [(mn, mapO encB N cn)]); exact wants_a; (exact oc_func rfl); exact rfl; exact cut_a; exact hc1 _; rintro _ _ ⟨rfl, ⟨-, rfl⟩ | ⟨h2, -⟩⟩; rotate_left; exact absurd h2 h0)) | refine zoS (fun _ => ?_) (fun _ => ?_) | refine zqS (fun _ => ?_) (fun _ => ?_) | refine zwS (fun _ => ?_) (fun _ => ?_))
      exact ⟨_, R, hsub_a, List.Perm.refl _, rfl, .inl ⟨h0, rfl⟩⟩
    · rw [if_neg h0] at hM
      have h0 : e1 = 0 := Classical.not_not.1 h0
      subst h0
      cases has
      · simp only [Bool.false_eq_true, if_false] at hM
        subst hM
        repeat' (first | refine aw_seq ?_ | refine zz ?_ | refine zon fun _ => ?_ | refine zoa fun vr lr hr => ?_ | ((apply ao_callH (l := [(mn, mapO encB N cn)]); exact wants_a; (exact oc_func rfl); exact rfl; exact cut_a; exact hc1 _; rintro _ _ ⟨rfl, ⟨h2, -⟩ | ⟨-, N6, c6, lu, rfl, hN6⟩⟩; exact absurd rfl h2)) | refine zoS (fun _ => ?_) (fun _ => ?_) | refine zqS (fun _ => ?_) (fun _ => ?_) | refine zwS (fun _ => ?_) (fun _ => ?_))
        exact ⟨_, (mn, mapO encB N6 c6) :: (lu ++ R), hsub_a, List.Perm.refl _, rfl, .inr ⟨rfl, N6, c6, lu, rfl, hN6⟩⟩
      · simp only [if_true] at hM
        subst hM
        repeat' (first | refine aw_seq ?_ | refine zz ?_ | refine zon fun _ => ?_ | refine zoa fun vr lr hr => ?_ | ((apply ao_callH (l := [(mn, mapO encB N cn)]); exact wants_a; (exact oc_func rfl); exact rfl; exact cut_a; exact hc1 _; rintro _ _ ⟨rfl, ⟨h2, -⟩ | ⟨-, N6, c6, lu, rfl, hN6⟩⟩; exact absurd rfl h2)) | refine zoS (fun _ => ?_) (fun _ => ?_) | refine zqS (fun _ => ?_) (fun _ => ?_) | refine zwS (fun _ => ?_) (fun _ => ?_))
        have hc3 := fun b5 => hc2 b5 L1 N6 c6 lu hN6 hs2
        repeat' (first | refine aw_seq ?_ | refine zz ?_ | refine zon fun _ => ?_ | refine zoa fun vr lr hr => ?_ | ((apply ao_callH (l := [(mn, mapO encB N6 c6)]); exact wants_a; (exact oc_func rfl); exact rfl; exact cut_a; exact hc3 _; rintro _ _ ⟨rfl, ⟨h2, rfl⟩ | ⟨h2, N7, c7, lv, rfl, hN7⟩⟩)) | refine zoS (fun _ => ?_) (fun _ => ?_) | refine zqS (fun _ => ?_) (fun _ => ?_) | refine zwS (fun _ => ?_) (fun _ => ?_))
        · exact ⟨_, R, hsub_a, List.Perm.refl _, rfl, .inl ⟨h2, rfl⟩⟩
        · exact ⟨_, (mn, mapO encB N7 c7) :: (lv ++ (lu ++ R)), hsub_a, List.Perm.refl _, rfl, .inr ⟨h2, N7, c7, lv ++ lu, by rw [List.append_assoc], by rw [List.append_assoc]; exact hN7⟩⟩
end
def DdL (less : Bool) (g mn nb lb cb : Nat) (l : Hp) : Prop := ∃ T1 T2 T3, l = [(cb, .cells #[fCV less] T1 (0, 0)), (nb, .cells #[.map (some mn)] T2 (0, 0)), (lb, .cells #[.pointer (some ⟨g, 0, none⟩)] T3 (0, 0))]
set_option maxHeartbeats 8000000 in
theorem work_ok (less : Bool) (g mn : Nat) (w : World) : Calls Tryz.prog 103 #[.pointer (some ⟨g, 0, none⟩), .map (some mn), fCV less] w fun e w' => ∃ r, e = .returned r ∧ NewD (fun r l => ∃ nb lb cb, r = deedV nb lb cb ∧ DdL less g mn nb lb cb l) w w' r := by
  refine calls1 (args := [.pointer (some ⟨g, 0, none⟩), .map (some mn), fCV less]) Tryz.func103 rfl rfl rfl rfl ?_
  repeat' (first | refine aw_seq ?_ | refine zz ?_ | refine zon fun _ => ?_ | refine zoa fun vr lr hr => ?_ | refine zoS (fun _ => ?_) (fun _ => ?_) | refine zqS (fun _ => ?_) (fun _ => ?_) | refine zwS (fun _ => ?_) (fun _ => ?_))
  exact fun w' hw => ⟨_, rfl, hw.toD rfl (l := [_, _, _]) (R := []) (List.Perm.refl _) ⟨_, _, _, rfl, _, _, _, rfl⟩⟩
set_option maxHeartbeats 8000000 in
theorem of_ok (o : Ob) (v : Value) (dk ds2 dn : Tx) (hwf : wfO o) (w : World) (hv : ResAt w v o.rs) : Calls Tryz.prog 129 #[OV o v, .agg #[S dk, S ds2, S dn]] w fun e w' => e = .returned (.bool (decide (keyB3 o = (dk, ds2, dn)) && rightO o)) ∧ Below w.heap.size w w' := by
  have hr := fun w' (hb : Below w.heap.size w w') => Ojt.right_ok o v hwf w' (hv.below hb)
  obtain ⟨k1, s1, n1, ver, c1, tm, bs, rs⟩ := o
  have kO := Chm.key_eq (k1, s1, n1) (dk, ds2, dn)
  simp only at kO
  have kO2 : eqAll [S k1, S s1, S n1] [S dk, S ds2, S dn] = decide (keyB3 ⟨k1, s1, n1, ver, c1, tm, bs, rs⟩ = (dk, ds2, dn)) := kO
  clear kO
  generalize decide (keyB3 ⟨k1, s1, n1, ver, c1, tm, bs, rs⟩ = (dk, ds2, dn)) = bO at kO2 ⊢
  refine calls1 (args := [Ojt.OC k1 s1 n1 ver c1 tm bs v, .agg #[S dk, S ds2, S dn]]) Tryz.func129 rfl rfl rfl rfl ?_
  cases bO
  · repeat' (first | refine aw_seq ?_ | refine zz ?_ | refine zon fun _ => ?_ | refine zoa fun vr lr hr => ?_ | ((first | apply ao_call | apply aq_call); exact wants_a; (first | exact oc_func rfl | exact oc_clos rfl rfl | exact oc_bnd rfl rfl); (exact rfl); (first | exact fun w hw => hr w hw.below)) | refine zoS (fun _ => ?_) (fun _ => ?_) | refine zqS (fun _ => ?_) (fun _ => ?_) | refine zwS (fun _ => ?_) (fun _ => ?_))
    exact fun w' hw => ⟨rfl, hw.below⟩
  · repeat' (first | refine aw_seq ?_ | refine zz ?_ | refine zon fun _ => ?_ | refine zoa fun vr lr hr => ?_ | ((first | apply ao_call | apply aq_call); exact wants_a; (first | exact oc_func rfl | exact oc_clos rfl rfl | exact oc_bnd rfl rfl); (exact rfl); (first | exact fun w hw => hr w hw.below)) | refine zoS (fun _ => ?_) (fun _ => ?_) | refine zqS (fun _ => ?_) (fun _ => ?_) | refine zwS (fun _ => ?_) (fun _ => ?_))
    exact fun w' hw => ⟨rfl, hw.below⟩
set_option maxHeartbeats 16000000 in
theorem dright_ok {w : World} {vd : Value} {ds : List Chm.PD} (hd : DelAt w vd ds) (hdl : ds.length ≤ 10000) (hwd : ∀ d ∈ ds, wfO d.old.2 ∧ wfO d.new.2) : Calls Tryz.prog 102 #[vd] w fun e w' => e = .returned (.bool (ds.all okP)) ∧ Below w.heap.size w w' := by
  obtain ⟨a, cp, rfl, hat⟩ := OldRow.cells Chm.cellsD_len hd.1
  refine calls1 (args := [.slice a ds.length cp]) Tryz.func102 rfl rfl rfl rfl ?_
  repeat' (first | refine aw_seq ?_ | refine zz ?_ | refine zon fun _ => ?_ | refine zoa fun vr lr hr => ?_ | refine zoS (fun _ => ?_) (fun _ => ?_) | refine zqS (fun _ => ?_) (fun _ => ?_) | refine zwS (fun _ => ?_) (fun _ => ?_))
  refine aw_for (t0 := [(5, .slice a ds.length cp), (6, I ds.length), (7, I (0 : Nat))]) (fun q t H => ∃ i : Nat, q = ds.length - i ∧ i ≤ ds.length ∧ (∀ (j : Nat) (d : Chm.PD), j < i → ds[j]? = some d → okP d = true) ∧ t = [(5, .slice a ds.length cp), (6, I ds.length), (7, I i)] ∧ H = []) ⟨0, rfl, by omega, fun j p hj => by omega, rfl, rfl⟩ (by repeat (first | exact sub_nil | refine sub_cons rfl ?_)) ?_
  rintro q t H ⟨i, rfl, hi, hall, rfl, rfl⟩
  by_cases hlt : i < ds.length
  · obtain ⟨d, he⟩ := getP hlt
    have hmd := List.mem_of_getElem? he
    obtain ⟨g, o1, rfl, hg, hc⟩ := hat i _ (i : Int) he rfl
    have hwo := hwd _ hmd
    have hrs := hd.2 _ hmd
    have hbad : okP d = false → ds.all okP = false := fun h => List.all_eq_false.2 ⟨d, hmd, by rw [h]; decide⟩
    have hgood : okP d = true → ∀ (j : Nat) (z : Chm.PD), j < i + 1 → ds[j]? = some z → okP z = true := fun h j z hj hz => by
      by_cases e1 : j = i
      · subst e1; rw [he] at hz; cases hz; exact h
      · exact hall j z (by omega) hz
    obtain ⟨⟨dk, ds2, dn⟩, had, has, ⟨uo, oo⟩, ⟨un, on⟩⟩ := d
    simp only at hwo hrs
    have hro := fun w' (hb : Below w.heap.size w w') => of_ok oo uo dk ds2 dn hwo.1 w' (hrs.1.below hb)
    have hrn := fun w' (hb : Below w.heap.size w w') => of_ok on un dk ds2 dn hwo.2 w' (hrs.2.below hb)
    have hk : okP ⟨(dk, ds2, dn), had, has, (uo, oo), (un, on)⟩ = !((had && !(decide (keyB3 oo = (dk, ds2, dn)) && rightO oo)) || (has && !(decide (keyB3 on = (dk, ds2, dn)) && rightO on))) := by
      unfold okP
      simp only [Bool.not_and, Bool.or_comm]
    rw [hk] at hbad hgood
    clear hk
    generalize (decide (keyB3 oo = (dk, ds2, dn)) && rightO oo) = bO at hbad hgood hro
    generalize (decide (keyB3 on = (dk, ds2, dn)) && rightO on) = bN at hbad hgood hrn
    obtain ⟨ok1, os1, on1, over, oc1, otm, obs, ors⟩ := oo
    obtain ⟨nk1, ns1, nn1, nver, nc1, ntm, nbs, nrs⟩ := on
    obtain ⟨⟨-, a3, c3, e3, -⟩, ⟨-, a4, c4, e4, -⟩⟩ := hrs
    subst e3
    subst e4
    have cD : ∀ (j : Nat) z, [S dk, S ds2, S dn, .bool had, .bool has, S ok1, S os1, S on1, I over, S oc1, .bool otm, .bool obs, (.slice a3 _ c3), S nk1, S ns1, S nn1, I nver, S nc1, .bool ntm, .bool nbs, .slice a4 nrs.length c4][j]? = some z → w.cell? ⟨g, o1 + (i : Int).toNat * 21 + j, none⟩ = some z := hc
    cases had
    · cases has
      · repeat' (first | refine aw_seq ?_ | ((first | apply ao_val | apply aq_val); exact wants_a; (first | exact ov_load_oa rfl hg cD rfl | exact ov_a); (exact rfl)) | refine zy ?_ | refine zon fun _ => ?_ | refine zoa fun vr lr hr => ?_ | ((first | apply ao_call | apply aq_call); exact wants_a; (first | exact oc_func rfl | exact oc_clos rfl rfl | exact oc_bnd rfl rfl); (exact rfl); (first | exact fun w hw => hro w hw.below | exact fun w hw => hrn w hw.below)) | refine zoS (fun _ => ?_) (fun _ => ?_) | refine zqS (fun _ => ?_) (fun _ => ?_) | refine zwS (fun _ => ?_) (fun _ => ?_))
        exact lq_normal' ⟨i + 1, rfl, by omega, hgood rfl, rfl, rfl⟩ (by omega) (by repeat (first | exact sub_nil | refine sub_cons rfl ?_)) hsub_a
      · cases bN
        · rw [hbad rfl]
          repeat' (first | refine aw_seq ?_ | ((first | apply ao_val | apply aq_val); exact wants_a; (first | exact ov_load_oa rfl hg cD rfl | exact ov_a); (exact rfl)) | refine zy ?_ | refine zon fun _ => ?_ | refine zoa fun vr lr hr => ?_ | ((first | apply ao_call | apply aq_call); exact wants_a; (first | exact oc_func rfl | exact oc_clos rfl rfl | exact oc_bnd rfl rfl); (exact rfl); (first | exact fun w hw => hro w hw.below | exact fun w hw => hrn w hw.below)) | refine zoS (fun _ => ?_) (fun _ => ?_) | refine zqS (fun _ => ?_) (fun _ => ?_) | refine zwS (fun _ => ?_) (fun _ => ?_))
          exact fun w' hw => ⟨rfl, hw.below⟩
        · repeat' (first | refine aw_seq ?_ | ((first | apply ao_val | apply aq_val); exact wants_a; (first | exact ov_load_oa rfl hg cD rfl | exact ov_a); (exact rfl)) | refine zy ?_ | refine zon fun _ => ?_ | refine zoa fun vr lr hr => ?_ | ((first | apply ao_call | apply aq_call); exact wants_a; (first | exact oc_func rfl | exact oc_clos rfl rfl | exact oc_bnd rfl rfl); (exact rfl); (first | exact fun w hw => hro w hw.below | exact fun w hw => hrn w hw.below)) | refine zoS (fun _ => ?_) (fun _ => ?_) | refine zqS (fun _ => ?_) (fun _ => ?_) | refine zwS (fun _ => ?_) (fun _ => ?_))
          exact lq_normal' ⟨i + 1, rfl, by omega, hgood rfl, rfl, rfl⟩ (by omega) (by repeat (first | exact sub_nil | refine sub_cons rfl ?_)) hsub_a
    · cases bO
      · rw [hbad rfl]
        repeat' (first | refine aw_seq ?_ | ((first | apply ao_val | apply aq_val); exact wants_a; (first | exact ov_load_oa rfl hg cD rfl | exact ov_a); (exact rfl)) | refine zy ?_ | refine zon fun _ => ?_ | refine zoa fun vr lr hr => ?_ | ((first | apply ao_call | apply aq_call); exact wants_a; (first | exact oc_func rfl | exact oc_clos rfl rfl | exact oc_bnd rfl rfl); (exact rfl); (first | exact fun w hw => hro w hw.below | exact fun w hw => hrn w hw.below)) | refine zoS (fun _ => ?_) (fun _ => ?_) | refine zqS (fun _ => ?_) (fun _ => ?_) | refine zwS (fun _ => ?_) (fun _ => ?_))
        exact fun w' hw => ⟨rfl, hw.below⟩
      · cases has
        · repeat' (first | refine aw_seq ?_ | ((first | apply ao_val | apply aq_val); exact wants_a; (first | exact ov_load_oa rfl hg cD rfl | exact ov_a); (exact rfl)) | refine zy ?_ | refine zon fun _ => ?_ | refine zoa fun vr lr hr => ?_ | ((first | apply ao_call | apply aq_call); exact wants_a; (first | exact oc_func rfl | exact oc_clos rfl rfl | exact oc_bnd rfl rfl); (exact rfl); (first | exact fun w hw => hro w hw.below | exact fun w hw => hrn w hw.below)) | refine zoS (fun _ => ?_) (fun _ => ?_) | refine zqS (fun _ => ?_) (fun _ => ?_) | refine zwS (fun _ => ?_) (fun _ => ?_))
          exact lq_normal' ⟨i + 1, rfl, by omega, hgood rfl, rfl, rfl⟩ (by omega) (by repeat (first | exact sub_nil | refine sub_cons rfl ?_)) hsub_a
        · cases bN
          · rw [hbad rfl]
            repeat' (first | refine aw_seq ?_ | ((first | apply ao_val | apply aq_val); exact wants_a; (first | exact ov_load_oa rfl hg cD rfl | exact ov_a); (exact rfl)) | refine zy ?_ | refine zon fun _ => ?_ | refine zoa fun vr lr hr => ?_ | ((first | apply ao_call | apply aq_call); exact wants_a; (first | exact oc_func rfl | exact oc_clos rfl rfl | exact oc_bnd rfl rfl); (exact rfl); (first | exact fun w hw => hro w hw.below | exact fun w hw => hrn w hw.below)) | refine zoS (fun _ => ?_) (fun _ => ?_) | refine zqS (fun _ => ?_) (fun _ => ?_) | refine zwS (fun _ => ?_) (fun _ => ?_))
            exact fun w' hw => ⟨rfl, hw.below⟩
          · repeat' (first | refine aw_seq ?_ | ((first | apply ao_val | apply aq_val); exact wants_a; (first | exact ov_load_oa rfl hg cD rfl | exact ov_a); (exact rfl)) | refine zy ?_ | refine zon fun _ => ?_ | refine zoa fun vr lr hr => ?_ | ((first | apply ao_call | apply aq_call); exact wants_a; (first | exact oc_func rfl | exact oc_clos rfl rfl | exact oc_bnd rfl rfl); (exact rfl); (first | exact fun w hw => hro w hw.below | exact fun w hw => hrn w hw.below)) | refine zoS (fun _ => ?_) (fun _ => ?_) | refine zqS (fun _ => ?_) (fun _ => ?_) | refine zwS (fun _ => ?_) (fun _ => ?_))
            exact lq_normal' ⟨i + 1, rfl, by omega, hgood rfl, rfl, rfl⟩ (by omega) (by repeat (first | exact sub_nil | refine sub_cons rfl ?_)) hsub_a
  · obtain rfl : i = ds.length := by omega
    rw [show ds.all okP = true by
      rw [List.all_eq_true]
      intro x hx
      obtain ⟨j, hj⟩ := List.getElem?_of_mem hx
      exact hall j x (List.getElem?_eq_some_iff.1 hj).1 hj]
    repeat' (first | refine aw_seq ?_ | refine zz ?_ | refine zon fun _ => ?_ | refine zoa fun vr lr hr => ?_ | refine zoS (fun _ => ?_) (fun _ => ?_) | refine zqS (fun _ => ?_) (fun _ => ?_) | refine zwS (fun _ => ?_) (fun _ => ?_))
    exact fun w' hw => ⟨rfl, hw.below⟩
end Lct
end Go.Proofs.YtkjjlppfomidbaaGreat
/- Ldf: The sums become those of a work; the spaces of which one is another one, rising; conditions: little of all. -/
namespace Go.Proofs.YtkjjlppfomidbaaGreat
namespace Lct
open Go Go.RowKit Sx Vec Ojt Scp
attribute [local irreducible] Go.Calls
theorem diff_fold (K : List Su) : ∀ (L : List Su) (out : List Tx) (s : Tx), s ∈ L.foldl (fun acc e => if e.2 ≠ getS K e.1 then Mkt.markL acc e.1.1 else acc) out ↔ s ∈ out ∨ ∃ e ∈ L, e.1.1 = s ∧ e.2 ≠ getS K e.1
  | [], out, s => by simp
  | e :: L, out, s => by
    rw [List.foldl_cons, diff_fold K L]
    by_cases h : e.2 ≠ getS K e.1
    · rw [if_pos h, Mkt.mark_mem]
      constructor
      · rintro ((rfl | h1) | ⟨x, hx, h2⟩)
        · exact .inr ⟨e, List.mem_cons_self, rfl, h⟩
        · exact .inl h1
        · exact .inr ⟨x, List.mem_cons_of_mem _ hx, h2⟩
      · rintro (h1 | ⟨x, hx, h2, h3⟩)
        · exact .inl (.inr h1)
        · rcases List.mem_cons.1 hx with rfl | hx
          · exact .inl (.inl h2.symm)
          · exact .inr ⟨x, hx, h2, h3⟩
    · rw [if_neg h]
      constructor
      · rintro (h1 | ⟨x, hx, h2⟩)
        · exact .inl h1
        · exact .inr ⟨x, List.mem_cons_of_mem _ hx, h2⟩
      · rintro (h1 | ⟨x, hx, h2, h3⟩)
        · exact .inl h1
        · rcases List.mem_cons.1 hx with rfl | hx
          · exact absurd h3 h
          · exact .inr ⟨x, hx, h2, h3⟩
theorem diff_rise (K : List Su) : ∀ (L : List Su) {out : List Tx}, Mkt.RiseN out → Mkt.RiseN (L.foldl (fun acc e => if e.2 ≠ getS K e.1 then Mkt.markL acc e.1.1 else acc) out)
  | [], _, h => h
  | e :: L, out, h => by
    rw [List.foldl_cons]
    refine diff_rise K L ?_
    split
    · exact Mkt.mark_rise h _
    · exact h
def mixF (L L' : List Su) (ks : List Bk) (b : Bk) : List Ent := if b ∈ ks then getS L' b else getS L b
theorem mix_ne {L L' : List Su} {ks : List Bk} {b k : Bk} (h : k ≠ b) : mixF L L' (ks ++ [b]) k = mixF L L' ks k := by
  unfold mixF
  by_cases hk : k ∈ ks
  · rw [if_pos hk, if_pos (List.mem_append_left _ hk)]
  · rw [if_neg hk, if_neg fun hm => (List.mem_append.1 hm).elim hk fun hm => h (List.mem_singleton.1 hm)]
theorem mix_at {L L' : List Su} {ks : List Bk} {b : Bk} : mixF L L' (ks ++ [b]) b = getS L' b := if_pos (List.mem_append_right _ (List.mem_singleton.2 rfl))
theorem mix_no {L L' : List Su} {ks : List Bk} {b : Bk} (h : b ∉ ks) : mixF L L' ks b = getS L b := if_neg h
structure Tk (L L' : List Su) (ks : List Bk) (X : List (En Bk)) (c : Nat) (O : List (En Tx)) (co : Nat) (lA : Hp) : Prop where
  mp : MpK X c
  vs : VecsL (mixF L L' ks) X lA
  kk : ∀ b, b ∈ X.map (·.1) ↔ mixF L L' ks b ≠ []
  mo : MpK O co
  os : ∀ s, s ∈ O.map (·.1) ↔ ∃ b ∈ ks, b.1 = s ∧ getS L' b ≠ getS L b
  ol : O.length ≤ ks.length
section
variable {L L' : List Su} {ks : List Bk} {X : List (En Bk)} {c : Nat} {O : List (En Tx)} {co : Nat} {lA : Hp} (h : Tk L L' ks X c O co lA) {b : Bk} (hb : b ∉ ks)
include h hb
theorem Tk.skip (he : getS L' b = getS L b) : Tk L L' (ks ++ [b]) X c O co lA := by
  have hF : ∀ k, mixF L L' (ks ++ [b]) k = mixF L L' ks k := fun k => by
    by_cases e : k = b
    · subst e; rw [mix_at, mix_no hb, he]
    · exact mix_ne e
  refine ⟨h.mp, h.vs.mono (fun x hx => ⟨hx, hF _⟩) fun _ h => h, fun k => by rw [hF]; exact h.kk k, h.mo, fun s => ?_, by rw [List.length_append]; have := h.ol; omega⟩
  rw [h.os]
  constructor
  · rintro ⟨k, h1, h2⟩
    exact ⟨k, List.mem_append_left _ h1, h2⟩
  · rintro ⟨k, h1, h2, h3⟩
    rcases List.mem_append.1 h1 with h1 | h1
    · exact ⟨k, h1, h2, h3⟩
    · rw [List.mem_singleton.1 h1] at h3
      exact absurd he h3
omit hb in
theorem Tk.other {O' : List (En Tx)} {co' : Nat} (he : getS L' b ≠ getS L b) (h1 : MpK O' co') (h2 : ∀ y, y ∈ O'.map (·.1) ↔ y = b.1 ∨ y ∈ O.map (·.1)) :
    (∀ s, s ∈ O'.map (·.1) ↔ ∃ k ∈ ks ++ [b], k.1 = s ∧ getS L' k ≠ getS L k) ∧ O'.length ≤ (ks ++ [b]).length := by
  refine ⟨fun s => ?_, ?_⟩
  · rw [h2, h.os]
    constructor
    · rintro (rfl | ⟨k, h3, h4⟩)
      · exact ⟨b, List.mem_append_right _ (List.mem_singleton.2 rfl), rfl, he⟩
      · exact ⟨k, List.mem_append_left _ h3, h4⟩
    · rintro ⟨k, h3, h4, h5⟩
      rcases List.mem_append.1 h3 with h3 | h3
      · exact .inr ⟨k, h3, h4, h5⟩
      · rw [List.mem_singleton.1 h3] at h4
        exact .inl h4.symm
  · have h3 := nodup_le (m := b.1 :: O.map (·.1)) h1.kd fun x hx => by
      rw [List.mem_cons]
      exact (h2 x).1 hx
    simp only [List.length_map, List.length_cons] at h3
    have := h.ol
    rw [List.length_append]
    simp only [List.length_singleton]
    omega
theorem Tk.put {O' : List (En Tx)} {co' c' : Nat} {X' : List (En Bk)} {u : Value} {lu : Hp} (he : getS L' b ≠ getS L b) (h1 : MpK O' co') (h2 : ∀ y, y ∈ O'.map (·.1) ↔ y = b.1 ∨ y ∈ O.map (·.1))
    (h3 : MpK X' c') (h4 : ∀ y, y ∈ X'.map (·.1) ↔ y = b ∨ y ∈ X.map (·.1)) (h5 : ∀ y ∈ X', (y ∈ X ∧ y.1 ≠ b) ∨ (y.1 = b ∧ y.2.1 = u)) (hu : ∀ w, Lies w lu → VecCap w u (getS L' b)) (hs : ∀ x ∈ lu, x ∈ lA) (hn : getS L' b ≠ []) : Tk L L' (ks ++ [b]) X' c' O' co' lA := by
  obtain ⟨o1, o2⟩ := h.other he h1 h2
  have hv := h.vs.up h5 (fun k hk => mix_ne (L := L) (L' := L') (ks := ks) hk) (by rw [mix_at]; exact hu)
  refine ⟨h3, hv.mono (fun x hx => ⟨hx, rfl⟩) fun x hx => (List.mem_append.1 hx).elim (hs x) id, fun k => ?_, h1, o1, o2⟩
  rw [h4]
  by_cases e : k = b
  · subst e
    rw [mix_at]
    exact ⟨fun _ => hn, fun _ => .inl rfl⟩
  · rw [mix_ne e, ← h.kk]
    exact ⟨fun h => h.elim (fun e2 => absurd e2 e) id, .inr⟩
theorem Tk.del {O' : List (En Tx)} {co' : Nat} (he : getS L' b ≠ getS L b) (h1 : MpK O' co') (h2 : ∀ y, y ∈ O'.map (·.1) ↔ y = b.1 ∨ y ∈ O.map (·.1)) (hn : getS L' b = []) : Tk L L' (ks ++ [b]) (delK b X) c O' co' lA := by
  obtain ⟨o1, o2⟩ := h.other he h1 h2
  have hd : ∀ x ∈ delK b X, x ∈ X ∧ x.1 ≠ b := fun x hx => (delK_mem h.mp.kd).1 hx
  refine ⟨h.mp.del b, h.vs.mono (fun x hx => ⟨(hd x hx).1, mix_ne (hd x hx).2⟩) fun _ h => h, fun k => ?_, h1, o1, o2⟩
  by_cases e : k = b
  · subst e
    rw [mix_at]
    constructor
    · intro hk
      obtain ⟨x, hx, e⟩ := List.mem_map.1 hk
      exact absurd e (hd x hx).2
    · exact fun h => absurd hn h
  · rw [mix_ne e, ← h.kk]
    constructor
    · intro hk
      obtain ⟨x, hx, rfl⟩ := List.mem_map.1 hk
      exact List.mem_map.2 ⟨x, (hd x hx).1, rfl⟩
    · intro hk
      obtain ⟨x, hx, rfl⟩ := List.mem_map.1 hk
      exact List.mem_map.2 ⟨x, (delK_mem h.mp.kd).2 ⟨hx, e⟩, rfl⟩
end
theorem key_inj {κ : Type} {X : List (En κ)} (h : (X.map (·.1)).Nodup) {x y : En κ} (hx : x ∈ X) (hy : y ∈ X) (e : x.1 = y.1) : x = y := by
  obtain ⟨i, hi⟩ := List.getElem?_of_mem hx
  obtain ⟨j, hj⟩ := List.getElem?_of_mem hy
  have e1 : (X.map (·.1))[i]? = some y.1 := by rw [List.getElem?_map, hi, Option.map_some, e]
  have e2 : (X.map (·.1))[j]? = some y.1 := by rw [List.getElem?_map, hj]; rfl
  have h3 : i = j := (List.getElem?_inj (List.getElem?_eq_some_iff.1 e1).1 h).1 (e1.trans e2.symm)
  subst h3
  rw [hi] at hj
  cases hj
  rfl
structure Tkn (L' : List Su) (X : List (En Bk)) (c : Nat) (lA : Hp) : Prop where
  mp : MpK X c
  vs : VecsL (getS L') X lA
  ks : ∀ b, b ∈ X.map (·.1) ↔ getS L' b ≠ []
theorem Tk.fin {L L' : List Su} {N : List (En Bk)} {cn : Nat} {lN : Hp} (hN : Nx L L' N cn lN) {ks : List Bk} {X : List (En Bk)} {c : Nat} {O : List (En Tx)} {co : Nat} {lA : Hp} (h : Tk L L' ks X c O co lA) (hp : ∀ b, b ∈ ks ↔ b ∈ N.map (·.1)) :
    Tkn L' X c lA ∧ ∀ s, s ∈ O.map (·.1) ↔ s ∈ diffS L L' := by
  have hF : ∀ b, mixF L L' ks b = getS L' b := fun b => by
    unfold mixF
    by_cases hb : b ∈ ks
    · rw [if_pos hb]
    · rw [if_neg hb, hN.out b fun hm => hb ((hp b).2 hm)]
  refine ⟨⟨h.mp, h.vs.mono (fun x hx => ⟨hx, (hF _).symm⟩) fun _ h => h, fun b => by rw [h.kk, hF]⟩, fun s => ?_⟩
  rw [h.os]
  unfold diffS
  rw [diff_fold]
  constructor
  · rintro ⟨b, h1, h2, h3⟩
    obtain ⟨e, he, rfl⟩ := List.mem_map.1 (hN.ks b ((hp b).1 h1))
    exact .inr ⟨e, he, h2, by rw [← getS_mem hN.nd he]; exact h3⟩
  · rintro (h1 | ⟨e, he, h2, h3⟩)
    · cases h1
    · rw [← getS_mem hN.nd he] at h3
      refine ⟨e.1, (hp _).2 ?_, h2, h3⟩
      by_cases hm : e.1 ∈ N.map (·.1)
      · exact hm
      · exact absurd (hN.out _ hm) h3
set_option maxHeartbeats 32000000 in
theorem take_ok {m : Nat} {w0 : World} {g mb mn : Nat} {L L' : List Su} {X : List (En Bk)} {c : Nat} {N : List (En Bk)} {cn : Nat} {lX lN : Hp} (hX : Tkn L X c lX) (hN : Nx L L' N cn lN) (hs1 : ∀ b, wfV (getS L b) ∧ (getS L b).length ≤ 17000) (hs2 : ∀ b, wfV (getS L' b) ∧ (getS L' b).length ≤ 17000) (hl : N.length ≤ 50000) (R : Hp)
    (hR : ∀ n w, RepH ⟨w0.heap.size, w0, n⟩ R w → w.cell? ⟨g, 1, none⟩ = some (.map (some mb)) ∧ w.heap[mn]? = some (mapO encB N cn) ∧ Lies w lX ∧ Lies w lN) :
    CallsH Tryz.prog ⟨w0.heap.size, w0, m⟩ 106 [.pointer (some ⟨g, 0, none⟩), .map (some mn)] ((mb, mapO encB X c) :: R) fun u H' => ∃ lr X' c', H' = lr ++ ((mb, mapO encB X' c') :: R) ∧ Mkt.RowN u lr (diffS L L') ∧ Tkn L' X' c' (lN ++ lX) := by
  have cG := fun {H : Hp} (hs : R.Sublist H) w (hw : RepH ⟨w0.heap.size, w0, Tryz.f106.ntmps⟩ H w) => (hR _ w (hw.sub hs)).1
  have hmap : ∀ {H : Hp} (_ : R.Sublist H), MapOf ⟨w0.heap.size, w0, Tryz.f106.ntmps⟩ H encB (some mn) N cn := fun hs w hw => (hR _ w (hw.sub hs)).2.1
  have hri : Mkt.RiseN (diffS L L') := diff_rise L L' List.Pairwise.nil
  refine callsH1p (args := [.pointer (some ⟨g, 0, none⟩), .map (some mn)]) Tryz.func106 rfl rfl rfl rfl ?_
  refine aw_fact (φ := ∀ y ∈ N, ∃ a cp, y.2.1 = .slice a (getS L' y.1).length cp) (fun w hw y hy => ?_) fun hsl => ?_
  · obtain ⟨⟨-, a, cp, h1, -⟩, -⟩ := hN.vs w (hR _ w (hw.sub hsub_a)).2.2.2 y hy
    exact ⟨a, cp, h1⟩
  repeat' (first | refine aw_seq ?_ | refine zz ?_ | refine zon fun _ => ?_ | refine zoa fun vr lr hr => ?_ | (apply ao_new; exact wants_a; exact on_makeMap; exact rfl; intro mo) | (apply ao_new; exact wants_a; exact on_mrangeO rfl (hmap hsub_a); exact rfl; intro bi) | refine zoS (fun _ => ?_) (fun _ => ?_) | refine zqS (fun _ => ?_) (fun _ => ?_) | refine zwS (fun _ => ?_) (fun _ => ?_))
  refine aw_for (t0 := [(0, .pointer (some ⟨g, 0, none⟩)), (5, .map (some mo)), (10, .pointer (some ⟨bi, 0, none⟩))]) (fun k tm H => ∃ (seen : Array Nat) (done : List (En Bk)) (X5 : List (En Bk)) (c5 : Nat) (O : List (En Tx)) (co : Nat), k = (N.filter fun y => !seen.contains y.2.2).length ∧ OutK N done seen ∧ Tk L L' (done.map (·.1)) X5 c5 O co (lN ++ lX) ∧
    tm = [(0, .pointer (some ⟨g, 0, none⟩)), (5, .map (some mo)), (10, .pointer (some ⟨bi, 0, none⟩))] ∧ H.Perm ((bi, .mapIter (some mn) cn seen cn) :: (mb, mapO encB X5 c5) :: (mo, mapO encN O co) :: R))
    ⟨_, [], X, c, [], 0, rfl, OutK.nil, ⟨hX.mp, hX.vs.mono (fun x hx => ⟨hx, mix_no List.not_mem_nil⟩) fun x hx => List.mem_append_right _ hx, fun b => by rw [hX.ks]; rfl, MpK.new, fun s => ⟨(fun h => by cases h), (fun ⟨_, h, _⟩ => by cases h)⟩, Nat.le_refl _⟩, rfl, (List.Perm.swap _ _ _).cons _⟩ (by repeat (first | exact sub_nil | refine sub_cons rfl ?_)) ?_
  rintro _ tm H ⟨seen, done, X5, c5, O, co, rfl, hout, hT, rfl, hpm⟩
  refine aw_permH hpm ?_
  clear hpm
  repeat' (first | refine aw_seq ?_ | refine zz ?_ | refine zon fun _ => ?_ | refine zoa fun vr lr hr => ?_ | (apply ao_mnextO; exact wants_a; exact rfl; exact cut_a; exact hmap hsub_a; exact hN.mp.bl; exact Nat.le_refl _; exact rfl; intro hall; rotate_left; intro y hy hns; rotate_left) | refine zoS (fun _ => ?_) (fun _ => ?_) | refine zqS (fun _ => ?_) (fun _ => ?_) | refine zwS (fun _ => ?_) (fun _ => ?_))
  · have hper := hout.all hN.mp.bd hall
    obtain ⟨hF, hO⟩ := hT.fin hN fun b => (hper.map _).mem_iff
    have hOl : O.length ≤ 50000 := by
      have h1 := hT.ol
      rw [List.length_map, hper.length_eq] at h1
      omega
    repeat' (first | refine aw_seq ?_ | refine zz ?_ | refine zon fun _ => ?_ | refine zoa fun vr lr hr => ?_ | (apply ao_callr; exact wants_a; (exact oc_func rfl); (exact rfl); (first | exact fun w hw => ksort_ok (w := w) (kat_of hw has_a has_a) hT.mo hOl hri hO (has_lt hw has_a)); intro vr lr hr) | ((apply ao_callD; exact wants_a; (exact oc_func rfl); (exact rfl); (intro w hw; exact keys_ok mo w); rintro _ _ ⟨tb, rfl, rfl⟩)) | refine zoS (fun _ => ?_) (fun _ => ?_) | refine zqS (fun _ => ?_) (fun _ => ?_) | refine zwS (fun _ => ?_) (fun _ => ?_))
    exact ⟨_, _ ++ ((mb, mapO encB X5 c5) :: R), hsub_a, List.Perm.refl _, _, X5, c5, rfl, (by assumption), hF⟩
  · obtain ⟨⟨s, i⟩, v, st⟩ := y
    simp only at hns
    have hb : (s, i) ∉ done.map (·.1) := fun hm => by
      obtain ⟨z, hz, e⟩ := List.mem_map.1 hm
      have h1 := key_inj hN.mp.kd (hout.sub z hz) hy e
      subst h1
      refine hns ?_
      rw [← Array.mem_toList_iff, hout.is]
      exact List.mem_map.2 ⟨_, hz, rfl⟩
    have hnew : ∀ w, Lies w lN → VecCap w v (getS L' (s, i)) := fun w h => hN.vs w h _ hy
    obtain ⟨x1, x2⟩ := hT.mp.fnd (s, i)
    have hwas : ∀ w, Lies w lN → Lies w lX → VecCap w (valB X5 (s, i)) (getS L (s, i)) := fun w h1 h2 => by
      have h3 := x1 hT.vs (w := w) fun b o hm => (List.mem_append.1 hm).elim (h1 b o) (h2 b o)
      have h4 := hT.kk (s, i)
      rw [mix_no hb] at h3 h4
      by_cases hk : (s, i) ∈ X5.map (·.1)
      · rwa [if_pos hk] at h3
      · rw [if_neg hk] at h3
        rwa [Classical.not_not.1 fun h5 => hk (h4.2 h5)]
    obtain ⟨a, cp, hvs⟩ := hsl _ hy
    simp only at hvs
    subst hvs
    have hsame := fun {H : Hp} (hs : R.Sublist H) w (hw : RepH ⟨w0.heap.size, w0, Tryz.f106.ntmps⟩ H w) => Vec.psame_ok _ _ (getS L' (s, i)) (getS L (s, i)) (hs2 _).1 (hs1 _).1 w (hnew w (hR _ w (hw.sub hs)).2.2.2).1 (hwas w (hR _ w (hw.sub hs)).2.2.2 (hR _ w (hw.sub hs)).2.2.1).1
    clear hwas x1
    generalize valB X5 (s, i) = was at x2 hsame
    by_cases he : getS L' (s, i) = getS L (s, i)
    · rw [show (getS L' (s, i) == getS L (s, i)) = true by rw [he]; exact beq_self_eq_true _] at hsame
      repeat' (first | refine aw_seq ?_ | ((first | apply ao_val | apply aq_val); exact wants_a; (first | exact ov_entryO rfl has_a (hmap hsub_a) hN.mp.bd hy | exact ov_load_w1 rfl (cG hsub_a) | exact ov_nilcheck rfl | exact x2 false rfl rfl (mapAt_has has_a) | exact ov_a); (exact rfl)) | refine zy ?_ | refine zon fun _ => ?_ | refine zoa fun vr lr hr => ?_ | ((first | apply ao_call | apply aq_call); exact wants_a; (first | exact oc_func rfl | exact oc_clos rfl rfl | exact oc_bnd rfl rfl); (exact rfl); (first | exact fun w hw => hsame hsub_a w hw)) | refine zoS (fun _ => ?_) (fun _ => ?_) | refine zqS (fun _ => ?_) (fun _ => ?_) | refine zwS (fun _ => ?_) (fun _ => ?_))
      exact lq_normal' ⟨_, done ++ [((s, i), _, st)], X5, c5, O, co, rfl, hout.snoc hy hns, by rw [List.map_append]; exact hT.skip hb he, rfl, List.Perm.refl _⟩ (left_less (fun y : En Bk => y.2.2) hy hns) (by repeat (first | exact sub_nil | refine sub_cons rfl ?_)) hsub_a
    · rw [beq_eq_false_iff_ne.2 he] at hsame
      obtain ⟨O', co', o1, o2, -, hupO⟩ := hT.mo.upd s (.bool true) (enc := encN) (mt := 187) (kt := 9) (et := 4)
      by_cases hn : 0 < (getS L' (s, i)).length
      · have hnz : (0 : Int) < (getS L' (s, i)).length := by omega
        obtain ⟨X', c', p1, p2, p3, hupX⟩ := hT.mp.upd (s, i) (.slice a (getS L' (s, i)).length cp) (enc := encB) (mt := 78) (kt := 52) (et := 48)
        have hT2 := hT.put hb he o1 o2 p1 p2 p3 hnew (fun x hx => List.mem_append_left _ hx) fun h => by rw [h] at hn; exact absurd hn (by simp)
        repeat' (first | refine zhn ?_ | refine ah_end ?_ | (apply ah_one; (exact rfl)) | (apply ah_two; (exact rfl); (exact rfl)) | (apply ah_three; (exact rfl); (exact rfl); (exact rfl)) | (apply aw_held (id := 8) (pl := (.t 0 (.t 1 (.t 2 (.t 3 (.t 4 (.t 5 (.o 6 .e)))))))); (kernel_rfl); (kernel_rfl); (kernel_rfl); (solve | (apply hs_keep; apply hs_keep; apply hs_skip; exact List.Sublist.refl _))) | refine aw_seq ?_ | ((first | apply ao_val | apply aq_val | (apply ah_take; (exact rfl))); exact wants_a; (first | exact ov_entryO rfl has_a (hmap hsub_a) hN.mp.bd hy | exact ov_load_w1 rfl (cG hsub_a) | exact ov_nilcheck rfl | exact x2 false rfl rfl (mapAt_has has_a) | exact ov_a); (exact rfl)) | refine zu ?_ | (refine aw_is ?_; refine zwd ?_) | refine zhk ?_ | refine zhT ?_ | refine zhF ?_ | refine zon fun _ => ?_ | refine zoa fun vr lr hr => ?_ | ((first | apply ao_call | apply aq_call); exact wants_a; (first | exact oc_func rfl | exact oc_clos rfl rfl | exact oc_bnd rfl rfl); (exact rfl); (first | exact fun w hw => hsame hsub_a w hw)) | ((apply ao_store; exact wants_a; (first | exact hupO rfl rfl rfl (mapAt_has has_a) | exact hupX rfl rfl rfl (mapAt_has has_a)); exact upd_a)) | refine zoS (fun _ => ?_) (fun _ => ?_) | refine zqS (fun _ => ?_) (fun _ => ?_) | refine zwS (fun _ => ?_) (fun _ => ?_))
        exact lq_normal' ⟨_, done ++ [((s, i), _, st)], X', c', O', co', rfl, hout.snoc hy hns, by rw [List.map_append]; exact hT2, rfl, List.Perm.refl _⟩ (left_less (fun y : En Bk => y.2.2) hy hns) (by repeat (first | exact sub_nil | refine sub_cons rfl ?_)) hsub_a
      · have hnz : ¬ (0 : Int) < (getS L' (s, i)).length := by omega
        have hdel := fun {E : Env} {t : Tm} {H : Hp} {ty : TypeId} {x y : Operand} {b : Nat} hx hy hb => ow_mdel (P := Tryz.prog) (E := E) (t := t) (H := H) (x := x) (y := y) (ty := ty) (b := b) (c := c5) (es := X5) (mt := 78) (kt := 52) (et := 48) (enc := encB) (k := (s, i)) hx hy hb
        have hT2 := hT.del hb he o1 o2 (List.eq_nil_of_length_eq_zero (by omega))
        repeat' (first | refine zhn ?_ | refine ah_end ?_ | (apply ah_one; (exact rfl)) | (apply ah_two; (exact rfl); (exact rfl)) | (apply ah_three; (exact rfl); (exact rfl); (exact rfl)) | (apply aw_held (id := 9) (pl := (.t 0 (.t 1 (.t 2 (.t 3 (.t 4 (.o 5 .e))))))); (kernel_rfl); (kernel_rfl); (kernel_rfl); (solve | (apply hs_keep; apply hs_keep; apply hs_skip; exact List.Sublist.refl _))) | refine aw_seq ?_ | ((first | apply ao_val | apply aq_val | (apply ah_take; (exact rfl))); exact wants_a; (first | exact ov_entryO rfl has_a (hmap hsub_a) hN.mp.bd hy | exact ov_load_w1 rfl (cG hsub_a) | exact ov_nilcheck rfl | exact x2 false rfl rfl (mapAt_has has_a) | exact ov_a); (exact rfl)) | refine zu ?_ | (refine aw_is ?_; refine zwd ?_) | refine zhk ?_ | refine zhT ?_ | refine zhF ?_ | refine zon fun _ => ?_ | refine zoa fun vr lr hr => ?_ | ((first | apply ao_call | apply aq_call); exact wants_a; (first | exact oc_func rfl | exact oc_clos rfl rfl | exact oc_bnd rfl rfl); (exact rfl); (first | exact fun w hw => hsame hsub_a w hw)) | ((apply ao_store; exact wants_a; (exact hupO rfl rfl rfl (mapAt_has has_a)); exact upd_a)) | ((apply ao_valw0; exact wants_a; (exact hdel rfl rfl (mapAt_has has_a)); exact upd_a)) | refine zoS (fun _ => ?_) (fun _ => ?_) | refine zqS (fun _ => ?_) (fun _ => ?_) | refine zwS (fun _ => ?_) (fun _ => ?_))
        exact lq_normal' ⟨_, done ++ [((s, i), _, st)], _, c5, O', co', rfl, hout.snoc hy hns, by rw [List.map_append]; exact hT2, rfl, List.Perm.refl _⟩ (left_less (fun y : En Bk => y.2.2) hy hns) (by repeat (first | exact sub_nil | refine sub_cons rfl ?_)) hsub_a
end Lct
end Go.Proofs.YtkjjlppfomidbaaGreat
