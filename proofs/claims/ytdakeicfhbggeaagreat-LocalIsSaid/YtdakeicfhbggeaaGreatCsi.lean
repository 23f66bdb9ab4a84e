/- The library's sort of structs over a row of the call's own; conditions: fewer than 2^62 elements. -/
import Derived.Shelf.SlSortCmp.NoneTotal
import Derived.Test.YtdakeicfhbggeaaGreatSxk
import Derived.Test.YtdakeicfhbggeaaGreatCsg
import Derived.Test.YtdakeicfhbggeaaGreatChy
/- Csh: The library's sort of structs over a row of the call's own; conditions: fewer than 2^62 elements. -/
namespace Go.Proofs.YtdakeicfhbggeaaGreat
namespace Srg
open Go Go.RowKit Go.Sort Go.Shelf Go.Lib Sx
theorem rep_grow {E : Env} {H : Hp} {w : World} (h : RepH E H w) (n : Nat) (os : Array Obj) : RepH E H (grow (Sort.ahead w n) os) := by
  refine ⟨⟨h.below.os, h.below.tape, h.below.output, ?_, fun k hk => ?_⟩, h.base, h.nodup, fun b o hm => ?_⟩
  · rw [size_grow]
    exact Nat.le_trans h.below.size (Nat.le_add_right _ _)
  · have hlt : k < w.heap.size := Nat.lt_of_lt_of_le hk (Nat.le_trans h.base h.below.size)
    rw [heap_grow_old (Sort.ahead w n) _ hlt]
    exact h.below.block k hk
  · obtain ⟨h1, h2⟩ := h.at_ b o hm
    refine ⟨h1, ?_⟩
    rw [heap_grow_old (Sort.ahead w n) _ (Array.getElem?_eq_some_iff.1 h2).1]
    exact h2
theorem modify_at {a : Array Obj} {g : Nat} {c : Array Value} {T : TypeId} {fz : Nat × Nat} (h : a[g]? = some (.cells c T fz)) (f : Array Value → Array Value) : a.modify g (onCells f) = a.setIfInBounds g (.cells (f c) T fz) := by
  apply Array.ext_getElem?
  intro i
  rw [Array.getElem?_modify, Array.getElem?_setIfInBounds]
  by_cases e : g = i
  · subst e
    rw [if_pos rfl, if_pos rfl, h, if_pos (Array.getElem?_eq_some_iff.1 h).1]
    rfl
  · rw [if_neg e, if_neg e]
section
variable {α : Type} [Inhabited α] {enc : α → List Value} {k : Nat}
theorem flat_get (hk : ∀ x, (enc x).length = k) (es : List α) (j : Nat) (hj : j < es.length * k) : (es.flatMap enc)[j]? = some (flatK enc k es.toArray)[j]! := by
  have k0 : 0 < k := by
    rcases Nat.eq_zero_or_pos k with h | h
    · subst h; simp at hj
    · exact h
  have hi : j / k < es.length := by rw [Nat.div_lt_iff_lt_mul k0]; exact hj
  have hr : j % k < k := Nat.mod_lt _ k0
  have h1 : es[j / k]? = some es[j / k] := List.getElem?_eq_getElem hi
  have h2 : (enc es[j / k])[j % k]? = some ((enc es[j / k])[j % k]'(by rw [hk]; exact hr)) := List.getElem?_eq_getElem _
  have h3 := flat_at hk es (j / k) (j % k) _ _ h1 h2
  rw [Nat.mul_comm, Nat.div_add_mod] at h3
  rw [h3, get_flatK enc k es.toArray j (by simpa using hj)]
  have e1 : es.toArray[j / k]! = es[j / k] := by
    rw [getElem!_pos es.toArray (j / k) (by simpa using hi)]
    simp
  rw [e1, getElem!_pos (enc es[j / k]) (j % k) (by rw [hk]; exact hr)]
theorem holds_row {E : Env} {H : Hp} {w : World} {g : Nat} {cs : List Value} {T : TypeId} (hh : RepH E H w) (hb : Has H g (.cells cs.toArray T (0, 0))) (hk : ∀ x, (enc x).length = k) (es : List α) (hcs : cs.take (es.length * k) = es.flatMap enc) : HoldsK enc k w g 0 es.toArray := by
  intro j hj
  rw [size_flatK] at hj
  have hj2 : j < es.length * k := by simpa using hj
  have hg := (hh.has hb).2
  have h1 := flat_get hk es j hj2
  rw [← hcs, List.getElem?_take_of_lt hj2] at h1
  constructor
  · simp only [World.cell?, hg, Nat.zero_add]
    simpa using h1
  · simp [World.frozen?, hg]
theorem put_take (hk : ∀ x, (enc x).length = k) (es : List α) (cs : List Value) (hl : es.length * k ≤ cs.length) : ((putCells id 0 (flatK enc k es.toArray) cs.toArray).toList).take (es.length * k) = es.flatMap enc := by
  have hlen : (es.flatMap enc).length = es.length * k := by
    rw [List.length_flatMap]
    have : es.map (fun a => (enc a).length) = List.replicate es.length k := by
      rw [List.eq_replicate_iff]
      exact ⟨by simp, fun b hb => by obtain ⟨x, -, rfl⟩ := List.mem_map.1 hb; exact hk x⟩
    rw [this, List.sum_replicate_nat]
  apply List.ext_getElem?
  intro j
  by_cases hj : j < es.length * k
  · rw [List.getElem?_take_of_lt hj, flat_get hk es j hj]
    unfold putCells
    rw [Array.getElem?_toList, Array.getElem?_mapIdx]
    have h0 : cs.toArray[j]? = some (cs[j]'(by omega)) := by
      rw [List.getElem?_toArray]
      exact List.getElem?_eq_getElem _
    rw [h0]
    simp only [Option.map_some, Nat.zero_le, true_and, Nat.zero_add, Nat.sub_zero, size_flatK, List.size_toArray, id]
    rw [if_pos hj]
  · rw [List.getElem?_eq_none (by rw [List.length_take]; omega), List.getElem?_eq_none (by omega)]
theorem rep_sorted {E : Env} {g : Nat} {cs : List Value} {T : TypeId} {R : Hp} {w : World} (hh : RepH E ((g, .cells cs.toArray T (0, 0)) :: R) w) (n : Nat) (d' : Array α) (os : Array Obj) :
    RepH E ((g, .cells (putCells id 0 (flatK enc k d') cs.toArray) T (0, 0)) :: R) (sortWorldK enc k w g 0 n d' os) := by
  have hg := (hh.has Has.head).2
  have h1 := rep_grow hh n os
  unfold sortWorldK putRowK putRow
  have hlt : g < (Sort.ahead w n).heap.size := (Array.getElem?_eq_some_iff.1 hg).1
  have h2 := rep_grow (hh.upd (Upd.head g _ (.cells (putCells id 0 (flatK enc k d') cs.toArray) T (0, 0)) R)) n os
  have e : mapBlock (Sort.ahead w n) g (putCells id 0 (flatK enc k d')) = Sort.ahead { w with heap := w.heap.setIfInBounds g (.cells (putCells id 0 (flatK enc k d') cs.toArray) T (0, 0)) } n := by
    unfold mapBlock Sort.ahead
    rw [modify_at (a := w.heap) hg]
  rw [e]
  exact h2
theorem sort_ok {P : Program} {E : Env} {ρ : Ren} (L : SlLaysF0.n6 P ρ) (aE : ∀ w, (isAgg (ρ.t 24)).run P w = .ok true w) (zE : ∀ w, (Go.sizeOf (ρ.t 24)).run P w = .ok k w) (hk : ∀ x, (enc x).length = k) (h1 : ∀ x, ∀ v ∈ enc x, v.oneCell' = true)
    (cf : α → α → Int) (hO : SWO (ltOf cf)) (g : Nat) (eg : ∀ args w, (callFunc g args).run P w = .ok (.enter g args) w)
    (hcl : ∀ x y W, Calls P g #[.agg (enc x).toArray, .agg (enc y).toArray] W fun e w' => e = .returned (.int .i64 (cf x y)) ∧ ∃ q os', w' = grow (W.drewN q) os')
    {T : TypeId} {v : Value} {l : Hp} (es : List α) (hr : RowB T k v l es.length (es.flatMap enc)) (hsz : es.length < 4611686018427387904) (R : Hp) :
    CallsH P E (ρ.f 6) [v, .func (.func g) #[] #[]] (l ++ R) fun u H' => u = .tuple #[] ∧ ∃ (l' : Hp) (es' : List α), H' = l' ++ R ∧ es'.Perm es ∧ (es'.Pairwise fun x y => ltOf cf y x = false) ∧ RowB T k v l' es'.length (es'.flatMap enc) := by
  intro hid w hh
  rcases Nat.eq_zero_or_pos es.length with h0 | hpos
  · have he : es = [] := List.eq_nil_of_length_eq_zero h0
    subst he
    obtain ⟨p, cap, hv⟩ : ∃ p cap, v = .slice p 0 cap := by
      rcases hr.2 with ⟨rfl, -, -⟩ | ⟨_, _, _, rfl, _⟩
      · exact ⟨_, _, rfl⟩
      · exact ⟨_, _, rfl⟩
    subst hv
    refine (AnyF.slices_SortFunc_none L p cap (.func (.func g) #[] #[]) w).mono fun e w' ⟨h2, h3⟩ => ⟨_, l ++ R, h2, by rw [h3]; exact hh, rfl, l, [], rfl, List.Perm.refl _, List.Pairwise.nil, hr⟩
  · obtain ⟨b, cap, cs, rfl, rfl, h3, h4, h5⟩ := hr.open hpos
    have hh : RepH E ((b, .cells cs.toArray T (0, 0)) :: (R ++ hid)) w := hh
    have hb : Has ((b, .cells cs.toArray T (0, 0)) :: (R ++ hid)) b (.cells cs.toArray T (0, 0)) := Has.head
    have hH := holds_row hh hb hk es h5
    have hblk : b < w.heap.size := (Array.getElem?_eq_some_iff.1 (hh.has hb).2).1
    have hle : es.length * k ≤ cs.length := by rw [h4]; exact Nat.mul_le_mul_right k h3
    have hcon := AnyQ.slices_SortFunc L k aE zE enc hk h1 cf hO g #[] b 0 cap es.toArray w eg (fun m os dk _ x y => hcl x y _) hH hblk (by simpa using hsz)
    refine hcon.mono fun e w' ⟨he, d', n, os, hp, hs, hw⟩ => ?_
    obtain ⟨p1, -, p3⟩ := hp
    have hsz2 : d'.size = es.length := by simpa using p1
    have hperm : d'.toList.Perm es := by
      have e1 : d'.extract 0 es.toArray.size = d' := by rw [← p1]; simp
      have e2 : es.toArray.extract 0 es.toArray.size = es.toArray := by simp
      rw [e1, e2] at p3
      simpa using p3
    have hl2 : d'.toList.length = es.length := by simpa using hsz2
    refine ⟨.tuple #[], (b, .cells (putCells id 0 (flatK enc k d') cs.toArray) T (0, 0)) :: R, he, by rw [hw]; exact rep_sorted hh n d' os, rfl, [(b, .cells (putCells id 0 (flatK enc k d') cs.toArray) T (0, 0))], d'.toList, rfl, hperm, ?_, ?_⟩
    · rw [List.pairwise_iff_getElem]
      intro i j hi hj hij
      have := hs i j (Nat.zero_le _) hij (by rw [List.size_toArray, ← hl2]; exact hj)
      rw [getElem!_pos d' j (by simpa using hj), getElem!_pos d' i (by simpa using hi)] at this
      simpa using this
    · have ht := put_take hk d'.toList cs (by rw [hl2]; exact hle)
      rw [Array.toArray_toList] at ht
      refine ⟨?_, .inr ⟨b, cap, _, ?_, rfl, by rw [hl2]; exact h3, ?_, ht⟩⟩
      · have : (putCells id 0 (flatK enc k d') cs.toArray).toList.length = cs.length := by simp [putCells]
        rw [← ht, List.length_take, this, Nat.min_eq_left (by rw [hl2]; exact hle)]
      · rw [hl2]
      · simp [putCells, h4]
end
end Srg
end Go.Proofs.YtdakeicfhbggeaaGreat
/- Csi: Keys, and deltas, sorted by the library: what they become; conditions: names of at most 1,000 bytes. -/
namespace Go.Proofs.YtdakeicfhbggeaaGreat
namespace Srg
open Go Go.RowKit Go.Sort Go.Shelf Go.Lib Sx Lab Vec Ojt Evt Chm
def wfK (k : Kt) : Prop := k.1.length ≤ 1000 ∧ k.2.1.length ≤ 1000 ∧ k.2.2.length ≤ 1000
theorem join_g (k s n : List UInt8) : (joinG ⟨k.toArray⟩ ⟨s.toArray⟩ ⟨n.toArray⟩).toList = joinB k s n := by
  unfold joinG joinB
  rw [ByteArray.toList_eq]
  simp
theorem lessK_ntrans {a b c : Kt} (h : lessK a b = false) (g : lessK b c = false) : lessK a c = false := by
  unfold lessK at *
  generalize joinB a.1 a.2.1 a.2.2 = x at *
  generalize joinB b.1 b.2.1 b.2.2 = y at *
  generalize joinB c.1 c.2.1 c.2.2 = z at *
  cases hxz : Op.bytesLess x z
  · rfl
  · exfalso
    cases hzy : Op.bytesLess z y
    · have := bl_total _ _ g hzy
      subst this
      rw [h] at hxz
      cases hxz
    · have := bl_trans _ _ _ hxz hzy
      rw [h] at this
      cases this
structure ElK where
  k : Kt
  wf : wfK k
instance : Inhabited ElK := ⟨⟨([], [], []), by simp [wfK]⟩⟩
theorem up_el {α β : Type} (f : α → β) {p : β → Prop} (mk : ∀ b, p b → ∃ a, f a = b) : ∀ (l : List β), (∀ b ∈ l, p b) → ∃ m : List α, m.map f = l
  | [], _ => ⟨[], rfl⟩
  | b :: l, h => by
    obtain ⟨a, ha⟩ := mk b (h b List.mem_cons_self)
    obtain ⟨m, hm⟩ := up_el f mk l fun x hx => h x (List.mem_cons_of_mem b hx)
    exact ⟨a :: m, by rw [List.map_cons, ha, hm]⟩
structure ElD where
  d : PD
  wf : wfK d.key
  fl : (cellsD d).all Value.oneCell' = true
instance : Inhabited ElD := ⟨⟨⟨([], [], []), false, false, zP, zP⟩, by simp [wfK], rfl⟩⟩
def encD (x : ElD) : List Value := cellsD x.d
def cfD (x y : ElD) : Int := ordI (lessK x.d.key y.d.key) (lessK y.d.key x.d.key)
theorem cfD_lt (x y : ElD) : ltOf cfD x y = lessK x.d.key y.d.key := by
  unfold ltOf cfD ordI
  cases h : lessK x.d.key y.d.key
  · cases lessK y.d.key x.d.key <;> rfl
  · rfl
theorem cfD_swo : SWO (ltOf cfD) where
  irrefl x := by rw [cfD_lt]; unfold lessK; exact bl_irrefl _
  trans x y z h g := by rw [cfD_lt] at *; exact lessK_trans h g
  ntrans x y z h g := by rw [cfD_lt] at *; exact lessK_ntrans h g
theorem orderE_ok (x y : ElD) (W : World) : Calls Tryz.prog 127 #[.agg (encD x).toArray, .agg (encD y).toArray] W fun e w' => e = .returned (.int .i64 (cfD x y)) ∧ ∃ q os', w' = grow (W.drewN q) os' := by
  obtain ⟨⟨⟨k, s, n⟩, had, has, p, q⟩, ⟨h1, h2, h3⟩, hf⟩ := x
  obtain ⟨⟨⟨k2, s2, n2⟩, had2, has2, p2, q2⟩, ⟨g1, g2, g3⟩, gf⟩ := y
  have h := orderD_g ⟨k.toArray⟩ ⟨s.toArray⟩ ⟨n.toArray⟩ ⟨k2.toArray⟩ ⟨s2.toArray⟩ ⟨n2.toArray⟩ (.bool had) (.bool has) (S p.2.k) (S p.2.s) (S p.2.n) (I p.2.ver) (S p.2.c) (.bool p.2.tm) (.bool p.2.bs) p.1 (S q.2.k) (S q.2.s) (S q.2.n) (I q.2.ver) (S q.2.c) (.bool q.2.tm) (.bool q.2.bs) q.1
    (.bool had2) (.bool has2) (S p2.2.k) (S p2.2.s) (S p2.2.n) (I p2.2.ver) (S p2.2.c) (.bool p2.2.tm) (.bool p2.2.bs) p2.1 (S q2.2.k) (S q2.2.s) (S q2.2.n) (I q2.2.ver) (S q2.2.c) (.bool q2.2.tm) (.bool q2.2.bs) q2.1 h1 h2 h3 g1 g2 g3 W
  rw [join_g, join_g] at h
  exact h
theorem sortDels_ok {E : Env} {T : TypeId} {v : Value} {l : Hp} (ds : List PD) (hw : ∀ d ∈ ds, wfK d.key ∧ (cellsD d).all Value.oneCell' = true) (hr : RowB T 21 v l ds.length (ds.flatMap cellsD)) (hsz : ds.length ≤ 1000000) (R : Hp) :
    CallsH Tryz.prog E 126 [v, .func (.func 127) #[] #[]] (l ++ R) fun u H' =>
      u = .tuple #[] ∧ ∃ (l' : Hp) (ds' : List PD), H' = l' ++ R ∧ ds'.Perm ds ∧ (ds'.Pairwise fun x y => lessK y.key x.key = false) ∧ RowB T 21 v l' ds'.length (ds'.flatMap cellsD) := by
  obtain ⟨es, rfl⟩ := up_el ElD.d (p := fun d => wfK d.key ∧ (cellsD d).all Value.oneCell' = true) (fun b hb => ⟨⟨b, hb.1, hb.2⟩, rfl⟩) ds hw
  rw [List.length_map] at hr hsz
  have hfm : ∀ es : List ElD, (es.map ElD.d).flatMap cellsD = es.flatMap encD := fun es => by rw [List.flatMap_map]; rfl
  rw [hfm] at hr
  have eg : ∀ args w, (callFunc 127 args).run Tryz.prog w = .ok (.enter 127 args) w := enters_of Tryz.func127 (by kernel_rfl) rfl
  intro hid w hh
  refine (sort_ok Tryz.sortDelta Tryz.isAgg82 Tryz.sizeOf82 (enc := encD) (fun x => cellsD_len x.d) (fun x u hu => List.all_eq_true.1 x.fl u hu) cfD cfD_swo 127 eg orderE_ok es hr (by omega) R hid w hh).mono ?_
  rintro e w' ⟨u, H', h1, h2, h3, l', es', h4, h5, h6, h7⟩
  refine ⟨u, H', h1, h2, h3, l', es'.map ElD.d, h4, h5.map _, ?_, ?_⟩
  · rw [List.pairwise_map]
    exact h6.imp fun h => by rwa [cfD_lt] at h
  · rw [List.length_map, hfm]
    exact h7
end Srg
end Go.Proofs.YtdakeicfhbggeaaGreat
