/- The landed feed in the own heap: Settled, Grow; conditions: at most 1,000 events. -/
import Derived.Test.YtpenogailhlcaaaFyf
namespace Go.Proofs.Ytpenogailhlcaaa
namespace Fdt
open Go Go.RowKit Sx
attribute [local irreducible] Go.Calls

theorem nodup_inj {α β : Type} {f : α → β} : ∀ {l : List α}, (l.map f).Nodup → ∀ {x y : α}, x ∈ l → y ∈ l → f x = f y → x = y
  | a :: l, h, x, y, hx, hy, e => by
    rw [List.map_cons, List.nodup_cons] at h
    rcases List.mem_cons.1 hx with hx1 | hx <;> rcases List.mem_cons.1 hy with hy1 | hy
    · rw [hx1, hy1]
    · exact absurd (List.mem_map.2 ⟨y, hy, by rw [← e, hx1]⟩) h.1
    · exact absurd (List.mem_map.2 ⟨x, hx, by rw [e, hy1]⟩) h.1
    · exact nodup_inj h.2 hx hy e
theorem I_inj {i j : Nat} (h : I (i : Int) = I (j : Int)) : i = j := by
  simp only [I, Value.int.injEq, true_and] at h
  omega
theorem setK_in {k : Kt} {u : Value} {x : En Kt} : ∀ {es : List (En Kt)}, x ∈ es → x.1 ≠ k → x ∈ setK k u es
  | y :: es, h, hk => by
    unfold setK
    rcases List.mem_cons.1 h with rfl | h
    · rw [if_neg fun e => hk e.symm]; exact List.mem_cons_self
    · split
      · exact List.mem_cons_of_mem _ h
      · exact List.mem_cons_of_mem _ (setK_in h hk)
theorem setK_new {k : Kt} {u : Value} : ∀ {es : List (En Kt)}, (∃ x ∈ es, x.1 = k) → ∃ b, (k, u, b) ∈ setK k u es
  | [], h => by obtain ⟨x, hx, -⟩ := h; cases hx
  | y :: es, h => by
    unfold setK
    by_cases e : k = y.1
    · rw [if_pos e]; exact ⟨_, List.mem_cons_self⟩
    · rw [if_neg e]
      obtain ⟨x, hx, hk⟩ := h
      rcases List.mem_cons.1 hx with rfl | hx
      · exact absurd hk.symm e
      · obtain ⟨b, hb⟩ := setK_new (u := u) ⟨x, hx, hk⟩
        exact ⟨b, List.mem_cons_of_mem _ hb⟩
theorem setK_cases {k : Kt} {u : Value} {x : En Kt} : ∀ {es : List (En Kt)}, (es.map (·.1)).Nodup → x ∈ setK k u es → (x.1 = k ∧ x.2.1 = u) ∨ (x ∈ es ∧ x.1 ≠ k)
  | [], _, h => by cases h
  | y :: es, hn, h => by
    rw [List.map_cons, List.nodup_cons] at hn
    unfold setK at h
    by_cases e : k = y.1
    · rw [if_pos e] at h
      rcases List.mem_cons.1 h with rfl | h
      · exact .inl ⟨rfl, rfl⟩
      · exact .inr ⟨List.mem_cons_of_mem _ h, fun e2 => hn.1 (List.mem_map.2 ⟨x, h, e2.trans e⟩)⟩
    · rw [if_neg e] at h
      rcases List.mem_cons.1 h with rfl | h
      · exact .inr ⟨List.mem_cons_self, fun e2 => e e2.symm⟩
      · rcases setK_cases hn.2 h with h1 | ⟨h1, h2⟩
        · exact .inl h1
        · exact .inr ⟨List.mem_cons_of_mem _ h1, h2⟩
theorem last_grow {f : Fd} {k : Kt} {i : Nat} {e : Kt × Int} (he : f.es[i]? = some e) : lastB (growF f k) i (f.es.length + 1) = (lastB f i f.es.length && decide (k ≠ e.1)) := by
  have hi := (List.getElem?_eq_some_iff.1 he).1
  have h1 : (growF f k).es[i]? = some e := by rw [grow_at hi, he]
  rw [last_s h1 (by omega) (grow_new f k)]
  congr 1
  unfold lastB
  rw [h1, he]
  simp only
  rw [show (growF f k).es.take f.es.length = f.es.take f.es.length by unfold growF; rw [List.take_append_of_le_length (Nat.le_refl _)]]
theorem LastM.put {f : Fd} {X : List (En Kt)} {c : Nat} (h : LastM f X c) (k : Kt) : ∃ X' c', LastM (growF f k) X' c' ∧
    ∀ {E : Env} {t : Tm} {H : Hp} {x y z : Operand} {ty : TypeId} {b : Nat}, ev t x = some (.map (some b)) → ev t y = some (K3 k) → ev t z = some (I f.es.length) → MapAt E H encKt b X c →
      OpW Try.prog E (.mapUpdate 47 x y z) ty t H b (mapO encKt X' c') .skip := by
  have old : ∀ x ∈ X, x.1 ≠ k → ∃ (i : Nat) (e : Kt × Int), x.2.1 = I i ∧ lastB (growF f k) i (growF f k).es.length = true ∧ (growF f k).es[i]? = some e ∧ e.1 = x.1 := fun x hx hk => by
    obtain ⟨i, e, h1, h2, h3, h4⟩ := h.val x hx
    have hi := (List.getElem?_eq_some_iff.1 h3).1
    refine ⟨i, e, h1, ?_, by rw [grow_at hi, h3], h4⟩
    rw [grow_len, last_grow h3, h2, Bool.true_and]
    exact decide_eq_true fun e1 => hk (h4.symm.trans e1.symm)
  have new : ∃ e : Kt × Int, lastB (growF f k) f.es.length (growF f k).es.length = true ∧ (growF f k).es[f.es.length]? = some e ∧ e.1 = k := ⟨_, by rw [grow_len]; exact last_0 _ _ (grow_new f k), grow_new f k, rfl⟩
  have back : ∀ i, i < (growF f k).es.length → lastB (growF f k) i (growF f k).es.length = true → i = f.es.length ∨ ∃ x ∈ X, x.2.1 = I i ∧ x.1 ≠ k := fun i hi hla => by
    rw [grow_len] at hi hla
    by_cases e1 : i = f.es.length
    · exact .inl e1
    · obtain ⟨e, he⟩ := getP (show i < f.es.length by omega)
      rw [last_grow he, Bool.and_eq_true, decide_eq_true_eq] at hla
      obtain ⟨x, hx, hv⟩ := h.all i (by omega) hla.1
      obtain ⟨j, e2, h1, h2, h3, h4⟩ := h.val x hx
      obtain rfl := I_inj (hv.symm.trans h1)
      rw [he] at h3
      cases h3
      exact .inr ⟨x, hx, hv, fun e3 => hla.2 (e3.symm.trans h4.symm)⟩
  cases hf : fndK k X 0 with
  | none =>
    have hno := fndK_none.1 hf
    refine ⟨X ++ [(k, I f.es.length, c)], c + 1, ⟨?_, ?_, fun x hx => ?_, fun x hx => ?_, fun i hi hla => ?_⟩, fun hx hy hz hb => ow_mput (P := Try.prog) (mt := 47) (kt := 35) (et := 3) (enc := encKt) (k := k) hx hy hz hb hf⟩
    · rw [List.map_append]
      refine List.nodup_append.2 ⟨h.kd, by simp, fun a ha b hb e => ?_⟩
      obtain ⟨x, hx, rfl⟩ := List.mem_map.1 ha
      rw [List.map_singleton, List.mem_singleton] at hb
      exact hno x hx (e.trans hb)
    · rw [List.map_append]
      refine List.nodup_append.2 ⟨h.bd, by simp, fun a ha b hb e => ?_⟩
      obtain ⟨x, hx, rfl⟩ := List.mem_map.1 ha
      have := h.bl x hx
      rw [List.map_singleton, List.mem_singleton] at hb
      simp only at *
      omega
    · rcases List.mem_append.1 hx with hx | hx
      · have := h.bl x hx; omega
      · rw [List.mem_singleton.1 hx]; exact Nat.lt_succ_self _
    · rcases List.mem_append.1 hx with hx | hx
      · exact old x hx (hno x hx)
      · rw [List.mem_singleton.1 hx]
        obtain ⟨e, h1, h2, h3⟩ := new
        exact ⟨_, e, rfl, h1, h2, h3⟩
    · rcases back i hi hla with rfl | ⟨x, hx, hv, -⟩
      · exact ⟨_, List.mem_append_right _ List.mem_cons_self, rfl⟩
      · exact ⟨x, List.mem_append_left _ hx, hv⟩
  | some q =>
    obtain ⟨j, u⟩ := q
    obtain ⟨-, bo, hj⟩ := fndK_some hf
    refine ⟨setK k (I f.es.length) X, c, ⟨by rw [setK_keys]; exact h.kd, by rw [setK_born]; exact h.bd, fun x hx => ?_, fun x hx => ?_, fun i hi hla => ?_⟩, fun hx hy hz hb => ow_mset (P := Try.prog) (mt := 47) (kt := 35) (et := 3) (enc := encKt) (k := k) hx hy hz hb hf⟩
    · have hm : x.2.2 ∈ (setK k (I f.es.length) X).map (·.2.2) := List.mem_map.2 ⟨x, hx, rfl⟩
      rw [setK_born] at hm
      obtain ⟨y, hy, e⟩ := List.mem_map.1 hm
      rw [← e]
      exact h.bl y hy
    · rcases setK_cases h.kd hx with ⟨h1, h2⟩ | ⟨h1, h2⟩
      · obtain ⟨e, g1, g2, g3⟩ := new
        exact ⟨_, e, h2, g1, g2, g3.trans h1.symm⟩
      · exact old x h1 h2
    · rcases back i hi hla with rfl | ⟨x, hx, hv, hk⟩
      · obtain ⟨b, hb⟩ := setK_new (u := I f.es.length) ⟨_, List.mem_of_getElem? hj, rfl⟩
        exact ⟨_, hb, rfl⟩
      · exact ⟨x, setK_in hx hk, hv⟩
/-- Its map, as a world has it. -/
structure MpAt (w : World) (g : Nat) (f : Fd) (mo : Option Nat) (X : List (En Kt)) (c : Nat) : Prop where
  c1 : w.cell? ⟨g, 1, none⟩ = some (.map mo)
  ho : ∀ b, mo = some b → b < w.heap.size ∧ w.heap[b]? = some (mapO encKt X c)
  no : mo = none → X = [] ∧ c = 0
  lm : LastM f X c
theorem MpAt.map {w : World} {g : Nat} {f : Fd} {mo : Option Nat} {X : List (En Kt)} {c : Nat} (h : MpAt w g f mo X c) {n : Nat} {H : Hp} : MapOf ⟨w.heap.size, w, n⟩ H encKt mo X c := by
  cases mo with
  | none => exact h.no rfl
  | some b => exact mapAt_old (h.ho b rfl).2 (h.ho b rfl).1
set_option maxHeartbeats 16000000 in
theorem done_ok {w : World} {g : Nat} {f : Fd} {v : Value} {mo : Option Nat} {X : List (En Kt)} {c : Nat} (h : FAt w g f v) (hm : MpAt w g f mo X c) (hl : f.es.length ≤ 1000) :
    Calls Try.prog 17 #[.pointer (some ⟨g, 0, none⟩)] w fun e w' => e = .returned (.bool (settledF f)) ∧ Below w.heap.size w w' := by
  have hst := fun w' (hb : Below w.heap.size w w') i hi => st_ok (h.below hb) hl i hi
  have lt := h.lt
  have c1 := hm.c1
  have hmap := fun {n : Nat} {H : Hp} => hm.map (n := n) (H := H)
  refine calls1 (args := [.pointer (some ⟨g, 0, none⟩)]) Try.func17 rfl rfl rfl rfl ?_
  repeat' (first | refine aw_seq ?_ | ((first | apply ao_val | apply aq_val); exact wants_a; (first | exact ov_nilcheck rfl | exact ov_peqs rfl rfl | exact ov_a); (exact rfl)) | refine zy ?_ | refine zon fun _ => ?_ | refine zoa fun vr lr hr => ?_ | (apply ao_new; exact wants_a; exact on_mrangeO rfl hmap; exact rfl; intro bi) | refine zoS (fun _ => ?_) (fun _ => ?_) | refine zqS (fun _ => ?_) (fun _ => ?_) | refine zwS (fun _ => ?_) (fun _ => ?_))
  refine aw_for (t0 := [(0, .pointer (some ⟨g, 0, none⟩)), (11, .pointer (some ⟨_, 0, none⟩))]) (fun q t H => ∃ (bi : Nat) (seen : Array Nat), q = (X.filter fun y => !seen.contains y.2.2).length ∧ (∀ x ∈ X, x.2.2 ∈ seen → ∃ i : Nat, x.2.1 = I i ∧ stB f i = true) ∧
    t = [(0, .pointer (some ⟨g, 0, none⟩)), (11, .pointer (some ⟨bi, 0, none⟩))] ∧ H = [(bi, .mapIter mo c seen c)]) ⟨_, _, rfl, (fun x _ h => by simp at h), rfl, rfl⟩ (by repeat (first | exact sub_nil | refine sub_cons rfl ?_)) ?_
  rintro q t H ⟨bi, seen, rfl, hs, rfl, rfl⟩
  repeat' (first | refine aw_seq ?_ | refine zz ?_ | refine zon fun _ => ?_ | refine zoa fun vr lr hr => ?_ | (apply ao_mnextO; exact wants_a; exact rfl; exact cut_a; exact hmap; exact hm.lm.bl; exact Nat.le_refl _; exact rfl; intro hall; rotate_left; intro y hy hns; rotate_left) | refine zoS (fun _ => ?_) (fun _ => ?_) | refine zqS (fun _ => ?_) (fun _ => ?_) | refine zwS (fun _ => ?_) (fun _ => ?_))
  · have hF : settledF f = true := by
      unfold settledF doneF
      rw [List.all_eq_true]
      intro i hi
      have hi2 := List.mem_range.1 hi
      cases hla : lastB f i f.es.length
      · rfl
      · obtain ⟨x, hx, hv⟩ := hm.lm.all i hi2 hla
        obtain ⟨j, hj, hsj⟩ := hs x hx (hall x hx)
        rw [I_inj (hv.symm.trans hj), hsj]
        rfl
    repeat' (first | refine aw_seq ?_ | refine zz ?_ | refine zon fun _ => ?_ | refine zoa fun vr lr hr => ?_ | refine zoS (fun _ => ?_) (fun _ => ?_) | refine zqS (fun _ => ?_) (fun _ => ?_) | refine zwS (fun _ => ?_) (fun _ => ?_))
    exact fun w' hw => ⟨by rw [hF], hw.below⟩
  · obtain ⟨i, e, hv, hla, he, hek⟩ := hm.lm.val y hy
    have hi := (List.getElem?_eq_some_iff.1 he).1
    have hsi := fun w' hw => hst w' hw i hi
    obtain ⟨yk, yv, yb⟩ := y
    simp only at hv hns hek
    subst hv
    cases hsb : stB f i
    · have hF : settledF f = false := done_false hi hla hsb
      rw [hsb] at hsi
      repeat' (first | refine aw_seq ?_ | ((first | apply ao_val | apply aq_val); exact wants_a; (first | exact ov_entryO rfl has_a hmap hm.lm.bd hy | exact ov_a); (exact rfl)) | refine zy ?_ | refine zon fun _ => ?_ | refine zoa fun vr lr hr => ?_ | ((first | apply ao_call | apply aq_call); exact wants_a; (first | exact oc_func rfl | exact oc_clos rfl rfl | exact oc_bnd rfl rfl); (exact rfl); (first | exact fun w hw => hsi w hw.below)) | refine zoS (fun _ => ?_) (fun _ => ?_) | refine zqS (fun _ => ?_) (fun _ => ?_) | refine zwS (fun _ => ?_) (fun _ => ?_))
      exact fun w' hw => ⟨by rw [hF], hw.below⟩
    · rw [hsb] at hsi
      repeat' (first | refine aw_seq ?_ | ((first | apply ao_val | apply aq_val); exact wants_a; (first | exact ov_entryO rfl has_a hmap hm.lm.bd hy | exact ov_a); (exact rfl)) | refine zy ?_ | refine zon fun _ => ?_ | refine zoa fun vr lr hr => ?_ | ((first | apply ao_call | apply aq_call); exact wants_a; (first | exact oc_func rfl | exact oc_clos rfl rfl | exact oc_bnd rfl rfl); (exact rfl); (first | exact fun w hw => hsi w hw.below)) | refine zoS (fun _ => ?_) (fun _ => ?_) | refine zqS (fun _ => ?_) (fun _ => ?_) | refine zwS (fun _ => ?_) (fun _ => ?_))
      exact lq_normal' ⟨bi, _, rfl, fun x hx hx2 => by
        rcases Array.mem_push.1 hx2 with h1 | h1
        · exact hs x hx h1
        · obtain rfl := nodup_inj hm.lm.bd hx hy h1
          exact ⟨i, rfl, hsb⟩, rfl, rfl⟩ (left_less (fun y : En Kt => y.2.2) hy hns) (by repeat (first | exact sub_nil | refine sub_cons rfl ?_)) hsub_a
theorem last_of {f : Fd} {j : Nat} {k : Kt} (hk : (keysF f)[j]? = some k) (hno : ∀ m, j < m → m < f.es.length → (keysF f)[m]? ≠ some k) : lastB f j f.es.length = true := by
  obtain ⟨s, hs⟩ := keysF_some hk
  unfold lastB
  rw [hs]
  simp only
  rw [List.all_eq_true]
  intro x hx
  obtain ⟨q, hq⟩ := List.getElem?_of_mem hx
  rw [List.getElem?_drop] at hq
  have hlt : j + 1 + q < f.es.length := by
    have := (List.getElem?_eq_some_iff.1 hq).1
    rwa [List.length_take, Nat.min_self] at this
  rw [List.getElem?_take_of_lt hlt] at hq
  refine decide_eq_true fun e => hno (j + 1 + q) (by omega) hlt ?_
  rw [← e]
  exact keysF_at (k := x.1) (s := x.2) hq
theorem last_no {f : Fd} {i j : Nat} {k : Kt} (hi : (keysF f)[i]? = some k) (h : lastB f i f.es.length = true) (hij : i < j) (hj : (keysF f)[j]? = some k) : False := by
  obtain ⟨s, hs⟩ := keysF_some hi
  obtain ⟨s2, hs2⟩ := keysF_some hj
  have hjl := (List.getElem?_eq_some_iff.1 hs2).1
  unfold lastB at h
  rw [hs] at h
  simp only at h
  rw [List.all_eq_true] at h
  have hm : (k, s2) ∈ (f.es.take f.es.length).drop (i + 1) := by
    refine List.mem_of_getElem? (i := j - (i + 1)) ?_
    rw [List.getElem?_drop, show i + 1 + (j - (i + 1)) = j by omega, List.getElem?_take_of_lt hjl, hs2]
  exact of_decide_eq_true (h _ hm) rfl
/-- What the map has of a key: the nearest one. -/
theorem LastM.get {f : Fd} {X : List (En Kt)} {c : Nat} (h : LastM f X c) (k : Kt) : ∃ (p : Int) (is : Bool), ((is = false ∧ p = 0 ∧ prevK (keysF f) k f.es.length = -1) ∨ (is = true ∧ prevK (keysF f) k f.es.length = p)) ∧
    ∀ {E : Env} {t : Tm} {H : Hp} {x y : Operand} {ty : TypeId} {b : Nat}, ev t x = some (.map (some b)) → ev t y = some (K3 k) → MapAt E H encKt b X c → OpV Try.prog E (.lookup 47 x y true) ty t H (.tuple #[I p, .bool is]) := by
  cases hf : fndK k X 0 with
  | none =>
    have hno := fndK_none.1 hf
    refine ⟨0, false, .inl ⟨rfl, rfl, ?_⟩, fun hx hy hb => ov_mget0 (P := Try.prog) (mt := 47) (kt := 35) (et := 3) (enc := encKt) (k := k) (z := I 0) true hx hy hb hf⟩
    rcases prev_spec (keysF f) k f.es.length with ⟨e, -⟩ | ⟨j, h1, -, h3, h4⟩
    · exact e
    · obtain ⟨x, hx, hv⟩ := h.all j h1 (last_of h3 h4)
      obtain ⟨i, e, e1, -, e3, e4⟩ := h.val x hx
      obtain rfl := I_inj (hv.symm.trans e1)
      obtain ⟨s, hs⟩ := keysF_some h3
      rw [hs] at e3
      cases e3
      exact absurd e4.symm (hno x hx)
  | some q =>
    obtain ⟨n, u⟩ := q
    obtain ⟨-, bo, hj⟩ := fndK_some hf
    obtain ⟨i, e, e1, e2, e3, e4⟩ := h.val _ (List.mem_of_getElem? hj)
    simp only at e1 e4
    subst e1
    have hk : (keysF f)[i]? = some k := by rw [keysF_at (k := e.1) (s := e.2) e3, e4]
    refine ⟨i, true, .inr ⟨rfl, ?_⟩, fun hx hy hb => ov_mget (P := Try.prog) (mt := 47) (kt := 35) (et := 3) (enc := encKt) (k := k) true hx hy hb hf⟩
    have hil := (List.getElem?_eq_some_iff.1 e3).1
    rcases prev_spec (keysF f) k f.es.length with ⟨-, h2⟩ | ⟨j, h1, h2, h3, h4⟩
    · exact absurd hk (h2 i hil)
    · rw [h2]
      by_cases hij : i < j
      · exact (last_no hk e2 hij h3).elim
      by_cases hji : j < i
      · exact absurd hk (h4 i hji hil)
      · rw [show i = j by omega]
theorem growE {v : Value} {l : Hp} {f : Fd} {k : Kt} {e : TypeId} {p : Int} (hp : prevK (keysF f) k f.es.length = p) (h : RowB e 2 v l (f.es.length + 1) ((rowE f).flatMap cellsB ++ [I p, I 0])) : RowB e 2 v l (rowE (growF f k)).length ((rowE (growF f k)).flatMap cellsB) := by
  rw [rowE_grow, List.length_append, List.flatMap_append, hp, rowE_len]
  exact h
theorem perm_w {x y : Nat × Obj} {l R : Hp} : (l ++ (x :: y :: R)).Perm (x :: (l ++ [y]) ++ R) := by classical exact List.perm_iff_count.2 fun z => by simp only [List.count_append, List.count_cons, List.count_nil]; omega
set_option maxHeartbeats 32000000 in
theorem grow_ok {m : Nat} {w0 : World} {g : Nat} {f : Fd} {l : Hp} (h : LFs f g l) (hl : f.es.length ≤ 1000) (k : Kt) (R : Hp) :
    CallsH Try.prog ⟨w0.heap.size, w0, m⟩ 20 [.pointer (some ⟨g, 0, none⟩), K3 k] (l ++ R) fun u H' => u = .tuple #[] ∧ ∃ l', H' = l' ++ R ∧ LFs (growF f k) g l' := by
  obtain ⟨v, mo, X, c, lE, lM, rfl, hE, hM, hX⟩ := h
  obtain ⟨aE, cE, hsl⟩ := hE.len
  rw [rowE_len] at hsl
  subst hsl
  have hfl := flatB_flat (rowE f)
  rw [rowE_len] at hE
  rw [List.cons_append, List.append_assoc]
  refine callsH0p (args := [.pointer (some ⟨g, 0, none⟩), K3 k]) Try.func20 rfl rfl rfl rfl ?_
  obtain ⟨X', c', hX', q2⟩ := hX.put k
  obtain ⟨p, is, hpi, q1⟩ := hX.get k
  repeat' (first | refine aw_cutI_at (id := 4) (fun t H => ∃ b3 b, t = [(0, .pointer (some ⟨g, 0, none⟩)), (3, .pointer (some ⟨b3, 0, none⟩))] ∧ H.Perm ((b3, .cells #[S k.1, S k.2.1, S k.2.2] 35 (0, 0)) :: (g, .cells #[.slice aE f.es.length cE, .map (some b), I f.cov] 49 (0, 0)) :: (b, mapO encKt X c) :: (lE ++ R))) ?_ ?_ | refine aw_cutI_at2 (id := 4) (fun t H => ∃ b3 b, t = [(0, .pointer (some ⟨g, 0, none⟩)), (3, .pointer (some ⟨b3, 0, none⟩))] ∧ H.Perm ((b3, .cells #[S k.1, S k.2.1, S k.2.2] 35 (0, 0)) :: (g, .cells #[.slice aE f.es.length cE, .map (some b), I f.cov] 49 (0, 0)) :: (b, mapO encKt X c) :: (lE ++ R))) ?_ ?_ | refine aw_seq ?_ | ((first | apply ao_val | apply aq_val); exact wants_a; (first | exact ov_nilcheck rfl | exact ov_peqs rfl rfl | exact ov_a); (exact rfl)) | refine zy ?_ | refine zon fun _ => ?_ | refine zoa fun vr lr hr => ?_)
  · rcases hM with ⟨rfl, hX0, rfl, rfl⟩ | ⟨b, rfl, rfl⟩
    · rw [hX0]
      repeat' (first | refine aw_seq ?_ | ((first | apply ao_val | apply aq_val); exact wants_a; (first | exact ov_nilcheck rfl | exact ov_meq0 rfl rfl | exact ov_a); (exact rfl)) | refine zy ?_ | refine zon fun _ => ?_ | refine zoa fun vr lr hr => ?_ | (apply ao_new; exact wants_a; exact on_makeMap; exact rfl; intro bm) | refine zoS (fun _ => ?_) (fun _ => ?_) | refine zqS (fun _ => ?_) (fun _ => ?_) | refine zwS (fun _ => ?_) (fun _ => ?_))
      rename_i bm
      exact ci_normal ⟨_, bm, rfl, (List.perm_middle (l₁ := [_, _])).symm⟩ (by repeat (first | exact sub_nil | refine sub_cons rfl ?_)) (List.Sublist.refl _)
    · repeat' (first | refine aw_seq ?_ | ((first | apply ao_val | apply aq_val); exact wants_a; (first | exact ov_nilcheck rfl | exact ov_meqs rfl rfl | exact ov_a); (exact rfl)) | refine zy ?_ | refine zon fun _ => ?_ | refine zoa fun vr lr hr => ?_ | refine zoS (fun _ => ?_) (fun _ => ?_) | refine zqS (fun _ => ?_) (fun _ => ?_) | refine zwS (fun _ => ?_) (fun _ => ?_))
      exact ci_normal ⟨_, b, rfl, .cons _ (.cons _ List.perm_middle)⟩ (by repeat (first | exact sub_nil | refine sub_cons rfl ?_)) (List.Sublist.refl _)
  rintro t H ⟨b3, b, rfl, hp⟩
  refine aw_permH hp ?_
  clear hp
  rcases hpi with ⟨rfl, rfl, hpv⟩ | ⟨rfl, hpv⟩
  · repeat' (first | (apply ao_nilh; exact hsub_a) | apply ao_nil | apply aq_nil | apply ah_end | ((first | apply ao_val | apply aq_val | (apply ah_take; (exact rfl))); exact wants_a; (first | exact ov_nilcheck rfl | exact q1 rfl rfl (mapAt_has has_a) | exact ov_a); (exact rfl)) | ((first | apply ao_skip | apply aq_skip | (apply ah_skip; (exact rfl))); exact nots_a; (exact rfl)) | (refine ao_is ?_; first | (apply ao_new; exact wants_a; exact on_a; (exact rfl); intro _) | (apply ao_store; exact wants_a; exact ow_a; exact upd_a) | (apply ao_valw; exact wants_a; exact ox_a; (exact rfl); exact upd_a) | (apply ao_skip0; exact nots_a) | (apply ao_append; exact wants_a; (exact rfl); assumption; (exact rfl); exact cut_a; exact has_a; (exact rfl); (exact rfl); omega; omega; omega; (exact rfl); intro vr lr hr)) | ((apply ao_store; exact wants_a; (exact q2 rfl rfl rfl (mapAt_has has_a)); exact upd_a)) | (apply ah_one; (exact rfl)) | (apply ah_two; (exact rfl); (exact rfl)) | (apply ah_three; (exact rfl); (exact rfl); (exact rfl)) | (refine aw_is ?_; first | (apply aw_held (id := 4) (pl := (.t 0 (.t 1 (.t 2 (.t 3 (.t 4 (.o 5 (.t 6 (.t 7 (.t 8 (.t 9 (.t 10 .e)))))))))))); (kernel_rfl); (kernel_rfl); (kernel_rfl); (solve | (exact List.Sublist.refl _))) | (apply aw_held (id := 7) (pl := (.t 0 (.t 1 (.t 2 (.t 3 (.t 4 (.t 5 (.t 6 (.t 7 (.t 8 (.o 9 (.o 10 .e)))))))))))); (kernel_rfl); (kernel_rfl); (kernel_rfl); (solve | (apply hs_keep; apply hs_keep; apply hs_skip; exact List.Sublist.refl _))) | refine aw_seq ?_ | refine aw_block ?_ | refine aw_region ?_ | refine aw_skip ?_ | refine aw_exit ?_ | refine aw_ret ?_ | refine aw_label ?_ | refine aw_scope ?_ | refine aw_cond_t rfl (by with_reducible rfl) ?_ | refine aw_cond_f rfl (by with_reducible rfl) ?_ | refine aw_draw (by kernel_rfl) (by kernel_rfl) ?_) | (first | (refine ah_is ?_; (fail_if_success first | refine ah_glit (b := true) rfl rfl rfl (by with_reducible rfl) ?_ | refine ah_glit (b := false) rfl rfl rfl (by with_reducible rfl) ?_); apply ah_gt; (exact rfl); (exact rfl); (exact rfl); exact t_a) | ((refine ao_is ?_; (fail_if_success first | refine ao_glit (b := true) rfl rfl (by with_reducible rfl) ?_ | refine ao_glit (b := false) rfl rfl (by with_reducible rfl) ?_)); apply ao_gt; (exact rfl); (exact rfl); exact t_a) | ((refine aq_is ?_; (fail_if_success first | refine aq_glit (b := true) rfl rfl (by with_reducible rfl) ?_ | refine aq_glit (b := false) rfl rfl (by with_reducible rfl) ?_)); apply aq_gt; (exact rfl); (exact rfl); exact t_a) | (apply aw_ct; (exact rfl); exact t_a)) | (first | (refine ah_is ?_; (fail_if_success first | refine ah_glit (b := true) rfl rfl rfl (by with_reducible rfl) ?_ | refine ah_glit (b := false) rfl rfl rfl (by with_reducible rfl) ?_); apply ah_gf; (exact rfl); (exact rfl); (exact rfl); exact f_a) | ((refine ao_is ?_; (fail_if_success first | refine ao_glit (b := true) rfl rfl (by with_reducible rfl) ?_ | refine ao_glit (b := false) rfl rfl (by with_reducible rfl) ?_)); apply ao_gf; (exact rfl); (exact rfl); exact f_a) | ((refine aq_is ?_; (fail_if_success first | refine aq_glit (b := true) rfl rfl (by with_reducible rfl) ?_ | refine aq_glit (b := false) rfl rfl (by with_reducible rfl) ?_)); apply aq_gf; (exact rfl); (exact rfl); exact f_a) | (apply aw_cf; (exact rfl); exact f_a)) | refine at_normal ?_ | refine at_exit ?_ | refine at_ret ?_ | refine ib_normal ?_ | refine ib_exit ?_ | refine ib_other ?_ | refine ib_ret ?_ | refine lq_exit ?_ | refine lq_ret ?_ | refine ci_ret ?_ | refine ci_exit ?_ | refine r1_ret rfl ?_ | refine r1_normal rfl ?_ | refine r2_ret rfl rfl ?_ | refine r2_normal rfl rfl ?_ | refine r3_ret rfl rfl rfl ?_ | refine r3_normal rfl rfl rfl ?_ | refine ng_normal ?_ | refine ng_exit ?_ | refine ng_ret ?_ | (apply rt_ret; (exact rfl); (exact rfl); (exact rfl); exact has_a; exact has_a; (exact rfl); (exact rfl)) | (apply rc1_ret; (exact rfl); exact has_a; (exact rfl)) | (apply rc2_ret; (exact rfl); exact has_a; (exact rfl); (exact rfl)) | (refine ao_is ?_; (fail_if_success first | refine ao_glit (b := true) rfl rfl (by with_reducible rfl) ?_ | refine ao_glit (b := false) rfl rfl (by with_reducible rfl) ?_); refine ao_gbool rfl rfl (fun _ => ?_) (fun _ => ?_)) | (refine aq_is ?_; (fail_if_success first | refine aq_glit (b := true) rfl rfl (by with_reducible rfl) ?_ | refine aq_glit (b := false) rfl rfl (by with_reducible rfl) ?_); refine aq_gbool rfl rfl (fun _ => ?_) (fun _ => ?_)) | (refine aw_is ?_; refine aw_cond rfl (fun _ => ?_) (fun _ => ?_)))
    revert vr lr hr
    intro v1 l1 hrow
    obtain ⟨x1, y1, hx1⟩ := hrow.len
    subst hx1
    repeat' (first | refine aw_seq ?_ | ((first | apply ao_val | apply aq_val); exact wants_a; (first | exact ov_nilcheck rfl | exact ov_a); (exact rfl)) | refine zy ?_ | refine zon fun _ => ?_ | refine zoa fun vr lr hr => ?_ | refine zoS (fun _ => ?_) (fun _ => ?_) | refine zqS (fun _ => ?_) (fun _ => ?_) | refine zwS (fun _ => ?_) (fun _ => ?_))
    exact ⟨l1 ++ ((g, .cells #[.slice x1 (f.es.length + 1) y1, .map (some b), I f.cov] 49 (0, 0)) :: (b, mapO encKt X' c') :: R), _, hsub_a, perm_w, _, rfl, _, _, X', c', _, [(b, mapO encKt X' c')], rfl, growE hpv hrow, .inr ⟨b, rfl, rfl⟩, hX'⟩
  · repeat' (first | (apply ao_nilh; exact hsub_a) | apply ao_nil | apply aq_nil | apply ah_end | ((first | apply ao_val | apply aq_val | (apply ah_take; (exact rfl))); exact wants_a; (first | exact ov_nilcheck rfl | exact q1 rfl rfl (mapAt_has has_a) | exact ov_a); (exact rfl)) | ((first | apply ao_skip | apply aq_skip | (apply ah_skip; (exact rfl))); exact nots_a; (exact rfl)) | (refine ao_is ?_; first | (apply ao_new; exact wants_a; exact on_a; (exact rfl); intro _) | (apply ao_store; exact wants_a; exact ow_a; exact upd_a) | (apply ao_valw; exact wants_a; exact ox_a; (exact rfl); exact upd_a) | (apply ao_skip0; exact nots_a) | (apply ao_append; exact wants_a; (exact rfl); assumption; (exact rfl); exact cut_a; exact has_a; (exact rfl); (exact rfl); omega; omega; omega; (exact rfl); intro vr lr hr)) | ((apply ao_store; exact wants_a; (exact q2 rfl rfl rfl (mapAt_has has_a)); exact upd_a)) | (apply ah_one; (exact rfl)) | (apply ah_two; (exact rfl); (exact rfl)) | (apply ah_three; (exact rfl); (exact rfl); (exact rfl)) | (refine aw_is ?_; first | (apply aw_held (id := 4) (pl := (.t 0 (.t 1 (.t 2 (.t 3 (.t 4 (.o 5 (.t 6 (.t 7 (.t 8 (.t 9 (.t 10 .e)))))))))))); (kernel_rfl); (kernel_rfl); (kernel_rfl); (solve | (exact List.Sublist.refl _))) | (apply aw_held (id := 7) (pl := (.t 0 (.t 1 (.t 2 (.t 3 (.t 4 (.t 5 (.t 6 (.t 7 (.t 8 (.o 9 (.o 10 .e)))))))))))); (kernel_rfl); (kernel_rfl); (kernel_rfl); (solve | (apply hs_keep; apply hs_keep; apply hs_skip; exact List.Sublist.refl _))) | refine aw_seq ?_ | refine aw_block ?_ | refine aw_region ?_ | refine aw_skip ?_ | refine aw_exit ?_ | refine aw_ret ?_ | refine aw_label ?_ | refine aw_scope ?_ | refine aw_cond_t rfl (by with_reducible rfl) ?_ | refine aw_cond_f rfl (by with_reducible rfl) ?_ | refine aw_draw (by kernel_rfl) (by kernel_rfl) ?_) | (first | (refine ah_is ?_; (fail_if_success first | refine ah_glit (b := true) rfl rfl rfl (by with_reducible rfl) ?_ | refine ah_glit (b := false) rfl rfl rfl (by with_reducible rfl) ?_); apply ah_gt; (exact rfl); (exact rfl); (exact rfl); exact t_a) | ((refine ao_is ?_; (fail_if_success first | refine ao_glit (b := true) rfl rfl (by with_reducible rfl) ?_ | refine ao_glit (b := false) rfl rfl (by with_reducible rfl) ?_)); apply ao_gt; (exact rfl); (exact rfl); exact t_a) | ((refine aq_is ?_; (fail_if_success first | refine aq_glit (b := true) rfl rfl (by with_reducible rfl) ?_ | refine aq_glit (b := false) rfl rfl (by with_reducible rfl) ?_)); apply aq_gt; (exact rfl); (exact rfl); exact t_a) | (apply aw_ct; (exact rfl); exact t_a)) | (first | (refine ah_is ?_; (fail_if_success first | refine ah_glit (b := true) rfl rfl rfl (by with_reducible rfl) ?_ | refine ah_glit (b := false) rfl rfl rfl (by with_reducible rfl) ?_); apply ah_gf; (exact rfl); (exact rfl); (exact rfl); exact f_a) | ((refine ao_is ?_; (fail_if_success first | refine ao_glit (b := true) rfl rfl (by with_reducible rfl) ?_ | refine ao_glit (b := false) rfl rfl (by with_reducible rfl) ?_)); apply ao_gf; (exact rfl); (exact rfl); exact f_a) | ((refine aq_is ?_; (fail_if_success first | refine aq_glit (b := true) rfl rfl (by with_reducible rfl) ?_ | refine aq_glit (b := false) rfl rfl (by with_reducible rfl) ?_)); apply aq_gf; (exact rfl); (exact rfl); exact f_a) | (apply aw_cf; (exact rfl); exact f_a)) | refine at_normal ?_ | refine at_exit ?_ | refine at_ret ?_ | refine ib_normal ?_ | refine ib_exit ?_ | refine ib_other ?_ | refine ib_ret ?_ | refine lq_exit ?_ | refine lq_ret ?_ | refine ci_ret ?_ | refine ci_exit ?_ | refine r1_ret rfl ?_ | refine r1_normal rfl ?_ | refine r2_ret rfl rfl ?_ | refine r2_normal rfl rfl ?_ | refine r3_ret rfl rfl rfl ?_ | refine r3_normal rfl rfl rfl ?_ | refine ng_normal ?_ | refine ng_exit ?_ | refine ng_ret ?_ | (apply rt_ret; (exact rfl); (exact rfl); (exact rfl); exact has_a; exact has_a; (exact rfl); (exact rfl)) | (apply rc1_ret; (exact rfl); exact has_a; (exact rfl)) | (apply rc2_ret; (exact rfl); exact has_a; (exact rfl); (exact rfl)) | (refine ao_is ?_; (fail_if_success first | refine ao_glit (b := true) rfl rfl (by with_reducible rfl) ?_ | refine ao_glit (b := false) rfl rfl (by with_reducible rfl) ?_); refine ao_gbool rfl rfl (fun _ => ?_) (fun _ => ?_)) | (refine aq_is ?_; (fail_if_success first | refine aq_glit (b := true) rfl rfl (by with_reducible rfl) ?_ | refine aq_glit (b := false) rfl rfl (by with_reducible rfl) ?_); refine aq_gbool rfl rfl (fun _ => ?_) (fun _ => ?_)) | (refine aw_is ?_; refine aw_cond rfl (fun _ => ?_) (fun _ => ?_)))
    revert vr lr hr
    intro v1 l1 hrow
    obtain ⟨x1, y1, hx1⟩ := hrow.len
    subst hx1
    repeat' (first | refine aw_seq ?_ | ((first | apply ao_val | apply aq_val); exact wants_a; (first | exact ov_nilcheck rfl | exact ov_a); (exact rfl)) | refine zy ?_ | refine zon fun _ => ?_ | refine zoa fun vr lr hr => ?_ | refine zoS (fun _ => ?_) (fun _ => ?_) | refine zqS (fun _ => ?_) (fun _ => ?_) | refine zwS (fun _ => ?_) (fun _ => ?_))
    exact ⟨l1 ++ ((g, .cells #[.slice x1 (f.es.length + 1) y1, .map (some b), I f.cov] 49 (0, 0)) :: (b, mapO encKt X' c') :: R), _, hsub_a, perm_w, _, rfl, _, _, X', c', _, [(b, mapO encKt X' c')], rfl, growE hpv hrow, .inr ⟨b, rfl, rfl⟩, hX'⟩
end Fdt
end Go.Proofs.Ytpenogailhlcaaa
