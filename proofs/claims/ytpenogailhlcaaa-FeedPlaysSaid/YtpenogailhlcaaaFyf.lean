/- The landed feed in the own heap: its map of each key's last event; Drop, Cover, Tell; conditions: at most 1,000 events. -/
import Derived.Test.YtpenogailhlcaaaFye
namespace Go.Proofs.Ytpenogailhlcaaa
namespace Fdt
open Go Go.RowKit Sx
attribute [local irreducible] Go.Calls

instance : TyMapT Try.prog 47 35 3 := ⟨by kernel_rfl⟩
def encKt (k : Kt) : Value := K3 k
theorem same3 (a b c : Nm) : Instr.sameBits 10000 (.agg #[S a, S b, S c]) (.agg #[S a, S b, S c]) = true := by
  show Instr.sameBits (9999 + 1) _ _ = true
  simp [Instr.sameBits, MapKept.bytes_beq]
instance : KeyK Try.prog 35 encKt := keyK_struct (ds := [.string, .string, .string]) (fun k : Kt => [S k.1, S k.2.1, S k.2.2]) (fun _ => rfl) key_eq (fun k => same3 k.1 k.2.1 k.2.2)
/-- A map in the own heap, or none. -/
def MapL (mo : Option Nat) (es : List (En Kt)) (c : Nat) (l : Hp) : Prop := (mo = none ∧ es = [] ∧ c = 0 ∧ l = []) ∨ ∃ b, mo = some b ∧ l = [(b, mapO encKt es c)]
/-- Of each key the last event. -/
structure LastM (f : Fd) (X : List (En Kt)) (c : Nat) : Prop where
  kd : (X.map (·.1)).Nodup
  bd : (X.map (·.2.2)).Nodup
  bl : ∀ x ∈ X, x.2.2 < c
  val : ∀ x ∈ X, ∃ (i : Nat) (e : Kt × Int), x.2.1 = I i ∧ lastB f i f.es.length = true ∧ f.es[i]? = some e ∧ e.1 = x.1
  all : ∀ i, i < f.es.length → lastB f i f.es.length = true → ∃ x ∈ X, x.2.1 = I i
theorem last_keys {f f2 : Fd} (h : f2.es.map (·.1) = f.es.map (·.1)) (i n : Nat) : lastB f2 i n = lastB f i n := by
  have hi : (f2.es[i]?).map (·.1) = (f.es[i]?).map (·.1) := by rw [← List.getElem?_map, ← List.getElem?_map, h]
  have hd : ((f2.es.take n).drop (i + 1)).map (·.1) = ((f.es.take n).drop (i + 1)).map (·.1) := by rw [List.map_drop, List.map_take, h, List.map_drop, List.map_take]
  have key : ∀ (l m : List (Kt × Int)) (k : Kt), l.map (·.1) = m.map (·.1) → (l.all fun x => decide (x.1 ≠ k)) = m.all fun x => decide (x.1 ≠ k) := fun l m k e => by
    have e1 : ∀ l : List (Kt × Int), (l.all fun x => decide (x.1 ≠ k)) = (l.map (·.1)).all fun x => decide (x ≠ k) := fun l => by rw [List.all_map]; rfl
    rw [e1, e1, e]
  unfold lastB
  cases h1 : f2.es[i]? with
  | none =>
    cases h2 : f.es[i]? with
    | none => rfl
    | some e => rw [h1, h2] at hi; cases hi
  | some e =>
    cases h2 : f.es[i]? with
    | none => rw [h1, h2] at hi; cases hi
    | some e2 =>
      rw [h1, h2] at hi
      have he : e.1 = e2.1 := Option.some.inj hi
      simp only
      rw [he]
      exact key _ _ _ hd
theorem LastM.keys {f f2 : Fd} {X : List (En Kt)} {c : Nat} (h : LastM f X c) (hk : f2.es.map (·.1) = f.es.map (·.1)) : LastM f2 X c := by
  have hl : f2.es.length = f.es.length := by have := congrArg List.length hk; rwa [List.length_map, List.length_map] at this
  refine ⟨h.kd, h.bd, h.bl, fun x hx => ?_, fun i hi hla => ?_⟩
  · obtain ⟨i, e, h1, h2, h3, h4⟩ := h.val x hx
    obtain ⟨e2, he2⟩ := getP (l := f2.es) (i := i) (by rw [hl]; exact (List.getElem?_eq_some_iff.1 h3).1)
    refine ⟨i, e2, h1, by rw [hl, last_keys hk]; exact h2, he2, ?_⟩
    have hi : (f2.es[i]?).map (·.1) = (f.es[i]?).map (·.1) := by rw [← List.getElem?_map, ← List.getElem?_map, hk]
    rw [he2, h3] at hi
    exact (Option.some.inj hi).trans h4
  · rw [hl, last_keys hk] at hla
    exact h.all i (by omega) hla
/-- The landed feed in the own heap. -/
def LFs (f : Fd) (g : Nat) (l : Hp) : Prop :=
  ∃ v mo X c lE lM, l = (g, .cells #[v, .map mo, I f.cov] 49 (0, 0)) :: (lE ++ lM) ∧ RowB 56 2 v lE (rowE f).length ((rowE f).flatMap cellsB) ∧ MapL mo X c lM ∧ LastM f X c
theorem LFs.new {g : Nat} : LFs .new g [(g, .cells #[.slice none 0 0, .map none, I 0] 49 (0, 0))] :=
  ⟨_, none, [], 0, [], [], rfl, RowB.nil, .inl ⟨rfl, rfl, rfl, rfl⟩, ⟨List.nodup_nil, List.nodup_nil, (fun _ h => by cases h), (fun _ h => by cases h), fun i hi => absurd hi (Nat.not_lt_zero i)⟩⟩
theorem fAt_of {n : Nat} {w0 w : World} {H R1 lE : Hp} {g : Nat} {f : Fd} {v : Value} {mo : Option Nat} (h : RepH ⟨w0.heap.size, w0, n⟩ H w) (hb : Has H g (.cells #[v, .map mo, I f.cov] 49 (0, 0)))
    (hE : RowB 56 2 v lE (rowE f).length ((rowE f).flatMap cellsB)) (c1 : Cut H lE R1) : FAt w g f v := by
  have hg := (h.has hb).2
  have hg2 : w.heap[g]? = some (.cells (List.toArray [v, .map mo, I f.cov]) 49 (0, 0)) := hg
  exact ⟨(Array.getElem?_eq_some_iff.1 hg).1, by rw [cell_of hg2]; rfl, by rw [cell_of hg2]; rfl, h.oldr hE c1⟩
theorem rowF_set {e : TypeId} {f : Fd} {g cap i : Nat} {cs : List Value} {k : Kt} {s v : Int} (hcap : (rowE f).length ≤ cap) (hlen : cs.length = cap * 2) (ht : cs.take ((rowE f).length * 2) = (rowE f).flatMap cellsB) (hx : f.es[i]? = some (k, s)) :
    RowB e 2 (.slice (some ⟨g, 0, none⟩) f.es.length cap) [(g, .cells (cs.set (0 + (i : Int).toNat * 2 + 1) (I v)).toArray e (0, 0))] (rowE (setF f i v)).length ((rowE (setF f i v)).flatMap cellsB) := by
  rw [rowE_len, setF_len, rowE_set hx, flatB_set _ _ _ _ _ (rowE_at hx), Int.toNat_natCast, Nat.zero_add]
  have hl : ((rowE f).flatMap cellsB).length = (rowE f).length * 2 := by rw [← ht, List.length_take, hlen]; omega
  rw [rowE_len] at hcap hl ht
  refine ⟨by rw [List.length_set, hl], .inr ⟨g, cap, _, rfl, rfl, hcap, by rw [List.size_toArray, List.length_set]; exact hlen, ?_⟩⟩
  rw [List.take_set, ht]
/-- What a call on it leaves. -/
def LDs (g : Nat) (x : Int × Fd) (R : Hp) (u : Value) (H' : Hp) : Prop := u = I x.1 ∧ ∃ l', H' = l' ++ R ∧ LFs x.2 g l'

set_option maxHeartbeats 16000000 in
theorem drop_ok {m : Nat} {w0 : World} {g : Nat} {f : Fd} {l : Hp} (h : LFs f g l) (hl : f.es.length ≤ 1000) (z : Int) (R : Hp) :
    CallsH Try.prog ⟨w0.heap.size, w0, m⟩ 22 [.pointer (some ⟨g, 0, none⟩), I z] (l ++ R) (LDs g (dropF f z) R) := by
  obtain ⟨v, mo, X, c, lE, lM, rfl, hE, hM, hX⟩ := h
  rw [List.cons_append, List.append_assoc]
  refine callsH1p (args := [.pointer (some ⟨g, 0, none⟩), I z]) Try.func22 rfl rfl rfl rfl ?_
  have same : ∀ er : Int, LDs g (er, f) R (I er) ((g, .cells #[v, .map mo, I f.cov] 49 (0, 0)) :: (lE ++ (lM ++ R))) := fun er => ⟨rfl, _, by rw [← List.append_assoc, ← List.cons_append], _, _, X, c, lE, lM, rfl, hE, hM, hX⟩
  have hf := fun w' (h : FAt w' g f v) (h0 : ¬ inF f z) => has_f h h0
  have ht := fun w' (h : FAt w' g f v) (h0 : inF f z) => has_t h h0
  rcases drop_cases f z with ⟨he, h0⟩ | hr
  · rw [he]
    repeat' (first | refine aw_seq ?_ | ((first | apply ao_val | apply aq_val); exact wants_a; (first | exact ov_nilcheck rfl | exact ov_a); (exact rfl)) | refine zy ?_ | refine zon fun _ => ?_ | refine zoa fun vr lr hr => ?_ | ((first | apply ao_call | apply aq_call); exact wants_a; (first | exact oc_func rfl | exact oc_clos rfl rfl | exact oc_bnd rfl rfl); (exact rfl); (first | exact fun w hw => hf w (fAt_of hw has_a hE cut_a) h0)) | refine zoS (fun _ => ?_) (fun _ => ?_) | refine zqS (fun _ => ?_) (fun _ => ?_) | refine zwS (fun _ => ?_) (fun _ => ?_))
    exact ⟨_, _, hsub_a, List.Perm.refl _, same 1⟩
  · have hin0 : inF f z := by rcases hr with h | h <;> exact h.1
    have hin := hin0
    unfold inF at hin
    obtain ⟨i, rfl⟩ : ∃ i : Nat, z = i := ⟨z.toNat, by omega⟩
    rw [Int.toNat_natCast] at hr
    have hi : i < f.es.length := by omega
    obtain ⟨⟨k, is⟩, he⟩ := getP hi
    obtain ⟨gE, capE, csE, hsl, rfl, hcap, hlen, htk, hcell⟩ := openB cellsB_len hE (by rw [rowE_len]; omega)
    rw [rowE_len] at hsl
    subst hsl
    have cI : csE[0 + (i : Int).toNat * 2 + 1]? = some (I is) := hcell i _ (i : Int) 1 _ (rowE_at he) rfl rfl
    have hst := fun w' (h : FAt w' g f (.slice (some ⟨gE, 0, none⟩) f.es.length capE)) => st_ok h hl i hi
    have hob := opB_at he
    have hset := fun v => rowF_set (e := 56) (g := gE) (v := v) hcap hlen htk he
    generalize stB f i = sB at hst hob
    rcases hr with ⟨-, ho, hd⟩ | ⟨-, ho, hd⟩
    · rw [hd]
      by_cases h0 : is = 0
      · subst h0
        rw [ho, decide_eq_true rfl, Bool.true_and] at hob
        have hsB : sB = true := by cases sB <;> first | rfl | cases hob
        subst hsB
        repeat' (first | refine aw_seq ?_ | ((first | apply ao_val | apply aq_val); exact wants_a; (first | exact ov_nilcheck rfl | exact ov_a); (exact rfl)) | refine zy ?_ | refine zon fun _ => ?_ | refine zoa fun vr lr hr => ?_ | ((first | apply ao_call | apply aq_call); exact wants_a; (first | exact oc_func rfl | exact oc_clos rfl rfl | exact oc_bnd rfl rfl); (exact rfl); (first | exact fun w hw => ht w (fAt_of hw has_a hE cut_a) hin0 | exact fun w hw => hst w (fAt_of hw has_a hE cut_a))) | refine zoS (fun _ => ?_) (fun _ => ?_) | refine zqS (fun _ => ?_) (fun _ => ?_) | refine zwS (fun _ => ?_) (fun _ => ?_))
        exact ⟨_, _, hsub_a, List.Perm.refl _, same 6⟩
      · have e0 : (is != 0) = true := bne_iff_ne.2 h0
        cases sB
        · repeat' (first | refine aw_seq ?_ | ((first | apply ao_val | apply aq_val); exact wants_a; (first | exact ov_nilcheck rfl | exact ov_a); (exact rfl)) | refine zy ?_ | refine zon fun _ => ?_ | refine zoa fun vr lr hr => ?_ | ((first | apply ao_call | apply aq_call); exact wants_a; (first | exact oc_func rfl | exact oc_clos rfl rfl | exact oc_bnd rfl rfl); (exact rfl); (first | exact fun w hw => ht w (fAt_of hw has_a hE cut_a) hin0 | exact fun w hw => hst w (fAt_of hw has_a hE cut_a))) | refine zoS (fun _ => ?_) (fun _ => ?_) | refine zqS (fun _ => ?_) (fun _ => ?_) | refine zwS (fun _ => ?_) (fun _ => ?_))
          exact ⟨_, _, hsub_a, List.Perm.refl _, same 6⟩
        · repeat' (first | refine aw_seq ?_ | ((first | apply ao_val | apply aq_val); exact wants_a; (first | exact ov_nilcheck rfl | exact ov_a); (exact rfl)) | refine zy ?_ | refine zon fun _ => ?_ | refine zoa fun vr lr hr => ?_ | ((first | apply ao_call | apply aq_call); exact wants_a; (first | exact oc_func rfl | exact oc_clos rfl rfl | exact oc_bnd rfl rfl); (exact rfl); (first | exact fun w hw => ht w (fAt_of hw has_a hE cut_a) hin0 | exact fun w hw => hst w (fAt_of hw has_a hE cut_a))) | refine zoS (fun _ => ?_) (fun _ => ?_) | refine zqS (fun _ => ?_) (fun _ => ?_) | refine zwS (fun _ => ?_) (fun _ => ?_))
          exact ⟨_, _, hsub_a, List.Perm.refl _, same 6⟩
    · rw [hd]
      rw [ho] at hob
      have h0 : is = 0 := by
        by_cases h0 : is = 0
        · exact h0
        · rw [decide_eq_false h0, Bool.false_and] at hob; cases hob
      subst h0
      have hsB : sB = false := by cases sB <;> first | rfl | cases hob
      subst hsB
      have hlt : 0 + (i : Int).toNat * 2 + 1 < csE.length := (List.getElem?_eq_some_iff.1 cI).1
      repeat' (first | refine aw_seq ?_ | ((first | apply ao_val | apply aq_val); exact wants_a; (first | exact ov_nilcheck rfl | exact ov_a); (exact rfl)) | refine zy ?_ | refine zon fun _ => ?_ | refine zoa fun vr lr hr => ?_ | ((first | apply ao_call | apply aq_call); exact wants_a; (first | exact oc_func rfl | exact oc_clos rfl rfl | exact oc_bnd rfl rfl); (exact rfl); (first | exact fun w hw => ht w (fAt_of hw has_a hE cut_a) hin0 | exact fun w hw => hst w (fAt_of hw has_a hE cut_a))) | refine zoS (fun _ => ?_) (fun _ => ?_) | refine zqS (fun _ => ?_) (fun _ => ?_) | refine zwS (fun _ => ?_) (fun _ => ?_))
      exact ⟨_, _, hsub_a, List.Perm.refl _, rfl, (g, .cells #[.slice (some ⟨gE, 0, none⟩) f.es.length capE, .map mo, I f.cov] 49 (0, 0)) :: ([(gE, .cells (csE.set (0 + (i : Int).toNat * 2 + 1) (I 2)).toArray 56 (0, 0))] ++ lM), rfl, _, mo, X, c, _, lM, rfl, hset 2, hM, hX.keys (setF_kmap f i 2)⟩
set_option maxHeartbeats 16000000 in
theorem tell_ok {m : Nat} {w0 : World} {g : Nat} {f : Fd} {l : Hp} (h : LFs f g l) (hl : f.es.length ≤ 1000) (htn : Turn f) (z : Int) (R : Hp) :
    CallsH Try.prog ⟨w0.heap.size, w0, m⟩ 21 [.pointer (some ⟨g, 0, none⟩), I z] (l ++ R) (LDs g (tellF f z) R) := by
  obtain ⟨v, mo, X, c, lE, lM, rfl, hE, hM, hX⟩ := h
  rw [List.cons_append, List.append_assoc]
  refine callsH1p (args := [.pointer (some ⟨g, 0, none⟩), I z]) Try.func21 rfl rfl rfl rfl ?_
  have same : ∀ er : Int, LDs g (er, f) R (I er) ((g, .cells #[v, .map mo, I f.cov] 49 (0, 0)) :: (lE ++ (lM ++ R))) := fun er => ⟨rfl, _, by rw [← List.append_assoc, ← List.cons_append], _, _, X, c, lE, lM, rfl, hE, hM, hX⟩
  have hf := fun w' (h : FAt w' g f v) (h0 : ¬ inF f z) => has_f h h0
  have ht := fun w' (h : FAt w' g f v) (h0 : inF f z) => has_t h h0
  rcases tell_cases f z with ⟨he, h0⟩ | ⟨e, hin0, he, hr⟩
  · rw [he]
    repeat' (first | refine aw_seq ?_ | ((first | apply ao_val | apply aq_val); exact wants_a; (first | exact ov_nilcheck rfl | exact ov_a); (exact rfl)) | refine zy ?_ | refine zon fun _ => ?_ | refine zoa fun vr lr hr => ?_ | ((first | apply ao_call | apply aq_call); exact wants_a; (first | exact oc_func rfl | exact oc_clos rfl rfl | exact oc_bnd rfl rfl); (exact rfl); (first | exact fun w hw => hf w (fAt_of hw has_a hE cut_a) h0)) | refine zoS (fun _ => ?_) (fun _ => ?_) | refine zqS (fun _ => ?_) (fun _ => ?_) | refine zwS (fun _ => ?_) (fun _ => ?_))
    exact ⟨_, _, hsub_a, List.Perm.refl _, same 1⟩
  · have hin := hin0
    unfold inF at hin
    obtain ⟨i, rfl⟩ : ∃ i : Nat, z = i := ⟨z.toNat, by omega⟩
    rw [Int.toNat_natCast] at hr he
    have hi : i < f.es.length := by omega
    obtain ⟨k, is⟩ := e
    simp only at hr
    obtain ⟨gE, capE, csE, hsl, rfl, hcap, hlen, htk, hcell⟩ := openB cellsB_len hE (by rw [rowE_len]; omega)
    rw [rowE_len] at hsl
    subst hsl
    have cI : csE[0 + (i : Int).toNat * 2 + 1]? = some (I is) := hcell i _ (i : Int) 1 _ (rowE_at he) rfl rfl
    have hset := fun v => rowF_set (e := 56) (g := gE) (v := v) hcap hlen htk he
    have her := fun w' (h : FAt w' g f (.slice (some ⟨gE, 0, none⟩) f.es.length capE)) => early_ok h hl htn he
    rcases hr with ⟨h2, hr⟩ | ⟨h2, hb, hr⟩ | ⟨h2, hb, hr⟩
    · subst h2
      rw [hr]
      repeat' (first | refine aw_seq ?_ | ((first | apply ao_val | apply aq_val); exact wants_a; (first | exact ov_nilcheck rfl | exact ov_a); (exact rfl)) | refine zy ?_ | refine zon fun _ => ?_ | refine zoa fun vr lr hr => ?_ | ((first | apply ao_call | apply aq_call); exact wants_a; (first | exact oc_func rfl | exact oc_clos rfl rfl | exact oc_bnd rfl rfl); (exact rfl); (first | exact fun w hw => ht w (fAt_of hw has_a hE cut_a) hin0)) | refine zoS (fun _ => ?_) (fun _ => ?_) | refine zqS (fun _ => ?_) (fun _ => ?_) | refine zwS (fun _ => ?_) (fun _ => ?_))
      exact ⟨_, _, hsub_a, List.Perm.refl _, same 6⟩
    · have e2 : (is == 2) = false := beq_eq_false_iff_ne.2 h2
      rw [hb] at her
      rw [hr]
      repeat' (first | refine aw_seq ?_ | ((first | apply ao_val | apply aq_val); exact wants_a; (first | exact ov_nilcheck rfl | exact ov_a); (exact rfl)) | refine zy ?_ | refine zon fun _ => ?_ | refine zoa fun vr lr hr => ?_ | ((first | apply ao_call | apply aq_call); exact wants_a; (first | exact oc_func rfl | exact oc_clos rfl rfl | exact oc_bnd rfl rfl); (exact rfl); (first | exact fun w hw => ht w (fAt_of hw has_a hE cut_a) hin0 | exact fun w hw => her w (fAt_of hw has_a hE cut_a))) | refine zoS (fun _ => ?_) (fun _ => ?_) | refine zqS (fun _ => ?_) (fun _ => ?_) | refine zwS (fun _ => ?_) (fun _ => ?_))
      exact ⟨_, _, hsub_a, List.Perm.refl _, same 7⟩
    · have e2 : (is == 2) = false := beq_eq_false_iff_ne.2 h2
      rw [hb] at her
      rw [hr]
      have hlt : 0 + (i : Int).toNat * 2 + 1 < csE.length := (List.getElem?_eq_some_iff.1 cI).1
      repeat' (first | refine aw_seq ?_ | ((first | apply ao_val | apply aq_val); exact wants_a; (first | exact ov_nilcheck rfl | exact ov_a); (exact rfl)) | refine zy ?_ | refine zon fun _ => ?_ | refine zoa fun vr lr hr => ?_ | ((first | apply ao_call | apply aq_call); exact wants_a; (first | exact oc_func rfl | exact oc_clos rfl rfl | exact oc_bnd rfl rfl); (exact rfl); (first | exact fun w hw => ht w (fAt_of hw has_a hE cut_a) hin0 | exact fun w hw => her w (fAt_of hw has_a hE cut_a))) | refine zoS (fun _ => ?_) (fun _ => ?_) | refine zqS (fun _ => ?_) (fun _ => ?_) | refine zwS (fun _ => ?_) (fun _ => ?_))
      exact ⟨_, _, hsub_a, List.Perm.refl _, rfl, (g, .cells #[.slice (some ⟨gE, 0, none⟩) f.es.length capE, .map mo, I f.cov] 49 (0, 0)) :: ([(gE, .cells (csE.set (0 + (i : Int).toNat * 2 + 1) (I 1)).toArray 56 (0, 0))] ++ lM), rfl, _, mo, X, c, _, lM, rfl, hset 1, hM, hX.keys (setF_kmap f i 1)⟩
set_option maxHeartbeats 16000000 in
theorem cover_ok {m : Nat} {w0 : World} {g : Nat} {f : Fd} {l : Hp} (h : LFs f g l) (z : Int) (R : Hp) :
    CallsH Try.prog ⟨w0.heap.size, w0, m⟩ 19 [.pointer (some ⟨g, 0, none⟩), I z] (l ++ R) (LDs g (coverF f z) R) := by
  obtain ⟨v, mo, X, c, lE, lM, rfl, hE, hM, hX⟩ := h
  obtain ⟨aE, cE, hsl⟩ := hE.len
  rw [rowE_len] at hsl
  subst hsl
  rw [List.cons_append, List.append_assoc]
  refine callsH1p (args := [.pointer (some ⟨g, 0, none⟩), I z]) Try.func19 rfl rfl rfl rfl ?_
  have same : ∀ er : Int, LDs g (er, f) R (I er) ((g, .cells #[.slice aE f.es.length cE, .map mo, I f.cov] 49 (0, 0)) :: (lE ++ (lM ++ R))) := fun er => ⟨rfl, _, by rw [← List.append_assoc, ← List.cons_append], _, _, X, c, lE, lM, rfl, hE, hM, hX⟩
  unfold coverF
  by_cases h0 : z < 0
  · rw [if_pos (.inl h0)]
    repeat' (first | refine aw_seq ?_ | ((first | apply ao_val | apply aq_val); exact wants_a; (first | exact ov_nilcheck rfl | exact ov_peqs rfl rfl | exact ov_a); (exact rfl)) | refine zy ?_ | refine zon fun _ => ?_ | refine zoa fun vr lr hr => ?_ | refine zoS (fun _ => ?_) (fun _ => ?_) | refine zqS (fun _ => ?_) (fun _ => ?_) | refine zwS (fun _ => ?_) (fun _ => ?_))
    exact ⟨_, _, hsub_a, List.Perm.refl _, same 1⟩
  by_cases h1 : (f.es.length : Int) < z
  · rw [if_pos (.inr h1)]
    repeat' (first | refine aw_seq ?_ | ((first | apply ao_val | apply aq_val); exact wants_a; (first | exact ov_nilcheck rfl | exact ov_peqs rfl rfl | exact ov_a); (exact rfl)) | refine zy ?_ | refine zon fun _ => ?_ | refine zoa fun vr lr hr => ?_ | refine zoS (fun _ => ?_) (fun _ => ?_) | refine zqS (fun _ => ?_) (fun _ => ?_) | refine zwS (fun _ => ?_) (fun _ => ?_))
    exact ⟨_, _, hsub_a, List.Perm.refl _, same 1⟩
  rw [if_neg (by omega)]
  by_cases h2 : z < f.cov
  · rw [if_pos h2]
    repeat' (first | refine aw_seq ?_ | ((first | apply ao_val | apply aq_val); exact wants_a; (first | exact ov_nilcheck rfl | exact ov_peqs rfl rfl | exact ov_a); (exact rfl)) | refine zy ?_ | refine zon fun _ => ?_ | refine zoa fun vr lr hr => ?_ | refine zoS (fun _ => ?_) (fun _ => ?_) | refine zqS (fun _ => ?_) (fun _ => ?_) | refine zwS (fun _ => ?_) (fun _ => ?_))
    exact ⟨_, _, hsub_a, List.Perm.refl _, same 6⟩
  · rw [if_neg h2]
    repeat' (first | refine aw_seq ?_ | ((first | apply ao_val | apply aq_val); exact wants_a; (first | exact ov_nilcheck rfl | exact ov_peqs rfl rfl | exact ov_a); (exact rfl)) | refine zy ?_ | refine zon fun _ => ?_ | refine zoa fun vr lr hr => ?_ | refine zoS (fun _ => ?_) (fun _ => ?_) | refine zqS (fun _ => ?_) (fun _ => ?_) | refine zwS (fun _ => ?_) (fun _ => ?_))
    exact ⟨_, _, hsub_a, List.Perm.refl _, rfl, (g, .cells #[.slice aE f.es.length cE, .map mo, I z] 49 (0, 0)) :: (lE ++ lM), by rw [List.cons_append, List.append_assoc], _, mo, X, c, lE, lM, rfl, hE, hM, hX.keys rfl⟩
end Fdt
end Go.Proofs.Ytpenogailhlcaaa
