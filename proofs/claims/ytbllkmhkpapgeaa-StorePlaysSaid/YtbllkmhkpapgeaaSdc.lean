/- The landed store: where it lies, what its map tells; conditions: none. -/
import Derived.Test.YtbllkmhkpapgeaaCdj
import Derived.Test.YtbllkmhkpapgeaaCdc
import Derived.Test.YtbllkmhkpapgeaaEvz
import Derived.Test.YtbllkmhkpapgeaaStf
/- Sda: The landed store: where it lies, what its map tells; conditions: none. -/
namespace Go.Proofs.Ytbllkmhkpapgeaa
namespace Stm
open Go Go.RowKit Sx Lab Vec Ojt Evt Chm
attribute [local irreducible] Go.Calls

instance : TyPtr Try.prog 25 67 := ⟨by kernel_rfl⟩
/-- A map of objects as a world has it. -/
structure MAt (w : World) (os : List Ob) (mo : Option Nat) (X : List (PO × Nat)) (co : Nat) : Prop where
  ho : ∀ b, mo = some b → b < w.heap.size ∧ w.heap[b]? = some (mapO encKt (X.map enO) co)
  no : mo = none → X = [] ∧ co = 0
  res : ∀ x ∈ X, ResAt w x.1.1 x.1.2.rs
  lx : LX ⟨os, [], 0⟩ X co [] 0
section
variable {w : World} {os : List Ob} {mo : Option Nat} {X : List (PO × Nat)} {co : Nat}
theorem MAt.below {w' : World} (h : MAt w os mo X co) (hb : Below w.heap.size w w') : MAt w' os mo X co :=
  ⟨fun b e => ⟨Nat.lt_of_lt_of_le (h.ho b e).1 hb.size, by rw [hb.block b (h.ho b e).1]; exact (h.ho b e).2⟩, h.no, fun x hx => (h.res x hx).below hb, h.lx⟩
theorem MAt.look (h : MAt w os mo X co) (ho : Own os) (k : Kt) : ∃ v : Value, ResAt w v (getB (getO os k)).1.rs ∧
    ∀ {n : Nat} {t : Tm} {H : Hp} {x y : Operand} {ty : TypeId} (ok : Bool), ev t x = some (.map mo) → ev t y = some (K3 k) →
      OpV Try.prog ⟨w.heap.size, w, n⟩ (.lookup 65 x y ok) ty t H (if ok then .tuple #[OV (getB (getO os k)).1 v, .bool (getB (getO os k)).2] else OV (getB (getO os k)).1 v) := by
  rcases fnd_o h.lx ho k with ⟨h1, h2⟩ | ⟨x, hx, h1, i, h2⟩
  · replace h1 : getO os k = none := h1
    refine ⟨.slice none 0 0, by rw [h1]; exact OldRow.nil, ?_⟩
    intro n t H x y ty ok hx hy
    rw [h1]
    cases mo with
    | none => exact ov_mgetn (enc := encKt) (k := k) ok hx hy
    | some b => exact ov_mget0 (enc := encKt) (k := k) ok hx hy (mapAt_old (h.ho b rfl).2 (h.ho b rfl).1) h2
  · replace h1 : getO os k = some x.1.2 := h1
    refine ⟨x.1.1, by rw [h1]; exact h.res x hx, ?_⟩
    intro n t H x2 y ty ok hx2 hy
    rw [h1]
    cases mo with
    | none => rw [(h.no rfl).1] at hx; cases hx
    | some b => exact ov_mget (enc := encKt) (k := k) ok hx2 hy (mapAt_old (h.ho b rfl).2 (h.ho b rfl).1) h2
theorem MAt.map (h : MAt w os mo X co) {n : Nat} {H : Hp} : MapOf ⟨w.heap.size, w, n⟩ H encKt mo (X.map enO) co := by
  cases mo with
  | none => rw [(h.no rfl).1]; exact ⟨rfl, (h.no rfl).2⟩
  | some b => exact mapAt_old (h.ho b rfl).2 (h.ho b rfl).1
end

/-- Such a log as there can be: of what is gone through. -/
structure FitL (lg : List Wr) : Prop where
  wl : WfL lg
  len : lg.length ≤ 1000
  wf : ∀ e ∈ lg, wfS e.2
theorem FitL.nil : FitL [] := ⟨WfL.nil, by simp, fun e h => by cases h⟩
theorem fit_do {lg : List Wr} (h : FitL lg) (hl : lg.length < 1000) (gone : Bool) {o : Ob} (ho : wfS o) : FitL (doL lg gone o).2.2 := by
  refine ⟨do_wf h.wl gone o, by have := do_len lg gone o; omega, fun e he => ?_⟩
  unfold doL at he
  split at he
  · rcases del_cases lg (keyO o) with ⟨-, e1⟩ | ⟨-, -, e1⟩ | ⟨-, -, e1⟩ <;> rw [e1] at he
    · exact h.wf e he
    · exact h.wf e he
    · rcases List.mem_append.1 he with he | he
      · exact h.wf e he
      · rw [List.mem_singleton.1 he]
        exact ⟨ho.1, ho.2.1, ho.2.2.1, by simp [graveO], by simp [graveO, wfR]⟩
  · rcases put_cases lg o with ⟨-, e1⟩ | ⟨-, -, -, e1⟩ | ⟨-, -, e1⟩ <;> rw [e1] at he
    · exact h.wf e he
    · exact h.wf e he
    · rcases List.mem_append.1 he with he | he
      · exact h.wf e he
      · rw [List.mem_singleton.1 he]
        exact ho
theorem osL_from {lg : List Wr} {o : Ob} : o ∈ osL lg → ∃ e ∈ lg, e.2 = o := by
  induction lg using snoc_ind with
  | h0 => exact fun h => by cases h
  | h1 lg e ih =>
    intro h
    rw [osL_snoc] at h
    split at h
    · obtain ⟨x, hx, e1⟩ := ih (woO_mem.1 h).1
      exact ⟨x, List.mem_append_left _ hx, e1⟩
    · rcases wiO_mem.1 h with ⟨h, -⟩ | rfl
      · obtain ⟨x, hx, e1⟩ := ih h
        exact ⟨x, List.mem_append_left _ hx, e1⟩
      · exact ⟨e, List.mem_append_right _ List.mem_cons_self, rfl⟩
theorem FitL.os {lg : List Wr} (h : FitL lg) : ∀ o ∈ osL lg, wfS o := fun o ho => by obtain ⟨e, he, rfl⟩ := osL_from ho; exact h.wf e he
theorem FitL.osl {lg : List Wr} (h : FitL lg) : (osL lg).length ≤ 1000 := by have := (osL_all h.wl).2.2; have := h.len; omega
theorem FitL.own {lg : List Wr} (h : FitL lg) : Own (osL lg) := (osL_all h.wl).1.own

/-- An event of the landed log: its kind, and its object, alone. -/
def bareE (e : PE) : Prop := (e.kind = 0 ∨ e.kind = 1) ∧ e.ver = 0 ∧ e.v = .slice none 0 0 ∧ e.qs = []
/-- The landed store with that log lies at block g, in the part l of the own heap. The map's objects lie where the log's do. -/
def LSt (lg : List Wr) (g : Nat) (l : Hp) : Prop :=
  ∃ (mo : Option Nat) (X : List (PO × Nat)) (co : Nat) (lo l0 ls : Hp) (v : Value) (es : List PE), l = (g, .cells #[.map mo, v] 67 (0, 0)) :: (lo ++ (l0 ++ ls)) ∧ MapL mo (X.map enO) co lo ∧
    RowB 50 11 v l0 es.length (es.flatMap cellsE) ∧ Parts KO ls (es.map (·.p)) ∧ wrs es = lg ∧ (∀ e ∈ es, bareE e) ∧ LX ⟨osL lg, [], 0⟩ X co [] 0 ∧ ∀ x ∈ X, ∃ e ∈ es, e.p = x.1
/-- The landed store as a world has it. -/
structure SAt (w : World) (g : Nat) (lg : List Wr) (mo : Option Nat) (X : List (PO × Nat)) (co : Nat) (v : Value) (es : List PE) : Prop where
  lt : g < w.heap.size
  c0 : w.cell? ⟨g, 0, none⟩ = some (.map mo)
  c1 : w.cell? ⟨g, 1, none⟩ = some v
  mp : MAt w (osL lg) mo X co
  ev : EvsAt w v es
  wr : wrs es = lg
  bare : ∀ e ∈ es, bareE e
theorem SAt.below {w w' : World} {g : Nat} {lg : List Wr} {mo : Option Nat} {X : List (PO × Nat)} {co : Nat} {v : Value} {es : List PE} (h : SAt w g lg mo X co v es) (hb : Below w.heap.size w w') : SAt w' g lg mo X co v es :=
  ⟨Nat.lt_of_lt_of_le h.lt hb.size, (hb.cell h.lt).trans h.c0, (hb.cell h.lt).trans h.c1, h.mp.below hb, h.ev.below hb, h.wr, h.bare⟩
theorem lst_lies {w : World} {lg : List Wr} {g : Nat} {l : Hp} (h : LSt lg g l) (hl : Lies w l) : ∃ mo X co v es, SAt w g lg mo X co v es := by
  obtain ⟨mo, X, co, lo, l0, ls, v, es, rfl, h1, h2, h3, h4, h5, h6, h7⟩ := h
  have hg := hl g _ List.mem_cons_self
  have hg2 : w.heap[g]? = some (.cells (List.toArray [.map mo, v]) 67 (0, 0)) := hg
  have hp : ∀ p ∈ es.map (·.p), ResAt w p.1 p.2.rs := fun p hp => by
    obtain ⟨l, R, hc, hk⟩ := h3.at hp
    refine old_lies (hl.sub fun y hy => ?_) hk
    exact List.mem_cons_of_mem _ (List.mem_append_right _ (List.mem_append_right _ ((List.Perm.mem_iff hc).2 (List.mem_append_left _ hy))))
  refine ⟨mo, X, co, v, es, lies_lt hl List.mem_cons_self, by rw [cell_of hg2]; rfl, by rw [cell_of hg2]; rfl, ⟨fun b e => ?_, fun e => ?_, fun x hx => ?_, h6⟩, ⟨old_lies (hl.sub fun y hy => ?_) h2, fun e he => ⟨hp e.p (List.mem_map.2 ⟨e, he, rfl⟩), ?_⟩⟩, h4, h5⟩
  · rcases h1 with ⟨rfl, -, -, -⟩ | ⟨b2, rfl, rfl⟩
    · cases e
    · cases e
      have hm := hl b (mapO encKt (X.map enO) co) (List.mem_cons_of_mem _ (List.mem_append_left _ List.mem_cons_self))
      exact ⟨(Array.getElem?_eq_some_iff.1 hm).1, hm⟩
  · rcases h1 with ⟨-, h0, h6, -⟩ | ⟨b2, rfl, -⟩
    · exact ⟨List.map_eq_nil_iff.1 h0, h6⟩
    · cases e
  · obtain ⟨e, he, e1⟩ := h7 x hx
    rw [← e1]
    exact hp e.p (List.mem_map.2 ⟨e, he, rfl⟩)
  · exact List.mem_cons_of_mem _ (List.mem_append_right _ (List.mem_append_left _ hy))
  · rw [(h5 e he).2.2.1, (h5 e he).2.2.2]
    exact ⟨OldRow.nil, fun p hp => by cases hp⟩
/-- An event of a log in new memory: its charge, and no objects. -/
def KE (e : PE) (l : Hp) : Prop := ∃ l1 l2, l = l1 ++ l2 ∧ KO e.p l1 ∧ RowB 38 8 e.v l2 0 []
def DLog (lg : List Wr) (v : Value) (l : Hp) : Prop := ∃ (es : List PE) (l0 ls : Hp), wrs es = lg ∧ (∀ e ∈ es, (e.kind = 0 ∨ e.kind = 1) ∧ e.ver = 0 ∧ e.qs = []) ∧ l = l0 ++ ls ∧ RowB 50 11 v l0 es.length (es.flatMap cellsE) ∧ Parts KE ls es
theorem log_at {E : Env} {H R l : Hp} {w : World} {v : Value} {lg : List Wr} (h : RepH E H w) (hd : DLog lg v l) (hc : Cut H l R) : ∃ es, wrs es = lg ∧ (∀ e ∈ es, (e.kind = 0 ∨ e.kind = 1) ∧ e.ver = 0 ∧ e.qs = []) ∧ EvsAt w v es := by
  obtain ⟨es, l0, ls, h1, h2, rfl, h3, h4⟩ := hd
  refine ⟨es, h1, h2, h.oldr h3 hc.fst, fun e he => ?_⟩
  obtain ⟨l, R', hc2, l1, l2, rfl, k1, k2⟩ := h4.at he
  have hc3 := hc.snd.trans hc2
  refine ⟨h.oldr k1 hc3.fst, ?_⟩
  rw [(h2 e he).2.2]
  exact ⟨h.oldr k2 hc3.snd, fun p hp => by cases hp⟩
end Stm
end Go.Proofs.Ytbllkmhkpapgeaa
/- Sdb: The landed store: a new one, none, Get, Version, Snapshot; conditions: names of at most 1,000 bytes, at most 1,000 writes. -/
namespace Go.Proofs.Ytbllkmhkpapgeaa
namespace Stm
open Go Go.RowKit Sx Lab Vec Ojt Evt Chm
attribute [local irreducible] Go.Calls

set_option maxHeartbeats 8000000 in
theorem snew_ok (w : World) : Calls Try.prog 8 #[] w fun e w' => ∃ r, e = .returned r ∧ NewD (fun r l => ∃ g, r = .pointer (some ⟨g, 0, none⟩) ∧ LSt [] g l) w w' r := by
  refine calls1 (args := []) Try.func8 rfl rfl rfl rfl ?_
  repeat' (first | refine aw_seq ?_ | refine zz ?_ | refine zon fun _ => ?_ | refine zoa fun vr lr hr => ?_ | refine zoS (fun _ => ?_) (fun _ => ?_) | refine zqS (fun _ => ?_) (fun _ => ?_) | refine zwS (fun _ => ?_) (fun _ => ?_))
  exact fun w' hw => ⟨_, rfl, hw.toD rfl (l := [(_, .cells #[.map none, .slice none 0 0] 67 (0, 0))]) (R := []) (by unfold Cut; exact List.Perm.refl _) ⟨_, rfl, none, [], 0, [], [], [], _, [], rfl, .inl ⟨rfl, rfl, rfl, rfl⟩, RowB.nil, Parts.nil, rfl, (fun _ h => by cases h), ⟨List.Perm.refl _, List.Perm.refl _, List.nodup_nil, (fun _ h => by cases h), List.nodup_nil, (fun _ h => by cases h), fun _ h => by cases h⟩, fun _ h => by cases h⟩⟩
/-! No store. -/
set_option maxHeartbeats 8000000 in
theorem sput0_ok (o : Ob) (x : Value) (_hwo : wfS o) (w : World) (ho : ResAt w x o.rs) : Calls Try.prog 21 #[.pointer none, OV o x] w fun e w' => e = .returned (.tuple #[I 0, I 1]) ∧ Below w.heap.size w w' := by
  obtain ⟨xa, xc, rfl⟩ := ho.len
  refine calls2 (args := [.pointer none, OV o (.slice xa o.rs.length xc)]) Try.func21 rfl rfl rfl rfl ?_
  repeat' (first | refine aw_seq ?_ | ((first | apply ao_val | apply aq_val); exact wants_a; (first | exact ov_peq0 rfl rfl | exact ov_a); (exact rfl)) | refine zy ?_ | refine zon fun _ => ?_ | refine zoa fun vr lr hr => ?_ | refine zoS (fun _ => ?_) (fun _ => ?_) | refine zqS (fun _ => ?_) (fun _ => ?_) | refine zwS (fun _ => ?_) (fun _ => ?_))
  exact fun w' hw => ⟨rfl, hw.below⟩
set_option maxHeartbeats 8000000 in
theorem sdel0_ok (k : Kt) (w : World) : Calls Try.prog 22 #[.pointer none, K3 k] w fun e w' => e = .returned (.tuple #[I 0, I 1]) ∧ Below w.heap.size w w' := by
  refine calls2 (args := [.pointer none, K3 k]) Try.func22 rfl rfl rfl rfl ?_
  repeat' (first | refine aw_seq ?_ | ((first | apply ao_val | apply aq_val); exact wants_a; (first | exact ov_peq0 rfl rfl | exact ov_a); (exact rfl)) | refine zy ?_ | refine zon fun _ => ?_ | refine zoa fun vr lr hr => ?_ | refine zoS (fun _ => ?_) (fun _ => ?_) | refine zqS (fun _ => ?_) (fun _ => ?_) | refine zwS (fun _ => ?_) (fun _ => ?_))
  exact fun w' hw => ⟨rfl, hw.below⟩
set_option maxHeartbeats 8000000 in
theorem sget0_ok (k : Kt) (w : World) : Calls Try.prog 12 #[.pointer none, K3 k] w fun e w' => e = .returned (.tuple #[OV zO (.slice none 0 0), .bool false]) ∧ Below w.heap.size w w' := by
  refine callsC2 (rt := 38) (args := [.pointer none, K3 k]) Try.func12 rfl rfl rfl rfl ?_
  repeat' (first | refine aw_seq ?_ | ((first | apply ao_val | apply aq_val); exact wants_a; (first | exact ov_peq0 rfl rfl | exact ov_a); (exact rfl)) | refine zy ?_ | refine zon fun _ => ?_ | refine zoa fun vr lr hr => ?_ | refine zoS (fun _ => ?_) (fun _ => ?_) | refine zqS (fun _ => ?_) (fun _ => ?_) | refine zwS (fun _ => ?_) (fun _ => ?_))
  exact fun w' hw => ⟨rfl, hw.below⟩
set_option maxHeartbeats 8000000 in
theorem sver0_ok (w : World) : Calls Try.prog 18 #[.pointer none] w fun e w' => e = .returned (I 0) ∧ Below w.heap.size w w' := by
  refine calls1 (args := [.pointer none]) Try.func18 rfl rfl rfl rfl ?_
  repeat' (first | refine aw_seq ?_ | ((first | apply ao_val | apply aq_val); exact wants_a; (first | exact ov_peq0 rfl rfl | exact ov_a); (exact rfl)) | refine zy ?_ | refine zon fun _ => ?_ | refine zoa fun vr lr hr => ?_ | refine zoS (fun _ => ?_) (fun _ => ?_) | refine zqS (fun _ => ?_) (fun _ => ?_) | refine zwS (fun _ => ?_) (fun _ => ?_))
  exact fun w' hw => ⟨rfl, hw.below⟩
set_option maxHeartbeats 8000000 in
theorem slog0_ok (w : World) : Calls Try.prog 20 #[.pointer none] w fun e w' => e = .returned (.slice none 0 0) ∧ Below w.heap.size w w' := by
  refine calls1 (args := [.pointer none]) Try.func20 rfl rfl rfl rfl ?_
  repeat' (first | refine aw_seq ?_ | ((first | apply ao_val | apply aq_val); exact wants_a; (first | exact ov_peq0 rfl rfl | exact ov_a); (exact rfl)) | refine zy ?_ | refine zon fun _ => ?_ | refine zoa fun vr lr hr => ?_ | refine zoS (fun _ => ?_) (fun _ => ?_) | refine zqS (fun _ => ?_) (fun _ => ?_) | refine zwS (fun _ => ?_) (fun _ => ?_))
  exact fun w' hw => ⟨rfl, hw.below⟩
set_option maxHeartbeats 8000000 in
theorem ssnap0_ok (w : World) : Calls Try.prog 16 #[.pointer none] w fun e w' => e = .returned (EV 0 (.slice none 0 0, zO) 0 (.slice none 0 0)) ∧ Below w.heap.size w w' := by
  refine callsC1 (rt := 50) (args := [.pointer none]) Try.func16 rfl rfl rfl rfl ?_
  repeat' (first | refine aw_seq ?_ | ((first | apply ao_val | apply aq_val); exact wants_a; (first | exact ov_peq0 rfl rfl | exact ov_a); (exact rfl)) | refine zy ?_ | refine zon fun _ => ?_ | refine zoa fun vr lr hr => ?_ | refine zoS (fun _ => ?_) (fun _ => ?_) | refine zqS (fun _ => ?_) (fun _ => ?_) | refine zwS (fun _ => ?_) (fun _ => ?_))
  exact fun w' hw => ⟨rfl, hw.below⟩
section
variable {w : World} {g : Nat} {lg : List Wr} {mo : Option Nat} {X : List (PO × Nat)} {co : Nat} {v : Value} {es : List PE}
theorem wrs_len' (h : SAt w g lg mo X co v es) : es.length = lg.length := by rw [← h.wr]; exact (List.length_map _).symm
set_option maxHeartbeats 8000000 in
theorem ver_ok (h : SAt w g lg mo X co v es) : Calls Try.prog 18 #[.pointer (some ⟨g, 0, none⟩)] w fun e w' => e = .returned (I lg.length) ∧ Below w.heap.size w w' := by
  rw [← wrs_len' h]
  obtain ⟨a, c, hv⟩ := h.ev.1.len
  subst hv
  have c1 := h.c1
  have lt := h.lt
  refine calls1 (args := [.pointer (some ⟨g, 0, none⟩)]) Try.func18 rfl rfl rfl rfl ?_
  repeat' (first | refine aw_seq ?_ | ((first | apply ao_val | apply aq_val); exact wants_a; (first | exact ov_nilcheck rfl | exact ov_peqs rfl rfl | exact ov_a); (exact rfl)) | refine zy ?_ | refine zon fun _ => ?_ | refine zoa fun vr lr hr => ?_ | refine zoS (fun _ => ?_) (fun _ => ?_) | refine zqS (fun _ => ?_) (fun _ => ?_) | refine zwS (fun _ => ?_) (fun _ => ?_))
  exact fun w' hw => ⟨rfl, hw.below⟩
set_option maxHeartbeats 16000000 in
theorem gets9_ok (h : SAt w g lg mo X co v es) (hf : FitL lg) (k : Kt) :
    Calls Try.prog 12 #[.pointer (some ⟨g, 0, none⟩), K3 k] w fun e w' => ∃ r, e = .returned (.tuple #[OV (getB (getO (osL lg) k)).1 r, .bool (getB (getO (osL lg) k)).2]) ∧ NewRow 83 2 w w' r (getB (getO (osL lg) k)).1.rs.length (rcells (getB (getO (osL lg) k)).1.rs) := by
  obtain ⟨v, hv, hlo⟩ := h.mp.look hf.own k
  have hwf := hf.os
  have c0 := h.c0
  have lt := h.lt
  obtain ⟨va, vc, hvl⟩ := hv.len
  subst hvl
  cases hg : getO (osL lg) k with
  | none =>
    rw [hg] at hlo
    unfold getB at hlo ⊢
    simp only at hlo ⊢
    refine callsC2 (rt := 38) (args := [.pointer (some ⟨g, 0, none⟩), K3 k]) Try.func12 rfl rfl rfl rfl ?_
    repeat' (first | (apply ao_nilh; exact hsub_a) | apply ao_nil | apply aq_nil | apply ah_end | ((first | apply ao_val | apply aq_val | (apply ah_take; (exact rfl))); exact wants_a; (first | exact ov_nilcheck rfl | exact ov_peqs rfl rfl | exact hlo true rfl rfl | exact ov_a); (exact rfl)) | ((first | apply ao_skip | apply aq_skip | (apply ah_skip; (exact rfl))); exact nots_a; (exact rfl)) | (refine ao_is ?_; first | (apply ao_new; exact wants_a; exact on_a; (exact rfl); intro _) | (apply ao_store; exact wants_a; exact ow_a; exact upd_a) | (apply ao_valw; exact wants_a; exact ox_a; (exact rfl); exact upd_a) | (apply ao_skip0; exact nots_a) | (apply ao_append; exact wants_a; (exact rfl); assumption; (exact rfl); exact cut_a; exact has_a; (exact rfl); (exact rfl); omega; omega; omega; (exact rfl); intro vr lr hr)) | (apply ah_one; (exact rfl)) | (apply ah_two; (exact rfl); (exact rfl)) | (apply ah_three; (exact rfl); (exact rfl); (exact rfl)) | (refine aw_is ?_; first | (apply aw_held (id := 3) (pl := (.t 0 (.t 1 (.t 2 (.t 3 (.t 4 (.t 5 (.t 6 (.t 7 (.t 8 (.o 9 (.o 10 (.t 11 .e))))))))))))); (kernel_rfl); (kernel_rfl); (kernel_rfl); (solve | (exact List.Sublist.refl _))) | refine aw_seq ?_ | refine aw_block ?_ | refine aw_region ?_ | refine aw_skip ?_ | refine aw_exit ?_ | refine aw_ret ?_ | refine aw_label ?_ | refine aw_scope ?_ | refine aw_cond_t rfl (by with_reducible rfl) ?_ | refine aw_cond_f rfl (by with_reducible rfl) ?_ | refine aw_draw (by kernel_rfl) (by kernel_rfl) ?_) | (first | (refine ah_is ?_; (fail_if_success first | refine ah_glit (b := true) rfl rfl rfl (by with_reducible rfl) ?_ | refine ah_glit (b := false) rfl rfl rfl (by with_reducible rfl) ?_); apply ah_gt; (exact rfl); (exact rfl); (exact rfl); exact t_a) | ((refine ao_is ?_; (fail_if_success first | refine ao_glit (b := true) rfl rfl (by with_reducible rfl) ?_ | refine ao_glit (b := false) rfl rfl (by with_reducible rfl) ?_)); apply ao_gt; (exact rfl); (exact rfl); exact t_a) | ((refine aq_is ?_; (fail_if_success first | refine aq_glit (b := true) rfl rfl (by with_reducible rfl) ?_ | refine aq_glit (b := false) rfl rfl (by with_reducible rfl) ?_)); apply aq_gt; (exact rfl); (exact rfl); exact t_a) | (apply aw_ct; (exact rfl); exact t_a)) | (first | (refine ah_is ?_; (fail_if_success first | refine ah_glit (b := true) rfl rfl rfl (by with_reducible rfl) ?_ | refine ah_glit (b := false) rfl rfl rfl (by with_reducible rfl) ?_); apply ah_gf; (exact rfl); (exact rfl); (exact rfl); exact f_a) | ((refine ao_is ?_; (fail_if_success first | refine ao_glit (b := true) rfl rfl (by with_reducible rfl) ?_ | refine ao_glit (b := false) rfl rfl (by with_reducible rfl) ?_)); apply ao_gf; (exact rfl); (exact rfl); exact f_a) | ((refine aq_is ?_; (fail_if_success first | refine aq_glit (b := true) rfl rfl (by with_reducible rfl) ?_ | refine aq_glit (b := false) rfl rfl (by with_reducible rfl) ?_)); apply aq_gf; (exact rfl); (exact rfl); exact f_a) | (apply aw_cf; (exact rfl); exact f_a)) | refine at_normal ?_ | refine at_exit ?_ | refine at_ret ?_ | refine ib_normal ?_ | refine ib_exit ?_ | refine ib_other ?_ | refine ib_ret ?_ | refine lq_exit ?_ | refine lq_ret ?_ | refine ci_ret ?_ | refine ci_exit ?_ | refine r1_ret rfl ?_ | refine r1_normal rfl ?_ | refine r2_ret rfl rfl ?_ | refine r2_normal rfl rfl ?_ | refine r3_ret rfl rfl rfl ?_ | refine r3_normal rfl rfl rfl ?_ | refine ng_normal ?_ | refine ng_exit ?_ | refine ng_ret ?_ | (apply rt_ret; (exact rfl); (exact rfl); (exact rfl); exact has_a; exact has_a; (exact rfl); (exact rfl)) | (apply rc1_ret; (exact rfl); exact has_a; (exact rfl)) | (apply rc2_ret; (exact rfl); exact has_a; (exact rfl); (exact rfl)) | (refine ao_is ?_; (fail_if_success first | refine ao_glit (b := true) rfl rfl (by with_reducible rfl) ?_ | refine ao_glit (b := false) rfl rfl (by with_reducible rfl) ?_); refine ao_gbool rfl rfl (fun _ => ?_) (fun _ => ?_)) | (refine aq_is ?_; (fail_if_success first | refine aq_glit (b := true) rfl rfl (by with_reducible rfl) ?_ | refine aq_glit (b := false) rfl rfl (by with_reducible rfl) ?_); refine aq_gbool rfl rfl (fun _ => ?_) (fun _ => ?_)) | (refine aw_is ?_; refine aw_cond rfl (fun _ => ?_) (fun _ => ?_)))
    exact fun w' hw => ⟨_, rfl, hw.below, _, RowB.nil, fun _ _ h => by cases h⟩
  | some o =>
    rw [hg] at hlo hv
    unfold getB at hlo hv ⊢
    simp only at hlo hv ⊢
    have ho := hwf o (getO_some hg).1
    have h1 := fun w' (hb : Below w.heap.size w w') => Ojt.own_ok o _ ho.wfO w' (hv.below hb)
    obtain ⟨k1, s1, n1, ver, c, tm, bs, rs⟩ := o
    refine callsC2 (rt := 38) (args := [.pointer (some ⟨g, 0, none⟩), K3 k]) Try.func12 rfl rfl rfl rfl ?_
    repeat' (first | (apply ao_nilh; exact hsub_a) | apply ao_nil | apply aq_nil | apply ah_end | ((first | apply ao_val | apply aq_val | (apply ah_take; (exact rfl))); exact wants_a; (first | exact ov_nilcheck rfl | exact ov_peqs rfl rfl | exact hlo true rfl rfl | exact ov_a); (exact rfl)) | ((first | apply ao_skip | apply aq_skip | (apply ah_skip; (exact rfl))); exact nots_a; (exact rfl)) | (refine ao_is ?_; first | (apply ao_new; exact wants_a; exact on_a; (exact rfl); intro _) | (apply ao_store; exact wants_a; exact ow_a; exact upd_a) | (apply ao_valw; exact wants_a; exact ox_a; (exact rfl); exact upd_a) | (apply ao_skip0; exact nots_a) | (apply ao_append; exact wants_a; (exact rfl); assumption; (exact rfl); exact cut_a; exact has_a; (exact rfl); (exact rfl); omega; omega; omega; (exact rfl); intro vr lr hr)) | (apply ao_callrg; exact wants_a; (exact oc_func rfl); (exact rfl); (first | exact fun w hw => h1 w hw.below); intro vr lr hr) | (apply ah_one; (exact rfl)) | (apply ah_two; (exact rfl); (exact rfl)) | (apply ah_three; (exact rfl); (exact rfl); (exact rfl)) | (refine aw_is ?_; first | (apply aw_held (id := 3) (pl := (.t 0 (.t 1 (.t 2 (.t 3 (.t 4 (.t 5 (.t 6 (.t 7 (.t 8 (.o 9 (.o 10 (.t 11 .e))))))))))))); (kernel_rfl); (kernel_rfl); (kernel_rfl); (solve | (exact List.Sublist.refl _))) | refine aw_seq ?_ | refine aw_block ?_ | refine aw_region ?_ | refine aw_skip ?_ | refine aw_exit ?_ | refine aw_ret ?_ | refine aw_label ?_ | refine aw_scope ?_ | refine aw_cond_t rfl (by with_reducible rfl) ?_ | refine aw_cond_f rfl (by with_reducible rfl) ?_ | refine aw_draw (by kernel_rfl) (by kernel_rfl) ?_) | (first | (refine ah_is ?_; (fail_if_success first | refine ah_glit (b := true) rfl rfl rfl (by with_reducible rfl) ?_ | refine ah_glit (b := false) rfl rfl rfl (by with_reducible rfl) ?_); apply ah_gt; (exact rfl); (exact rfl); (exact rfl); exact t_a) | ((refine ao_is ?_; (fail_if_success first | refine ao_glit (b := true) rfl rfl (by with_reducible rfl) ?_ | refine ao_glit (b := false) rfl rfl (by with_reducible rfl) ?_)); apply ao_gt; (exact rfl); (exact rfl); exact t_a) | ((refine aq_is ?_; (fail_if_success first | refine aq_glit (b := true) rfl rfl (by with_reducible rfl) ?_ | refine aq_glit (b := false) rfl rfl (by with_reducible rfl) ?_)); apply aq_gt; (exact rfl); (exact rfl); exact t_a) | (apply aw_ct; (exact rfl); exact t_a)) | (first | (refine ah_is ?_; (fail_if_success first | refine ah_glit (b := true) rfl rfl rfl (by with_reducible rfl) ?_ | refine ah_glit (b := false) rfl rfl rfl (by with_reducible rfl) ?_); apply ah_gf; (exact rfl); (exact rfl); (exact rfl); exact f_a) | ((refine ao_is ?_; (fail_if_success first | refine ao_glit (b := true) rfl rfl (by with_reducible rfl) ?_ | refine ao_glit (b := false) rfl rfl (by with_reducible rfl) ?_)); apply ao_gf; (exact rfl); (exact rfl); exact f_a) | ((refine aq_is ?_; (fail_if_success first | refine aq_glit (b := true) rfl rfl (by with_reducible rfl) ?_ | refine aq_glit (b := false) rfl rfl (by with_reducible rfl) ?_)); apply aq_gf; (exact rfl); (exact rfl); exact f_a) | (apply aw_cf; (exact rfl); exact f_a)) | refine at_normal ?_ | refine at_exit ?_ | refine at_ret ?_ | refine ib_normal ?_ | refine ib_exit ?_ | refine ib_other ?_ | refine ib_ret ?_ | refine lq_exit ?_ | refine lq_ret ?_ | refine ci_ret ?_ | refine ci_exit ?_ | refine r1_ret rfl ?_ | refine r1_normal rfl ?_ | refine r2_ret rfl rfl ?_ | refine r2_normal rfl rfl ?_ | refine r3_ret rfl rfl rfl ?_ | refine r3_normal rfl rfl rfl ?_ | refine ng_normal ?_ | refine ng_exit ?_ | refine ng_ret ?_ | (apply rt_ret; (exact rfl); (exact rfl); (exact rfl); exact has_a; exact has_a; (exact rfl); (exact rfl)) | (apply rc1_ret; (exact rfl); exact has_a; (exact rfl)) | (apply rc2_ret; (exact rfl); exact has_a; (exact rfl); (exact rfl)) | (refine ao_is ?_; (fail_if_success first | refine ao_glit (b := true) rfl rfl (by with_reducible rfl) ?_ | refine ao_glit (b := false) rfl rfl (by with_reducible rfl) ?_); refine ao_gbool rfl rfl (fun _ => ?_) (fun _ => ?_)) | (refine aq_is ?_; (fail_if_success first | refine aq_glit (b := true) rfl rfl (by with_reducible rfl) ?_ | refine aq_glit (b := false) rfl rfl (by with_reducible rfl) ?_); refine aq_gbool rfl rfl (fun _ => ?_) (fun _ => ?_)) | (refine aw_is ?_; refine aw_cond rfl (fun _ => ?_) (fun _ => ?_)))
    revert vr lr hr
    intro v1 l1 r1
    obtain ⟨a1, q1, rfl⟩ := r1.len
    repeat' (first | refine aw_seq ?_ | refine zz ?_ | refine zon fun _ => ?_ | refine zoa fun vr lr hr => ?_ | refine zoS (fun _ => ?_) (fun _ => ?_) | refine zqS (fun _ => ?_) (fun _ => ?_) | refine zwS (fun _ => ?_) (fun _ => ?_))
    exact fun w' hw => ⟨_, rfl, hw.below, _, r1, fun b o hm => hw.at_ b o (List.mem_append_left _ hm)⟩
set_option maxHeartbeats 16000000 in
theorem snap_ok (h : SAt w g lg mo X co v es) (hf : FitL lg) : Calls Try.prog 16 #[.pointer (some ⟨g, 0, none⟩)] w fun e w' => ∃ r, e = .returned r ∧ NewD (DEv 2 zO lg.length (osL lg)) w w' r := by
  have c0 := h.c0
  have lt := h.lt
  have hwf := hf.os
  have hl := hf.osl
  have hln := hf.len
  have hve := fun w' (hb : Below w.heap.size w w') => ver_ok (h.below hb)
  have hrise := (osL_all hf.wl).1
  have hmap := fun {n : Nat} {H : Hp} => h.mp.map (n := n) (H := H)
  obtain ⟨-, -, hres, hlx⟩ := h.mp
  have hlos : (X.map fun x => x.1.2).Perm (osL lg) := hlx.os
  generalize osL lg = os at hwf hl hrise hlos ⊢
  have hold : ∀ y ∈ X.map enO, y.2.2 < co := fun y hy => by
    obtain ⟨x, hx, rfl⟩ := List.mem_map.1 hy
    exact hlx.lo x hx
  have hnod : ((X.map enO).map (·.2.2)).Nodup := by
    rw [List.map_map]
    exact hlx.bo
  have hXl : X.length ≤ 1000 := by rw [← hlos.length_eq, List.length_map] at hl; exact hl
  refine callsC1 (rt := 50) (args := [.pointer (some ⟨g, 0, none⟩)]) Try.func16 rfl rfl rfl rfl ?_
  repeat' (first | refine aw_seq ?_ | ((first | apply ao_val | apply aq_val); exact wants_a; (first | exact ov_nilcheck rfl | exact ov_peqs rfl rfl | exact ov_a); (exact rfl)) | refine zy ?_ | refine zon fun _ => ?_ | refine zoa fun vr lr hr => ?_ | (apply ao_new; exact wants_a; exact on_mrangeO rfl hmap; exact rfl; intro bi) | refine zoS (fun _ => ?_) (fun _ => ?_) | refine zqS (fun _ => ?_) (fun _ => ?_) | refine zwS (fun _ => ?_) (fun _ => ?_))
  refine aw_for (t0 := [(0, .pointer (some ⟨g, 0, none⟩)), (2, .pointer (some ⟨_, 0, none⟩)), (3, .slice none 0 0), (13, .pointer (some ⟨_, 0, none⟩))]) (fun q t H => ∃ (bi b2 : Nat) (seen : Array Nat) (done : List (PO × Nat)) (v5 : Value) (l5 : Hp), q = (X.filter fun y => !seen.contains y.2).length ∧ Out X done seen ∧
    RowB 38 8 v5 l5 (done.map (·.1)).length ((done.map (·.1)).flatMap cellsO) ∧ t = [(0, .pointer (some ⟨g, 0, none⟩)), (2, .pointer (some ⟨b2, 0, none⟩)), (3, v5), (13, .pointer (some ⟨bi, 0, none⟩))] ∧ H = l5 ++ [(bi, .mapIter mo co seen co), (b2, .cells (cellsE ⟨0, (.slice none 0 0, zO), 0, .slice none 0 0, []⟩).toArray 50 (0, 0))]) ⟨_, _, _, [], _, [], rfl, Out.nil, RowB.nil, rfl, rfl⟩ (by repeat (first | exact sub_nil | refine sub_cons rfl ?_)) ?_
  rintro q t H ⟨bi, b2, seen, done, v5, l5, rfl, hout, r5, rfl, rfl⟩
  repeat' (first | refine aw_seq ?_ | refine zz ?_ | refine zon fun _ => ?_ | refine zoa fun vr lr hr => ?_ | (apply ao_mnextO; exact wants_a; exact rfl; exact cut_a; exact hmap; exact hold; exact Nat.le_refl _; exact rfl; intro hall; rotate_left; intro y hy hns; rotate_left) | refine zoS (fun _ => ?_) (fun _ => ?_) | refine zqS (fun _ => ?_) (fun _ => ?_) | refine zwS (fun _ => ?_) (fun _ => ?_))
  · have hperm := hout.all hlx.bo fun x hx => hall (enO x) (List.mem_map.2 ⟨x, hx, rfl⟩)
    have hobs : (obs (done.map (·.1))).Perm os := by
      show ((done.map (·.1)).map (·.2)).Perm _
      rw [List.map_map]
      exact (hperm.map fun x => x.1.2).trans hlos
    have hsort : sortO (obs (done.map (·.1))) = os := by
      refine rise_unique (rise_sort ((hobs.pairwise_iff (fun h => h.symm)).2 hrise.own) fun o ho => hrise.2 o (hobs.mem_iff.1 ho)) hrise fun o => ?_
      rw [(sort_perm _).mem_iff, hobs.mem_iff]
    have hdl : (done.map (·.1)).length ≤ 1000 := by rw [List.length_map, hperm.length_eq]; exact hXl
    have hwfl : wfL (done.map (·.1)) := ⟨by omega, fun p hp => hwf p.2 (hobs.mem_iff.1 (List.mem_map.2 ⟨p, hp, rfl⟩))⟩
    have hresd : ∀ p ∈ done.map (·.1), ResAt w p.1 p.2.rs := fun p hp => by
      obtain ⟨x, hx, rfl⟩ := List.mem_map.1 hp
      exact hres x (hout.sub x hx)
    repeat' (first | refine aw_seq ?_ | refine zz ?_ | refine zon fun _ => ?_ | refine zoa fun vr lr hr => ?_ | ((first | apply ao_call | apply aq_call); exact wants_a; (first | exact oc_func rfl | exact oc_clos rfl rfl); (exact rfl); (first | exact fun w hw => hve w hw.below)) | (apply ao_callD; exact wants_a; (exact oc_func rfl); (exact rfl); (first | exact fun w hw => psorted_ok _ _ hwfl (by omega) w (objs_old hw r5 cut_a fun p hp => (hresd p hp).below hw.below)); intro vr lr hr) | refine zoS (fun _ => ?_) (fun _ => ?_) | refine zqS (fun _ => ?_) (fun _ => ?_) | refine zwS (fun _ => ?_) (fun _ => ?_))
    revert vr lr hr
    rw [hsort]
    rintro _ _ ⟨ps5, l6, ls5, hob5, rfl, hrow5, hpar5⟩
    obtain ⟨b5, d5, hu5⟩ := hrow5.len
    subst hu5
    repeat' (first | refine aw_seq ?_ | refine zz ?_ | refine zon fun _ => ?_ | refine zoa fun vr lr hr => ?_ | refine zoS (fun _ => ?_) (fun _ => ?_) | refine zqS (fun _ => ?_) (fun _ => ?_) | refine zwS (fun _ => ?_) (fun _ => ?_))
    exact fun w' hw => ⟨_, rfl, hw.toD rfl (l := l6 ++ ls5) (by solve | (repeat (first | exact Cut.here | exact Cut.here1 | exact Cut.nil | apply Cut.skip | apply Cut.skipA))) ⟨.slice none 0 0, _, [], l6 ++ ls5, rfl, rfl, RowB.nil, ps5, l6, ls5, hob5, rfl, hrow5, hpar5⟩⟩
  · obtain ⟨⟨⟨xv, k1, s1, n1, ver, c, tm, bs, rs⟩, b⟩, hx, rfl⟩ := List.mem_map.1 hy
    obtain ⟨va, vc, e⟩ := (hres _ hx).len
    simp only at e
    subst e
    have hdl : (done.map (·.1)).length ≤ 1000 := by
      have hs : done.length ≤ X.length := by
        have := hout.nd
        exact nodup_len hout.nd hout.sub
      rw [List.length_map]
      omega
    repeat' (first | refine aw_seq ?_ | ((first | apply ao_val | apply aq_val); exact wants_a; (first | exact ov_entryO rfl has_a hmap hnod (List.mem_map.2 ⟨_, hx, rfl⟩) | exact ov_a); (exact rfl)) | refine zy ?_ | refine zon fun _ => ?_ | refine zoa fun vr lr hr => ?_ | refine zoS (fun _ => ?_) (fun _ => ?_) | refine zqS (fun _ => ?_) (fun _ => ?_) | refine zwS (fun _ => ?_) (fun _ => ?_))
    exact lq_normal' ⟨bi, b2, _, done ++ [((.slice va rs.length vc, ⟨k1, s1, n1, ver, c, tm, bs, rs⟩), b)], _, _, rfl, hout.snoc hx hns, by rw [List.map_append]; exact Chm.row_o hr, rfl, rfl⟩ (left_less (fun y : PO × Nat => y.2) hx hns) (by repeat (first | exact sub_nil | refine sub_cons rfl ?_)) hsub_a
end
end Stm
end Go.Proofs.Ytbllkmhkpapgeaa
/- Sdc: The landed store: its log, handed out in new memory; conditions: names of at most 1,000 bytes, at most 1,000 writes. -/
namespace Go.Proofs.Ytbllkmhkpapgeaa
namespace Stm
open Go Go.RowKit Sx Lab Vec Ojt Evt Chm
attribute [local irreducible] Go.Calls

abbrev Cs11 := { l : List Value // l.length = 11 }
theorem parts_nil {α : Type} {K : α → Hp → Prop} {ls : Hp} (h : Parts K ls []) : ls = [] := by
  obtain ⟨parts, h1, h2, -⟩ := h
  have : parts = [] := List.eq_nil_of_length_eq_zero h2
  subst this
  exact List.nil_perm.1 h1
theorem flat_e {e e2 : TypeId} {sz sz2 n n2 : Nat} {v u : Value} {l l2 : Hp} {xs ys : List Value} (h : RowB e sz v l n xs) (h2 : RowB e2 sz2 u l2 n2 ys) (kind : Int) (o : Ob) (ver : Int) : (cellsE ⟨kind, (v, o), ver, u, []⟩).all flat = true := by
  obtain ⟨a, c, rfl⟩ := h.len
  obtain ⟨a2, c2, rfl⟩ := h2.len
  rfl
set_option maxHeartbeats 32000000 in
theorem log_ok {w : World} {g : Nat} {lg : List Wr} {mo : Option Nat} {X : List (PO × Nat)} {co : Nat} {v : Value} {es : List PE} (h : SAt w g lg mo X co v es) (hf : FitL lg) :
    Calls Try.prog 20 #[.pointer (some ⟨g, 0, none⟩)] w fun e w' => ∃ r, e = .returned r ∧ NewD (DLog lg) w w' r := by
  have hln : es.length ≤ 1000 := by rw [wrs_len' h]; exact hf.len
  have hwf : ∀ e ∈ es, wfS e.p.2 := fun e he => hf.wf (wrE e) (by rw [← h.wr]; exact List.mem_map.2 ⟨e, he, rfl⟩)
  have hbare := h.bare
  have hwr := h.wr
  have c1 := h.c1
  have lt := h.lt
  obtain ⟨hv, hres⟩ := h.ev
  clear h
  obtain ⟨a, cp, hva, hat⟩ := OldRow.cells cellsE_len hv
  subst hva
  refine calls1 (args := [.pointer (some ⟨g, 0, none⟩)]) Try.func20 rfl rfl rfl rfl ?_
  repeat' (first | refine aw_seq ?_ | ((first | apply ao_val | apply aq_val); exact wants_a; (first | exact ov_nilcheck rfl | exact ov_peqs rfl rfl | exact ov_a); (exact rfl)) | refine zy ?_ | refine zon fun _ => ?_ | refine zoa fun vr lr hr => ?_ | ((apply ao_make; exact wants_a; exact rfl; exact rfl; omega; omega; exact rfl; intro b1 cs1 hl1)) | refine zoS (fun _ => ?_) (fun _ => ?_) | refine zqS (fun _ => ?_) (fun _ => ?_) | refine zwS (fun _ => ?_) (fun _ => ?_))
  obtain ⟨d0, rfl⟩ := cells_row hl1
  refine aw_for (t0 := [(3, .slice (some ⟨b1, 0, none⟩) es.length es.length), (17, .slice a es.length cp), (18, I es.length), (19, I (0 : Nat))])
    (fun q t H => ∃ (i : Nat) (d : Nat → Cs11) (outs : List PE) (ls : Hp), q = es.length - i ∧ i ≤ es.length ∧ outs.length = i ∧ wrs outs = (wrs es).take i ∧ (∀ e ∈ outs, (e.kind = 0 ∨ e.kind = 1) ∧ e.ver = 0 ∧ e.qs = []) ∧ (∀ (k : Nat) u, outs[k]? = some u → (d k).val = cellsE u) ∧ Parts KE ls outs ∧
      t = [(3, .slice (some ⟨b1, 0, none⟩) es.length es.length), (17, .slice a es.length cp), (18, I es.length), (19, I i)] ∧ H = ls ++ [(b1, .cells (rowL Subtype.val es.length d).toArray 50 (0, 0))])
    ⟨0, d0, [], [], rfl, by omega, rfl, rfl, (fun _ h => by cases h), fun k u h => by simp at h, Parts.nil, rfl, rfl⟩ (by repeat (first | exact sub_nil | refine sub_cons rfl ?_)) ?_
  rintro q t H ⟨i, d, outs, ls, rfl, hi, hol, hobs, hkd, hcells, hparts, rfl, rfl⟩
  by_cases hlt : i < es.length
  · obtain ⟨⟨kind, ⟨x, o⟩, ver, v2, qs⟩, he⟩ := getP hlt
    have m1 := List.mem_of_getElem? he
    have hra := (hres _ m1).1
    have hws := hwf _ m1
    obtain ⟨b1', b2', b3', b4'⟩ := hbare _ m1
    simp only at b1' b2' b3' b4' hra hws
    subst b2' b3' b4'
    obtain ⟨xa, xc, hx⟩ := hra.len
    subst hx
    obtain ⟨g1, o1, rfl, hg, hc⟩ := hat i _ (i : Int) he rfl
    have cA : ∀ (j : Nat) z, [I kind, S o.k, S o.s, S o.n, I o.ver, S o.c, .bool o.tm, .bool o.bs, .slice xa o.rs.length xc, I 0, .slice none 0 0][j]? = some z → w.cell? ⟨g1, o1 + (i : Int).toNat * 11 + j, none⟩ = some z := hc
    have hown := fun w' (hb : Below w.heap.size w w') => pown_ok kind (.slice xa o.rs.length xc, o) 0 (.slice none 0 0) [] hws ⟨by simp, fun _ h => by cases h⟩ w' (hra.below hb) ⟨OldRow.nil, fun _ h => by cases h⟩
    repeat' (first | refine aw_seq ?_ | ((first | apply ao_val | apply aq_val); exact wants_a; (first | exact ov_load_oa rfl hg cA rfl | exact ov_a); (exact rfl)) | refine zy ?_ | refine zon fun _ => ?_ | refine zoa fun vr lr hr => ?_ | ((apply ao_callD; exact wants_a; (exact oc_func rfl); (exact rfl); (intro w hw; exact hown w hw.below); rintro _ _ ⟨x5, u5, lx, lv, rfl, rfl, hx5, hd5⟩; obtain ⟨ps5, l5, ls5, hob5, hlv5, hrow5, hpar5⟩ := hd5; obtain rfl : ps5 = [] := List.map_eq_nil_iff.1 hob5; obtain rfl := parts_nil hpar5; rw [List.append_nil] at hlv5; subst hlv5)) | ((refine ao_is ?_; apply ao_store; exact wants_a; (apply ow_storeX (f := Subtype.val) (x := (⟨cellsE ⟨kind, (x5, o), 0, u5, []⟩, rfl⟩ : Cs11)) (fun a => a.2) (flat_e hx5 hrow5 kind o 0) (i := i); (exact rfl); omega; (exact rfl); exact has_a; omega); exact upd_a)) | refine zoS (fun _ => ?_) (fun _ => ?_) | refine zqS (fun _ => ?_) (fun _ => ?_) | refine zwS (fun _ => ?_) (fun _ => ?_))
    refine lq_normal' (H' := ((lx ++ lv) ++ ls) ++ [(b1, .cells (rowL Subtype.val es.length (upd d i (⟨cellsE ⟨kind, (x5, o), 0, u5, []⟩, rfl⟩ : Cs11))).toArray 50 (0, 0))]) ⟨i + 1, _, outs ++ [(⟨kind, (x5, o), 0, u5, []⟩ : PE)], (lx ++ lv) ++ ls, rfl, by omega, by rw [List.length_append, hol]; rfl, ?_, fun e he2 => ?_, fun k u hk => ?_, hparts.snoc ⟨lx, lv, rfl, hx5, hrow5⟩, rfl, rfl⟩ (by omega) (by repeat (first | exact sub_nil | refine sub_cons rfl ?_)) (by rw [List.append_assoc]; exact hsub_a)
    · have t1 : (wrs es)[i]? = some (decide (kind = 1), o) := by unfold wrs; rw [List.getElem?_map, he]; rfl
      rw [List.take_add_one, t1, ← hobs]
      exact List.map_append
    · rcases List.mem_append.1 he2 with he2 | he2
      · exact hkd e he2
      · rw [List.mem_singleton.1 he2]
        exact ⟨b1', rfl, rfl⟩
    · unfold upd
      by_cases hki : k = i
      · subst hki
        rw [if_pos rfl]
        rw [← hol, List.getElem?_append_right (Nat.le_refl _), Nat.sub_self] at hk
        simp only [List.getElem?_cons_zero, Option.some.injEq] at hk
        subst hk
        rfl
      · rw [if_neg hki]
        have hlt2 := (List.getElem?_eq_some_iff.1 hk).1
        rw [List.length_append, List.length_singleton] at hlt2
        rw [List.getElem?_append_left (by omega)] at hk
        exact hcells k u hk
  · obtain rfl : i = es.length := by omega
    have hwl : (wrs es).length = es.length := List.length_map _
    rw [← hwl, List.take_length, hwr] at hobs
    have hrow := row_is hol hcells
    rw [hrow]
    repeat' (first | refine aw_seq ?_ | refine zz ?_ | refine zon fun _ => ?_ | refine zoa fun vr lr hr => ?_ | refine zoS (fun _ => ?_) (fun _ => ?_) | refine zqS (fun _ => ?_) (fun _ => ?_) | refine zwS (fun _ => ?_) (fun _ => ?_))
    exact fun w' hw => ⟨_, rfl, hw.toD rfl (l := [(b1, .cells (outs.flatMap cellsE).toArray 50 (0, 0))] ++ ls) (R := []) (by unfold Cut; rw [List.append_nil]; exact List.perm_append_comm) ⟨outs, _, ls, hobs, hkd, rfl, by rw [← hol]; exact RowB.lit (flat_len cellsE_len outs), hparts⟩⟩
end Stm
end Go.Proofs.Ytbllkmhkpapgeaa
