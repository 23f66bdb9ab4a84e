/- The contracts of a landed feed in the walks' forms; conditions: none. -/
import Derived.Test.YtpenogailhlcaaaFyg
namespace Go.Proofs.Ytpenogailhlcaaa
namespace Fdt
open Go Go.RowKit Sx
attribute [local irreducible] Go.Calls

/-- These blocks lie in a world. -/
def Lies (w : World) (l : Hp) : Prop := ∀ b o, (b, o) ∈ l → w.heap[b]? = some o
theorem lies_of {E : Env} {H l R : Hp} {w : World} (h : RepH E H w) (hc : Cut H l R) : Lies w l := fun b o hm => ((h.perm hc).at_ b o (List.mem_append_left _ hm)).2
/-- A key that may be gone through. -/
def fitK (k : Kt) : Prop := k.1.length ≤ 100 ∧ k.2.1.length ≤ 100 ∧ k.2.2.length ≤ 100
/-- Such a feed as is gone through. -/
structure FitF (f : Fd) : Prop where
  wf : WfF f
  len : f.es.length ≤ 200
  ks : ∀ e ∈ f.es, fitK e.1
theorem lies_lt {w : World} {l : Hp} {b : Nat} {o : Obj} (h : Lies w l) (hm : (b, o) ∈ l) : b < w.heap.size := (Array.getElem?_eq_some_iff.1 (h b o hm)).1
theorem old_lies {w : World} {l : Hp} {e : TypeId} {sz n : Nat} {v : Value} {xs : List Value} (h : Lies w l) (hr : RowB e sz v l n xs) : OldRow w sz v n xs := by
  refine ⟨hr.1, ?_⟩
  rcases hr.2 with ⟨rfl, h0, _⟩ | ⟨g, cap, cur, rfl, rfl, hnc, hcs, htake⟩
  · exact ⟨none, 0, by rw [h0], fun h => by omega⟩
  · refine ⟨_, _, rfl, fun _ => ⟨g, 0, rfl, lies_lt h List.mem_cons_self, fun j u hj => ?_⟩⟩
    have hg := h g _ List.mem_cons_self
    have hg2 : w.heap[g]? = some (.cells cur.toList.toArray e (0, 0)) := by simpa using hg
    rw [cell_of hg2, Nat.zero_add]
    rw [← htake] at hj
    have hlt := (List.getElem?_eq_some_iff.1 hj).1
    simp only [List.length_take] at hlt
    rwa [List.getElem?_take_of_lt (by omega)] at hj
theorem Lies.sub {w : World} {l m : Hp} (h : Lies w l) (hs : ∀ x ∈ m, x ∈ l) : Lies w m := fun b o hm => h b o (hs _ hm)
theorem lfd_lies {w : World} {f : Fd} {g : Nat} {l : Hp} (h : LFs f g l) (hl : Lies w l) : ∃ v mo X c, FAt w g f v ∧ MpAt w g f mo X c := by
  obtain ⟨v, mo, X, c, lE, lM, rfl, hE, hM, hX⟩ := h
  have hg := hl g _ List.mem_cons_self
  have hg2 : w.heap[g]? = some (.cells (List.toArray [v, .map mo, I f.cov]) 49 (0, 0)) := hg
  have hr := old_lies (hl.sub fun x hx => List.mem_cons_of_mem _ (List.mem_append_left _ hx)) hE
  refine ⟨v, mo, X, c, ⟨lies_lt hl List.mem_cons_self, by rw [cell_of hg2]; rfl, by rw [cell_of hg2]; rfl, hr⟩, ⟨by rw [cell_of hg2]; rfl, fun b e => ?_, fun e => ?_, hX⟩⟩
  · rcases hM with ⟨rfl, -, -, -⟩ | ⟨b2, rfl, rfl⟩
    · cases e
    · cases e
      have hm := hl b (mapO encKt X c) (List.mem_cons_of_mem _ (List.mem_append_right _ List.mem_cons_self))
      exact ⟨(Array.getElem?_eq_some_iff.1 hm).1, hm⟩
  · rcases hM with ⟨-, h0, h6, -⟩ | ⟨b2, rfl, -⟩
    · exact ⟨h0, h6⟩
    · cases e
theorem FitF.len2 {f : Fd} (h : FitF f) : f.es.length ≤ 1000 := by have := h.len; omega
/-- The landed feed lies at block g, in the part l of the own heap. -/
def LFd (f : Fd) (g : Nat) (l : Hp) : Prop := LFs f g l ∧ Turn f
/-- What a call on it leaves. -/
def LDid (g : Nat) (x : Int × Fd) (R : Hp) (u : Value) (H' : Hp) : Prop := u = I x.1 ∧ ∃ l', H' = l' ++ R ∧ LFd x.2 g l'
theorem lnew_ok (w : World) : Calls Try.prog 8 #[] w fun e w' => ∃ r, e = .returned r ∧ NewD (fun r l => ∃ g, r = .pointer (some ⟨g, 0, none⟩) ∧ LFd .new g l) w w' r := by
  refine calls1 (args := []) Try.func8 rfl rfl rfl rfl ?_
  repeat' (first | refine aw_seq ?_ | refine zz ?_ | refine zon fun _ => ?_ | refine zoa fun vr lr hr => ?_ | refine zoS (fun _ => ?_) (fun _ => ?_) | refine zqS (fun _ => ?_) (fun _ => ?_) | refine zwS (fun _ => ?_) (fun _ => ?_))
  exact fun w' hw => ⟨_, rfl, hw.toD rfl (l := [_]) (R := []) (List.Perm.refl _) ⟨_, rfl, LFs.new, Turn.new⟩⟩
theorem lgrow_ok {m : Nat} {w0 : World} {f : Fd} {g : Nat} {l : Hp} (h : LFd f g l) (hf : FitF f) (k : Kt) (_hk : fitK k) (R : Hp) :
    CallsH Try.prog ⟨w0.heap.size, w0, m⟩ 20 [.pointer (some ⟨g, 0, none⟩), K3 k] (l ++ R) fun u H' => u = .tuple #[] ∧ ∃ l', H' = l' ++ R ∧ LFd (growF f k) g l' := by
  have ht := h.2.grow hf.wf k
  refine CallsH.mono (grow_ok h.1 hf.len2 k R) ?_
  rintro u H' ⟨h1, l', h2, h3⟩
  exact ⟨h1, l', h2, h3, ht⟩
theorem ltell_ok {m : Nat} {w0 : World} {f : Fd} {g : Nat} {l : Hp} (h : LFd f g l) (hf : FitF f) (n : Int) (R : Hp) :
    CallsH Try.prog ⟨w0.heap.size, w0, m⟩ 21 [.pointer (some ⟨g, 0, none⟩), I n] (l ++ R) (LDid g (tellF f n) R) := by
  have ht : Turn (tellF f n).2 := by
    rcases tell_cases f n with ⟨e, -⟩ | ⟨⟨k, s⟩, -, he, ⟨-, e⟩ | ⟨-, -, e⟩ | ⟨-, hb, e⟩⟩ <;> rw [e]
    · exact h.2
    · exact h.2
    · exact h.2
    · exact h.2.tell he hb
  refine CallsH.mono (tell_ok h.1 hf.len2 h.2 n R) ?_
  rintro u H' ⟨h1, l', h2, h3⟩
  exact ⟨h1, l', h2, h3, ht⟩
theorem ldrop_ok {m : Nat} {w0 : World} {f : Fd} {g : Nat} {l : Hp} (h : LFd f g l) (hf : FitF f) (n : Int) (R : Hp) :
    CallsH Try.prog ⟨w0.heap.size, w0, m⟩ 22 [.pointer (some ⟨g, 0, none⟩), I n] (l ++ R) (LDid g (dropF f n) R) := by
  have ht : Turn (dropF f n).2 := by
    rcases drop_cases f n with ⟨e, -⟩ | ⟨-, -, e⟩ | ⟨hin, -, e⟩ <;> rw [e]
    · exact h.2
    · exact h.2
    · obtain ⟨⟨k, s⟩, he⟩ := getP (show n.toNat < f.es.length by unfold inF at hin; omega)
      exact h.2.drop he
  refine CallsH.mono (drop_ok h.1 hf.len2 n R) ?_
  rintro u H' ⟨h1, l', h2, h3⟩
  exact ⟨h1, l', h2, h3, ht⟩
theorem lcover_ok {m : Nat} {w0 : World} {f : Fd} {g : Nat} {l : Hp} (h : LFd f g l) (_hf : FitF f) (n : Int) (R : Hp) :
    CallsH Try.prog ⟨w0.heap.size, w0, m⟩ 19 [.pointer (some ⟨g, 0, none⟩), I n] (l ++ R) (LDid g (coverF f n) R) := by
  have ht : Turn (coverF f n).2 := by
    rcases cover_cases f n with e | ⟨-, -, -, e⟩ | ⟨-, -, hc, e⟩ <;> rw [e]
    · exact h.2
    · exact h.2
    · exact h.2.cover hc
  refine CallsH.mono (cover_ok h.1 n R) ?_
  rintro u H' ⟨h1, l', h2, h3⟩
  exact ⟨h1, l', h2, h3, ht⟩
theorem lsafe_ok {f : Fd} {g : Nat} {l : Hp} (h : LFd f g l) (hf : FitF f) (w : World) (hl : Lies w l) : Calls Try.prog 15 #[.pointer (some ⟨g, 0, none⟩)] w fun e w' => e = .returned (I (safeF f)) ∧ Below w.heap.size w w' := by
  obtain ⟨v, mo, X, c, h1, h2⟩ := lfd_lies h.1 hl
  exact safe_ok h1 hf.len2
theorem ldone_ok {f : Fd} {g : Nat} {l : Hp} (h : LFd f g l) (hf : FitF f) (w : World) (hl : Lies w l) : Calls Try.prog 17 #[.pointer (some ⟨g, 0, none⟩)] w fun e w' => e = .returned (.bool (settledF f)) ∧ Below w.heap.size w w' := by
  obtain ⟨v, mo, X, c, h1, h2⟩ := lfd_lies h.1 hl
  exact done_ok h1 h2 hf.len2
theorem llen_ok {f : Fd} {g : Nat} {l : Hp} (h : LFd f g l) (_hf : FitF f) (w : World) (hl : Lies w l) : Calls Try.prog 14 #[.pointer (some ⟨g, 0, none⟩)] w fun e w' => e = .returned (I f.es.length) ∧ Below w.heap.size w w' := by
  obtain ⟨v, mo, X, c, h1, h2⟩ := lfd_lies h.1 hl
  exact len_ok h1
theorem lopen_ok {f : Fd} {g : Nat} {l : Hp} (h : LFd f g l) (hf : FitF f) (w : World) (hl : Lies w l) : Calls Try.prog 12 #[.pointer (some ⟨g, 0, none⟩)] w fun e w' => ∃ r, e = .returned r ∧ NewRow 3 1 w w' r (openF f).length (nats (openF f)) := by
  obtain ⟨v, mo, X, c, h1, h2⟩ := lfd_lies h.1 hl
  exact open_ok h1 hf.len2
/-! .. without a feed. -/
theorem calls0 {P : Program} {f : FuncId} {fn : Func} {c : Code} {args : List Value} {w : World} {R : Ending → World → Prop} {n : Nat}
    (hf : P.funcs[f]? = some fn) (hb : fn.body = some c) (hn : fn.ntmps = n) (hl : Nat.ble args.length n = true) (hr : fn.results = #[])
    (h : aw P ⟨w.heap.size, w, n⟩ c (ret0 fun H => ∀ w', RepH ⟨w.heap.size, w, n⟩ H w' → R (.returned (.tuple #[])) w') (tm0 args) []) : Calls P f args.toArray w R := by
  refine calls_of_aw0 hf hb hn hl h fun e a t' H' r1 q => ?_
  cases e with
  | normal => exact ⟨.inl rfl, _, fun w' r2 => ⟨results_none hr _ _ _, q _ r2⟩⟩
  | ret => exact ⟨.inr rfl, _, fun w' r2 => ⟨results_none hr _ _ _, q _ r2⟩⟩
  | exit _ => exact q.elim
  | goto _ => exact q.elim
  | panic _ => exact q.elim
  | outgrown => exact q.elim
theorem lgrow0_ok (k : Kt) (w : World) : Calls Try.prog 20 #[.pointer none, K3 k] w fun e w' => e = .returned (.tuple #[]) ∧ Below w.heap.size w w' := by
  refine calls0 (args := [.pointer none, K3 k]) Try.func20 rfl rfl rfl rfl ?_
  repeat' (first | refine aw_seq ?_ | ((first | apply ao_val | apply aq_val); exact wants_a; (first | exact ov_nilcheck rfl | exact ov_peq0 rfl rfl | exact ov_pne0 rfl rfl | exact ov_a); (exact rfl)) | refine zy ?_ | refine zon fun _ => ?_ | refine zoa fun vr lr hr => ?_ | refine zoS (fun _ => ?_) (fun _ => ?_) | refine zqS (fun _ => ?_) (fun _ => ?_) | refine zwS (fun _ => ?_) (fun _ => ?_))
  exact fun w' hw => ⟨rfl, hw.below⟩
theorem ltell0_ok (n : Int) (w : World) : Calls Try.prog 21 #[.pointer none, I n] w fun e w' => e = .returned (I 1) ∧ Below w.heap.size w w' := by
  have hh := fun w' => has0_ok n w'
  refine calls1 (args := [.pointer none, I n]) Try.func21 rfl rfl rfl rfl ?_
  repeat' (first | refine aw_seq ?_ | refine zz ?_ | refine zon fun _ => ?_ | refine zoa fun vr lr hr => ?_ | ((first | apply ao_call | apply aq_call); exact wants_a; (first | exact oc_func rfl | exact oc_clos rfl rfl | exact oc_bnd rfl rfl); (exact rfl); (first | exact fun w hw => hh w)) | refine zoS (fun _ => ?_) (fun _ => ?_) | refine zqS (fun _ => ?_) (fun _ => ?_) | refine zwS (fun _ => ?_) (fun _ => ?_))
  exact fun w' hw => ⟨rfl, hw.below⟩
theorem ldrop0_ok (n : Int) (w : World) : Calls Try.prog 22 #[.pointer none, I n] w fun e w' => e = .returned (I 1) ∧ Below w.heap.size w w' := by
  have hh := fun w' => has0_ok n w'
  refine calls1 (args := [.pointer none, I n]) Try.func22 rfl rfl rfl rfl ?_
  repeat' (first | refine aw_seq ?_ | refine zz ?_ | refine zon fun _ => ?_ | refine zoa fun vr lr hr => ?_ | ((first | apply ao_call | apply aq_call); exact wants_a; (first | exact oc_func rfl | exact oc_clos rfl rfl | exact oc_bnd rfl rfl); (exact rfl); (first | exact fun w hw => hh w)) | refine zoS (fun _ => ?_) (fun _ => ?_) | refine zqS (fun _ => ?_) (fun _ => ?_) | refine zwS (fun _ => ?_) (fun _ => ?_))
  exact fun w' hw => ⟨rfl, hw.below⟩
theorem lcover0_ok (n : Int) (w : World) : Calls Try.prog 19 #[.pointer none, I n] w fun e w' => e = .returned (I 1) ∧ Below w.heap.size w w' := by
  refine calls1 (args := [.pointer none, I n]) Try.func19 rfl rfl rfl rfl ?_
  repeat' (first | refine aw_seq ?_ | ((first | apply ao_val | apply aq_val); exact wants_a; (first | exact ov_nilcheck rfl | exact ov_peq0 rfl rfl | exact ov_pne0 rfl rfl | exact ov_a); (exact rfl)) | refine zy ?_ | refine zon fun _ => ?_ | refine zoa fun vr lr hr => ?_ | refine zoS (fun _ => ?_) (fun _ => ?_) | refine zqS (fun _ => ?_) (fun _ => ?_) | refine zwS (fun _ => ?_) (fun _ => ?_))
  exact fun w' hw => ⟨rfl, hw.below⟩
theorem lsafe0_ok (w : World) : Calls Try.prog 15 #[.pointer none] w fun e w' => e = .returned (I 0) ∧ Below w.heap.size w w' := safe0_ok w
theorem ldone0_ok (w : World) : Calls Try.prog 17 #[.pointer none] w fun e w' => e = .returned (.bool false) ∧ Below w.heap.size w w' := by
  refine calls1 (args := [.pointer none]) Try.func17 rfl rfl rfl rfl ?_
  repeat' (first | refine aw_seq ?_ | ((first | apply ao_val | apply aq_val); exact wants_a; (first | exact ov_nilcheck rfl | exact ov_peq0 rfl rfl | exact ov_pne0 rfl rfl | exact ov_a); (exact rfl)) | refine zy ?_ | refine zon fun _ => ?_ | refine zoa fun vr lr hr => ?_ | refine zoS (fun _ => ?_) (fun _ => ?_) | refine zqS (fun _ => ?_) (fun _ => ?_) | refine zwS (fun _ => ?_) (fun _ => ?_))
  exact fun w' hw => ⟨rfl, hw.below⟩
theorem llen0_ok (w : World) : Calls Try.prog 14 #[.pointer none] w fun e w' => e = .returned (I 0) ∧ Below w.heap.size w w' := len0_ok w
theorem lopen0_ok (w : World) : Calls Try.prog 12 #[.pointer none] w fun e w' => ∃ r, e = .returned r ∧ NewRow 3 1 w w' r 0 [] := open0_ok w
end Fdt
end Go.Proofs.Ytpenogailhlcaaa
