/- The live question of layer 14; conditions: none. -/
import Derived.Test.YtkjjlppfomidbaaGreatLal
import Derived.Test.YtkjjlppfomidbaaGreatVptext
import Derived.Test.YtkjjlppfomidbaaGreatSxn
namespace Go.Proofs.YtkjjlppfomidbaaGreat
namespace Aut
open Go Go.RowKit Sx Vec Ojt Scp Lct
attribute [local irreducible] Go.Calls
abbrev na : Tx := [97]
abbrev nb : Tx := [98]
abbrev nz : Tx := [122]
abbrev nCpu : Tx := [99, 112, 117]
abbrev T1 : Trt.Tr := [(na, Trt.rootN), (Trt.rootN, [])]
abbrev T2 : Trt.Tr := [(na, Trt.rootN), (nb, na), (Trt.rootN, [])]
abbrev oB (s : Tx) : Ob := ⟨[112, 111, 100], s, [120], 1, [], false, false, [(nCpu, 9223372036854775807)]⟩
abbrev osA (u : Value) : List Evt.PO := [(u, oB nb), (u, oB na), (u, oB nz)]
abbrev ss1 : List Sc := [(.slice none 0 0, [])]
abbrev w1 : List Ent := [(nCpu, 9223372036854775807), (nObj, 1)]
abbrev w2 : List Ent := [(nCpu, 18446744073709551614), (nObj, 2)]
abbrev L3 : List Su := [((nb, 0), w1), ((na, 0), w1), ((nz, 0), w1)]
theorem q1 (u : Value) : loadS (scT ss1) (Evt.obs (osA u)) = (L3, 0) := by kernel_rfl
theorem q2 : allA L3 T2 na 0 = w2 := by kernel_rfl
theorem q3 : allA L3 T2 Trt.rootN 0 = w2 := by kernel_rfl
theorem q4 : allA L3 T2 nb 0 = w1 := by kernel_rfl
theorem q5 : allA L3 T2 nz 0 = [] := by kernel_rfl
theorem q6 : allA L3 T2 na 1 = [] := by kernel_rfl
theorem q7 : getS L3 (na, 0) = w1 := by kernel_rfl
theorem q8 : getS L3 (nz, 0) = w1 := by kernel_rfl
theorem q9 : vfitsB w2 = false := by kernel_rfl
theorem qA : vfitsB w1 = true := by kernel_rfl
theorem qB : textV w2 = [99, 112, 117, 61, 49, 56, 52, 52, 54, 55, 52, 52, 48, 55, 51, 55, 48, 57, 53, 53, 49, 54, 49, 52, 44, 111, 98, 106, 101, 99, 116, 115, 61, 50] := by kernel_rfl
theorem qC : textV w1 = [99, 112, 117, 61, 57, 50, 50, 51, 51, 55, 50, 48, 51, 54, 56, 53, 52, 55, 55, 53, 56, 48, 55, 44, 111, 98, 106, 101, 99, 116, 115, 61, 49] := by kernel_rfl
theorem qR (u : Value) : (Evt.obs (osA u)).all rightO = true := by kernel_rfl
theorem wf_b (s : Tx) (hs : s.length ≤ 10) : wfO (oB s) := ⟨(by show 3 ≤ 100000; decide), (by show s.length ≤ 100000; omega), (by show 1 ≤ 100000; decide), (by show 0 ≤ 100000; decide), (by show 1 ≤ 100000; decide), fun r hr => by
  rw [List.mem_singleton.1 hr]
  exact ⟨by decide, by decide, by decide⟩⟩
theorem wf_os (u : Value) : ∀ p ∈ osA u, wfO p.2 := fun p hp => by
  rcases List.mem_cons.1 hp with rfl | hp
  · exact wf_b _ (by decide)
  · rcases List.mem_cons.1 hp with rfl | hp
    · exact wf_b _ (by decide)
    · rw [List.mem_singleton.1 hp]; exact wf_b _ (by decide)
theorem wf_w : wfV w1 ∧ wfV w2 := by
  constructor <;> exact ⟨by decide, fun e he => by
    rcases List.mem_cons.1 he with rfl | he
    · exact ⟨by decide, by unfold Wid.inW; decide⟩
    · rw [List.mem_singleton.1 he]; exact ⟨by decide, by unfold Wid.inW; decide⟩⟩
theorem objs3 {E : Env} {H : Hp} {w : World} {b c : Nat} {e1 e2 : TypeId} (h : RepH E H w) (hb : Has H b (.cells #[S nCpu, I 9223372036854775807] e1 (0, 0))) (hc : Has H c (.cells ((osA (.slice (some ⟨b, 0, none⟩) 1 1)).flatMap Evt.cellsO).toArray e2 (0, 0))) : Evt.ObjsAt w (.slice (some ⟨c, 0, none⟩) 3 3) (osA (.slice (some ⟨b, 0, none⟩) 1 1)) := by
  have hr : ResAt w (.slice (some ⟨b, 0, none⟩) 1 1) [(nCpu, 9223372036854775807)] := old_blk (n := 1) (xs := [S nCpu, I 9223372036854775807]) h hb rfl
  refine ⟨old_blk (n := 3) h hc rfl, fun p hp => ?_⟩
  rcases List.mem_cons.1 hp with rfl | hp
  · exact hr
  · rcases List.mem_cons.1 hp with rfl | hp
    · exact hr
    · rw [List.mem_singleton.1 hp]; exact hr
theorem scs1 {E : Env} {H : Hp} {w : World} {c : Nat} {e2 : TypeId} (h : RepH E H w) (hc : Has H c (.cells #[.slice none 0 0] e2 (0, 0))) : ScsAt w (.slice (some ⟨c, 0, none⟩) 1 1) ss1 := by
  refine ⟨old_blk (n := 1) (xs := [.slice none 0 0]) h hc rfl, fun s hs => ?_⟩
  rw [List.mem_singleton.1 hs]
  exact ⟨OldRow.nil, fun p hp => by cases hp⟩
set_option maxHeartbeats 64000000 in
theorem alive_ok (w : World) : Calls Tryz.prog 6 #[] w fun e w' => e = .returned (.bool true) ∧ Below w.heap.size w w' := by
  have p1 : Trt.createT (Lab.rightB na) Trt.Tr.new na Trt.rootN = (0, T1) := by kernel_rfl
  have p2 : Trt.createT (Lab.rightB nb) T1 nb na = (0, T2) := by kernel_rfl
  have s1 : ∀ c : UInt8, [c].length ≤ 100 := fun c => by show 1 ≤ 100; omega
  have f1 : Trt.FitT T1 := by have := Trt.fit_doT Trt.FitT.new 0 (s1 97) Trt.rootN; rw [Trt.do_01 (.inl (by decide)), p1] at this; exact this
  have f2 : Trt.FitT T2 := by have := Trt.fit_doT f1 0 (s1 98) na; rw [Trt.do_01 (.inl (by decide)), p2] at this; exact this
  have c1 := fun {m g : Nat} {l : Hp} h R => Trt.tcreate_ok (m := m) (w0 := w) (g := g) (l := l) h Trt.FitT.new na Trt.rootN (s1 97) R
  have c2 := fun {m g : Nat} {l : Hp} h R => Trt.tcreate_ok (m := m) (w0 := w) (g := g) (l := l) h f1 nb na (s1 98) R
  have c3 := fun {m g : Nat} {l : Hp} h R => Trt.tremove_ok (m := m) (w0 := w) (g := g) (l := l) h f2 nb R
  unfold Trt.LDid at c1 c2 c3
  simp only [p1] at c1
  simp only [p2] at c2
  obtain ⟨L', hL', hA⟩ := load_A (scs := scT ss1) (by decide) (os := Evt.obs (osA .nilFunc)) (by decide) (fun o ho => by
    obtain ⟨p, hp, rfl⟩ := List.mem_map.1 ho
    exact wf_os _ p hp) (qR _)
  rw [q1] at hL'
  cases hL'
  generalize (fun b n => cnt (scT ss1) b n (Evt.obs (osA .nilFunc))) = f at hA
  have hfu := fun {u v0 v1 : Value} {gt : Nat} {lt : Hp} w' h1 h2 (hT : Trt.LTr T2 gt lt) (hl : Lies w' lt) => auf_t (v0 := v0) (v1 := v1) (ss := ss1) (os := osA u) h1 (fun s hs => by rw [List.mem_singleton.1 hs]; exact ⟨Nat.zero_le _, fun p hp => by cases hp⟩) (show 1 ≤ 20 by decide) h2 (show 3 ≤ 1000 by decide) (wf_os u) hT f2 hl (by kernel_rfl) (q1 u) hA
  refine calls1 (args := []) Tryz.func6 rfl rfl rfl rfl ?_
  repeat' (first | refine aw_seq ?_ | refine zz ?_ | refine zon fun _ => ?_ | refine zoa fun vr lr hr => ?_ | ((apply ao_callD; exact wants_a; (exact oc_func rfl); (exact rfl); (intro w hw; exact Trt.tnew_ok w); intro vr l0 hr; obtain ⟨g, hvr, hL0⟩ := hr; subst hvr)) | refine zoS (fun _ => ?_) (fun _ => ?_) | refine zqS (fun _ => ?_) (fun _ => ?_) | refine zwS (fun _ => ?_) (fun _ => ?_))
  repeat' (first | refine aw_seq ?_ | refine zz ?_ | refine zon fun _ => ?_ | refine zoa fun vr lr hr => ?_ | ((have hq := fun {m} R => c1 (m := m) hL0 R; apply ao_callH (l := l0); exact wants_a; (exact oc_func rfl); (exact rfl); (exact cut_a); (exact hq _); rintro _ _ ⟨rfl, l1, rfl, hL1⟩; clear hq c1)) | refine zoS (fun _ => ?_) (fun _ => ?_) | refine zqS (fun _ => ?_) (fun _ => ?_) | refine zwS (fun _ => ?_) (fun _ => ?_))
  repeat' (first | refine aw_seq ?_ | refine zz ?_ | refine zon fun _ => ?_ | refine zoa fun vr lr hr => ?_ | ((have hq := fun {m} R => c2 (m := m) hL1 R; apply ao_callH (l := l1); exact wants_a; (exact oc_func rfl); (exact rfl); (exact cut_a); (exact hq _); rintro _ _ ⟨rfl, l2, rfl, hL2⟩; clear hq c2)) | refine zoS (fun _ => ?_) (fun _ => ?_) | refine zqS (fun _ => ?_) (fun _ => ?_) | refine zwS (fun _ => ?_) (fun _ => ?_))
  repeat' (first | refine aw_seq ?_ | ((first | apply ao_val | apply aq_val); exact wants_a; (first | exact ov_peqs rfl rfl | exact ov_a); (exact rfl)) | refine zy ?_ | refine zon fun _ => ?_ | refine zoa fun vr lr hr => ?_ | ((first | apply ao_call | apply aq_call); exact wants_a; (first | exact oc_func rfl | exact oc_clos rfl rfl | exact oc_bnd rfl rfl); (exact rfl); (first | exact fun w hw => auf0_ok w)) | ((apply ao_callD; exact wants_a; (exact oc_func rfl); (exact rfl); (intro w hw; exact hfu w (scs1 hw has_a) (objs3 hw has_a has_a) hL2 (lies_of hw (l := l2) cut_a)); rintro _ lau ⟨gx, rfl, hAu⟩)) | refine zoS (fun _ => ?_) (fun _ => ?_) | refine zqS (fun _ => ?_) (fun _ => ?_) | refine zwS (fun _ => ?_) (fun _ => ?_))
  have hAu : LAu (scT ss1) L3 T2 gx lau := hAu
  have hq := fun {m} R => c3 (m := m) hL2 R
  have hal := fun s i w' hl => auall_ok hAu hA s i w' hl
  have how := fun s i w' hl => auown_ok hAu hA s i w' hl
  have hov := fun s i w' hl => auover_ok hAu hA s i w' hl
  have g1 := hal na 0
  have g2 := hal nz 0
  have g3 := hal na 1
  have g4 := how na 0
  have g5 := how nz 0
  have g6 := hov na 0
  have g7 := hov Trt.rootN 0
  have g8 := hov nb 0
  rw [q2] at g1 g6
  rw [q5] at g2
  rw [q6] at g3
  rw [q7] at g4
  rw [q8] at g5
  rw [q3] at g7
  rw [q4] at g8
  rw [q9] at g6 g7
  rw [qA] at g8
  have t2 := fun v w' hv => ptext_ok v w2 wf_w.2 (by decide) w' hv
  have t1 := fun v w' hv => ptext_ok v w1 wf_w.1 (by decide) w' hv
  rw [qB] at t2
  rw [qC] at t1
  repeat' (first | refine aw_seq ?_ | ((first | apply ao_val | apply aq_val); exact wants_a; (first | exact ov_peqs rfl rfl | exact ov_lenr rfl (by assumption) | exact ov_a); (exact rfl)) | refine zy ?_ | refine zon fun _ => ?_ | refine zoa fun vr lr hr => ?_ | ((first | apply ao_call | apply aq_call); exact wants_a; (first | exact oc_func rfl | exact oc_clos rfl rfl | exact oc_bnd rfl rfl); (exact rfl); (first | exact fun w hw => t2 _ w (hw.oldr (by assumption) cut_a) | exact fun w hw => t1 _ w (hw.oldr (by assumption) cut_a) | exact fun w hw => g6 w (lies_of hw (l := lau) cut_a) | exact fun w hw => g7 w (lies_of hw (l := lau) cut_a) | exact fun w hw => g8 w (lies_of hw (l := lau) cut_a))) | (apply ao_callr; exact wants_a; (exact oc_func rfl); (exact rfl); (first | exact fun w hw => g1 w (lies_of hw (l := lau) cut_a) | exact fun w hw => g2 w (lies_of hw (l := lau) cut_a) | exact fun w hw => g3 w (lies_of hw (l := lau) cut_a) | exact fun w hw => g4 w (lies_of hw (l := lau) cut_a) | exact fun w hw => g5 w (lies_of hw (l := lau) cut_a)); intro vr lr hr) | ((apply ao_callH (l := l2); exact wants_a; (exact oc_func rfl); (exact rfl); (exact cut_a); (exact hq _); rintro _ _ ⟨rfl, l3, rfl, hL3⟩; clear hq)) | refine zoS (fun _ => ?_) (fun _ => ?_) | refine zqS (fun _ => ?_) (fun _ => ?_) | refine zwS (fun _ => ?_) (fun _ => ?_))
  exact fun w' hw => ⟨rfl, hw.below⟩
end Aut
end Go.Proofs.YtkjjlppfomidbaaGreat
