/- The live question of layer 13; conditions: none. -/
import Derived.Test.YtdakeicfhbggeaaGreatLcl
import Derived.Test.YtdakeicfhbggeaaGreatVptext
import Derived.Test.YtdakeicfhbggeaaGreatSxn
namespace Go.Proofs.YtdakeicfhbggeaaGreat
namespace Lct
open Go Go.RowKit Sx Vec Ojt Scp Wid
attribute [local irreducible] Go.Calls
abbrev nA : Vec.Nm := [97]
abbrev nCpu : Vec.Nm := [99, 112, 117]
abbrev kA : Chm.Kt := ([112, 111, 100], nA, [120])
abbrev oA (bs : Bool) : Ob := ⟨[112, 111, 100], nA, [120], 1, [], false, bs, [(nCpu, 2)]⟩
abbrev oZ : Ob := ⟨[], [], [], 0, [], false, false, []⟩
abbrev ssA (b : Nat) : List Sc := [(.slice none 0 0, []), (.slice (some ⟨b, 0, none⟩) 1 1, [(.slice none 0 0, (6, []))])]
abbrev scA : List (List Trm) := [[], [(6, [])]]
abbrev vA : List Ent := [(nCpu, 2), (nObj, 1)]
abbrev zPO : Evt.PO := (.slice none 0 0, oZ)
abbrev d1 (u : Value) : List Chm.PD := [⟨kA, false, true, zPO, (u, oA false)⟩]
abbrev d2 (u : Value) : List Chm.PD := [⟨kA, true, true, (u, oA false), (u, oA true)⟩]
abbrev d3 (u : Value) : List Chm.PD := [⟨([], [], []), false, true, zPO, (u, oA false)⟩]
abbrev LA1 : List Su := [((nA, 0), vA)]
abbrev LA2 : List Su := [((nA, 0), vA), ((nA, 1), vA)]
theorem a1 (u : Value) : applyS scA [] (d1 u) = (LA1, [nA], 0) := by kernel_rfl
theorem a2 (u : Value) : applyS scA LA1 (d2 u) = (LA2, [nA], 0) := by kernel_rfl
theorem a3 (u : Value) : applyS scA LA2 (d3 u) = (LA2, [], 1) := by kernel_rfl
theorem a4 : applyS scA LA2 [] = (LA2, [], 0) := by kernel_rfl
theorem g0 : getS LA2 (nA, 0) = vA := by kernel_rfl
theorem g1 : getS LA2 (nA, 1) = vA := by kernel_rfl
theorem g2 : getS LA2 ([98], 0) = [] := by kernel_rfl
theorem tA : textV vA = [99, 112, 117, 61, 50, 44, 111, 98, 106, 101, 99, 116, 115, 61, 49] := by kernel_rfl
theorem sA2 : spacesS LA2 = [nA] := by kernel_rfl
theorem rA : rightScs scA = true := by kernel_rfl
theorem wf_o (bs : Bool) : wfO (oA bs) := ⟨(by show 3 ≤ 100000; decide), (by show 1 ≤ 100000; decide), (by show 1 ≤ 100000; decide), (by show 0 ≤ 100000; decide), (by show 1 ≤ 100000; decide), fun r hr => by
  rw [List.mem_singleton.1 hr]
  exact ⟨by decide, by decide, by decide⟩⟩
theorem wf_oz : wfO oZ := ⟨by decide, by decide, by decide, by decide, by decide, fun r hr => by cases hr⟩
theorem wf_d1 (u : Value) : ∀ d ∈ d1 u, wfO d.old.2 ∧ wfO d.new.2 := fun d hd => by rw [List.mem_singleton.1 hd]; exact ⟨wf_oz, wf_o _⟩
theorem wf_d2 (u : Value) : ∀ d ∈ d2 u, wfO d.old.2 ∧ wfO d.new.2 := fun d hd => by rw [List.mem_singleton.1 hd]; exact ⟨wf_o _, wf_o _⟩
theorem wf_d3 (u : Value) : ∀ d ∈ d3 u, wfO d.old.2 ∧ wfO d.new.2 := fun d hd => by rw [List.mem_singleton.1 hd]; exact ⟨wf_oz, wf_o _⟩
theorem wf_vA : wfV vA := ⟨by decide, fun e he => by
  rcases List.mem_cons.1 he with rfl | he
  · exact ⟨by decide, by unfold inW; decide⟩
  · rw [List.mem_singleton.1 he]; exact ⟨by decide, by unfold inW; decide⟩⟩
theorem bA1 : BndU 2 LA1 := by
  have := applyS_bnd (scs := scA) (L := []) (by decide) (wf_d1 .nilFunc) BndU.nil (by decide)
  rw [a1] at this
  exact this
theorem bA2 : BndU 4 LA2 := by
  have := applyS_bnd (scs := scA) (by decide) (wf_d2 .nilFunc) bA1 (by decide)
  rw [a2] at this
  exact this
theorem scs_at {E : Env} {H : Hp} {w : World} {b c : Nat} {e1 e2 : TypeId} (h : RepH E H w) (hb : Has H b (.cells #[I 6, .slice none 0 0] e1 (0, 0))) (hc : Has H c (.cells #[.slice none 0 0, .slice (some ⟨b, 0, none⟩) 1 1] e2 (0, 0))) : ScsAt w (.slice (some ⟨c, 0, none⟩) 2 2) (ssA b) := by
  refine ⟨old_blk (n := 2) (xs := [.slice none 0 0, .slice (some ⟨b, 0, none⟩) 1 1]) h hc rfl, fun s hs => ?_⟩
  rcases List.mem_cons.1 hs with rfl | hs
  · exact ⟨OldRow.nil, fun p hp => by cases hp⟩
  · rw [List.mem_singleton.1 hs]
    refine ⟨old_blk (n := 1) (xs := [I 6, .slice none 0 0]) h hb rfl, fun p hp => ?_⟩
    rw [List.mem_singleton.1 hp]
    exact OldRow.nil
theorem del_at {E : Env} {H : Hp} {w : World} {b c : Nat} {e1 e2 : TypeId} {d : Chm.PD} (h : RepH E H w) (hb : Has H b (.cells #[S nCpu, I 2] e1 (0, 0))) (hc : Has H c (.cells (Chm.cellsD d).toArray e2 (0, 0))) (ho : d.old = zPO ∨ d.old = (.slice (some ⟨b, 0, none⟩) 1 1, oA false)) (hn : ∃ bs, d.new = (.slice (some ⟨b, 0, none⟩) 1 1, oA bs)) : DelAt w (.slice (some ⟨c, 0, none⟩) 1 1) [d] := by
  have hr : ResAt w (.slice (some ⟨b, 0, none⟩) 1 1) [(nCpu, 2)] := old_blk (n := 1) (xs := [S nCpu, I 2]) h hb rfl
  refine ⟨by rw [List.flatMap_cons, List.flatMap_nil, List.append_nil]; exact old_blk (n := 1) h hc rfl, fun x hx => ?_⟩
  rw [List.mem_singleton.1 hx]
  obtain ⟨bs, hn⟩ := hn
  rw [hn]
  rcases ho with ho | ho <;> rw [ho]
  · exact ⟨OldRow.nil, hr⟩
  · exact ⟨hr, hr⟩
theorem ap_one {m : Nat} {w0 : World} {L : List Su} {g k : Nat} {l : Hp} {vd : Value} {d : Chm.PD} {X : List Su × List (List UInt8) × Int} (hL : LLo scA L g l) (hw : ∀ x ∈ [d], wfO x.old.2 ∧ wfO x.new.2) (hB : BndU k L) (hk : k ≤ 10) (hX : applyS scA L [d] = X) (R : Hp) (hd : ∀ n w, RepH ⟨w0.heap.size, w0, n⟩ R w → DelAt w vd [d]) :
    CallsH Tryz.prog ⟨w0.heap.size, w0, m⟩ 11 [.pointer (some ⟨g, 0, none⟩), vd] (l ++ R) (ADid g scA X R) := by
  rw [← hX]
  exact loapply_ok (ds := [d]) hL (by decide) (show 1 ≤ 10000 by decide) hw (smallA_of (by decide) _ hw hB (by show k + 2 * 1 ≤ 1000; omega)) R hd
theorem ap_none {m : Nat} {w0 : World} {L : List Su} {g k : Nat} {l : Hp} {X : List Su × List (List UInt8) × Int} (hL : LLo scA L g l) (hB : BndU k L) (hk : k ≤ 10) (hX : applyS scA L [] = X) (R : Hp) :
    CallsH Tryz.prog ⟨w0.heap.size, w0, m⟩ 11 [.pointer (some ⟨g, 0, none⟩), .slice none 0 0] (l ++ R) (ADid g scA X R) := by
  rw [← hX]
  exact loapply_ok (ds := []) hL (by decide) (Nat.zero_le _) (fun d hd => by cases hd) (smallA_of (by decide) _ (fun d hd => by cases hd) hB (by show k + 2 * 0 ≤ 1000; omega)) R fun n w _ => ⟨OldRow.nil, fun d hd => by cases hd⟩
set_option maxHeartbeats 64000000 in
theorem alive_ok (w : World) : Calls Tryz.prog 8 #[] w fun e w' => e = .returned (.bool true) ∧ Below w.heap.size w w' := by
  refine calls1 (args := []) Tryz.func8 rfl rfl rfl rfl ?_
  have hnew := fun {b : Nat} {v : Value} w' (h : ScsAt w' v (ssA b)) => lonew_t h (by
    intro s hs
    rcases List.mem_cons.1 hs with rfl | hs
    · exact ⟨Nat.zero_le _, fun p hp => by cases hp⟩
    · rw [List.mem_singleton.1 hs]
      exact ⟨(by show 1 ≤ 100000; decide), fun p hp => by rw [List.mem_singleton.1 hp]; exact ⟨Nat.zero_le _, fun v hv => by cases hv⟩⟩) (show 2 ≤ 20 by decide) rA
  repeat' (first | refine aw_seq ?_ | ((first | apply ao_val | apply aq_val); exact wants_a; (first | exact ov_peqs rfl rfl | exact ov_a); (exact rfl)) | refine zy ?_ | refine zon fun _ => ?_ | refine zoa fun vr lr hr => ?_ | ((apply ao_callD; exact wants_a; (exact oc_func rfl); (exact rfl); (intro w hw; exact hnew w (scs_at hw has_a has_a)); intro vr l0 hr; obtain ⟨gl, hvr, hL⟩ := hr; subst hvr)) | refine zoS (fun _ => ?_) (fun _ => ?_) | refine zqS (fun _ => ?_) (fun _ => ?_) | refine zwS (fun _ => ?_) (fun _ => ?_))
  have hL : LLo scA [] gl l0 := hL
  have hap := fun {u : Value} {vd : Value} m R hd => ap_one (m := m) (w0 := w) (vd := vd) hL (wf_d1 u) BndU.nil (Nat.zero_le _) (a1 u) R hd
  repeat' (first | refine aw_seq ?_ | ((first | apply ao_val | apply aq_val); exact wants_a; (first | exact ov_peqs rfl rfl | exact ov_a); (exact rfl)) | refine zy ?_ | refine zon fun _ => ?_ | refine zoa fun vr lr hr => ?_ | ((apply ao_callH (l := l0); exact wants_a; (exact oc_func rfl); (exact rfl); (exact cut_a); (exact hap _ _ (fun n w' hw => del_at hw has_a has_a (.inl rfl) ⟨_, rfl⟩)); rintro _ _ ⟨r1, lr1, l1, rfl, rfl, hr1, hL1⟩)) | refine zoS (fun _ => ?_) (fun _ => ?_) | refine zqS (fun _ => ?_) (fun _ => ?_) | refine zwS (fun _ => ?_) (fun _ => ?_))
  have hap2 := fun {u : Value} {vd : Value} m R hd => ap_one (m := m) (w0 := w) (vd := vd) hL1 (wf_d2 u) bA1 (by decide) (a2 u) R hd
  repeat' (first | refine aw_seq ?_ | refine zz ?_ | refine zon fun _ => ?_ | refine zoa fun vr lr hr => ?_ | ((apply ao_callH (l := l1); exact wants_a; (exact oc_func rfl); (exact rfl); (exact cut_a); (exact hap2 _ _ (fun n w' hw => del_at hw has_a has_a (.inr rfl) ⟨_, rfl⟩)); rintro _ _ ⟨r2, lr2, l2, rfl, rfl, hr2, hL2⟩)) | refine zoS (fun _ => ?_) (fun _ => ?_) | refine zqS (fun _ => ?_) (fun _ => ?_) | refine zwS (fun _ => ?_) (fun _ => ?_))
  have hap3 := fun {u : Value} {vd : Value} m R hd => ap_one (m := m) (w0 := w) (vd := vd) hL2 (wf_d3 u) bA2 (by decide) (a3 u) R hd
  repeat' (first | refine aw_seq ?_ | refine zz ?_ | refine zon fun _ => ?_ | refine zoa fun vr lr hr => ?_ | ((apply ao_callH (l := l2); exact wants_a; (exact oc_func rfl); (exact rfl); (exact cut_a); (exact hap3 _ _ (fun n w' hw => del_at hw has_a has_a (.inl rfl) ⟨_, rfl⟩)); rintro _ _ ⟨r3, lr3, l3, rfl, rfl, hr3, hL3⟩)) | refine zoS (fun _ => ?_) (fun _ => ?_) | refine zqS (fun _ => ?_) (fun _ => ?_) | refine zwS (fun _ => ?_) (fun _ => ?_))
  have hap4 := fun m R => ap_none (m := m) (w0 := w) hL3 bA2 (by decide) a4 R
  obtain ⟨b1, cap1, cs1, rfl, rfl, hcap1, hcl1, hct1⟩ := RowB.open (n := 1) (xs := [S nA]) hr1 (by decide)
  have cA : cs1[0 + (0 : Int).toNat * 1]? = some (S nA) := by
    have := congrArg (fun l : List Value => l[0]?) hct1
    simpa using this
  have hsm := bA2.small (by decide)
  have hs0 := fun l w' (hL : LLo scA LA2 gl l) (hl : Lies w' l) => losum_ok hL hsm nA 0 w' hl
  have hs1 := fun l w' (hL : LLo scA LA2 gl l) (hl : Lies w' l) => losum_ok hL hsm nA 1 w' hl
  have hs2 := fun l w' (hL : LLo scA LA2 gl l) (hl : Lies w' l) => losum_ok hL hsm [98] 0 w' hl
  have hsp := fun l w' (hL : LLo scA LA2 gl l) (hl : Lies w' l) => lospaces_ok hL hsm w' hl
  rw [g0] at hs0
  rw [g1] at hs1
  rw [g2] at hs2
  rw [sA2] at hsp
  have htx := fun v w' hv => ptext_ok v vA wf_vA (by decide) w' hv
  rw [tA] at htx
  repeat' (first | refine aw_seq ?_ | refine zz ?_ | refine zon fun _ => ?_ | refine zoa fun vr lr hr => ?_ | ((apply ao_callH (l := l3); exact wants_a; (exact oc_func rfl); (exact rfl); (exact cut_a); (exact hap4 _ _); rintro _ _ ⟨r4, lr4, l4, rfl, rfl, hr4, hL4⟩)) | refine zoS (fun _ => ?_) (fun _ => ?_) | refine zqS (fun _ => ?_) (fun _ => ?_) | refine zwS (fun _ => ?_) (fun _ => ?_))
  replace hs0 := fun w' hl => hs0 l4 w' hL4 hl
  replace hs1 := fun w' hl => hs1 l4 w' hL4 hl
  replace hs2 := fun w' hl => hs2 l4 w' hL4 hl
  replace hsp := fun w' hl => hsp l4 w' hL4 hl
  have hsc := fun w' hl => loscopes_ok hL4 w' hl
  repeat' (first | refine aw_seq ?_ | ((first | apply ao_val | apply aq_val); exact wants_a; (first | exact ov_lenr rfl (by assumption) | exact ov_a); (exact rfl)) | refine zy ?_ | refine zon fun _ => ?_ | refine zoa fun vr lr hr => ?_ | ((first | apply ao_call | apply aq_call); exact wants_a; (first | exact oc_func rfl | exact oc_clos rfl rfl | exact oc_bnd rfl rfl); (exact rfl); (first | exact fun w hw => htx _ w (hw.oldr (by assumption) cut_a))) | (apply ao_callr; exact wants_a; (exact oc_func rfl); (exact rfl); (first | exact fun w hw => hs0 w (lies_of hw (l := l4) cut_a) | exact fun w hw => hs1 w (lies_of hw (l := l4) cut_a) | exact fun w hw => hs2 w (lies_of hw (l := l4) cut_a) | exact fun w hw => hsp w (lies_of hw (l := l4) cut_a)); intro vr lr hr) | ((apply ao_callD; exact wants_a; (exact oc_func rfl); (exact rfl); (intro w hw; exact hsc w (lies_of hw (l := l4) cut_a)); rintro _ ls ⟨ss', a5, c5, -, rfl, -⟩)) | refine zoS (fun _ => ?_) (fun _ => ?_) | refine zqS (fun _ => ?_) (fun _ => ?_) | refine zwS (fun _ => ?_) (fun _ => ?_))
  exact fun w' hw => ⟨rfl, hw.below⟩
end Lct
end Go.Proofs.YtdakeicfhbggeaaGreat
