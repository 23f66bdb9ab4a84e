/- Contracts of the landed code of layer 7: Own, Sorted; conditions: names of at most 1,000 bytes, at most 100,000 objects and resources. -/
import Derived.Test.YtbllkmhkpapgeaaEvx
import Derived.Test.YtbllkmhkpapgeaaEvy
import Derived.Test.YtbllkmhkpapgeaaSrp
import Derived.Test.YtbllkmhkpapgeaaSrd
namespace Go.Proofs.Ytbllkmhkpapgeaa
namespace Evt
open Go Go.RowKit Sx Lab Vec Ojt
attribute [local irreducible] Go.Calls

set_option maxHeartbeats 8000000 in
theorem pcmp_ok (p q : PO) (hp : wfS p.2) (hq : wfS q.2) (w : World) :
    Calls Try.prog 52 #[.agg (cellsO p).toArray, .agg (cellsO q).toArray] w fun e w' => e = .returned (I (if lessO p.2 q.2 = true then -1 else if lessO q.2 p.2 = true then 1 else 0)) ∧ Below w.heap.size w w' := by
  obtain ⟨x, k, s, n, over, c, tm, bs, rs⟩ := p
  obtain ⟨y, k2, s2, n2, over2, c2, tm2, bs2, rs2⟩ := q
  have h1 := fun w' => Lab.less_ok k s n k2 s2 n2 hp.1 hp.2.1 hp.2.2.1 hq.1 hq.2.1 hq.2.2.1 w'
  have h2 := fun w' => Lab.less_ok k2 s2 n2 k s n hq.1 hq.2.1 hq.2.2.1 hp.1 hp.2.1 hp.2.2.1 w'
  refine calls1 (args := [.agg #[S k, S s, S n, I over, S c, .bool tm, .bool bs, x], .agg #[S k2, S s2, S n2, I over2, S c2, .bool tm2, .bool bs2, y]]) Try.func52 rfl rfl rfl rfl ?_
  show aw _ _ _ _ _ _
  generalize hA : lessO ⟨k, s, n, over, c, tm, bs, rs⟩ ⟨k2, s2, n2, over2, c2, tm2, bs2, rs2⟩ = A
  generalize hB : lessO ⟨k2, s2, n2, over2, c2, tm2, bs2, rs2⟩ ⟨k, s, n, over, c, tm, bs, rs⟩ = B
  rw [show Op.bytesLess (joinB k s n) (joinB k2 s2 n2) = A from hA] at h1
  rw [show Op.bytesLess (joinB k2 s2 n2) (joinB k s n) = B from hB] at h2
  cases A
  · cases B
    · repeat' (first | refine aw_seq ?_ | refine zz ?_ | refine zon fun _ => ?_ | refine zoa fun vr lr hr => ?_ | ((first | apply ao_call | apply aq_call); exact wants_a; (first | exact oc_func rfl | exact oc_clos rfl rfl); (exact rfl); (first | exact fun w hw => h1 w | exact fun w hw => h2 w)) | refine zoS (fun _ => ?_) (fun _ => ?_) | refine zqS (fun _ => ?_) (fun _ => ?_) | refine zwS (fun _ => ?_) (fun _ => ?_))
      exact fun w' hw => ⟨rfl, hw.below⟩
    · repeat' (first | refine aw_seq ?_ | refine zz ?_ | refine zon fun _ => ?_ | refine zoa fun vr lr hr => ?_ | ((first | apply ao_call | apply aq_call); exact wants_a; (first | exact oc_func rfl | exact oc_clos rfl rfl); (exact rfl); (first | exact fun w hw => h1 w | exact fun w hw => h2 w)) | refine zoS (fun _ => ?_) (fun _ => ?_) | refine zqS (fun _ => ?_) (fun _ => ?_) | refine zwS (fun _ => ?_) (fun _ => ?_))
      exact fun w' hw => ⟨rfl, hw.below⟩
  · repeat' (first | refine aw_seq ?_ | refine zz ?_ | refine zon fun _ => ?_ | refine zoa fun vr lr hr => ?_ | ((first | apply ao_call | apply aq_call); exact wants_a; (first | exact oc_func rfl | exact oc_clos rfl rfl); (exact rfl); (first | exact fun w hw => h1 w | exact fun w hw => h2 w)) | refine zoS (fun _ => ?_) (fun _ => ?_) | refine zqS (fun _ => ?_) (fun _ => ?_) | refine zwS (fun _ => ?_) (fun _ => ?_))
    exact fun w' hw => ⟨rfl, hw.below⟩

def fE (u : El) : List Value := cellsO u.po
theorem cmp_all : Srw.Cmp fE 52 ltE El.ix cmpE where
  len := fun _ => cellsO_len _
  flat := fun u => u.fl
  less := fun u v _ h => .inl (by rwa [cmpE_neg] at h)
  more := fun u v hx h => .inr ⟨by rwa [cmpE_neg] at h, hx⟩
  trans := ltE_trans
  call := fun u v w => pcmp_ok u.po v.po u.wf v.wf w

theorem perm3 {α : Type} (a b R : List α) : (a ++ (b ++ R)).Perm ((b ++ a) ++ R) := by
  rw [← List.append_assoc]
  exact List.Perm.append_right R List.perm_append_comm
set_option maxHeartbeats 16000000 in
theorem pown_ok (kind : Int) (p : PO) (ver : Int) (v : Value) (ps : List PO) (hwo : wfS p.2) (hwf : wfL ps) (w : World) (ho : ResAt w p.1 p.2.rs) (hv : ObjsAt w v ps) :
    Calls Try.prog 35 #[EV kind p ver v] w fun e w' => ∃ r, e = .returned r ∧ NewD (DEv kind p.2 ver (obs ps)) w w' r := by
  obtain ⟨xa, xc, hx⟩ := ho.len
  obtain ⟨a, cp, hvl⟩ := hv.1.len
  obtain ⟨x, k, s, n, over, c, tm, bs, rs⟩ := p
  simp only at hx hwo
  subst hx hvl
  have h1 := fun w' (hb : Below w.heap.size w w') => Ojt.own_ok ⟨k, s, n, over, c, tm, bs, rs⟩ _ hwo.wfO w' (ho.below hb)
  have h2 := fun w' (hb : Below w.heap.size w w') => powned_ok _ ps hwf w' (hv.below hb)
  refine callsC1 (rt := 50) (args := [EV kind (.slice xa rs.length xc, ⟨k, s, n, over, c, tm, bs, rs⟩) ver (.slice a ps.length cp)]) Try.func35 rfl rfl rfl rfl ?_
  repeat' (first | refine aw_seq ?_ | refine zz ?_ | refine zon fun _ => ?_ | refine zoa fun vr lr hr => ?_ | (apply ao_callrg; exact wants_a; (exact oc_func rfl); (exact rfl); (first | exact fun w hw => h1 w hw.below); intro vr lr hr) | refine zoS (fun _ => ?_) (fun _ => ?_) | refine zqS (fun _ => ?_) (fun _ => ?_) | refine zwS (fun _ => ?_) (fun _ => ?_))
  revert vr lr hr
  intro v1 l1 r1
  obtain ⟨a1, c1, rfl⟩ := r1.len
  repeat' (first | refine aw_seq ?_ | refine zz ?_ | refine zon fun _ => ?_ | refine zoa fun vr lr hr => ?_ | (apply ao_callD; exact wants_a; (exact oc_func rfl); (exact rfl); (first | exact fun w hw => h2 w hw.below); intro vr lr hr) | refine zoS (fun _ => ?_) (fun _ => ?_) | refine zqS (fun _ => ?_) (fun _ => ?_) | refine zwS (fun _ => ?_) (fun _ => ?_))
  revert vr lr hr
  rintro _ _ ⟨outs, g, ls, hobs, rfl, rfl, hparts⟩
  repeat' (first | refine aw_seq ?_ | refine zz ?_ | refine zon fun _ => ?_ | refine zoa fun vr lr hr => ?_ | refine zoS (fun _ => ?_) (fun _ => ?_) | refine zqS (fun _ => ?_) (fun _ => ?_) | refine zwS (fun _ => ?_) (fun _ => ?_))
  exact fun w' hw => ⟨_, rfl, hw.toD rfl (l := l1 ++ ((g, .cells (outs.flatMap cellsO).toArray 38 (0, 0)) :: ls)) (R := [(_, _), (_, _)]) (by unfold Cut; exact perm3 (_ :: ls) l1 _)
    ⟨.slice a1 rs.length c1, .slice (some ⟨g, 0, none⟩) outs.length outs.length, l1, (g, .cells (outs.flatMap cellsO).toArray 38 (0, 0)) :: ls, rfl, rfl, r1, DOwn.objs ⟨outs, g, ls, hobs, rfl, rfl, hparts⟩⟩⟩

/-- Objects, each with its place. -/
def elAt (outs : List PO) (h : ∀ p ∈ outs, wfS p.2 ∧ (cellsO p).all flat = true) (k : Nat) : El :=
  if hk : k < outs.length then ⟨k, outs[k], (h _ (List.getElem_mem hk)).1, (h _ (List.getElem_mem hk)).2⟩ else ⟨k, (.slice none 0 0, ⟨[], [], [], 0, [], false, false, []⟩), by simp [wfS, wfR], rfl⟩
theorem elAt_ix {outs : List PO} {h : ∀ p ∈ outs, wfS p.2 ∧ (cellsO p).all flat = true} (k : Nat) : (elAt outs h k).ix = k := by
  unfold elAt
  split <;> rfl
theorem elAt_po {outs : List PO} {h : ∀ p ∈ outs, wfS p.2 ∧ (cellsO p).all flat = true} {k : Nat} {u : PO} (hk : outs[k]? = some u) : (elAt outs h k).po = u := by
  obtain ⟨h1, h2⟩ := List.getElem?_eq_some_iff.1 hk
  unfold elAt
  rw [dif_pos h1]
  exact h2
theorem elAt_all {outs : List PO} {h : ∀ p ∈ outs, wfS p.2 ∧ (cellsO p).all flat = true} : ((List.range outs.length).map (elAt outs h)).map (·.po) = outs := by
  rw [List.map_map]
  apply List.ext_getElem?
  intro k
  rw [List.getElem?_map]
  by_cases hk : k < outs.length
  · have h1 : outs[k]? = some outs[k] := List.getElem?_eq_getElem _
    rw [List.getElem?_range hk, h1]
    exact congrArg some (elAt_po h1)
  · rw [List.getElem?_eq_none (by simpa using hk), List.getElem?_eq_none (by omega)]
    rfl

set_option maxHeartbeats 16000000 in
theorem psorted_ok (v : Value) (ps : List PO) (hwf : wfL ps) (h1000 : ps.length ≤ 20000) (w : World) (hv : ObjsAt w v ps) :
    Calls Try.prog 34 #[v] w fun e w' => ∃ r, e = .returned r ∧ NewD (DObjs (sortO (obs ps))) w w' r := by
  obtain ⟨a, cp, hvl⟩ := hv.1.len
  subst hvl
  have h1 := fun w' (hb : Below w.heap.size w w') => powned_ok _ ps hwf w' (hv.below hb)
  refine calls1 (args := [.slice a ps.length cp]) Try.func34 rfl rfl rfl rfl ?_
  repeat' (first | refine aw_seq ?_ | refine zz ?_ | refine zon fun _ => ?_ | refine zoa fun vr lr hr => ?_ | (apply ao_callD; exact wants_a; (exact oc_func rfl); (exact rfl); (first | exact fun w hw => h1 w hw.below); intro vr lr hr) | refine zoS (fun _ => ?_) (fun _ => ?_) | refine zqS (fun _ => ?_) (fun _ => ?_) | refine zwS (fun _ => ?_) (fun _ => ?_))
  revert vr lr hr
  rintro _ _ ⟨outs, g, ls, hobs, rfl, rfl, hparts⟩
  have hlen : outs.length = ps.length := robjs_len hobs
  have hwfo : ∀ p ∈ outs, wfS p.2 ∧ (cellsO p).all flat = true := fun p hp => by
    obtain ⟨l, R, -, hko⟩ := hparts.at hp
    refine ⟨?_, flat_o hko p.2⟩
    have : p.2 ∈ obs ps := by rw [← hobs]; exact List.mem_map.2 ⟨p, hp, rfl⟩
    obtain ⟨q, hq, e⟩ := List.mem_map.1 this
    rw [← e]
    exact hwf.2 q hq
  rw [show outs.flatMap cellsO = rowL fE outs.length (elAt outs hwfo) from (row_is rfl fun k u hk => by unfold fE; rw [elAt_po hk]).symm]
  repeat' (first | refine aw_seq ?_ | refine zz ?_ | refine zon fun _ => ?_ | refine zoa fun vr lr hr => ?_ | ((apply ao_callH; exact wants_a; (exact oc_func rfl); (exact rfl); (exact Cut.here1); (exact Srw.sst_ok cmp_all g outs.length (by omega) (elAt outs hwfo) (fun i j h1 h2 => by rw [elAt_ix, elAt_ix]; exact h1) _); rintro _ _ ⟨rfl, e2, hmv2, hord2, rfl⟩)) | refine zoS (fun _ => ?_) (fun _ => ?_) | refine zqS (fun _ => ?_) (fun _ => ?_) | refine zwS (fun _ => ?_) (fun _ => ?_))
  have hs := sorted_is (fun k _ => elAt_ix k) hmv2 hord2
  rw [elAt_all] at hs
  have hrow : rowL fE outs.length e2 = (sortP outs).flatMap cellsO := by
    rw [← hs, List.flatMap_map]
    unfold rowL
    rfl
  have hro : Srw.RO fE g outs.length e2 = (g, .cells ((sortP outs).flatMap cellsO).toArray 38 (0, 0)) := by unfold Srw.RO; rw [hrow]
  rw [hro]
  have hsl := sort_len outs
  exact fun w' hw => ⟨_, rfl, hw.toD rfl (l := (g, .cells ((sortP outs).flatMap cellsO).toArray 38 (0, 0)) :: ls) (R := []) (List.Perm.refl _)
    (DOwn.objs ⟨sortP outs, g, ls, by rw [obs_sort, hobs], by rw [hsl], rfl, parts_perm (sortP_perm outs).symm hparts⟩)⟩
end Evt
end Go.Proofs.Ytbllkmhkpapgeaa
