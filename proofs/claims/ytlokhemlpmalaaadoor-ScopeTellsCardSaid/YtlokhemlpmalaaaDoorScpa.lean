/- Walk of layer 6: ScopeTells; conditions: what the landed code reads. -/
import Derived.Test.YtlokhemlpmalaaaDoorScpl
import Derived.Test.YtlokhemlpmalaaaDoorScpx
import Derived.Test.YtlokhemlpmalaaaDoorOval
namespace Go.Proofs.YtlokhemlpmalaaaDoor
namespace Scp
open Go Go.RowKit Sx Lab
attribute [local irreducible] Go.Calls

theorem lit_at {E : Env} {H R : Hp} {w : World} {b : Nat} {op : Int} {u : Value} {vs : List Nm} (hw : RepH E H w) (hc : Cut H [(b, .cells #[I op, u] 28)] R) (hu : TxtAt w u vs) : ScpAt w (.slice (some ⟨b, 0, none⟩) 1 1) [(u, op, vs)] :=
  ⟨hw.oldr (RowB.lit (cs := [I op, u]) rfl) hc, fun p hp => by rw [List.mem_singleton.1 hp]; exact hu⟩

set_option maxHeartbeats 64000000 in
theorem tells_ok (va vb u ov : Value) (ps qs : List (Value × Trm)) (op : Int) (vs : List Nm) (o : Ojt.Ob) (hcp : CapP ps) (w : World) (hG : Glo w) (hva : ScpAt w va ps) (hvb : ScpAt w vb qs) (hu : TxtAt w u vs) (ho : Vec.ResAt w ov o.rs) :
    Calls Tryd.prog 3 #[.agg #[va, vb], .agg #[I op, u], Ojt.OV o ov] w fun e w' => e = .returned (.bool true) ∧ Below w.heap.size w w' := by
  obtain ⟨ar, cr, rfl, -⟩ := OldRow.cells cellsT_len hva.1
  obtain ⟨br, dr, rfl, -⟩ := OldRow.cells cellsT_len hvb.1
  obtain ⟨ur, er, rfl, -⟩ := OldRow.cells cellsS_len hu
  refine calls1 (args := [.agg #[.slice ar ps.length cr, .slice br qs.length dr], .agg #[I op, .slice ur vs.length er], Ojt.OV o ov]) Tryd.func3 rfl rfl rfl rfl ?_
  have f1 := fun w' (hb : Below w.heap.size w w') => fits_ok _ ps w' (hva.below hb)
  have f2 := fun w' (hb : Below w.heap.size w w') => fits_ok _ qs w' (hvb.below hb)
  have f3 := fun w' b (h : ScpAt w' (.slice (some ⟨b, 0, none⟩) 1 1) [(.slice ur vs.length er, op, vs)]) => fits_ok _ _ w' h
  have f4 := fun w' (hb : Below w.heap.size w w') => Ojt.fits_ok o ov w' (ho.below hb)
  cases h1 : fitS (trms ps)
  · rw [h1] at f1
    repeat' (first | refine aw_seq ?_ | refine zz ?_ | refine zon fun _ => ?_ | refine zoa fun vr lr hr => ?_ | ((first | apply ao_call | apply aq_call); exact wants_a; (first | exact oc_func rfl | exact oc_clos rfl rfl); (exact rfl); (first | exact fun w hw => f1 w hw.below | exact fun w hw => f2 w hw.below | exact fun w hw => f3 w _ (lit_at hw cut_a (hu.below hw.below)) | exact fun w hw => f4 w hw.below | exact fun w hw => alive_ok w (hG.below hw.below))) | refine zoS (fun _ => ?_) (fun _ => ?_) | refine zqS (fun _ => ?_) (fun _ => ?_) | refine zwS (fun _ => ?_) (fun _ => ?_))
    exact fun w' hw => ⟨rfl, hw.below⟩
  rw [h1] at f1
  cases h2 : fitS (trms qs)
  · rw [h2] at f2
    repeat' (first | refine aw_seq ?_ | refine zz ?_ | refine zon fun _ => ?_ | refine zoa fun vr lr hr => ?_ | ((first | apply ao_call | apply aq_call); exact wants_a; (first | exact oc_func rfl | exact oc_clos rfl rfl); (exact rfl); (first | exact fun w hw => f1 w hw.below | exact fun w hw => f2 w hw.below | exact fun w hw => f3 w _ (lit_at hw cut_a (hu.below hw.below)) | exact fun w hw => f4 w hw.below | exact fun w hw => alive_ok w (hG.below hw.below))) | refine zoS (fun _ => ?_) (fun _ => ?_) | refine zqS (fun _ => ?_) (fun _ => ?_) | refine zwS (fun _ => ?_) (fun _ => ?_))
    exact fun w' hw => ⟨rfl, hw.below⟩
  rw [h2] at f2
  cases h3 : fitS (trms [((.slice ur vs.length er : Value), op, vs)])
  · rw [h3] at f3
    repeat' (first | refine aw_seq ?_ | refine zz ?_ | refine zon fun _ => ?_ | refine zoa fun vr lr hr => ?_ | ((first | apply ao_call | apply aq_call); exact wants_a; (first | exact oc_func rfl | exact oc_clos rfl rfl); (exact rfl); (first | exact fun w hw => f1 w hw.below | exact fun w hw => f2 w hw.below | exact fun w hw => f3 w _ (lit_at hw cut_a (hu.below hw.below)) | exact fun w hw => f4 w hw.below | exact fun w hw => alive_ok w (hG.below hw.below))) | refine zoS (fun _ => ?_) (fun _ => ?_) | refine zqS (fun _ => ?_) (fun _ => ?_) | refine zwS (fun _ => ?_) (fun _ => ?_))
    exact fun w' hw => ⟨rfl, hw.below⟩
  rw [h3] at f3
  cases h4 : Ojt.fitO o
  · rw [h4] at f4
    repeat' (first | refine aw_seq ?_ | refine zz ?_ | refine zon fun _ => ?_ | refine zoa fun vr lr hr => ?_ | ((first | apply ao_call | apply aq_call); exact wants_a; (first | exact oc_func rfl | exact oc_clos rfl rfl); (exact rfl); (first | exact fun w hw => f1 w hw.below | exact fun w hw => f2 w hw.below | exact fun w hw => f3 w _ (lit_at hw cut_a (hu.below hw.below)) | exact fun w hw => f4 w hw.below | exact fun w hw => alive_ok w (hG.below hw.below))) | refine zoS (fun _ => ?_) (fun _ => ?_) | refine zqS (fun _ => ?_) (fun _ => ?_) | refine zwS (fun _ => ?_) (fun _ => ?_))
    exact fun w' hw => ⟨rfl, hw.below⟩
  rw [h4] at f4
  obtain ⟨w1, -, -⟩ := fit_wf h1
  obtain ⟨w2, -, -⟩ := fit_wf h2
  have w3 : wfN vs := (fit_wf h3).1.2 _ (List.mem_singleton.2 rfl)
  have g1 := fun w' (hb : Below w.heap.size w w') => pright_ok _ ps w1 w' (hva.below hb)
  have g2 := fun w' (hb : Below w.heap.size w w') => rright_ok _ ps w1 w' (hva.below hb)
  have g3 := fun w' (hb : Below w.heap.size w w') => pholds_ok op _ vs o.k o.s o.n o.ver o.c o.tm o.bs ov w3 w' (hu.below hb)
  have g4 := fun w' (hb : Below w.heap.size w w') => rholds_ok op _ vs o.k o.s o.n o.ver o.c o.tm o.bs ov w3 w' (hu.below hb)
  have g5 := fun w' (hb : Below w.heap.size w w') => pmatch_ok _ ps o.k o.s o.n o.ver o.c o.tm o.bs ov w1 w' (hva.below hb)
  have g6 := fun w' (hb : Below w.heap.size w w') => rmatch_ok _ ps o.k o.s o.n o.ver o.c o.tm o.bs ov w1 w' (hva.below hb)
  have g7 := fun w' (hb : Below w.heap.size w w') => ptext_ok _ ps w1 hcp w' (hG.below hb) (hva.below hb)
  have g8 := fun w' (hb : Below w.heap.size w w') => rtext_ok _ ps w1 w' (hva.below hb)
  have g9 := fun w' (hb : Below w.heap.size w w') => psame_ok _ _ ps qs w1 w2 w' (hva.below hb) (hvb.below hb)
  have g10 := fun w' (hb : Below w.heap.size w w') => rsame_ok _ _ ps qs w1 w2 w' (hva.below hb) (hvb.below hb)
  generalize rightS (trms ps) = b1 at g1 g2
  generalize holdsB (op, vs) o.c o.tm o.bs = b2 at g3 g4
  generalize matchS (trms ps) o.c o.tm o.bs = b3 at g5 g6
  generalize textS (trms ps) = t4 at g7 g8
  generalize (trms ps == trms qs) = b5 at g9 g10
  have q1 : (b1 == b1) = true := beq_self_eq_true _
  have q2 : (b2 == b2) = true := beq_self_eq_true _
  have q3 : (b3 == b3) = true := beq_self_eq_true _
  have q4 : (t4 == t4) = true := beq_self_eq_true _
  repeat' (first | refine aw_seq ?_ | refine zz ?_ | refine zon fun _ => ?_ | refine zoa fun vr lr hr => ?_ | ((first | apply ao_call | apply aq_call); exact wants_a; (first | exact oc_func rfl | exact oc_clos rfl rfl); (exact rfl); (first | exact fun w hw => f1 w hw.below | exact fun w hw => f2 w hw.below | exact fun w hw => f3 w _ (lit_at hw cut_a (hu.below hw.below)) | exact fun w hw => f4 w hw.below | exact fun w hw => alive_ok w (hG.below hw.below) | exact fun w hw => g1 w hw.below | exact fun w hw => g2 w hw.below | exact fun w hw => g3 w hw.below | exact fun w hw => g4 w hw.below | exact fun w hw => g5 w hw.below | exact fun w hw => g6 w hw.below | exact fun w hw => g7 w hw.below | exact fun w hw => g8 w hw.below | exact fun w hw => g9 w hw.below | exact fun w hw => g10 w hw.below)) | refine zoS (fun _ => ?_) (fun _ => ?_) | refine zqS (fun _ => ?_) (fun _ => ?_) | refine zwS (fun _ => ?_) (fun _ => ?_))
  exact fun w' hw => ⟨by rw [show (b5 == b5) = true from beq_self_eq_true _], hw.below⟩
end Scp
end Go.Proofs.YtlokhemlpmalaaaDoor
