/- Lists of objects, and events, in new memory; the order of objects; conditions: none. -/
import Derived.Test.YtifibkddjebmoaaEvm
namespace Go.Proofs.Ytifibkddjebmoaa
namespace Evt
open Go Go.RowKit Sx Lab Vec Ojt

def KO (p : PO) (l : Hp) : Prop := RowB 56 2 p.1 l p.2.rs.length (rcells p.2.rs)
/-- Objects in new memory. -/
def DObjs (os : List Ob) (v : Value) (l : Hp) : Prop := ∃ ps l0 ls, obs ps = os ∧ l = l0 ++ ls ∧ RowB 27 8 v l0 ps.length (ps.flatMap cellsO) ∧ Parts KO ls ps
/-- An event in new memory. -/
def DEv (kind : Int) (o : Ob) (ver : Int) (os : List Ob) (r : Value) (l : Hp) : Prop := ∃ x v lx lv, r = EV kind (x, o) ver v ∧ l = lx ++ lv ∧ RowB 56 2 x lx o.rs.length (rcells o.rs) ∧ DObjs os v lv
theorem objs_at {E : Env} {H R l0 ls : Hp} {w : World} {v : Value} {ps : List PO} (h : RepH E H w) (hr : RowB 27 8 v l0 ps.length (ps.flatMap cellsO)) (hk : Parts KO ls ps) (hc : Cut H (l0 ++ ls) R) : ObjsAt w v ps :=
  ⟨h.oldr hr hc.fst, fun p hp => by
    obtain ⟨l, R', hc2, hkt⟩ := hk.at hp
    exact h.oldr hkt (hc.snd.trans hc2)⟩
theorem objs_atD {E : Env} {H R l : Hp} {w : World} {v : Value} {os : List Ob} (h : RepH E H w) (hd : DObjs os v l) (hc : Cut H l R) : ∃ ps, obs ps = os ∧ ObjsAt w v ps := by
  obtain ⟨ps, l0, ls, h1, rfl, h3, h4⟩ := hd
  exact ⟨ps, h1, objs_at h h3 h4 hc⟩
theorem objs_old {E : Env} {H R l : Hp} {w : World} {v : Value} {ps : List PO} (h : RepH E H w) (hr : RowB 27 8 v l ps.length (ps.flatMap cellsO)) (hc : Cut H l R) (ho : ∀ p ∈ ps, ResAt w p.1 p.2.rs) : ObjsAt w v ps := ⟨h.oldr hr hc, ho⟩

def insO (x : Ob) : List Ob → List Ob
  | [] => [x]
  | y :: r => if lessO x y = true then x :: y :: r else y :: insO x r
def sortO (os : List Ob) : List Ob := os.foldl (fun out x => insO x out) []
theorem obs_ins (x : PO) : ∀ (l : List PO), obs (insP x l) = insO x.2 (obs l)
  | [] => rfl
  | y :: r => by
    show obs (insP x (y :: r)) = insO x.2 (y.2 :: obs r)
    unfold insP insO
    split
    · rfl
    · show y.2 :: obs (insP x r) = _
      rw [obs_ins x r]
theorem obs_sort (ps : List PO) : obs (sortP ps) = sortO (obs ps) := by
  unfold sortP sortO
  have key : ∀ (ps outs : List PO), obs (ps.foldl (fun out x => insP x out) outs) = (obs ps).foldl (fun out x => insO x out) (obs outs) := fun ps => by
    induction ps with
    | nil => intro outs; rfl
    | cons p ps ih =>
      intro outs
      show obs (ps.foldl _ (insP p outs)) = (obs ps).foldl _ (insO p.2 (obs outs))
      rw [ih, obs_ins]
  exact key ps []
theorem ins_mem {x p : PO} : ∀ {l : List PO}, p ∈ insP x l → p = x ∨ p ∈ l
  | [], h => .inl (List.mem_singleton.1 h)
  | y :: r, h => by
    unfold insP at h
    split at h
    · rcases List.mem_cons.1 h with h | h
      · exact .inl h
      · exact .inr h
    · rcases List.mem_cons.1 h with h | h
      · exact .inr (h ▸ List.mem_cons_self)
      · rcases ins_mem h with h | h
        · exact .inl h
        · exact .inr (List.mem_cons_of_mem y h)
theorem sort_mem {p : PO} {ps : List PO} (h : p ∈ sortP ps) : p ∈ ps := by
  have key : ∀ (qs outs : List PO), (∀ x ∈ outs, x ∈ ps) → (∀ x ∈ qs, x ∈ ps) → ∀ x ∈ qs.foldl (fun out x => insP x out) outs, x ∈ ps := fun qs => by
    induction qs with
    | nil => exact fun outs h _ => h
    | cons q qs ih => exact fun outs h g => ih _ (fun x hx => (ins_mem hx).elim (fun e => e ▸ g q List.mem_cons_self) (h x)) fun x hx => g x (List.mem_cons_of_mem q hx)
  exact key ps [] (fun x hx => by cases hx) (fun x hx => hx) p h
theorem ins_len (x : PO) : ∀ (l : List PO), (insP x l).length = l.length + 1
  | [] => rfl
  | y :: r => by
    unfold insP
    split
    · rfl
    · rw [List.length_cons, ins_len x r, List.length_cons]
theorem sort_snoc (ps : List PO) (p : PO) : sortP (ps ++ [p]) = insP p (sortP ps) := by
  unfold sortP
  rw [List.foldl_append]
  rfl
theorem sort_len (ps : List PO) : (sortP ps).length = ps.length := by
  have key : ∀ (qs outs : List PO), (qs.foldl (fun out x => insP x out) outs).length = outs.length + qs.length := fun qs => by
    induction qs with
    | nil => intro outs; rfl
    | cons q qs ih => intro outs; rw [List.foldl_cons, ih, ins_len, List.length_cons]; omega
  have := key ps []
  simpa [sortP] using this
end Evt
end Go.Proofs.Ytifibkddjebmoaa
