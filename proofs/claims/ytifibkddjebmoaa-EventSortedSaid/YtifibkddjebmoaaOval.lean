/- Objects as values, and which are gone through; conditions: none. -/
import Derived.Test.YtifibkddjebmoaaVres
import Derived.Test.YtifibkddjebmoaaSxo
import Derived.Test.YtifibkddjebmoaaTy
namespace Go.Proofs.Ytifibkddjebmoaa
namespace Ojt
open Go Go.RowKit Sx Vec
attribute [local irreducible] Go.Calls

/-- An object, but for where its resources lie. -/
structure Ob where
  k : Nm
  s : Nm
  n : Nm
  ver : Int
  c : Nm
  tm : Bool
  bs : Bool
  rs : List Ent
instance (a b : Ob) : Decidable (a = b) :=
  decidable_of_iff (a.k = b.k ∧ a.s = b.s ∧ a.n = b.n ∧ a.ver = b.ver ∧ a.c = b.c ∧ a.tm = b.tm ∧ a.bs = b.bs ∧ a.rs = b.rs) ⟨fun h => by
    obtain ⟨h1, h2, h3, h4, h5, h6, h7, h8⟩ := h
    cases a; cases b
    simp_all, fun h => by subst h; exact ⟨rfl, rfl, rfl, rfl, rfl, rfl, rfl, rfl⟩⟩
abbrev OV (o : Ob) (v : Value) : Value := .agg #[S o.k, S o.s, S o.n, I o.ver, S o.c, .bool o.tm, .bool o.bs, v]
abbrev OC (k s n : Nm) (ver : Int) (c : Nm) (tm bs : Bool) (v : Value) : Value := .agg #[S k, S s, S n, I ver, S c, .bool tm, .bool bs, v]
def wfO (o : Ob) : Prop := o.k.length ≤ 100000 ∧ o.s.length ≤ 100000 ∧ o.n.length ≤ 100000 ∧ o.c.length ≤ 100000 ∧ wfR o.rs

/-- Is it gone through? -/
def fitO (o : Ob) : Bool := decide (o.k.length ≤ 200 ∧ o.s.length ≤ 200 ∧ o.n.length ≤ 200 ∧ o.c.length ≤ 200 ∧ o.rs.length ≤ 40 ∧ ∀ r ∈ o.rs, r.1.length ≤ 200)
def numR (rs : List Ent) : Prop := ∀ r ∈ rs, -9223372036854775808 ≤ r.2 ∧ r.2 ≤ 9223372036854775807
theorem fit_wf {o : Ob} (h : fitO o = true) (hr : numR o.rs) : wfO o ∧ o.rs.length ≤ 40 := by
  unfold fitO at h
  obtain ⟨h1, h2, h3, h4, h5, h6⟩ := of_decide_eq_true h
  exact ⟨⟨by omega, by omega, by omega, by omega, by omega, fun r hm => ⟨by have := h6 r hm; omega, hr r hm⟩⟩, h5⟩

set_option maxHeartbeats 8000000 in
theorem fits_ok (o : Ob) (v : Value) (w : World) (hv : ResAt w v o.rs) : Calls Try.prog 19 #[OV o v] w fun e w' => e = .returned (.bool (fitO o)) ∧ Below w.heap.size w w' := by
  obtain ⟨k, s, n, ver, c, tm, bs, rs⟩ := o
  simp only at hv
  obtain ⟨a, cp, rfl, hat⟩ := OldRow.cells cellsR_len hv
  refine calls1 (args := [OC k s n ver c tm bs (.slice a rs.length cp)]) Try.func19 rfl rfl rfl rfl ?_
  have hno : ¬ (k.length ≤ 200 ∧ s.length ≤ 200 ∧ n.length ≤ 200 ∧ c.length ≤ 200 ∧ rs.length ≤ 40 ∧ ∀ r ∈ rs, r.1.length ≤ 200) → fitO ⟨k, s, n, ver, c, tm, bs, rs⟩ = false := fun h => decide_eq_false h
  by_cases h1 : k.length ≤ 200
  · by_cases h2 : s.length ≤ 200
    · by_cases h3 : n.length ≤ 200
      · by_cases h4 : c.length ≤ 200
        · by_cases h5 : rs.length ≤ 40
          · repeat' (first | refine aw_seq ?_ | refine zz ?_ | refine zon fun _ => ?_ | refine zoa fun vr lr hr => ?_ | refine zoS (fun _ => ?_) (fun _ => ?_) | refine zqS (fun _ => ?_) (fun _ => ?_) | refine zwS (fun _ => ?_) (fun _ => ?_))
            refine aw_for (t0 := [(1, .pointer (some ⟨_, 0, none⟩)), (3, I (0 : Nat))]) (fun q t H => ∃ (gb i : Nat), q = rs.length - i ∧ i ≤ rs.length ∧ (∀ (j : Nat) (r : Ent), j < i → rs[j]? = some r → r.1.length ≤ 200) ∧ t = [(1, .pointer (some ⟨gb, 0, none⟩)), (3, I i)] ∧ H = [(gb, .cells #[S k, S s, S n, I ver, S c, .bool tm, .bool bs, .slice a rs.length cp] 27)]) ⟨_, 0, rfl, by omega, fun j r h => by omega, rfl, rfl⟩ (by repeat (first | exact sub_nil | refine sub_cons rfl ?_)) ?_
            rintro q t H ⟨gb, i, rfl, hi, hall, rfl, rfl⟩
            by_cases hlt : i < rs.length
            · obtain ⟨r, he⟩ := getI hlt
              obtain ⟨g, o, rfl, hg, hc⟩ := hat i r (i : Int) he rfl
              obtain ⟨c0, -, -⟩ := res_cells hc
              by_cases h6 : r.1.length ≤ 200
              · repeat' (first | refine aw_seq ?_ | refine zz ?_ | refine zon fun _ => ?_ | refine zoa fun vr lr hr => ?_ | refine zoS (fun _ => ?_) (fun _ => ?_) | refine zqS (fun _ => ?_) (fun _ => ?_) | refine zwS (fun _ => ?_) (fun _ => ?_))
                exact lq_normal' ⟨gb, i + 1, rfl, by omega, fun j x hj hx2 => by
                  by_cases e1 : j = i
                  · subst e1; rw [he] at hx2; cases hx2; exact h6
                  · exact hall j x (by omega) hx2, rfl, rfl⟩ (by omega) (by repeat (first | exact sub_nil | refine sub_cons rfl ?_)) hsub_a
              · rw [hno fun h => h6 (h.2.2.2.2.2 r (List.mem_of_getElem? he))]
                repeat' (first | refine aw_seq ?_ | refine zz ?_ | refine zon fun _ => ?_ | refine zoa fun vr lr hr => ?_ | refine zoS (fun _ => ?_) (fun _ => ?_) | refine zqS (fun _ => ?_) (fun _ => ?_) | refine zwS (fun _ => ?_) (fun _ => ?_))
                exact fun w' hw => ⟨rfl, hw.below⟩
            · obtain rfl : i = rs.length := by omega
              have hq : fitO ⟨k, s, n, ver, c, tm, bs, rs⟩ = true := decide_eq_true ⟨h1, h2, h3, h4, h5, fun r hm => by
                obtain ⟨j, hj⟩ := List.getElem?_of_mem hm
                exact hall j r (List.getElem?_eq_some_iff.1 hj).1 hj⟩
              rw [hq]
              repeat' (first | refine aw_seq ?_ | refine zz ?_ | refine zon fun _ => ?_ | refine zoa fun vr lr hr => ?_ | refine zoS (fun _ => ?_) (fun _ => ?_) | refine zqS (fun _ => ?_) (fun _ => ?_) | refine zwS (fun _ => ?_) (fun _ => ?_))
              exact fun w' hw => ⟨rfl, hw.below⟩
          · rw [hno fun h => h5 h.2.2.2.2.1]
            repeat' (first | refine aw_seq ?_ | refine zz ?_ | refine zon fun _ => ?_ | refine zoa fun vr lr hr => ?_ | refine zoS (fun _ => ?_) (fun _ => ?_) | refine zqS (fun _ => ?_) (fun _ => ?_) | refine zwS (fun _ => ?_) (fun _ => ?_))
            exact fun w' hw => ⟨rfl, hw.below⟩
        · rw [hno fun h => h4 h.2.2.2.1]
          repeat' (first | refine aw_seq ?_ | refine zz ?_ | refine zon fun _ => ?_ | refine zoa fun vr lr hr => ?_ | refine zoS (fun _ => ?_) (fun _ => ?_) | refine zqS (fun _ => ?_) (fun _ => ?_) | refine zwS (fun _ => ?_) (fun _ => ?_))
          exact fun w' hw => ⟨rfl, hw.below⟩
      · rw [hno fun h => h3 h.2.2.1]
        repeat' (first | refine aw_seq ?_ | refine zz ?_ | refine zon fun _ => ?_ | refine zoa fun vr lr hr => ?_ | refine zoS (fun _ => ?_) (fun _ => ?_) | refine zqS (fun _ => ?_) (fun _ => ?_) | refine zwS (fun _ => ?_) (fun _ => ?_))
        exact fun w' hw => ⟨rfl, hw.below⟩
    · rw [hno fun h => h2 h.2.1]
      repeat' (first | refine aw_seq ?_ | refine zz ?_ | refine zon fun _ => ?_ | refine zoa fun vr lr hr => ?_ | refine zoS (fun _ => ?_) (fun _ => ?_) | refine zqS (fun _ => ?_) (fun _ => ?_) | refine zwS (fun _ => ?_) (fun _ => ?_))
      exact fun w' hw => ⟨rfl, hw.below⟩
  · rw [hno fun h => h1 h.1]
    repeat' (first | refine aw_seq ?_ | refine zz ?_ | refine zon fun _ => ?_ | refine zoa fun vr lr hr => ?_ | refine zoS (fun _ => ?_) (fun _ => ?_) | refine zqS (fun _ => ?_) (fun _ => ?_) | refine zwS (fun _ => ?_) (fun _ => ?_))
    exact fun w' hw => ⟨rfl, hw.below⟩

end Ojt
end Go.Proofs.Ytifibkddjebmoaa
