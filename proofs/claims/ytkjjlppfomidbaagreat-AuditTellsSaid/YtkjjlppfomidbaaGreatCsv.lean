/- The order of objects: what sorting gives; conditions: none. -/
import Derived.Test.YtkjjlppfomidbaaGreatEvs
import Derived.Test.YtkjjlppfomidbaaGreatLabo
import Derived.Test.YtkjjlppfomidbaaGreatSrm
import Derived.Test.YtkjjlppfomidbaaGreatSxw
import Derived.Test.YtkjjlppfomidbaaGreatChw
/- Evd: The order of objects: what sorting gives; conditions: none. -/
namespace Go.Proofs.YtkjjlppfomidbaaGreat
namespace Evt
open Go Go.RowKit Sx Lab Vec Ojt
def Srt (l : List Ob) : Prop := l.Pairwise fun a b => lessO b a = false
end Evt
end Go.Proofs.YtkjjlppfomidbaaGreat
/- Srd: Objects with the place that they came at: their order, and that there is one way alone to sort them; conditions: none. -/
namespace Go.Proofs.YtkjjlppfomidbaaGreat
namespace Evt
open Go Go.RowKit Sx Lab Vec Ojt

end Evt
end Go.Proofs.YtkjjlppfomidbaaGreat
/- Cst: What a cache is, and becomes, as lists of objects and graves: the document's answer for layer 8; conditions: none. -/
namespace Go.Proofs.YtkjjlppfomidbaaGreat
namespace Chm
open Go Go.RowKit Sx Lab Vec Ojt Evt
def Rise (os : List Ob) : Prop := os.Pairwise (fun a b => lessO a b = true) ∧ ∀ o ∈ os, rightO o = true
end Chm
end Go.Proofs.YtkjjlppfomidbaaGreat
/- Csu: What a cache becomes with an event: the document's answer for layer 8; it never goes back; conditions: none. -/
namespace Go.Proofs.YtkjjlppfomidbaaGreat
namespace Chm
open Go Go.RowKit Sx Lab Vec Ojt Evt
structure De where
  key : Kt
  had : Bool
  has : Bool
  old : Ob
  new : Ob
instance (a b : De) : Decidable (a = b) :=
  decidable_of_iff (a.key = b.key ∧ a.had = b.had ∧ a.has = b.has ∧ a.old = b.old ∧ a.new = b.new) ⟨fun h => by
    obtain ⟨h1, h2, h3, h4, h5⟩ := h
    cases a; cases b
    simp_all, fun h => by subst h; exact ⟨rfl, rfl, rfl, rfl, rfl⟩⟩
abbrev zO : Ob := ⟨[], [], [], 0, [], false, false, []⟩
end Chm
end Go.Proofs.YtkjjlppfomidbaaGreat
/- Csv: What a cache becomes with events: an event's outcome, deltas that make what there is, the last one counts; conditions: none. -/
namespace Go.Proofs.YtkjjlppfomidbaaGreat
namespace Chm
open Go Go.RowKit Sx Lab Vec Ojt Evt
end Chm
end Go.Proofs.YtkjjlppfomidbaaGreat
