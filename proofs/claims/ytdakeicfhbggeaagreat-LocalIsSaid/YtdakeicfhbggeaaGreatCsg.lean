/- The order of keys as the library's sort asks for it: it reads, may draw, and lays blocks; conditions: names of at most 1,000 bytes. -/
import Derived.Shelf.SlSortCmp.WholeK
import Derived.Test.YtdakeicfhbggeaaGreatLabs
import Derived.Test.YtdakeicfhbggeaaGreatShsort
namespace Go.Proofs.YtdakeicfhbggeaaGreat
namespace Srg
open Go Go.RowKit Go.Sort Go.Shelf Go.Lib
def joinG (k s n : ByteArray) : ByteArray := s ++ ⟨#[47]⟩ ++ k ++ ⟨#[47]⟩ ++ n
set_option maxHeartbeats 4000000 in
theorem joined_g (k s n : ByteArray) (hk : k.size ≤ 1000) (hs : s.size ≤ 1000) (hn : n.size ≤ 1000) (W : World) :
    Calls Tryz.prog 130 #[.agg #[.string k, .string s, .string n]] W fun e w' => e = .returned (.string (joinG k s n)) ∧ ∃ q os', w' = grow (W.drewN q) os' := by
  unfold joinG
  go_enter Tryz.func130, Tryz.ntmps130
  go_wp2
  go_ret
  exact ⟨rfl, 0, _, by rw [alloc_eq_grow]; rfl⟩
theorem cl_g {W : World} {b : Nat} {cs : List Value} {T : TypeId} {fz : Nat × Nat} (hb : W.heap[b]? = some (.cells cs.toArray T fz)) (off : Nat) (v : Value) (hv : cs[off]? = some v) (n : Nat) (os : Array Obj) : (grow (W.drewN n) os).cell? ⟨b, off, none⟩ = some v := by
  have hlt : b < W.heap.size := (Array.getElem?_eq_some_iff.1 hb).1
  have hc : W.cell? ⟨b, off, none⟩ = some v := by
    simp only [World.cell?, hb]
    simpa using hv
  exact cell_grown hlt hc n os
theorem two_l (W : World) (a c : Obj) : ((W.alloc a).alloc c).heap[W.heap.size]? = some a := by
  rw [Below.heap_alloc _ _ _ (by simp)]
  show (W.heap.push _)[W.heap.size]? = _
  simp
theorem two_r (W : World) (a c : Obj) : ((W.alloc a).alloc c).heap[W.heap.size + 1]? = some c := by
  show ((W.heap.push _).push _)[W.heap.size + 1]? = _
  rw [show W.heap.size + 1 = (W.heap.push a).size by simp, Array.getElem?_push_size]
theorem two_g (W : World) (a c : Obj) : ∃ q os, (W.alloc a).alloc c = grow (W.drewN q) os := ⟨0, _, by rw [alloc_eq_grow, alloc_eq_grow, grow_grow]; rfl⟩
theorem grow_more (W : World) (q n : Nat) (os os' : Array Obj) : ∃ q' os2, grow ((grow (W.drewN q) os).drewN n) os' = grow (W.drewN q') os2 := ⟨_, _, by rw [show (grow (W.drewN q) os).drewN n = grow ((W.drewN q).drewN n) os from rfl, grow_grow, World.drewN_drewN]⟩
set_option maxHeartbeats 4000000 in
theorem less_g (k s n k2 s2 n2 : ByteArray) (hk : k.size ≤ 1000) (hs : s.size ≤ 1000) (hn : n.size ≤ 1000) (hk2 : k2.size ≤ 1000) (hs2 : s2.size ≤ 1000) (hn2 : n2.size ≤ 1000) (W : World) :
    Calls Tryz.prog 96 #[.agg #[.string k, .string s, .string n], .agg #[.string k2, .string s2, .string n2]] W fun e w' => e = .returned (.bool (Op.bytesLess (joinG k s n).toList (joinG k2 s2 n2).toList)) ∧ ∃ q os', w' = grow (W.drewN q) os' := by
  have mixed : Tryz.prog.follows .mixedOrders = true := by kernel_rfl
  have h1 := fun W => joined_g k s n hk hs hn W
  have h2 := fun W => joined_g k2 s2 n2 hk2 hs2 hn2 W
  generalize joinG k s n = j1 at h1 ⊢
  generalize joinG k2 s2 n2 = j2 at h2 ⊢
  clear hk hs hn hk2 hs2 hn2
  go_enter Tryz.func96, Tryz.ntmps96
  go_wp2_with fail
  have hl := two_l W (Obj.cells #[.string k, .string s, .string n] 58) (Obj.cells #[.string k2, .string s2, .string n2] 58)
  have hr := two_r W (Obj.cells #[.string k, .string s, .string n] 58) (Obj.cells #[.string k2, .string s2, .string n2] 58)
  have HG : Hid _ := two_g W (Obj.cells #[.string k, .string s, .string n] 58) (Obj.cells #[.string k2, .string s2, .string n2] 58)
  generalize (W.alloc (Obj.cells #[.string k, .string s, .string n] 58)).alloc (Obj.cells #[.string k2, .string s2, .string n2] 58) = W2 at hl hr HG ⊢
  have a0 := cl_g (cs := [.string k, .string s, .string n]) hl 0 _ rfl
  have a1 := cl_g (cs := [.string k, .string s, .string n]) hl 1 _ rfl
  have a2 := cl_g (cs := [.string k, .string s, .string n]) hl 2 _ rfl
  have b0 := cl_g (cs := [.string k2, .string s2, .string n2]) hr 0 _ rfl
  have b1 := cl_g (cs := [.string k2, .string s2, .string n2]) hr 1 _ rfl
  have b2 := cl_g (cs := [.string k2, .string s2, .string n2]) hr 2 _ rfl
  clear hl hr
  go_quiet_grown (first | (with_reducible refine Calls.grown_of (h1 _)) | (with_reducible refine Calls.grown_of (h2 _)))
  go_wp2_with fail
  go_ret
  obtain ⟨q, os, rfl⟩ := HG.out
  exact ⟨rfl, grow_more W q nq os osq⟩
def ordI (a b : Bool) : Int := if a = true then -1 else if b = true then 1 else 0
set_option maxHeartbeats 4000000 in
theorem order_g (k s n k2 s2 n2 : ByteArray) (hk : k.size ≤ 1000) (hs : s.size ≤ 1000) (hn : n.size ≤ 1000) (hk2 : k2.size ≤ 1000) (hs2 : s2.size ≤ 1000) (hn2 : n2.size ≤ 1000) (W : World) :
    Calls Tryz.prog 128 #[.agg #[.string k, .string s, .string n], .agg #[.string k2, .string s2, .string n2]] W fun e w' =>
      e = .returned (.int .i64 (ordI (Op.bytesLess (joinG k s n).toList (joinG k2 s2 n2).toList) (Op.bytesLess (joinG k2 s2 n2).toList (joinG k s n).toList))) ∧ ∃ q os', w' = grow (W.drewN q) os' := by
  have h1 := fun W => less_g k s n k2 s2 n2 hk hs hn hk2 hs2 hn2 W
  have h2 := fun W => less_g k2 s2 n2 k s n hk2 hs2 hn2 hk hs hn W
  generalize Op.bytesLess (joinG k s n).toList (joinG k2 s2 n2).toList = j1 at h1 ⊢
  generalize Op.bytesLess (joinG k2 s2 n2).toList (joinG k s n).toList = j2 at h2 ⊢
  clear hk hs hn hk2 hs2 hn2
  have hl := two_l W (Obj.cells #[.string k, .string s, .string n] 58) (Obj.cells #[.string k2, .string s2, .string n2] 58)
  have hr := two_r W (Obj.cells #[.string k, .string s, .string n] 58) (Obj.cells #[.string k2, .string s2, .string n2] 58)
  have HG : Hid _ := two_g W (Obj.cells #[.string k, .string s, .string n] 58) (Obj.cells #[.string k2, .string s2, .string n2] 58)
  have a0 := cl_g (cs := [.string k, .string s, .string n]) hl 0 _ rfl
  have a1 := cl_g (cs := [.string k, .string s, .string n]) hl 1 _ rfl
  have a2 := cl_g (cs := [.string k, .string s, .string n]) hl 2 _ rfl
  have b0 := cl_g (cs := [.string k2, .string s2, .string n2]) hr 0 _ rfl
  have b1 := cl_g (cs := [.string k2, .string s2, .string n2]) hr 1 _ rfl
  have b2 := cl_g (cs := [.string k2, .string s2, .string n2]) hr 2 _ rfl
  clear hl hr
  cases j1
  · cases j2
    · go_enter Tryz.func128, Tryz.ntmps128
      go_wp2_with (first | (with_reducible refine (h1 _).mono ?_; rintro e w' ⟨rfl, q1, os1, rfl⟩) | (with_reducible refine (h2 _).mono ?_; rintro e w' ⟨rfl, q2, os2, rfl⟩))
      go_ret
      obtain ⟨q, os, he⟩ := HG.out
      rw [he]
      obtain ⟨q', os', he'⟩ := grow_more W q q1 os os1
      rw [he']
      exact ⟨rfl, grow_more W q' q2 os' os2⟩
    · go_enter Tryz.func128, Tryz.ntmps128
      go_wp2_with (first | (with_reducible refine (h1 _).mono ?_; rintro e w' ⟨rfl, q1, os1, rfl⟩) | (with_reducible refine (h2 _).mono ?_; rintro e w' ⟨rfl, q2, os2, rfl⟩))
      go_ret
      obtain ⟨q, os, he⟩ := HG.out
      rw [he]
      obtain ⟨q', os', he'⟩ := grow_more W q q1 os os1
      rw [he']
      exact ⟨rfl, grow_more W q' q2 os' os2⟩
  · go_enter Tryz.func128, Tryz.ntmps128
    go_wp2_with (with_reducible refine (h1 _).mono ?_; rintro e w' ⟨rfl, q1, os1, rfl⟩)
    go_ret
    obtain ⟨q, os, he⟩ := HG.out
    rw [he]
    exact ⟨rfl, grow_more W q q1 os os1⟩
set_option maxHeartbeats 8000000 in
theorem orderD_g (k s n k2 s2 n2 : ByteArray) (x1 x2 x3 x4 x5 x6 x7 x8 x9 x10 x11 x12 x13 x14 x15 x16 x17 x18 y1 y2 y3 y4 y5 y6 y7 y8 y9 y10 y11 y12 y13 y14 y15 y16 y17 y18 : Value) (hk : k.size ≤ 1000) (hs : s.size ≤ 1000) (hn : n.size ≤ 1000) (hk2 : k2.size ≤ 1000) (hs2 : s2.size ≤ 1000) (hn2 : n2.size ≤ 1000) (W : World) :
    Calls Tryz.prog 127 #[.agg #[.string k, .string s, .string n, x1, x2, x3, x4, x5, x6, x7, x8, x9, x10, x11, x12, x13, x14, x15, x16, x17, x18], .agg #[.string k2, .string s2, .string n2, y1, y2, y3, y4, y5, y6, y7, y8, y9, y10, y11, y12, y13, y14, y15, y16, y17, y18]] W fun e w' =>
      e = .returned (.int .i64 (ordI (Op.bytesLess (joinG k s n).toList (joinG k2 s2 n2).toList) (Op.bytesLess (joinG k2 s2 n2).toList (joinG k s n).toList))) ∧ ∃ q os', w' = grow (W.drewN q) os' := by
  have h1 := fun W => order_g k s n k2 s2 n2 hk hs hn hk2 hs2 hn2 W
  generalize ordI (Op.bytesLess (joinG k s n).toList (joinG k2 s2 n2).toList) (Op.bytesLess (joinG k2 s2 n2).toList (joinG k s n).toList) = j1 at h1 ⊢
  clear hk hs hn hk2 hs2 hn2
  have HG : Hid _ := two_g W (Obj.cells #[.string k, .string s, .string n, x1, x2, x3, x4, x5, x6, x7, x8, x9, x10, x11, x12, x13, x14, x15, x16, x17, x18] 82) (Obj.cells #[.string k2, .string s2, .string n2, y1, y2, y3, y4, y5, y6, y7, y8, y9, y10, y11, y12, y13, y14, y15, y16, y17, y18] 82)
  go_enter Tryz.func127, Tryz.ntmps127
  go_wp2_with (with_reducible refine (h1 _).mono ?_; rintro e w' ⟨rfl, q1, os1, rfl⟩)
  go_ret
  obtain ⟨q, os, he⟩ := HG.out
  rw [he]
  exact ⟨rfl, grow_more W q q1 os os1⟩
end Srg
end Go.Proofs.YtdakeicfhbggeaaGreat
