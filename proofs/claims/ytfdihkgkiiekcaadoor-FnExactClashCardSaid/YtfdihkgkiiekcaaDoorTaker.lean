/-
  The program's taker: its two closures, 'take' (what stands at the place, and the place goes on; nothing behind the last) and 'left' (how many are left).
  Conditions: the list's cells hold the texts; the two captured variables lie in blocks of their own.
-/
import Derived.Test.YtfdihkgkiiekcaaDoorRows
import Derived.Test.YtfdihkgkiiekcaaDoorBytes
import Derived.Test.YtfdihkgkiiekcaaDoorTreeMath
import Derived.Test.YtfdihkgkiiekcaaDoorSlA
import Derived.Handy
namespace Go.Proofs.YtfdihkgkiiekcaaDoor
open Go.RowKit Go.Lib
set_option linter.unusedVariables false

/-- The list's box L and the place's box A, in memory that came behind W0; nothing that was there has turned. -/
structure TkS (W0 : World) (L A : Nat) (p : Option Addr) (ss : List ByteArray) (cap : Nat) (a : Nat) (w : World) : Prop where
  bel : Below W0.heap.size W0 w
  hL : W0.heap.size ≤ L
  hA : W0.heap.size ≤ A
  ne : L ≠ A
  list : w.heap[L]? = some (.cells #[.slice p ss.length cap] 24 (0, 0))
  place : w.heap[A]? = some (.cells #[.int .i64 (a : Int)] 3 (0, 0))
  le : a ≤ ss.length
theorem TkS.ltL {W0 : World} {L A : Nat} {p : Option Addr} {ss : List ByteArray} {cap a : Nat} {w : World} (h : TkS W0 L A p ss cap a w) : L < w.heap.size := lt_of_block h.list
theorem TkS.ltA {W0 : World} {L A : Nat} {p : Option Addr} {ss : List ByteArray} {cap a : Nat} {w : World} (h : TkS W0 L A p ss cap a w) : A < w.heap.size := lt_of_block h.place
theorem TkS.below {W0 : World} {L A : Nat} {p : Option Addr} {ss : List ByteArray} {cap a : Nat} {w w' : World} (h : TkS W0 L A p ss cap a w) (hb : Below w.heap.size w w') : TkS W0 L A p ss cap a w' :=
  ⟨h.bel.trans (hb.mono h.bel.size), h.hL, h.hA, h.ne, (hb.block _ h.ltL).trans h.list, (hb.block _ h.ltA).trans h.place, h.le⟩
theorem TkS.next {W0 : World} {L A : Nat} {p : Option Addr} {ss : List ByteArray} {cap a : Nat} {w : World} (h : TkS W0 L A p ss cap a w) (hlt : a < ss.length) : TkS W0 L A p ss cap (a + 1) (w.setCell ⟨A, 0, none⟩ (.int .i64 ((a : Int) + 1))) := by
  refine ⟨h.bel.setCell h.hA _, h.hL, h.hA, h.ne, ?_, ?_, by omega⟩
  · rw [show (w.setCell ⟨A, 0, none⟩ (.int .i64 ((a : Int) + 1))).heap[L]? = w.heap[L]? by simp [World.setCell, Array.getElem?_modify, h.ne.symm]]; exact h.list
  · rw [one_setCell h.place]; rfl

def takeF (L A : Nat) : Value := .func (.func 70) #[] #[.pointer (some ⟨A, 0, none⟩), .pointer (some ⟨L, 0, none⟩)]
def leftF (L A : Nat) : Value := .func (.func 71) #[] #[.pointer (some ⟨L, 0, none⟩), .pointer (some ⟨A, 0, none⟩)]

set_option maxHeartbeats 400000 in
theorem take_any (W0 : World) (L A : Nat) (p : Option Addr) (ss : List ByteArray) (cap a : Nat) (w : World) (hp : TxtAt W0 p ss) (hn : ss.length ≤ 1048576) (hcap : ss.length ≤ cap) (h : TkS W0 L A p ss cap a w) :
    Calls Tryd.prog 70 #[.pointer (some ⟨A, 0, none⟩), .pointer (some ⟨L, 0, none⟩)] w fun e w' => e = .returned (.string (tk ss a)) ∧ TkS W0 L A p ss cap (nx ss a) w' := by
  have HK : Hid (TkS W0 L A p ss cap a w) := h
  have c1 := cell_of_one h.list
  have c2 := cell_of_one h.place
  have f2 := free_of_one h.place
  have hle := h.le
  by_cases hlt : a < ss.length
  · have HT : Hid (tk ss a = ss[a]) := by show _ = _; unfold tk; simp [List.getElem?_eq_getElem hlt]
    have HN : Hid (nx ss a = a + 1) := if_pos hlt
    have HX : Hid (TkS W0 L A p ss cap (a + 1) (w.setCell ⟨A, 0, none⟩ (.int .i64 ((a : Int) + 1)))) := h.next hlt
    have q1 : ((a : Int) == (ss.length : Int)) = false := by simp; omega
    obtain ⟨b, off, rfl, hb, hc⟩ := hp a hlt
    have c3 : (w.setCell ⟨A, 0, none⟩ (.int .i64 ((a : Int) + 1))).cell? ⟨b, off + a, none⟩ = some (.string ss[a]) := by
      rw [HX.out.bel.cell (p := ⟨b, off + a, none⟩) hb]; exact hc
    have c4 := cell_of_one HX.out.list
    have c5 := cell_of_one HX.out.place
    rw [Int.natCast_add, Int.natCast_one] at c5
    clear h hp hc
    generalize ss[a] = x at *
    go_enter Tryd.func70, Tryd.ntmps70
    go_wp2
    go_ret
    exact ⟨ret_str HT.out.symm, by rw [HN.out]; exact HX.out⟩
  · have HT : Hid (tk ss a = ByteArray.empty) := tk_out hlt
    have HN : Hid (nx ss a = a) := if_neg hlt
    have q1 : ((a : Int) == (ss.length : Int)) = true := by simp; omega
    clear h hp
    go_enter Tryd.func70, Tryd.ntmps70
    go_wp2
    go_ret
    exact ⟨ret_str HT.out.symm, by rw [HN.out]; exact HK.out⟩
set_option maxHeartbeats 400000 in
theorem left_any (W0 : World) (L A : Nat) (p : Option Addr) (ss : List ByteArray) (cap a : Nat) (w : World) (hn : ss.length ≤ 1048576) (h : TkS W0 L A p ss cap a w) :
    Calls Tryd.prog 71 #[.pointer (some ⟨L, 0, none⟩), .pointer (some ⟨A, 0, none⟩)] w fun e w' => e = .returned (.int .i64 ((ss.length : Int) - a)) ∧ w' = w := by
  have c1 := cell_of_one h.list
  have c2 := cell_of_one h.place
  have hle := h.le
  clear h
  go_enter Tryd.func71, Tryd.ntmps71
  go_wp2
  go_ret
  exact ⟨rfl, rfl⟩
theorem hmf : ∀ (fn : Fn) (first cap : Array Value) (w : World), (Instr.makeFunc fn first cap).run Tryd.prog w = .ok (.func fn first cap) w := fun _ _ _ _ => rfl
theorem tkS_new (p : Option Addr) (ss : List ByteArray) (cap : Nat) (w : World) :
    TkS w w.heap.size (w.heap.size + 1) p ss cap 0 ((w.alloc (.cells #[.slice p ss.length cap] 24)).alloc (.cells #[.int .i64 0] 3)) := by
  have h1 := (MapKept.heap_alloc w (.cells #[.slice p ss.length cap] 24)).1
  have hs : (w.alloc (.cells #[.slice p ss.length cap] 24)).heap.size = w.heap.size + 1 := by simp
  have h2 := (MapKept.heap_alloc (w.alloc (.cells #[.slice p ss.length cap] 24)) (.cells #[.int .i64 0] 3)).1
  rw [hs] at h2
  refine ⟨((Below.refl _ _).alloc (Nat.le_refl _) _).alloc (by rw [hs]; omega) _, Nat.le_refl _, by omega, by omega, ?_, h2, by omega⟩
  exact (Below.heap_alloc _ _ _ (by rw [hs]; omega)).trans h1
set_option maxHeartbeats 400000 in
theorem taker_any (p : Option Addr) (ss : List ByteArray) (cap : Nat) (w : World) :
    Calls Tryd.prog 60 #[.slice p ss.length cap] w fun e w' => e = .returned (.tuple #[takeF w.heap.size (w.heap.size + 1), leftF w.heap.size (w.heap.size + 1)]) ∧ TkS w w.heap.size (w.heap.size + 1) p ss cap 0 w' := by
  have hm := hmf
  go_enter Tryd.func60, Tryd.ntmps60
  go_wp2
  go_ret2
  exact ⟨rfl, tkS_new p ss cap w⟩
end Go.Proofs.YtfdihkgkiiekcaaDoor
