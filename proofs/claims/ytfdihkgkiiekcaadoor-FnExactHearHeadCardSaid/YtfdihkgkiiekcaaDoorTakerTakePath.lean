/-
  Parts of one proof, laid as one text: Taker, TakePath; what each says stands at its head.
-/
import Derived.Test.YtfdihkgkiiekcaaDoorRows
import Derived.Test.YtfdihkgkiiekcaaDoorBytesDigMath
import Derived.Test.YtfdihkgkiiekcaaDoorTreeMath
import Derived.Test.YtfdihkgkiiekcaaDoorSlASlBBxK
import Derived.Handy
import Derived.Test.YtfdihkgkiiekcaaDoorPowerHalvesTreeTree2TreeHPathMathIncMath
import Derived.Test.YtfdihkgkiiekcaaDoorAll2LeafNode
/-
  The program's taker: its two closures, 'take' (what stands at the place, and the place goes on; nothing behind the last) and 'left' (how many are left).
  Conditions: the list's cells hold the texts; the two captured variables lie in blocks of their own.
-/
namespace Go.Proofs.YtfdihkgkiiekcaaDoor
open Go.RowKit Go.Lib
set_option linter.unusedVariables false

/-- The list's box L and the place's box A, in memory that came behind W0; nothing that was there has turned. -/
structure TkS (W0 : World) (L A : Nat) (p : Option Addr) (ss : List ByteArray) (cap : Nat) (a : Nat) (w : World) : Prop where
  bel : Below W0.heap.size W0 w
  hL : W0.heap.size ≤ L
  hA : W0.heap.size ≤ A
  ne : L ≠ A
  list : w.heap[L]? = some (.cells #[.slice p ss.length cap] 24 (0, 0))
  place : w.heap[A]? = some (.cells #[.int .i64 (a : Int)] 3 (0, 0))
  le : a ≤ ss.length
theorem TkS.ltL {W0 : World} {L A : Nat} {p : Option Addr} {ss : List ByteArray} {cap a : Nat} {w : World} (h : TkS W0 L A p ss cap a w) : L < w.heap.size := lt_of_block h.list
theorem TkS.ltA {W0 : World} {L A : Nat} {p : Option Addr} {ss : List ByteArray} {cap a : Nat} {w : World} (h : TkS W0 L A p ss cap a w) : A < w.heap.size := lt_of_block h.place
theorem TkS.below {W0 : World} {L A : Nat} {p : Option Addr} {ss : List ByteArray} {cap a : Nat} {w w' : World} (h : TkS W0 L A p ss cap a w) (hb : Below w.heap.size w w') : TkS W0 L A p ss cap a w' :=
  ⟨h.bel.trans (hb.mono h.bel.size), h.hL, h.hA, h.ne, (hb.block _ h.ltL).trans h.list, (hb.block _ h.ltA).trans h.place, h.le⟩
theorem TkS.next {W0 : World} {L A : Nat} {p : Option Addr} {ss : List ByteArray} {cap a : Nat} {w : World} (h : TkS W0 L A p ss cap a w) (hlt : a < ss.length) : TkS W0 L A p ss cap (a + 1) (w.setCell ⟨A, 0, none⟩ (.int .i64 ((a : Int) + 1))) := by
  refine ⟨h.bel.setCell h.hA _, h.hL, h.hA, h.ne, ?_, ?_, by omega⟩
  · rw [show (w.setCell ⟨A, 0, none⟩ (.int .i64 ((a : Int) + 1))).heap[L]? = w.heap[L]? by simp [World.setCell, Array.getElem?_modify, h.ne.symm]]; exact h.list
  · rw [one_setCell h.place]; rfl

def takeF (L A : Nat) : Value := .func (.func 70) #[] #[.pointer (some ⟨A, 0, none⟩), .pointer (some ⟨L, 0, none⟩)]
def leftF (L A : Nat) : Value := .func (.func 71) #[] #[.pointer (some ⟨L, 0, none⟩), .pointer (some ⟨A, 0, none⟩)]

set_option maxHeartbeats 400000 in
theorem take_any (W0 : World) (L A : Nat) (p : Option Addr) (ss : List ByteArray) (cap a : Nat) (w : World) (hp : TxtAt W0 p ss) (hn : ss.length ≤ 1048576) (hcap : ss.length ≤ cap) (h : TkS W0 L A p ss cap a w) :
    Calls Tryd.prog 70 #[.pointer (some ⟨A, 0, none⟩), .pointer (some ⟨L, 0, none⟩)] w fun e w' => e = .returned (.string (tk ss a)) ∧ TkS W0 L A p ss cap (nx ss a) w' := by
  have HK : Hid (TkS W0 L A p ss cap a w) := h
  have c1 := cell_of_one h.list
  have c2 := cell_of_one h.place
  have f2 := free_of_one h.place
  have hle := h.le
  by_cases hlt : a < ss.length
  · have HT : Hid (tk ss a = ss[a]) := by show _ = _; unfold tk; simp [List.getElem?_eq_getElem hlt]
    have HN : Hid (nx ss a = a + 1) := if_pos hlt
    have HX : Hid (TkS W0 L A p ss cap (a + 1) (w.setCell ⟨A, 0, none⟩ (.int .i64 ((a : Int) + 1)))) := h.next hlt
    have q1 : ((a : Int) == (ss.length : Int)) = false := by simp; omega
    obtain ⟨b, off, rfl, hb, hc⟩ := hp a hlt
    have c3 : (w.setCell ⟨A, 0, none⟩ (.int .i64 ((a : Int) + 1))).cell? ⟨b, off + a, none⟩ = some (.string ss[a]) := by
      rw [HX.out.bel.cell (p := ⟨b, off + a, none⟩) hb]; exact hc
    have c4 := cell_of_one HX.out.list
    have c5 := cell_of_one HX.out.place
    rw [Int.natCast_add, Int.natCast_one] at c5
    clear h hp hc
    generalize ss[a] = x at *
    go_enter Tryd.func70, Tryd.ntmps70
    go_wp2
    go_ret
    exact ⟨ret_str HT.out.symm, by rw [HN.out]; exact HX.out⟩
  · have HT : Hid (tk ss a = ByteArray.empty) := tk_out hlt
    have HN : Hid (nx ss a = a) := if_neg hlt
    have q1 : ((a : Int) == (ss.length : Int)) = true := by simp; omega
    clear h hp
    go_enter Tryd.func70, Tryd.ntmps70
    go_wp2
    go_ret
    exact ⟨ret_str HT.out.symm, by rw [HN.out]; exact HK.out⟩
set_option maxHeartbeats 400000 in
theorem left_any (W0 : World) (L A : Nat) (p : Option Addr) (ss : List ByteArray) (cap a : Nat) (w : World) (hn : ss.length ≤ 1048576) (h : TkS W0 L A p ss cap a w) :
    Calls Tryd.prog 71 #[.pointer (some ⟨L, 0, none⟩), .pointer (some ⟨A, 0, none⟩)] w fun e w' => e = .returned (.int .i64 ((ss.length : Int) - a)) ∧ w' = w := by
  have c1 := cell_of_one h.list
  have c2 := cell_of_one h.place
  have hle := h.le
  clear h
  go_enter Tryd.func71, Tryd.ntmps71
  go_wp2
  go_ret
  exact ⟨rfl, rfl⟩
theorem hmf : ∀ (fn : Fn) (first cap : Array Value) (w : World), (Instr.makeFunc fn first cap).run Tryd.prog w = .ok (.func fn first cap) w := fun _ _ _ _ => rfl
theorem tkS_new (p : Option Addr) (ss : List ByteArray) (cap : Nat) (w : World) :
    TkS w w.heap.size (w.heap.size + 1) p ss cap 0 ((w.alloc (.cells #[.slice p ss.length cap] 24)).alloc (.cells #[.int .i64 0] 3)) := by
  have h1 := (MapKept.heap_alloc w (.cells #[.slice p ss.length cap] 24)).1
  have hs : (w.alloc (.cells #[.slice p ss.length cap] 24)).heap.size = w.heap.size + 1 := by simp
  have h2 := (MapKept.heap_alloc (w.alloc (.cells #[.slice p ss.length cap] 24)) (.cells #[.int .i64 0] 3)).1
  rw [hs] at h2
  refine ⟨((Below.refl _ _).alloc (Nat.le_refl _) _).alloc (by rw [hs]; omega) _, Nat.le_refl _, by omega, by omega, ?_, h2, by omega⟩
  exact (Below.heap_alloc _ _ _ (by rw [hs]; omega)).trans h1
set_option maxHeartbeats 400000 in
theorem taker_any (p : Option Addr) (ss : List ByteArray) (cap : Nat) (w : World) :
    Calls Tryd.prog 60 #[.slice p ss.length cap] w fun e w' => e = .returned (.tuple #[takeF w.heap.size (w.heap.size + 1), leftF w.heap.size (w.heap.size + 1)]) ∧ TkS w w.heap.size (w.heap.size + 1) p ss cap 0 w' := by
  have hm := hmf
  go_enter Tryd.func60, Tryd.ntmps60
  go_wp2
  go_ret2
  exact ⟨rfl, tkS_new p ss cap w⟩
end Go.Proofs.YtfdihkgkiiekcaaDoor
/-
  The program's takePath and Included: what is taken, step by step, leads from the leaf to a tree; 'incB'.
  Conditions: the path's cells hold the texts; the two tables lie as the program's text lays them.
-/
namespace Go.Proofs.YtfdihkgkiiekcaaDoor
open Go.RowKit Go.Lib
set_option linter.unusedVariables false
set_option maxRecDepth 20000

theorem nodeA_size (l r : ByteArray) : (nodeA l r).size ≤ 32 := by
  unfold nodeA; split
  · rw [nodeB_size]; omega
  · simp
theorem tk_size {ss : List ByteArray} (hs : ∀ x ∈ ss, x.size = 32) (a : Nat) : (tk ss a).size ≤ 32 := by
  by_cases h : a < ss.length
  · rw [(tk_of hs h).1]; omega
  · rw [tk_out h]; simp
theorem nx_le {ss : List ByteArray} {a : Nat} (h : a ≤ ss.length) : nx ss a ≤ ss.length := by unfold nx; split <;> omega
theorem foldP_size (ss : List ByteArray) (leaf : ByteArray) (hl : leaf.size ≤ 32) (ds : List Bool) : ∀ a, (ds.foldl (stepP ss) (leaf, a)).1.size ≤ 32 := by
  induction ds generalizing leaf with
  | nil => intro a; exact hl
  | cons d ds ih =>
    intro a
    rw [List.foldl_cons]
    refine ih _ ?_ _
    split <;> exact nodeA_size _ _

set_option maxHeartbeats 1000000 in
theorem takePath_any (N : Nat) : ∀ (W0 : World) (L A : Nat) (p : Option Addr) (ss : List ByteArray) (cap a i : Nat) (leaf : ByteArray) (w : World), Tabs W0 → TxtAt W0 p ss → ss.length ≤ 1048576 → ss.length ≤ cap → (∀ x ∈ ss, x.size = 32) →
    leaf.size ≤ 32 → i < N → N ≤ 9223372036854775807 → TkS W0 L A p ss cap a w →
    Calls Tryd.prog 68 #[.string leaf, .int .i64 (i : Int), .int .i64 (N : Int), takeF L A] w fun e w' => e = .returned (.string ((dirs i N).foldl (stepP ss) (leaf, a)).1) ∧ TkS W0 L A p ss cap ((dirs i N).foldl (stepP ss) (leaf, a)).2 w' := by
  induction N using Nat.strongRecOn with
  | _ N ih =>
  intro W0 L A p ss cap a i leaf w hT hp hn hcap h32 hleaf hi hN hK
  have HT : Hid (Tabs W0) := hT
  have HP : Hid (TxtAt W0 p ss) := hp
  have H32 : Hid (∀ x ∈ ss, x.size = 32) := h32
  have HK : Hid (TkS W0 L A p ss cap a w) := hK
  clear hT hp h32 hK
  unfold takeF at ih ⊢
  by_cases h2 : 2 ≤ N
  · have h1 := halfN_lt h2
    have h0 := halfN_pos N
    have hH := fun w => power_any N w h2 hN
    by_cases hik : i < halfN N
    · have I := ih (halfN N) h1 W0 L A p ss cap a i leaf w HT.out HP.out hn hcap H32.out hleaf hik (by omega) HK.out
      have z1 := foldP_size ss leaf hleaf (dirs i (halfN N)) a
      rw [dirs_left h2 hik, List.foldl_append]
      generalize (dirs i (halfN N)).foldl (stepP ss) (leaf, a) = S at *
      obtain ⟨T, a1⟩ := S
      have HS : Hid (nodeA T (tk ss a1) = (List.foldl (stepP ss) (T, a1) [false]).1 ∧ nx ss a1 = (List.foldl (stepP ss) (T, a1) [false]).2) := ⟨rfl, rfl⟩
      have z2 := tk_size H32.out a1
      dsimp only at I z1
      generalize halfN N = k at *
      clear ih
      go_enter Tryd.func68, Tryd.ntmps68
      go_wp2_with fail
      refine (hH _).mono ?_
      rintro e w1 ⟨rfl, hw1⟩
      subst hw1
      go_wp2_with fail
      refine I.mono ?_
      rintro e w2 ⟨rfl, K2⟩
      have HK2 : Hid (TkS W0 L A p ss cap a1 w2) := K2
      clear K2
      go_wp2_with fail
      refine (take_any W0 L A p ss cap a1 _ HP.out hn hcap HK2.out).mono ?_
      rintro e w3 ⟨rfl, K3⟩
      have HK3 : Hid (TkS W0 L A p ss cap (nx ss a1) w3) := K3
      clear K3
      generalize tk ss a1 = X at *
      go_wp2_with fail
      refine (implNode_any T X _ (HT.out.below HK3.out.bel HT.out.1) (by unfold maxLen; omega) (by unfold maxLen; omega)).mono ?_
      rintro e w4 ⟨rfl, b4⟩
      go_wp2_with fail
      go_ret
      exact ⟨ret_str HS.out.1, by rw [← HS.out.2]; exact HK3.out.below b4⟩
    · have I := ih (N - halfN N) (by omega) W0 L A p ss cap a (i - halfN N) leaf w HT.out HP.out hn hcap H32.out hleaf (by omega) (by omega) HK.out
      have z1 := foldP_size ss leaf hleaf (dirs (i - halfN N) (N - halfN N)) a
      rw [dirs_right h2 hik, List.foldl_append]
      generalize (dirs (i - halfN N) (N - halfN N)).foldl (stepP ss) (leaf, a) = S at *
      obtain ⟨T, a1⟩ := S
      have HS : Hid (nodeA (tk ss a1) T = (List.foldl (stepP ss) (T, a1) [true]).1 ∧ nx ss a1 = (List.foldl (stepP ss) (T, a1) [true]).2) := ⟨rfl, rfl⟩
      have z2 := tk_size H32.out a1
      dsimp only at I z1
      generalize halfN N = k at *
      rw [show (((i - k : Nat) : Int)) = (i : Int) - k by omega, show (((N - k : Nat) : Int)) = (N : Int) - k by omega] at I
      clear ih
      go_enter Tryd.func68, Tryd.ntmps68
      go_wp2_with fail
      refine (hH _).mono ?_
      rintro e w1 ⟨rfl, hw1⟩
      subst hw1
      go_wp2_with fail
      refine I.mono ?_
      rintro e w2 ⟨rfl, K2⟩
      have HK2 : Hid (TkS W0 L A p ss cap a1 w2) := K2
      clear K2
      go_wp2_with fail
      refine (take_any W0 L A p ss cap a1 _ HP.out hn hcap HK2.out).mono ?_
      rintro e w3 ⟨rfl, K3⟩
      have HK3 : Hid (TkS W0 L A p ss cap (nx ss a1) w3) := K3
      clear K3
      generalize tk ss a1 = X at *
      go_wp2_with fail
      refine (implNode_any X T _ (HT.out.below HK3.out.bel HT.out.1) (by unfold maxLen; omega) (by unfold maxLen; omega)).mono ?_
      rintro e w4 ⟨rfl, b4⟩
      go_wp2_with fail
      go_ret
      exact ⟨ret_str HS.out.1, by rw [← HS.out.2]; exact HK3.out.below b4⟩
  · have hN1 : N = 1 := by omega
    subst hN1
    have HD : Hid (dirs i 1 = []) := dirs_one (by omega)
    clear ih
    go_enter Tryd.func68, Tryd.ntmps68
    go_wp2
    go_ret
    rw [HD.out]
    exact ⟨rfl, HK.out⟩
end Go.Proofs.YtfdihkgkiiekcaaDoor
