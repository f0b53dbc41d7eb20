/-
  Parts of one proof, laid as one text: Power, Taker, TakePath, IncI, Wide2, Inc2, LawSG; what each says stands at its head.
-/
import Derived.Test.YtnkcigobjaplkabGreatDoorRows
import Derived.Test.YtnkcigobjaplkabGreatDoorBytesDigMath
import Derived.Test.YtnkcigobjaplkabGreatDoorTreeMath
import Derived.Test.YtnkcigobjaplkabGreatDoorBits
import Derived.Handy
import Derived.Test.YtnkcigobjaplkabGreatDoorSlASlBBxKOwnSTakes
import Derived.Test.YtnkcigobjaplkabGreatDoorAll2LeafNodeIncMath
import Derived.Deep.QuietTactic
import Derived.BigQuiet
import Derived.OwnWalk
import Derived.Test.YtnkcigobjaplkabGreatDoorLawSLawM
/-
  The program's powerBelow and the specification's l03Half: the greatest power of two below a number of 2 or more.
  Conditions: the numbers are of their types, and 2 or more.
-/
namespace Go.Proofs.YtnkcigobjaplkabGreatDoor
open Go.RowKit Go.Lib
set_option linter.unusedVariables false

theorem log_lt62 {n : Nat} (h : n < 9223372036854775808) (h0 : n ≠ 0) : Nat.log2 n < 63 := (Nat.log2_lt h0).2 (by rw [show (2 : Nat) ^ 63 = 9223372036854775808 from by decide]; exact h)
set_option maxHeartbeats 400000 in
theorem power_any (n : Nat) (w : World) (h2 : 2 ≤ n) (hn : n ≤ 9223372036854775807) :
    Calls Tryz.prog 154 #[.int .i64 (n : Int)] w fun e w' => e = .returned (.int .i64 (halfN n : Int)) ∧ w' = w := by
  have hl := log_lt62 (n := n - 1) (by omega) (by omega)
  have hc := fun w => len64_any (n - 1) w (by omega) (by omega)
  have HH : Hid (((2 : Int) ^ (Nat.log2 (n - 1))) = (halfN n : Int)) := by show _ = _; unfold halfN; simp
  have hh := halfN_lt h2
  obtain ⟨m, rfl⟩ : ∃ m, n = m + 1 := ⟨n - 1, by omega⟩
  simp only [Nat.add_sub_cancel] at *
  generalize halfN (m + 1) = H at *
  generalize Nat.log2 m = lg at *
  have HC : Hid (∀ w, Calls Tryz.prog 165 #[.int .u64 (m : Int)] w fun e w' => e = .returned (.int .i64 ((lg + 1 : Nat) : Int)) ∧ w' = w) := hc
  clear hc
  go_enter Tryz.func154, Tryz.ntmps154
  go_wp2_with (go_at_call 165; refine (HC.out _).mono ?_; rintro e w1 ⟨rfl, rfl⟩)
  go_ret
  exact ⟨ret_int (by rw [HH.out]; unfold wrap64; omega), rfl⟩

set_option maxHeartbeats 400000 in
theorem half2_any (n : Nat) (w : World) (h2 : 2 ≤ n) (hn : n ≤ 140737488355328) :
    Calls Tryz.prog 111 #[.int .i64 (n : Int)] w fun e w' => e = .returned (.int .i64 (halfN n : Int)) ∧ w' = w := by
  go_enter Tryz.func111, Tryz.ntmps111
  go_wp2
  go_loop [3] (fun x => ∃ k j : Nat, Hid (k = 2 ^ j) ∧ k < n ∧ 0 < k ∧ x = .int .i64 k) (fun x => n - (intOf x).toNat)
  case atStart => exact ⟨1, 0, rfl, by omega, by omega, rfl⟩
  case round =>
    obtain ⟨k, j, hk, hkn, hk0, rfl⟩ := hrel
    by_cases hlt : 2 * k < n
    · go_wp2
      go_round
      case rel => exact ⟨2 * k, j + 1, by show _ = _; rw [hk.out, Nat.pow_succ, Nat.mul_comm], hlt, by omega, by go_num⟩
      case measure => simp [intOf]; omega
    · have H : Hid (halfN n = k) := by
        show _ = _
        rw [hk.out]
        exact halfN_unique (by rw [← hk.out]; exact hkn) (by rw [← hk.out]; omega)
      go_wp2
      go_ret
      exact ⟨ret_int (by rw [H.out]), rfl⟩

theorem ret_bool' {a b : Bool} (h : a = true ↔ b = true) : Ending.returned (.bool a) = .returned (.bool b) := by rw [Bool.eq_iff_iff.2 h]
theorem pow_half (n : Nat) (h : n % 2 = 0) (h0 : 0 < n) : (∃ j, n = 2 ^ j) ↔ ∃ j, n / 2 = 2 ^ j := by
  constructor
  · rintro ⟨j, rfl⟩
    cases j with
    | zero => simp at h
    | succ j => exact ⟨j, by rw [Nat.pow_succ]; omega⟩
  · rintro ⟨j, hj⟩; exact ⟨j + 1, by rw [Nat.pow_succ, ← hj]; omega⟩
theorem pow_odd (n : Nat) (h : n % 2 = 1) : (∃ j, n = 2 ^ j) ↔ n = 1 := by
  constructor
  · rintro ⟨j, rfl⟩
    cases j with
    | zero => rfl
    | succ j => rw [Nat.pow_succ] at h; omega
  · rintro rfl; exact ⟨0, rfl⟩

def isPowB (n : Nat) : Bool := decide (n = 2 ^ Nat.log2 n)
theorem isPowB_iff (n : Nat) : isPowB n = true ↔ ∃ j, n = 2 ^ j := by
  unfold isPowB; rw [decide_eq_true_iff]
  exact ⟨fun h => ⟨_, h⟩, fun ⟨j, hj⟩ => by rw [hj, Nat.log2_two_pow]⟩
end Go.Proofs.YtnkcigobjaplkabGreatDoor
/-
  The program's taker: its two closures, 'take' (what stands at the place, and the place goes on; nothing behind the last) and 'left' (how many are left).
  Conditions: the list's cells hold the texts; the two captured variables lie in blocks of their own.
-/
namespace Go.Proofs.YtnkcigobjaplkabGreatDoor
open Go.RowKit Go.Lib
set_option linter.unusedVariables false

/-- The list's box L and the place's box A, in memory that came behind W0; nothing that was there has turned. -/
structure TkS (W0 : World) (L A : Nat) (p : Option Addr) (ss : List ByteArray) (cap : Nat) (a : Nat) (w : World) : Prop where
  bel : Below W0.heap.size W0 w
  hL : W0.heap.size ≤ L
  hA : W0.heap.size ≤ A
  ne : L ≠ A
  list : w.heap[L]? = some (.cells #[.slice p ss.length cap] 23 (0, 0))
  place : w.heap[A]? = some (.cells #[.int .i64 (a : Int)] 3 (0, 0))
  le : a ≤ ss.length
theorem TkS.ltL {W0 : World} {L A : Nat} {p : Option Addr} {ss : List ByteArray} {cap a : Nat} {w : World} (h : TkS W0 L A p ss cap a w) : L < w.heap.size := lt_of_block h.list
theorem TkS.ltA {W0 : World} {L A : Nat} {p : Option Addr} {ss : List ByteArray} {cap a : Nat} {w : World} (h : TkS W0 L A p ss cap a w) : A < w.heap.size := lt_of_block h.place
theorem TkS.below {W0 : World} {L A : Nat} {p : Option Addr} {ss : List ByteArray} {cap a : Nat} {w w' : World} (h : TkS W0 L A p ss cap a w) (hb : Below w.heap.size w w') : TkS W0 L A p ss cap a w' :=
  ⟨h.bel.trans (hb.mono h.bel.size), h.hL, h.hA, h.ne, (hb.block _ h.ltL).trans h.list, (hb.block _ h.ltA).trans h.place, h.le⟩
theorem TkS.next {W0 : World} {L A : Nat} {p : Option Addr} {ss : List ByteArray} {cap a : Nat} {w : World} (h : TkS W0 L A p ss cap a w) (hlt : a < ss.length) : TkS W0 L A p ss cap (a + 1) (w.setCell ⟨A, 0, none⟩ (.int .i64 ((a : Int) + 1))) := by
  refine ⟨h.bel.setCell h.hA _, h.hL, h.hA, h.ne, ?_, ?_, by omega⟩
  · rw [show (w.setCell ⟨A, 0, none⟩ (.int .i64 ((a : Int) + 1))).heap[L]? = w.heap[L]? by simp [World.setCell, Array.getElem?_modify, h.ne.symm]]; exact h.list
  · rw [one_setCell h.place]; rfl

theorem hmf : ∀ (fn : Fn) (first cap : Array Value) (w : World), (Instr.makeFunc fn first cap).run Tryz.prog w = .ok (.func fn first cap) w := fun _ _ _ _ => rfl
theorem tkS_new (p : Option Addr) (ss : List ByteArray) (cap : Nat) (w : World) :
    TkS w w.heap.size (w.heap.size + 1) p ss cap 0 ((w.alloc (.cells #[.slice p ss.length cap] 23)).alloc (.cells #[.int .i64 0] 3)) := by
  have h1 := (MapKept.heap_alloc w (.cells #[.slice p ss.length cap] 23)).1
  have hs : (w.alloc (.cells #[.slice p ss.length cap] 23)).heap.size = w.heap.size + 1 := by simp
  have h2 := (MapKept.heap_alloc (w.alloc (.cells #[.slice p ss.length cap] 23)) (.cells #[.int .i64 0] 3)).1
  rw [hs] at h2
  refine ⟨((Below.refl _ _).alloc (Nat.le_refl _) _).alloc (by rw [hs]; omega) _, Nat.le_refl _, by omega, by omega, ?_, h2, by omega⟩
  exact (Below.heap_alloc _ _ _ (by rw [hs]; omega)).trans h1
end Go.Proofs.YtnkcigobjaplkabGreatDoor
/-
  The program's takePath and Included: what is taken, step by step, leads from the leaf to a tree; 'incB'.
  Conditions: the path's cells hold the texts; the two tables lie as the program's text lays them.
-/
namespace Go.Proofs.YtnkcigobjaplkabGreatDoor
open Go.RowKit Go.Lib
set_option linter.unusedVariables false
set_option maxRecDepth 20000

theorem nodeA_size (l r : ByteArray) : (nodeA l r).size ≤ 32 := by
  unfold nodeA; split
  · rw [nodeB_size]; omega
  · simp
theorem tk_size {ss : List ByteArray} (hs : ∀ x ∈ ss, x.size = 32) (a : Nat) : (tk ss a).size ≤ 32 := by
  by_cases h : a < ss.length
  · rw [(tk_of hs h).1]; omega
  · rw [tk_out h]; simp
theorem nx_le {ss : List ByteArray} {a : Nat} (h : a ≤ ss.length) : nx ss a ≤ ss.length := by unfold nx; split <;> omega
theorem foldP_size (ss : List ByteArray) (leaf : ByteArray) (hl : leaf.size ≤ 32) (ds : List Bool) : ∀ a, (ds.foldl (stepP ss) (leaf, a)).1.size ≤ 32 := by
  induction ds generalizing leaf with
  | nil => intro a; exact hl
  | cons d ds ih =>
    intro a
    rw [List.foldl_cons]
    refine ih _ ?_ _
    split <;> exact nodeA_size _ _

end Go.Proofs.YtnkcigobjaplkabGreatDoor
/-
  What the program's Included answers: 'incA'.
  Conditions: index and size are int64; the path's cells hold the texts; the two tables lie as the program's text lays them.
-/
namespace Go.Proofs.YtnkcigobjaplkabGreatDoor
open Go.RowKit Go.Lib
set_option linter.unusedVariables false
set_option maxRecDepth 20000

end Go.Proofs.YtnkcigobjaplkabGreatDoor
/-
  What the specification's l03Wide answers.
  Conditions: the slice's cells hold those texts; it is at most 2^47 long.
-/
namespace Go.Proofs.YtnkcigobjaplkabGreatDoor
open Go.RowKit Go.Lib
set_option linter.unusedVariables false

end Go.Proofs.YtnkcigobjaplkabGreatDoor
/-
  What the specification's Included answers: 'incA'.
  Conditions: index and size are int64; the path's cells hold the texts.
-/
namespace Go.Proofs.YtnkcigobjaplkabGreatDoor
open Go.RowKit Go.Lib
set_option linter.unusedVariables false
set_option maxRecDepth 20000

end Go.Proofs.YtnkcigobjaplkabGreatDoor
/-
  szStringS from any number on.
-/
namespace Go.Proofs.YtnkcigobjaplkabGreatDoor
open Go.RowKit Go.Lib
set_option linter.unusedVariables false

def SzTo (r l0 : Int) (ss : List ByteArray) : Prop := r = -1 ∨ (0 ≤ r ∧ r ≤ l0 ∧ ss.length ≤ 1048576 ∧ ∀ x ∈ ss, x.size ≤ 1048576)
set_option maxHeartbeats 400000 in
theorem szG_any (l0 : Int) (l00 : 0 ≤ l0) (l01 : l0 ≤ 1048576) (p : Option Addr) (cap : Nat) (ss : List ByteArray) (w : World) (hp : TxtAt w p ss) (hn : ss.length ≤ 9223372036854775807) (hcap : ss.length ≤ cap) (hs : ∀ x ∈ ss, x.size ≤ 9223372036854775807) :
    Calls Tryz.prog 30 #[.slice p ss.length cap, .int .i64 l0] w fun e w' => (∃ r : Int, e = .returned (.int .i64 r) ∧ SzTo r l0 ss) ∧ w' = w := by
  have HP : Hid (TxtAt w p ss) := hp
  have HS : Hid (∀ x ∈ ss, x.size ≤ 9223372036854775807) := hs
  clear hp hs
  by_cases hl : (ss.length : Int) ≤ l0
  · go_enter Tryz.func30, Tryz.ntmps30
    go_wp2
    go_loop [5, 1] (fun i x => ∃ (k : Nat) (l : Int), k ≤ ss.length ∧ i = .int .i64 k ∧ x = .int .i64 l ∧ 0 ≤ l ∧ l ≤ l0 ∧ Hid (∀ j (h : j < ss.length), j < k → ss[j].size ≤ 1048576)) (fun i _ => ss.length - (intOf i).toNat)
    case atStart => exact ⟨0, _, Nat.zero_le _, rfl, rfl, by omega, by omega, fun j h hk => by omega⟩
    case round =>
      obtain ⟨k, l, hk, rfl, rfl, hl0, hl1, HK⟩ := hrel
      by_cases hlt : k < ss.length
      · obtain ⟨b, off, rfl, hb, hck⟩ := HP.out k hlt
        have hsz := HS.out ss[k] (List.getElem_mem hlt)
        by_cases h32 : (ss[k].size : Int) ≤ l
        · have HK2 : Hid (∀ j (h : j < ss.length), j < k + 1 → ss[j].size ≤ 1048576) := fun j h hj => if he : j = k then by subst he; omega else HK.out j h (by omega)
          generalize ss[k] = q at *
          go_wp2
          go_round
          case rel => exact ⟨k + 1, l - q.size, by omega, by go_num, by go_num, by omega, by omega, HK2⟩
          case measure => simp [intOf]; omega
        · generalize ss[k] = q at *
          go_wp2
          go_ret
          exact ⟨⟨_, rfl, .inl rfl⟩, rfl⟩
      · have HF : Hid (∀ x ∈ ss, x.size ≤ 1048576) := fun x hx => by
          obtain ⟨j, hj, rfl⟩ := List.getElem_of_mem hx
          exact HK.out j hj (by omega)
        go_wp2
        go_ret
        exact ⟨⟨_, rfl, .inr ⟨hl0, by omega, by omega, HF.out⟩⟩, rfl⟩
  · go_enter Tryz.func30, Tryz.ntmps30
    go_wp2
    go_ret
    exact ⟨⟨_, rfl, .inl rfl⟩, rfl⟩

end Go.Proofs.YtnkcigobjaplkabGreatDoor
