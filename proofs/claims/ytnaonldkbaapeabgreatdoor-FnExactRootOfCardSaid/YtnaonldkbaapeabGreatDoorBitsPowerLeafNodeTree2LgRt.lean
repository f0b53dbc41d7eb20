/-
  Parts of one proof, laid as one text: Bits, Power, LeafNode, Tree2, LgRt; what each says stands at its head.
-/
import Derived.Test.YtnaonldkbaapeabGreatDoorRows
import Derived.Test.YtnaonldkbaapeabGreatDoorBytesDigMath
import Derived.Test.YtnaonldkbaapeabGreatDoorTreeMath
import Derived.Handy
import Derived.Laws.MathBits
import Derived.Lib.BitFns
import Derived.Lib.Strings
import Derived.Test.YtnaonldkbaapeabGreatDoorJoinedPutTextFldMath
import Derived.Test.YtnaonldkbaapeabGreatDoorPadIDigIDigAll
import Derived.Test.YtnaonldkbaapeabGreatDoorAll2
import Derived.Test.YtnaonldkbaapeabGreatDoorSlASlBBxKTakesOwnS
import Derived.Deep.QuietTactic
import Derived.BigQuiet
import Derived.Test.YtnaonldkbaapeabGreatDoorTimeBPutMathPutNum
import Derived.Test.YtnaonldkbaapeabGreatDoorGetValGetTxtNumMathFldRdNumFromTmbMath
import Derived.Test.YtnaonldkbaapeabGreatDoorLgMathLgAtKShwK
import Derived.Test.YtnaonldkbaapeabGreatDoorLeafKLgAnsSpecTg
/-
  math/bits.Len64: of a number above 0 its logarithm and 1.
-/
namespace Go.Proofs.YtnaonldkbaapeabGreatDoor
open Go.RowKit
open Go.Lib (len8)
set_option linter.unusedVariables false

theorem len8_log : ∀ n : Fin 256, 0 < n.val → len8 (n.val : Int) = ((Nat.log2 n.val + 1 : Nat) : Int) := by decide +kernel
theorem log_sh (x b d : Nat) (hd : d = 2 ^ b) (h1 : d ≤ x) (h2 : x / d < 256) : len8 ((x / d : Nat) : Int) = ((Nat.log2 x + 1 - b : Nat) : Int) ∧ b ≤ Nat.log2 x ∧ Nat.log2 x < b + 8 := by
  subst hd
  have hp : 0 < 2 ^ b := Nat.two_pow_pos b
  have h3 : 0 < x / 2 ^ b := Nat.div_pos h1 hp
  have h4 := Go.bitLen_shift x b (by omega)
  have h5 := Go.bitLen_le8 (x / 2 ^ b) h2
  unfold Go.bitLen at h4 h5
  rw [if_neg (by omega), if_neg (by omega)] at h4
  rw [if_neg (by omega)] at h5
  rw [len8_log ⟨x / 2 ^ b, h2⟩ h3]
  exact ⟨by simp only; omega, by omega, by omega⟩

theorem idx_len (x b d : Nat) (z : Int) (hd : d = 2 ^ b) (hz : z = ((x / d : Nat) : Int)) (h1 : d ≤ x) (h2 : x / d < 256) :
    ∃ q : Nat, q + b = Nat.log2 x + 1 ∧ q ≤ 8 ∧ ∀ w, (Instr.index 9 (.string Go.Lib.len8tab) (.int .u8 z)).run Tryz.prog w = .ok (.int .u8 (q : Int)) w := by
  obtain ⟨s1, s2, s3⟩ := log_sh x b d hd h1 h2
  refine ⟨Nat.log2 x + 1 - b, by omega, by omega, fun w => ?_⟩
  rw [← s1, hz]
  generalize x / d = r at *
  exact Go.Lib.run_index_len8tab w 9 .u8 _ Tryz.underlying9 (by omega) (by omega)
theorem ret_int {k : IntKind} {a b : Int} (h : a = b) : Ending.returned (.int k a) = .returned (.int k b) := by rw [h]

set_option maxHeartbeats 4000000 in
set_option maxRecDepth 20000 in
theorem len64_int (y : Int) (x : Nat) (hx : y.toNat = x) (w : World) (h0 : 1 ≤ y) (h1 : y ≤ 18446744073709551615) :
    Calls Tryz.prog 151 #[.int .u64 y] w fun e w' => e = .returned (.int .i64 ((Nat.log2 x + 1 : Nat) : Int)) ∧ w' = w := by
  by_cases c0 : 4294967296 ≤ y
  · by_cases c1 : 65536 ≤ y / 4294967296
    · by_cases c2 : 256 ≤ y / 4294967296 / 65536
      · obtain ⟨q, hq, hq8, hi⟩ := idx_len x 56 72057594037927936 (y / 4294967296 / 65536 / 256) rfl (by omega) (by omega) (by omega)
        rw [← hq]
        clear hq hx
        go_enter Tryz.func151, Tryz.ntmps151
        go_wp2
        go_ret
        exact ⟨ret_int (by omega), rfl⟩
      · obtain ⟨q, hq, hq8, hi⟩ := idx_len x 48 281474976710656 (y / 4294967296 / 65536) rfl (by omega) (by omega) (by omega)
        rw [← hq]
        clear hq hx
        go_enter Tryz.func151, Tryz.ntmps151
        go_wp2
        go_ret
        exact ⟨ret_int (by omega), rfl⟩
    · by_cases c2 : 256 ≤ y / 4294967296
      · obtain ⟨q, hq, hq8, hi⟩ := idx_len x 40 1099511627776 (y / 4294967296 / 256) rfl (by omega) (by omega) (by omega)
        rw [← hq]
        clear hq hx
        go_enter Tryz.func151, Tryz.ntmps151
        go_wp2
        go_ret
        exact ⟨ret_int (by omega), rfl⟩
      · obtain ⟨q, hq, hq8, hi⟩ := idx_len x 32 4294967296 (y / 4294967296) rfl (by omega) (by omega) (by omega)
        rw [← hq]
        clear hq hx
        go_enter Tryz.func151, Tryz.ntmps151
        go_wp2
        go_ret
        exact ⟨ret_int (by omega), rfl⟩
  · by_cases c1 : 65536 ≤ y
    · by_cases c2 : 256 ≤ y / 65536
      · obtain ⟨q, hq, hq8, hi⟩ := idx_len x 24 16777216 (y / 65536 / 256) rfl (by omega) (by omega) (by omega)
        rw [← hq]
        clear hq hx
        go_enter Tryz.func151, Tryz.ntmps151
        go_wp2
        go_ret
        exact ⟨ret_int (by omega), rfl⟩
      · obtain ⟨q, hq, hq8, hi⟩ := idx_len x 16 65536 (y / 65536) rfl (by omega) (by omega) (by omega)
        rw [← hq]
        clear hq hx
        go_enter Tryz.func151, Tryz.ntmps151
        go_wp2
        go_ret
        exact ⟨ret_int (by omega), rfl⟩
    · by_cases c2 : 256 ≤ y
      · obtain ⟨q, hq, hq8, hi⟩ := idx_len x 8 256 (y / 256) rfl (by omega) (by omega) (by omega)
        rw [← hq]
        clear hq hx
        go_enter Tryz.func151, Tryz.ntmps151
        go_wp2
        go_ret
        exact ⟨ret_int (by omega), rfl⟩
      · obtain ⟨q, hq, hq8, hi⟩ := idx_len x 0 1 (y) rfl (by omega) (by omega) (by omega)
        rw [← hq]
        clear hq hx
        go_enter Tryz.func151, Tryz.ntmps151
        go_wp2
        go_ret
        exact ⟨ret_int (by omega), rfl⟩

theorem len64_any (x : Nat) (w : World) (h0 : 0 < x) (h1 : x < 18446744073709551616) :
    Calls Tryz.prog 151 #[.int .u64 (x : Int)] w fun e w' => e = .returned (.int .i64 ((Nat.log2 x + 1 : Nat) : Int)) ∧ w' = w :=
  len64_int (x : Int) x (by omega) w (by omega) (by omega)

end Go.Proofs.YtnaonldkbaapeabGreatDoor
/-
  The program's powerBelow and the specification's l03Half: the greatest power of two below a number of 2 or more.
  Conditions: the numbers are of their types, and 2 or more.
-/
namespace Go.Proofs.YtnaonldkbaapeabGreatDoor
open Go.RowKit Go.Lib
set_option linter.unusedVariables false

theorem log_lt62 {n : Nat} (h : n < 9223372036854775808) (h0 : n ≠ 0) : Nat.log2 n < 63 := (Nat.log2_lt h0).2 (by rw [show (2 : Nat) ^ 63 = 9223372036854775808 from by decide]; exact h)
set_option maxHeartbeats 400000 in
theorem power_any (n : Nat) (w : World) (h2 : 2 ≤ n) (hn : n ≤ 9223372036854775807) :
    Calls Tryz.prog 140 #[.int .i64 (n : Int)] w fun e w' => e = .returned (.int .i64 (halfN n : Int)) ∧ w' = w := by
  have hl := log_lt62 (n := n - 1) (by omega) (by omega)
  have hc := fun w => len64_any (n - 1) w (by omega) (by omega)
  have HH : Hid (((2 : Int) ^ (Nat.log2 (n - 1))) = (halfN n : Int)) := by show _ = _; unfold halfN; simp
  have hh := halfN_lt h2
  obtain ⟨m, rfl⟩ : ∃ m, n = m + 1 := ⟨n - 1, by omega⟩
  simp only [Nat.add_sub_cancel] at *
  generalize halfN (m + 1) = H at *
  generalize Nat.log2 m = lg at *
  have HC : Hid (∀ w, Calls Tryz.prog 151 #[.int .u64 (m : Int)] w fun e w' => e = .returned (.int .i64 ((lg + 1 : Nat) : Int)) ∧ w' = w) := hc
  clear hc
  go_enter Tryz.func140, Tryz.ntmps140
  go_wp2_with (go_at_call 151; refine (HC.out _).mono ?_; rintro e w1 ⟨rfl, rfl⟩)
  go_ret
  exact ⟨ret_int (by rw [HH.out]; unfold wrap64; omega), rfl⟩

set_option maxHeartbeats 400000 in
theorem half2_any (n : Nat) (w : World) (h2 : 2 ≤ n) (hn : n ≤ 140737488355328) :
    Calls Tryz.prog 82 #[.int .i64 (n : Int)] w fun e w' => e = .returned (.int .i64 (halfN n : Int)) ∧ w' = w := by
  go_enter Tryz.func82, Tryz.ntmps82
  go_wp2
  go_loop [3] (fun x => ∃ k j : Nat, Hid (k = 2 ^ j) ∧ k < n ∧ 0 < k ∧ x = .int .i64 k) (fun x => n - (intOf x).toNat)
  case atStart => exact ⟨1, 0, rfl, by omega, by omega, rfl⟩
  case round =>
    obtain ⟨k, j, hk, hkn, hk0, rfl⟩ := hrel
    by_cases hlt : 2 * k < n
    · go_wp2
      go_round
      case rel => exact ⟨2 * k, j + 1, by show _ = _; rw [hk.out, Nat.pow_succ, Nat.mul_comm], hlt, by omega, by go_num⟩
      case measure => simp [intOf]; omega
    · have H : Hid (halfN n = k) := by
        show _ = _
        rw [hk.out]
        exact halfN_unique (by rw [← hk.out]; exact hkn) (by rw [← hk.out]; omega)
      go_wp2
      go_ret
      exact ⟨ret_int (by rw [H.out]), rfl⟩

theorem ret_bool' {a b : Bool} (h : a = true ↔ b = true) : Ending.returned (.bool a) = .returned (.bool b) := by rw [Bool.eq_iff_iff.2 h]
theorem pow_half (n : Nat) (h : n % 2 = 0) (h0 : 0 < n) : (∃ j, n = 2 ^ j) ↔ ∃ j, n / 2 = 2 ^ j := by
  constructor
  · rintro ⟨j, rfl⟩
    cases j with
    | zero => simp at h
    | succ j => exact ⟨j, by rw [Nat.pow_succ]; omega⟩
  · rintro ⟨j, hj⟩; exact ⟨j + 1, by rw [Nat.pow_succ, ← hj]; omega⟩
theorem pow_odd (n : Nat) (h : n % 2 = 1) : (∃ j, n = 2 ^ j) ↔ n = 1 := by
  constructor
  · rintro ⟨j, rfl⟩
    cases j with
    | zero => rfl
    | succ j => rw [Nat.pow_succ] at h; omega
  · rintro rfl; exact ⟨0, rfl⟩

def isPowB (n : Nat) : Bool := decide (n = 2 ^ Nat.log2 n)
theorem isPowB_iff (n : Nat) : isPowB n = true ↔ ∃ j, n = 2 ^ j := by
  unfold isPowB; rw [decide_eq_true_iff]
  exact ⟨fun h => ⟨_, h⟩, fun ⟨j, hj⟩ => by rw [hj, Nat.log2_two_pow]⟩
end Go.Proofs.YtnaonldkbaapeabGreatDoor
/-
  What LeafHash and NodeHash answer, in the program and in the specification: 'leafA', 'nodeA'; the specification's l03Leaf and l03Node.
  Conditions: for the program's half the two tables lie as the program's text lays them.
-/
namespace Go.Proofs.YtnaonldkbaapeabGreatDoor
open Go.RowKit Go.Lib
set_option linter.unusedVariables false
set_option maxRecDepth 20000


theorem joined_three (a b c : ByteArray) (w : World) (h : a.size + b.size + c.size ≤ 70368744177664) :
    Calls Tryz.prog 57 #[.slice (some ⟨w.heap.size, 0, none⟩) 3 3] (w.alloc (.cells #[.string a, .string b, .string c] 9))
      fun e w' => e = .returned (.string (a ++ b ++ c)) ∧ Below w.heap.size w w' := by
  have e : cat [a, b, c] = a ++ b ++ c := by apply ByteArray.ext; simp [cat]
  have := joined_new [a, b, c] w (by simp) (by rw [e]; simpa using h)
  rw [e] at this
  exact this

set_option maxHeartbeats 400000 in
theorem specL03Leaf_any (t : ByteArray) (w : World) (ht : t.size ≤ 1048576) :
    Calls Tryz.prog 81 #[.string t] w fun e w' => e = .returned (.string (leafB t)) ∧ Below w.heap.size w w' := by
  have hc := fun w => specAll_any (m0 ++ t) w (by rw [ByteArray.size_append, show m0.size = 1 from rfl]; omega)
  rw [show digB (m0 ++ t) = leafB t from rfl] at hc
  have HM : Hid ((⟨#[0]⟩ : ByteArray) ++ t = m0 ++ t) := rfl
  generalize leafB t = L at *
  go_enter Tryz.func81, Tryz.ntmps81
  go_wp2_with (go_at_call 80; rw [HM.out]; refine (hc _).mono ?_; rintro e w1 ⟨rfl, hb⟩)
  go_ret
  exact ⟨rfl, hb⟩
set_option maxHeartbeats 400000 in
theorem specL03Node_any (l r : ByteArray) (w : World) (hl : l.size ≤ 1048576) (hr : r.size ≤ 1048576) :
    Calls Tryz.prog 83 #[.string l, .string r] w fun e w' => e = .returned (.string (nodeB l r)) ∧ Below w.heap.size w w' := by
  have hc := fun w => specAll_any (m1 ++ l ++ r) w (by rw [ByteArray.size_append, ByteArray.size_append, show m1.size = 1 from rfl]; omega)
  rw [show digB (m1 ++ l ++ r) = nodeB l r from rfl] at hc
  have HM : Hid ((⟨#[1]⟩ : ByteArray) ++ l ++ r = m1 ++ l ++ r) := rfl
  generalize nodeB l r = L at *
  go_enter Tryz.func83, Tryz.ntmps83
  go_wp2_with (go_at_call 80; rw [HM.out]; refine (hc _).mono ?_; rintro e w1 ⟨rfl, hb⟩)
  go_ret
  exact ⟨rfl, hb⟩

set_option maxHeartbeats 400000 in
theorem implLeaf_any (t : ByteArray) (w : World) (hT : Tabs w) (ht : t.size ≤ maxLen) :
    Calls Tryz.prog 126 #[.string t] w fun e w' => e = .returned (.string (leafA t)) ∧ Below w.heap.size w w' := by
  have HT : Hid (Tabs w) := hT
  clear hT
  unfold maxLen at ht
  by_cases h : t.size ≤ 100
  · have H : Hid (leafA t = digB (m0 ++ t)) := if_pos h
    go_enter Tryz.func126, Tryz.ntmps126
    go_wp2_with fail
    refine (joined_two m0 t _ (by rw [show m0.size = 1 from rfl]; omega)).mono ?_
    rintro e w1 ⟨rfl, b1⟩
    go_wp2_with fail
    refine (digI_any (m0 ++ t) _ (by rw [ByteArray.size_append, show m0.size = 1 from rfl]; omega) (HT.out.below b1 HT.out.1)).mono ?_
    rintro e w2 ⟨rfl, b2⟩
    go_wp2_with fail
    go_ret
    exact ⟨ret_str H.out.symm, chainB b1 b2⟩
  · have H : Hid (leafA t = ByteArray.empty) := if_neg h
    go_enter Tryz.func126, Tryz.ntmps126
    go_wp2
    go_ret
    exact ⟨ret_str H.out.symm, Below.refl _ _⟩
theorem two_texts (w : World) (a b : ByteArray) (t : TypeId) : TxtAt (w.alloc (.cells #[.string a, .string b] t)) (some ⟨w.heap.size, 0, none⟩) [a, b] :=
  fun i h => ⟨_, _, rfl, by simp, new_texts w [a, b] t i h⟩
set_option maxHeartbeats 400000 in
theorem implNode_any (l r : ByteArray) (w : World) (hT : Tabs w) (hl : l.size ≤ maxLen) (hr : r.size ≤ maxLen) :
    Calls Tryz.prog 128 #[.string l, .string r] w fun e w' => e = .returned (.string (nodeA l r)) ∧ Below w.heap.size w w' := by
  have HT : Hid (Tabs w) := hT
  clear hT
  unfold maxLen at hl hr
  have B0 : Hid (Below w.heap.size w (w.alloc (.cells #[.string l, .string r] 9))) := (Below.refl _ _).alloc (Nat.le_refl _) _
  by_cases h : l.size = 32 ∧ r.size = 32
  · obtain ⟨h1, h2⟩ := h
    have H : Hid (nodeA l r = digB (m1 ++ l ++ r)) := if_pos ⟨h1, h2⟩
    have HJ : Hid (Calls Tryz.prog 57 #[.slice (some ⟨w.heap.size + 1, 0, none⟩) 3 3] ((w.alloc (.cells #[.string l, .string r] 9)).alloc (.cells #[.string m1, .string l, .string r] 9))
        fun e w' => e = .returned (.string (m1 ++ l ++ r)) ∧ Below (w.alloc (.cells #[.string l, .string r] 9)).heap.size (w.alloc (.cells #[.string l, .string r] 9)) w') := by
      have := joined_three m1 l r (w.alloc (.cells #[.string l, .string r] 9)) (by rw [show m1.size = 1 from rfl]; omega)
      rw [show (w.alloc (.cells #[.string l, .string r] 9)).heap.size = w.heap.size + 1 by simp] at this ⊢
      exact this
    have HW : Hid (wideB [l, r] = true) := by show _ = _; simp [wideB, h1, h2]
    go_enter Tryz.func128, Tryz.ntmps128
    go_wp2_with fail
    refine (areD_any _ 2 [l, r] _ (two_texts w l r _) (by simp) (by simp)).mono ?_
    rintro e w1 ⟨he, rfl⟩
    rw [HW.out] at he
    subst he
    go_wp2_with fail
    refine (HJ.out).mono ?_
    rintro e w1 ⟨rfl, b1⟩
    have b1 := chainB B0.out b1
    go_wp2_with fail
    refine (digI_any (m1 ++ l ++ r) _ (by rw [ByteArray.size_append, ByteArray.size_append, show m1.size = 1 from rfl]; omega) (HT.out.below b1 HT.out.1)).mono ?_
    rintro e w2 ⟨rfl, b2⟩
    go_wp2_with fail
    go_ret
    exact ⟨ret_str H.out.symm, chainB b1 b2⟩
  · have H : Hid (nodeA l r = ByteArray.empty) := if_neg h
    have HW : Hid (wideB [l, r] = false) := by show _ = _; simp only [wideB, List.all_cons, List.all_nil, Bool.and_true]; simpa [Bool.and_eq_false_iff] using fun a b => h ⟨a, b⟩
    clear h
    go_enter Tryz.func128, Tryz.ntmps128
    go_wp2_with fail
    refine (areD_any _ 2 [l, r] _ (two_texts w l r _) (by simp) (by simp)).mono ?_
    rintro e w1 ⟨he, rfl⟩
    rw [HW.out] at he
    subst he
    go_wp2_with fail
    go_ret
    exact ⟨ret_str H.out.symm, B0.out⟩
end Go.Proofs.YtnaonldkbaapeabGreatDoor
/-
  The specification's l03Tree: the tree of entries, 'treeB'.
  Conditions: the slice's cells hold the entries, each of at most 100 bytes, at most 2^47 of them.
-/
namespace Go.Proofs.YtnaonldkbaapeabGreatDoor
open Go.RowKit Go.Lib
set_option linter.unusedVariables false
set_option maxRecDepth 20000

set_option maxHeartbeats 1000000 in
theorem tree2_any (N : Nat) : ∀ (p : Option Addr) (cap : Nat) (ss : List ByteArray) (w : World), ss.length = N → TxtAt w p ss → ss.length ≤ 140737488355328 → ss.length ≤ cap → (∀ x ∈ ss, x.size ≤ 100) →
    Calls Tryz.prog 54 #[.slice p ss.length cap] w fun e w' => e = .returned (.string (treeB ss)) ∧ Below w.heap.size w w' := by
  induction N using Nat.strongRecOn with
  | _ N ih =>
  intro p cap ss w hN hp hn hcap h100
  subst hN
  have HP : Hid (TxtAt w p ss) := hp
  have HX : Hid (∀ x ∈ ss, x.size ≤ 100) := h100
  clear hp h100
  by_cases h2 : 2 ≤ ss.length
  · obtain ⟨b, off, rfl, hb, _⟩ := HP.out 0 (by omega)
    have h1 := halfN_lt h2
    have h0 := halfN_pos ss.length
    have l1 : (ss.take (halfN ss.length)).length = halfN ss.length := by simp; omega
    have l2 : (ss.drop (halfN ss.length)).length = ss.length - halfN ss.length := by simp
    have HB : Hid (nodeB (treeB (ss.take (halfN ss.length))) (treeB (ss.drop (halfN ss.length))) = treeB ss) := by
      show _ = _
      rw [treeB_two h2]
    have z1 := treeB_size (ss.take (halfN ss.length))
    have z2 := treeB_size (ss.drop (halfN ss.length))
    have I1 : Hid (∀ w', Below w.heap.size w w' → Calls Tryz.prog 54 #[.slice (some ⟨b, off, none⟩) (halfN ss.length) cap] w' fun e w'' => e = .returned (.string (treeB (ss.take (halfN ss.length)))) ∧ Below w'.heap.size w' w'') := by
      intro w' hbl
      have := ih _ (by omega) (some ⟨b, off, none⟩) cap (ss.take (halfN ss.length)) w' l1 ((HP.out.below hbl).take _) (by omega) (by omega) (fun x hx => HX.out x (List.mem_of_mem_take hx))
      rwa [l1] at this
    have I2 : Hid (∀ w', Below w.heap.size w w' → Calls Tryz.prog 54 #[.slice (some ⟨b, off + halfN ss.length, none⟩) (ss.length - halfN ss.length) (cap - halfN ss.length)] w' fun e w'' => e = .returned (.string (treeB (ss.drop (halfN ss.length)))) ∧ Below w'.heap.size w' w'') := by
      intro w' hbl
      have := ih _ (by omega) (some ⟨b, off + halfN ss.length, none⟩) (cap - halfN ss.length) (ss.drop (halfN ss.length)) w' l2 ((HP.out.below hbl).drop _) (by omega) (by omega) (fun x hx => HX.out x (List.mem_of_mem_drop hx))
      rwa [l2] at this
    have hH := fun w => half2_any ss.length w h2 hn
    clear l1 l2
    generalize treeB (ss.take (halfN ss.length)) = T1 at *
    generalize treeB (ss.drop (halfN ss.length)) = T2 at *
    generalize halfN ss.length = k at *
    have hNd := fun w => specL03Node_any T1 T2 w (by omega) (by omega)
    rw [HB.out] at hNd
    clear ih
    have q1 : (k : Int) ≤ cap := by omega
    have q2 : (k : Int) ≤ ss.length := by omega
    have q3 : (ss.length : Int) ≤ cap := by omega
    have q4 : ¬ cap = k := by omega
    have q5 : (0 : Int) ≤ k := by omega
    go_enter Tryz.func54, Tryz.ntmps54
    go_wp2_with fail
    refine (hH _).mono ?_
    rintro e w1 ⟨rfl, hw1⟩
    subst hw1
    go_wp2_with fail
    go_region_with (first
      | (go_at_call 54; refine (I2.out _ b2).mono ?_; rintro e w3 ⟨rfl, b3⟩; have b3 := chainB b2 b3)
      | (go_at_call 54; refine (I1.out _ ((Below.refl _ _).drew)).mono ?_; rintro e w2 ⟨rfl, b2⟩; have b2 := chainB ((Below.refl _ _).drew) b2)
      | (go_at_call 83; refine (hNd _).mono ?_; rintro e w4 ⟨rfl, b4⟩; have b4 := chainB b3 b4))
    all_goals go_wp2
    all_goals go_ret
    all_goals exact ⟨rfl, b4⟩
  · by_cases h1 : ss.length = 1
    · obtain ⟨x, rfl⟩ := List.length_eq_one_iff.1 h1
      obtain ⟨b, off, rfl, hb, hc⟩ := HP.out 0 (by simp)
      have hx := HX.out x (by simp)
      have HB : Hid (leafB x = treeB [x]) := by show _ = _; rw [treeB_one]
      have hc0 : w.cell? ⟨b, off, none⟩ = some (.string x) := by simpa using hc
      clear ih hc hcap
      have hcall := specL03Leaf_any x w (by omega)
      rw [HB.out] at hcall
      rw [List.length_singleton] at *
      go_enter Tryz.func54, Tryz.ntmps54
      go_wp2_with fail
      refine hcall.mono ?_
      rintro e w1 ⟨rfl, b1⟩
      go_wp2_with fail
      go_ret
      exact ⟨rfl, b1⟩
    · obtain rfl : ss = [] := List.length_eq_zero_iff.1 (by omega)
      have HB : Hid (digB ByteArray.empty = treeB []) := treeB_nil.symm
      have hcall := specAll_any ByteArray.empty w (by simp)
      rw [HB.out] at hcall
      clear ih hcap HP HX
      rw [List.length_nil]
      go_enter Tryz.func54, Tryz.ntmps54
      go_wp2_with fail
      refine hcall.mono ?_
      rintro e w1 ⟨rfl, b1⟩
      go_wp2_with fail
      go_ret
      exact ⟨rfl, b1⟩
end Go.Proofs.YtnaonldkbaapeabGreatDoor
/-
  The root of a log's first leaves and its head, in plain mathematics; the leaves of a right log are small.
-/
namespace Go.Proofs.YtnaonldkbaapeabGreatDoor
open Go.RowKit Go.Lib
set_option linter.unusedVariables false

def roO (rs : List Rw) (lv : List ByteArray) (now n : Int) : ByteArray := if lgB rs lv now = true then (if 0 ≤ n ∧ n ≤ (lv.length : Int) then treeB (lv.take n.toNat) else ByteArray.empty) else ByteArray.empty
def hdB (lv : List ByteArray) : ByteArray := putB (lv.length : Int) ++ putTextB (treeB lv)
def hdO (rs : List Rw) (lv : List ByteArray) (now : Int) : ByteArray := if lgB rs lv now = true then hdB lv else ByteArray.empty
theorem go_small (rs : List Rw) (now : Int) : ∀ (suf pre : List ByteArray) (n n' : Nat), cGo rs now pre n suf = some n' → ∀ t ∈ suf, t.size ≤ 100
  | [], _, _, _, _ => fun t h => by cases h
  | t :: ts, pre, n, n', h => by
    rw [cGo] at h
    have each : ∀ {m : Nat} {q : List ByteArray}, t.size ≤ 100 → cGo rs now q m ts = some n' → ∀ x ∈ t :: ts, x.size ≤ 100 := fun ht hc x hx => by
      rcases List.mem_cons.1 hx with rfl | hx
      · exact ht
      · exact go_small rs now ts _ _ _ hc x hx
    split at h
    · rename_i hn
      refine each ?_ h
      rw [((nx_iff _ _ _).1 hn).2]
      unfold rlB
      rw [ByteArray.size_append, digB_size]
      show 1 + 32 ≤ 100
      omega
    · split at h
      · rename_i hn ho
        refine each ?_ h
        unfold okT at ho
        simp only [Bool.and_eq_true, decide_eq_true_iff] at ho
        obtain ⟨-, -, hR, -⟩ := tr_sound ho.1
        have := (tmRaw_size (trT t)).2
        rw [hR] at this
        omega
      · cases h
theorem lg_small {rs : List Rw} {lv : List ByteArray} {now : Int} (h : lgB rs lv now = true) : ∀ t ∈ lv, t.size ≤ 100 := by
  rw [lg_eq] at h
  unfold imB at h
  simp only [Bool.and_eq_true] at h
  cases hc : cGo rs now [] 0 lv with
  | none => rw [hc] at h; exact absurd h.2.2 (by simp)
  | some n => exact go_small rs now lv [] 0 n hc
theorem ent_take {lv : List ByteArray} (h1 : lv.length ≤ 64) (h2 : ∀ t ∈ lv, t.size ≤ 100) (k : Nat) : entB (lv.take k) = true :=
  entB_true (by simp; omega) (fun j hj => h2 _ (List.mem_of_mem_take (List.getElem_mem hj)))
theorem rtSize (wx : World) : (sizeOf (Tryz.prog.elem 23)).run Tryz.prog wx = .ok 1 wx := by kernel_rfl
theorem rtElem : Tryz.prog.underlying 23 = some (.slice (Tryz.prog.elem 23)) := by kernel_rfl
theorem sl_to (q : Option Addr) (n c k : Nat) (hk : k ≤ c) (wx : World) : (Instr.slice 23 (.slice q n c) none (some (.int .i64 (k : Int))) none).run Tryz.prog wx = .ok (.slice q k c) wx := by
  rw [run_slice_h (P := Tryz.prog) wx 23 q n c rtElem .i64 (k : Int) (by omega) (by omega), rtSize]
  cases q <;> simp [sliced, Result.andThen, Addr.add]
theorem rtSizeL (wx : World) : (sizeOf (Tryz.prog.elem 57)).run Tryz.prog wx = .ok 1 wx := by kernel_rfl
theorem rtElemL : Tryz.prog.underlying 57 = some (.slice (Tryz.prog.elem 57)) := by kernel_rfl
theorem sl_lv (q : Option Addr) (n c k : Nat) (hk : k ≤ c) (wx : World) : (Instr.slice 57 (.slice q n c) none (some (.int .i64 (k : Int))) none).run Tryz.prog wx = .ok (.slice q k c) wx := by
  rw [run_slice_h (P := Tryz.prog) wx 57 q n c rtElemL .i64 (k : Int) (by omega) (by omega), rtSizeL]
  cases q <;> simp [sliced, Result.andThen, Addr.add]
theorem putTextB_32 {t : ByteArray} (h : t.size = 32) : (putTextB t).size ≤ 42 := by
  have := putTextB_le t (by omega)
  omega
end Go.Proofs.YtnaonldkbaapeabGreatDoor
