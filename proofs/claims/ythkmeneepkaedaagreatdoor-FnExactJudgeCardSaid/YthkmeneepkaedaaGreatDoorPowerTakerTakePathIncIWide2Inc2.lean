/-
  Parts of one proof, laid as one text: Power, Taker, TakePath, IncI, Wide2, Inc2; what each says stands at its head.
-/
import Derived.Test.YthkmeneepkaedaaGreatDoorRows
import Derived.Test.YthkmeneepkaedaaGreatDoorBytesDigMath
import Derived.Test.YthkmeneepkaedaaGreatDoorTreeMathSlASlBBxKOwnS
import Derived.Test.YthkmeneepkaedaaGreatDoorBits
import Derived.Handy
import Derived.Test.YthkmeneepkaedaaGreatDoorAll2LeafNodeIncMath
/-
  The program's powerBelow and the specification's l03Half: the greatest power of two below a number of 2 or more.
  Conditions: the numbers are of their types, and 2 or more.
-/
namespace Go.Proofs.YthkmeneepkaedaaGreatDoor
open Go.RowKit Go.Lib
set_option linter.unusedVariables false

theorem log_lt62 {n : Nat} (h : n < 9223372036854775808) (h0 : n ≠ 0) : Nat.log2 n < 63 := (Nat.log2_lt h0).2 (by rw [show (2 : Nat) ^ 63 = 9223372036854775808 from by decide]; exact h)
set_option maxHeartbeats 400000 in
theorem power_any (n : Nat) (w : World) (h2 : 2 ≤ n) (hn : n ≤ 9223372036854775807) :
    Calls Tryz.prog 156 #[.int .i64 (n : Int)] w fun e w' => e = .returned (.int .i64 (halfN n : Int)) ∧ w' = w := by
  have hl := log_lt62 (n := n - 1) (by omega) (by omega)
  have hc := fun w => len64_any (n - 1) w (by omega) (by omega)
  have HH : Hid (((2 : Int) ^ (Nat.log2 (n - 1))) = (halfN n : Int)) := by show _ = _; unfold halfN; simp
  have hh := halfN_lt h2
  obtain ⟨m, rfl⟩ : ∃ m, n = m + 1 := ⟨n - 1, by omega⟩
  simp only [Nat.add_sub_cancel] at *
  generalize halfN (m + 1) = H at *
  generalize Nat.log2 m = lg at *
  have HC : Hid (∀ w, Calls Tryz.prog 170 #[.int .u64 (m : Int)] w fun e w' => e = .returned (.int .i64 ((lg + 1 : Nat) : Int)) ∧ w' = w) := hc
  clear hc
  go_enter Tryz.func156, Tryz.ntmps156
  go_wp2_with (go_at_call 170; refine (HC.out _).mono ?_; rintro e w1 ⟨rfl, rfl⟩)
  go_ret
  exact ⟨ret_int (by rw [HH.out]; unfold wrap64; omega), rfl⟩

set_option maxHeartbeats 400000 in
theorem half2_any (n : Nat) (w : World) (h2 : 2 ≤ n) (hn : n ≤ 140737488355328) :
    Calls Tryz.prog 107 #[.int .i64 (n : Int)] w fun e w' => e = .returned (.int .i64 (halfN n : Int)) ∧ w' = w := by
  go_enter Tryz.func107, Tryz.ntmps107
  go_wp2
  go_loop [3] (fun x => ∃ k j : Nat, Hid (k = 2 ^ j) ∧ k < n ∧ 0 < k ∧ x = .int .i64 k) (fun x => n - (intOf x).toNat)
  case atStart => exact ⟨1, 0, rfl, by omega, by omega, rfl⟩
  case round =>
    obtain ⟨k, j, hk, hkn, hk0, rfl⟩ := hrel
    by_cases hlt : 2 * k < n
    · go_wp2
      go_round
      case rel => exact ⟨2 * k, j + 1, by show _ = _; rw [hk.out, Nat.pow_succ, Nat.mul_comm], hlt, by omega, by go_num⟩
      case measure => simp [intOf]; omega
    · have H : Hid (halfN n = k) := by
        show _ = _
        rw [hk.out]
        exact halfN_unique (by rw [← hk.out]; exact hkn) (by rw [← hk.out]; omega)
      go_wp2
      go_ret
      exact ⟨ret_int (by rw [H.out]), rfl⟩

theorem ret_bool' {a b : Bool} (h : a = true ↔ b = true) : Ending.returned (.bool a) = .returned (.bool b) := by rw [Bool.eq_iff_iff.2 h]
theorem pow_half (n : Nat) (h : n % 2 = 0) (h0 : 0 < n) : (∃ j, n = 2 ^ j) ↔ ∃ j, n / 2 = 2 ^ j := by
  constructor
  · rintro ⟨j, rfl⟩
    cases j with
    | zero => simp at h
    | succ j => exact ⟨j, by rw [Nat.pow_succ]; omega⟩
  · rintro ⟨j, hj⟩; exact ⟨j + 1, by rw [Nat.pow_succ, ← hj]; omega⟩
theorem pow_odd (n : Nat) (h : n % 2 = 1) : (∃ j, n = 2 ^ j) ↔ n = 1 := by
  constructor
  · rintro ⟨j, rfl⟩
    cases j with
    | zero => rfl
    | succ j => rw [Nat.pow_succ] at h; omega
  · rintro rfl; exact ⟨0, rfl⟩

def isPowB (n : Nat) : Bool := decide (n = 2 ^ Nat.log2 n)
theorem isPowB_iff (n : Nat) : isPowB n = true ↔ ∃ j, n = 2 ^ j := by
  unfold isPowB; rw [decide_eq_true_iff]
  exact ⟨fun h => ⟨_, h⟩, fun ⟨j, hj⟩ => by rw [hj, Nat.log2_two_pow]⟩
end Go.Proofs.YthkmeneepkaedaaGreatDoor
/-
  The program's taker: its two closures, 'take' (what stands at the place, and the place goes on; nothing behind the last) and 'left' (how many are left).
  Conditions: the list's cells hold the texts; the two captured variables lie in blocks of their own.
-/
namespace Go.Proofs.YthkmeneepkaedaaGreatDoor
open Go.RowKit Go.Lib
set_option linter.unusedVariables false

/-- The list's box L and the place's box A, in memory that came behind W0; nothing that was there has turned. -/
structure TkS (W0 : World) (L A : Nat) (p : Option Addr) (ss : List ByteArray) (cap : Nat) (a : Nat) (w : World) : Prop where
  bel : Below W0.heap.size W0 w
  hL : W0.heap.size ≤ L
  hA : W0.heap.size ≤ A
  ne : L ≠ A
  list : w.heap[L]? = some (.cells #[.slice p ss.length cap] 23 (0, 0))
  place : w.heap[A]? = some (.cells #[.int .i64 (a : Int)] 3 (0, 0))
  le : a ≤ ss.length
theorem TkS.ltL {W0 : World} {L A : Nat} {p : Option Addr} {ss : List ByteArray} {cap a : Nat} {w : World} (h : TkS W0 L A p ss cap a w) : L < w.heap.size := lt_of_block h.list
theorem TkS.ltA {W0 : World} {L A : Nat} {p : Option Addr} {ss : List ByteArray} {cap a : Nat} {w : World} (h : TkS W0 L A p ss cap a w) : A < w.heap.size := lt_of_block h.place
theorem TkS.below {W0 : World} {L A : Nat} {p : Option Addr} {ss : List ByteArray} {cap a : Nat} {w w' : World} (h : TkS W0 L A p ss cap a w) (hb : Below w.heap.size w w') : TkS W0 L A p ss cap a w' :=
  ⟨h.bel.trans (hb.mono h.bel.size), h.hL, h.hA, h.ne, (hb.block _ h.ltL).trans h.list, (hb.block _ h.ltA).trans h.place, h.le⟩
theorem TkS.next {W0 : World} {L A : Nat} {p : Option Addr} {ss : List ByteArray} {cap a : Nat} {w : World} (h : TkS W0 L A p ss cap a w) (hlt : a < ss.length) : TkS W0 L A p ss cap (a + 1) (w.setCell ⟨A, 0, none⟩ (.int .i64 ((a : Int) + 1))) := by
  refine ⟨h.bel.setCell h.hA _, h.hL, h.hA, h.ne, ?_, ?_, by omega⟩
  · rw [show (w.setCell ⟨A, 0, none⟩ (.int .i64 ((a : Int) + 1))).heap[L]? = w.heap[L]? by simp [World.setCell, Array.getElem?_modify, h.ne.symm]]; exact h.list
  · rw [one_setCell h.place]; rfl

def takeF (L A : Nat) : Value := .func (.func 174) #[] #[.pointer (some ⟨A, 0, none⟩), .pointer (some ⟨L, 0, none⟩)]
def leftF (L A : Nat) : Value := .func (.func 175) #[] #[.pointer (some ⟨L, 0, none⟩), .pointer (some ⟨A, 0, none⟩)]

set_option maxHeartbeats 400000 in
theorem take_any (W0 : World) (L A : Nat) (p : Option Addr) (ss : List ByteArray) (cap a : Nat) (w : World) (hp : TxtAt W0 p ss) (hn : ss.length ≤ 1048576) (hcap : ss.length ≤ cap) (h : TkS W0 L A p ss cap a w) :
    Calls Tryz.prog 174 #[.pointer (some ⟨A, 0, none⟩), .pointer (some ⟨L, 0, none⟩)] w fun e w' => e = .returned (.string (tk ss a)) ∧ TkS W0 L A p ss cap (nx ss a) w' := by
  have HK : Hid (TkS W0 L A p ss cap a w) := h
  have c1 := cell_of_one h.list
  have c2 := cell_of_one h.place
  have f2 := free_of_one h.place
  have hle := h.le
  by_cases hlt : a < ss.length
  · have HT : Hid (tk ss a = ss[a]) := by show _ = _; unfold tk; simp [List.getElem?_eq_getElem hlt]
    have HN : Hid (nx ss a = a + 1) := if_pos hlt
    have HX : Hid (TkS W0 L A p ss cap (a + 1) (w.setCell ⟨A, 0, none⟩ (.int .i64 ((a : Int) + 1)))) := h.next hlt
    have q1 : ((a : Int) == (ss.length : Int)) = false := by simp; omega
    obtain ⟨b, off, rfl, hb, hc⟩ := hp a hlt
    have c3 : (w.setCell ⟨A, 0, none⟩ (.int .i64 ((a : Int) + 1))).cell? ⟨b, off + a, none⟩ = some (.string ss[a]) := by
      rw [HX.out.bel.cell (p := ⟨b, off + a, none⟩) hb]; exact hc
    have c4 := cell_of_one HX.out.list
    have c5 := cell_of_one HX.out.place
    rw [Int.natCast_add, Int.natCast_one] at c5
    clear h hp hc
    generalize ss[a] = x at *
    go_enter Tryz.func174, Tryz.ntmps174
    go_wp2
    go_ret
    exact ⟨ret_str HT.out.symm, by rw [HN.out]; exact HX.out⟩
  · have HT : Hid (tk ss a = ByteArray.empty) := tk_out hlt
    have HN : Hid (nx ss a = a) := if_neg hlt
    have q1 : ((a : Int) == (ss.length : Int)) = true := by simp; omega
    clear h hp
    go_enter Tryz.func174, Tryz.ntmps174
    go_wp2
    go_ret
    exact ⟨ret_str HT.out.symm, by rw [HN.out]; exact HK.out⟩
set_option maxHeartbeats 400000 in
theorem left_any (W0 : World) (L A : Nat) (p : Option Addr) (ss : List ByteArray) (cap a : Nat) (w : World) (hn : ss.length ≤ 1048576) (h : TkS W0 L A p ss cap a w) :
    Calls Tryz.prog 175 #[.pointer (some ⟨L, 0, none⟩), .pointer (some ⟨A, 0, none⟩)] w fun e w' => e = .returned (.int .i64 ((ss.length : Int) - a)) ∧ w' = w := by
  have c1 := cell_of_one h.list
  have c2 := cell_of_one h.place
  have hle := h.le
  clear h
  go_enter Tryz.func175, Tryz.ntmps175
  go_wp2
  go_ret
  exact ⟨rfl, rfl⟩
theorem hmf : ∀ (fn : Fn) (first cap : Array Value) (w : World), (Instr.makeFunc fn first cap).run Tryz.prog w = .ok (.func fn first cap) w := fun _ _ _ _ => rfl
theorem tkS_new (p : Option Addr) (ss : List ByteArray) (cap : Nat) (w : World) :
    TkS w w.heap.size (w.heap.size + 1) p ss cap 0 ((w.alloc (.cells #[.slice p ss.length cap] 23)).alloc (.cells #[.int .i64 0] 3)) := by
  have h1 := (MapKept.heap_alloc w (.cells #[.slice p ss.length cap] 23)).1
  have hs : (w.alloc (.cells #[.slice p ss.length cap] 23)).heap.size = w.heap.size + 1 := by simp
  have h2 := (MapKept.heap_alloc (w.alloc (.cells #[.slice p ss.length cap] 23)) (.cells #[.int .i64 0] 3)).1
  rw [hs] at h2
  refine ⟨((Below.refl _ _).alloc (Nat.le_refl _) _).alloc (by rw [hs]; omega) _, Nat.le_refl _, by omega, by omega, ?_, h2, by omega⟩
  exact (Below.heap_alloc _ _ _ (by rw [hs]; omega)).trans h1
set_option maxHeartbeats 400000 in
theorem taker_any (p : Option Addr) (ss : List ByteArray) (cap : Nat) (w : World) :
    Calls Tryz.prog 162 #[.slice p ss.length cap] w fun e w' => e = .returned (.tuple #[takeF w.heap.size (w.heap.size + 1), leftF w.heap.size (w.heap.size + 1)]) ∧ TkS w w.heap.size (w.heap.size + 1) p ss cap 0 w' := by
  have hm := hmf
  go_enter Tryz.func162, Tryz.ntmps162
  go_wp2
  go_ret2
  exact ⟨rfl, tkS_new p ss cap w⟩
end Go.Proofs.YthkmeneepkaedaaGreatDoor
/-
  The program's takePath and Included: what is taken, step by step, leads from the leaf to a tree; 'incB'.
  Conditions: the path's cells hold the texts; the two tables lie as the program's text lays them.
-/
namespace Go.Proofs.YthkmeneepkaedaaGreatDoor
open Go.RowKit Go.Lib
set_option linter.unusedVariables false
set_option maxRecDepth 20000

theorem nodeA_size (l r : ByteArray) : (nodeA l r).size ≤ 32 := by
  unfold nodeA; split
  · rw [nodeB_size]; omega
  · simp
theorem tk_size {ss : List ByteArray} (hs : ∀ x ∈ ss, x.size = 32) (a : Nat) : (tk ss a).size ≤ 32 := by
  by_cases h : a < ss.length
  · rw [(tk_of hs h).1]; omega
  · rw [tk_out h]; simp
theorem nx_le {ss : List ByteArray} {a : Nat} (h : a ≤ ss.length) : nx ss a ≤ ss.length := by unfold nx; split <;> omega
theorem foldP_size (ss : List ByteArray) (leaf : ByteArray) (hl : leaf.size ≤ 32) (ds : List Bool) : ∀ a, (ds.foldl (stepP ss) (leaf, a)).1.size ≤ 32 := by
  induction ds generalizing leaf with
  | nil => intro a; exact hl
  | cons d ds ih =>
    intro a
    rw [List.foldl_cons]
    refine ih _ ?_ _
    split <;> exact nodeA_size _ _

set_option maxHeartbeats 1000000 in
theorem takePath_any (N : Nat) : ∀ (W0 : World) (L A : Nat) (p : Option Addr) (ss : List ByteArray) (cap a i : Nat) (leaf : ByteArray) (w : World), Tabs W0 → TxtAt W0 p ss → ss.length ≤ 1048576 → ss.length ≤ cap → (∀ x ∈ ss, x.size = 32) →
    leaf.size ≤ 32 → i < N → N ≤ 9223372036854775807 → TkS W0 L A p ss cap a w →
    Calls Tryz.prog 163 #[.string leaf, .int .i64 (i : Int), .int .i64 (N : Int), takeF L A] w fun e w' => e = .returned (.string ((dirs i N).foldl (stepP ss) (leaf, a)).1) ∧ TkS W0 L A p ss cap ((dirs i N).foldl (stepP ss) (leaf, a)).2 w' := by
  induction N using Nat.strongRecOn with
  | _ N ih =>
  intro W0 L A p ss cap a i leaf w hT hp hn hcap h32 hleaf hi hN hK
  have HT : Hid (Tabs W0) := hT
  have HP : Hid (TxtAt W0 p ss) := hp
  have H32 : Hid (∀ x ∈ ss, x.size = 32) := h32
  have HK : Hid (TkS W0 L A p ss cap a w) := hK
  clear hT hp h32 hK
  unfold takeF at ih ⊢
  by_cases h2 : 2 ≤ N
  · have h1 := halfN_lt h2
    have h0 := halfN_pos N
    have hH := fun w => power_any N w h2 hN
    by_cases hik : i < halfN N
    · have I := ih (halfN N) h1 W0 L A p ss cap a i leaf w HT.out HP.out hn hcap H32.out hleaf hik (by omega) HK.out
      have z1 := foldP_size ss leaf hleaf (dirs i (halfN N)) a
      rw [dirs_left h2 hik, List.foldl_append]
      generalize (dirs i (halfN N)).foldl (stepP ss) (leaf, a) = S at *
      obtain ⟨T, a1⟩ := S
      have HS : Hid (nodeA T (tk ss a1) = (List.foldl (stepP ss) (T, a1) [false]).1 ∧ nx ss a1 = (List.foldl (stepP ss) (T, a1) [false]).2) := ⟨rfl, rfl⟩
      have z2 := tk_size H32.out a1
      dsimp only at I z1
      generalize halfN N = k at *
      clear ih
      go_enter Tryz.func163, Tryz.ntmps163
      go_wp2_with fail
      refine (hH _).mono ?_
      rintro e w1 ⟨rfl, hw1⟩
      subst hw1
      go_wp2_with fail
      refine I.mono ?_
      rintro e w2 ⟨rfl, K2⟩
      have HK2 : Hid (TkS W0 L A p ss cap a1 w2) := K2
      clear K2
      go_wp2_with fail
      refine (take_any W0 L A p ss cap a1 _ HP.out hn hcap HK2.out).mono ?_
      rintro e w3 ⟨rfl, K3⟩
      have HK3 : Hid (TkS W0 L A p ss cap (nx ss a1) w3) := K3
      clear K3
      generalize tk ss a1 = X at *
      go_wp2_with fail
      refine (implNode_any T X _ (HT.out.below HK3.out.bel HT.out.1) (by unfold maxLen; omega) (by unfold maxLen; omega)).mono ?_
      rintro e w4 ⟨rfl, b4⟩
      go_wp2_with fail
      go_ret
      exact ⟨ret_str HS.out.1, by rw [← HS.out.2]; exact HK3.out.below b4⟩
    · have I := ih (N - halfN N) (by omega) W0 L A p ss cap a (i - halfN N) leaf w HT.out HP.out hn hcap H32.out hleaf (by omega) (by omega) HK.out
      have z1 := foldP_size ss leaf hleaf (dirs (i - halfN N) (N - halfN N)) a
      rw [dirs_right h2 hik, List.foldl_append]
      generalize (dirs (i - halfN N) (N - halfN N)).foldl (stepP ss) (leaf, a) = S at *
      obtain ⟨T, a1⟩ := S
      have HS : Hid (nodeA (tk ss a1) T = (List.foldl (stepP ss) (T, a1) [true]).1 ∧ nx ss a1 = (List.foldl (stepP ss) (T, a1) [true]).2) := ⟨rfl, rfl⟩
      have z2 := tk_size H32.out a1
      dsimp only at I z1
      generalize halfN N = k at *
      rw [show (((i - k : Nat) : Int)) = (i : Int) - k by omega, show (((N - k : Nat) : Int)) = (N : Int) - k by omega] at I
      clear ih
      go_enter Tryz.func163, Tryz.ntmps163
      go_wp2_with fail
      refine (hH _).mono ?_
      rintro e w1 ⟨rfl, hw1⟩
      subst hw1
      go_wp2_with fail
      refine I.mono ?_
      rintro e w2 ⟨rfl, K2⟩
      have HK2 : Hid (TkS W0 L A p ss cap a1 w2) := K2
      clear K2
      go_wp2_with fail
      refine (take_any W0 L A p ss cap a1 _ HP.out hn hcap HK2.out).mono ?_
      rintro e w3 ⟨rfl, K3⟩
      have HK3 : Hid (TkS W0 L A p ss cap (nx ss a1) w3) := K3
      clear K3
      generalize tk ss a1 = X at *
      go_wp2_with fail
      refine (implNode_any X T _ (HT.out.below HK3.out.bel HT.out.1) (by unfold maxLen; omega) (by unfold maxLen; omega)).mono ?_
      rintro e w4 ⟨rfl, b4⟩
      go_wp2_with fail
      go_ret
      exact ⟨ret_str HS.out.1, by rw [← HS.out.2]; exact HK3.out.below b4⟩
  · have hN1 : N = 1 := by omega
    subst hN1
    have HD : Hid (dirs i 1 = []) := dirs_one (by omega)
    clear ih
    go_enter Tryz.func163, Tryz.ntmps163
    go_wp2
    go_ret
    rw [HD.out]
    exact ⟨rfl, HK.out⟩
end Go.Proofs.YthkmeneepkaedaaGreatDoor
/-
  What the program's Included answers: 'incA'.
  Conditions: index and size are int64; the path's cells hold the texts; the two tables lie as the program's text lays them.
-/
namespace Go.Proofs.YthkmeneepkaedaaGreatDoor
open Go.RowKit Go.Lib
set_option linter.unusedVariables false
set_option maxRecDepth 20000

set_option maxHeartbeats 2000000 in
theorem implInc_any (leaf : ByteArray) (i n : Int) (p : Option Addr) (cap : Nat) (ss : List ByteArray) (root : ByteArray) (w : World) (hT : Tabs w) (hp : TxtAt w p ss) (hn : ss.length ≤ 140737488355328) (hcap : ss.length ≤ cap)
    (i0 : -9223372036854775808 ≤ i) (i1 : i ≤ 9223372036854775807) (n0 : -9223372036854775808 ≤ n) (n1 : n ≤ 9223372036854775807) :
    Calls Tryz.prog 145 #[.string leaf, .int .i64 i, .int .i64 n, .slice p ss.length cap, .string root] w fun e w' => e = .returned (.bool (incA leaf i n ss root)) ∧ Below w.heap.size w w' := by
  have HT : Hid (Tabs w) := hT
  have HP : Hid (TxtAt w p ss) := hp
  clear hT hp
  have H0 : Hid (incA leaf i n ss root = if 0 ≤ i ∧ i < n ∧ ss.length ≤ 63 ∧ leaf.size = 32 ∧ root.size = 32 ∧ wideB ss = true then decide (cl leaf (dirs i.toNat n.toNat) ss = some root) else false) := rfl
  by_cases c1 : 0 ≤ i
  case neg =>
    have d1 : decide (i < 0) = true := by simp; omega
    have H : Hid (incA leaf i n ss root = false) := H0.out.trans (if_neg fun h => c1 h.1)
    go_enter Tryz.func145, Tryz.ntmps145
    go_wp2_with fail
    go_ret
    exact ⟨ret_bool H.out.symm, Below.refl _ _⟩
  have d1 : decide (i < 0) = false := by simp; omega
  by_cases c2 : i < n
  case neg =>
    have d2 : decide (n ≤ i) = true := by simp; omega
    have H : Hid (incA leaf i n ss root = false) := H0.out.trans (if_neg fun h => c2 h.2.1)
    go_enter Tryz.func145, Tryz.ntmps145
    go_wp2_with fail
    go_ret
    exact ⟨ret_bool H.out.symm, Below.refl _ _⟩
  have d2 : decide (n ≤ i) = false := by simp; omega
  by_cases c3 : ss.length ≤ 63
  case neg =>
    have d3 : decide (63 < (ss.length : Int)) = true := by simp; omega
    have H : Hid (incA leaf i n ss root = false) := H0.out.trans (if_neg fun h => c3 h.2.2.1)
    go_enter Tryz.func145, Tryz.ntmps145
    go_wp2_with fail
    go_ret
    exact ⟨ret_bool H.out.symm, Below.refl _ _⟩
  have d3 : decide (63 < (ss.length : Int)) = false := by simp; omega
  have B0 : Hid (Below w.heap.size w (w.alloc (.cells #[.string leaf, .string root] 9))) := (Below.refl _ _).alloc (Nat.le_refl _) _
  have HA := areD_any _ 2 [leaf, root] _ (two_texts w leaf root 9) (by simp) (by simp)
  by_cases c4 : leaf.size = 32 ∧ root.size = 32
  case neg =>
    have H : Hid (incA leaf i n ss root = false) := H0.out.trans (if_neg fun h => c4 ⟨h.2.2.2.1, h.2.2.2.2.1⟩)
    have HW : Hid (wideB [leaf, root] = false) := by show _ = _; simp only [wideB, List.all_cons, List.all_nil, Bool.and_true]; simpa [Bool.and_eq_false_iff] using fun a b => c4 ⟨a, b⟩
    rw [HW.out] at HA
    clear c4
    go_enter Tryz.func145, Tryz.ntmps145
    go_wp2_with fail
    refine HA.mono ?_
    rintro e w1 ⟨rfl, hw1⟩
    subst hw1
    go_wp2_with fail
    go_ret
    exact ⟨ret_bool H.out.symm, B0.out⟩
  obtain ⟨c4, c5⟩ := c4
  have HW : Hid (wideB [leaf, root] = true) := by show _ = _; simp [wideB, c4, c5]
  rw [HW.out] at HA
  clear HW
  obtain ⟨W1, hW1⟩ : ∃ W1, W1 = w.alloc (.cells #[.string leaf, .string root] 9) := ⟨_, rfl⟩
  rw [← hW1] at HA B0
  have HWA : Hid (W1 = w.alloc (.cells #[.string leaf, .string root] 9)) := hW1
  clear hW1
  have HD := areD_any p cap ss W1 (HP.out.below B0.out) hn hcap
  cases c6 : wideB ss
  · have H : Hid (incA leaf i n ss root = false) := H0.out.trans (if_neg fun h => by rw [c6] at h; exact absurd h.2.2.2.2.2 (by simp))
    rw [c6] at HD
    clear c6
    go_enter Tryz.func145, Tryz.ntmps145
    go_wp2_with fail
    rw [← HWA.out]
    refine HA.mono ?_
    rintro e w1 ⟨rfl, hw1⟩
    subst hw1
    go_wp2_with fail
    refine HD.mono ?_
    rintro e w1 ⟨rfl, hw1⟩
    subst hw1
    go_wp2_with fail
    go_ret
    exact ⟨ret_bool H.out.symm, B0.out⟩
  · have H : Hid (incA leaf i n ss root = decide (cl leaf (dirs i.toNat n.toNat) ss = some root)) := H0.out.trans (if_pos ⟨c1, c2, c3, c4, c5, c6⟩)
    rw [c6] at HD
    have h32 := wideB_all c6
    have HE : Hid (∀ a, a = (dirs i.toNat n.toNat).foldl (stepP ss) (leaf, 0) → ((a.1 = root ∧ a.2 = ss.length) ↔ cl leaf (dirs i.toNat n.toNat) ss = some root)) := by
      rintro a rfl
      have := foldP h32 c5 (dirs i.toNat n.toNat) leaf 0 c4 (Nat.zero_le _)
      rwa [List.drop_zero] at this
    clear c6 H0
    obtain ⟨I, rfl⟩ := Int.eq_ofNat_of_zero_le c1
    obtain ⟨M, rfl⟩ := Int.eq_ofNat_of_zero_le (show 0 ≤ n by omega)
    have HTK := taker_any p ss cap W1
    have HTP := fun w' => takePath_any M W1 W1.heap.size (W1.heap.size + 1) p ss cap 0 I leaf w' (HT.out.below B0.out HT.out.1) (HP.out.below B0.out) (by omega) hcap h32 (by omega) (by omega) (by omega)
    simp only [Int.toNat_natCast] at HE H
    generalize hS : (dirs I M).foldl (stepP ss) (leaf, 0) = S at *
    have HE2 : Hid ((S.1 = root ∧ S.2 = ss.length) ↔ cl leaf (dirs I M) ss = some root) := HE.out S rfl
    clear hS HE h32
    obtain ⟨X, a⟩ := S
    have HTP' : Hid (∀ w', TkS W1 W1.heap.size (W1.heap.size + 1) p ss cap 0 w' → Calls Tryz.prog 163 #[.string leaf, .int .i64 (I : Int), .int .i64 (M : Int), takeF W1.heap.size (W1.heap.size + 1)] w' fun e w'' => e = .returned (.string X) ∧ TkS W1 W1.heap.size (W1.heap.size + 1) p ss cap a w'') := HTP
    clear HTP
    dsimp only at HE2
    unfold takeF at HTP' HTK
    unfold leftF at HTK
    by_cases hx : X = root
    · have q1 : (X.toList == root.toList) = true := by rw [hx]; simp
      clear hx
      have hx : Hid (X = root) := toList_inj' q1
      by_cases ha : a = ss.length
      · have HR : Hid (decide (cl leaf (dirs I M) ss = some root) = true) := decide_eq_true (HE2.out.1 ⟨hx.out, ha⟩)
        go_enter Tryz.func145, Tryz.ntmps145
        go_wp2_with fail
        rw [← HWA.out]
        refine HA.mono ?_
        rintro e w1 ⟨rfl, hw1⟩
        subst hw1
        go_wp2_with fail
        refine HD.mono ?_
        rintro e w1 ⟨rfl, hw1⟩
        subst hw1
        go_wp2_with fail
        refine HTK.mono ?_
        rintro e w2 ⟨rfl, K2⟩
        have HK2 : Hid _ := K2
        clear K2
        go_wp2_with fail
        refine (HTP'.out _ HK2.out).mono ?_
        rintro e w3 ⟨rfl, K3⟩
        have HK3 : Hid (TkS w1 w1.heap.size (w1.heap.size + 1) p ss cap a w3) := K3
        clear K3
        go_wp2_with fail
        refine (left_any w1 w1.heap.size (w1.heap.size + 1) p ss cap a w3 (by omega) HK3.out).mono ?_
        rintro e w4 ⟨rfl, hw4⟩
        subst hw4
        go_wp2_with fail
        go_ret
        exact ⟨ret_bool (by rw [H.out, HR.out]; try (simp <;> omega)), B0.out.trans (HK3.out.bel.mono B0.out.size)⟩
      · have HR : Hid (decide (cl leaf (dirs I M) ss = some root) = false) := decide_eq_false fun h => ha (HE2.out.2 h).2
        go_enter Tryz.func145, Tryz.ntmps145
        go_wp2_with fail
        rw [← HWA.out]
        refine HA.mono ?_
        rintro e w1 ⟨rfl, hw1⟩
        subst hw1
        go_wp2_with fail
        refine HD.mono ?_
        rintro e w1 ⟨rfl, hw1⟩
        subst hw1
        go_wp2_with fail
        refine HTK.mono ?_
        rintro e w2 ⟨rfl, K2⟩
        have HK2 : Hid _ := K2
        clear K2
        go_wp2_with fail
        refine (HTP'.out _ HK2.out).mono ?_
        rintro e w3 ⟨rfl, K3⟩
        have HK3 : Hid (TkS w1 w1.heap.size (w1.heap.size + 1) p ss cap a w3) := K3
        clear K3
        go_wp2_with fail
        refine (left_any w1 w1.heap.size (w1.heap.size + 1) p ss cap a w3 (by omega) HK3.out).mono ?_
        rintro e w4 ⟨rfl, hw4⟩
        subst hw4
        go_wp2_with fail
        go_ret
        exact ⟨ret_bool (by rw [H.out, HR.out]; try (simp <;> omega)), B0.out.trans (HK3.out.bel.mono B0.out.size)⟩
    · have HR : Hid (decide (cl leaf (dirs I M) ss = some root) = false) := decide_eq_false fun h => hx (HE2.out.2 h).1
      have q1 : (X.toList == root.toList) = false := by rw [beq_eq_false_iff_ne]; exact fun h => hx (toList_inj' (by rw [h]; simp))
      clear hx
      go_enter Tryz.func145, Tryz.ntmps145
      go_wp2_with fail
      rw [← HWA.out]
      refine HA.mono ?_
      rintro e w1 ⟨rfl, hw1⟩
      subst hw1
      go_wp2_with fail
      refine HD.mono ?_
      rintro e w1 ⟨rfl, hw1⟩
      subst hw1
      go_wp2_with fail
      refine HTK.mono ?_
      rintro e w2 ⟨rfl, K2⟩
      have HK2 : Hid _ := K2
      clear K2
      go_wp2_with fail
      refine (HTP'.out _ HK2.out).mono ?_
      rintro e w3 ⟨rfl, K3⟩
      have HK3 : Hid (TkS w1 w1.heap.size (w1.heap.size + 1) p ss cap a w3) := K3
      clear K3
      go_wp2_with fail
      go_ret
      exact ⟨ret_bool (by rw [H.out, HR.out]), B0.out.trans (HK3.out.bel.mono B0.out.size)⟩
end Go.Proofs.YthkmeneepkaedaaGreatDoor
/-
  What the specification's l03Wide answers.
  Conditions: the slice's cells hold those texts; it is at most 2^47 long.
-/
namespace Go.Proofs.YthkmeneepkaedaaGreatDoor
open Go.RowKit Go.Lib
set_option linter.unusedVariables false

set_option maxHeartbeats 400000 in
theorem wide2_any (p : Option Addr) (cap : Nat) (ss : List ByteArray) (w : World) (hp : TxtAt w p ss) (hn : ss.length ≤ 140737488355328) (hcap : ss.length ≤ cap) :
    Calls Tryz.prog 143 #[.slice p ss.length cap] w fun e w' => e = .returned (.bool (wideB ss)) ∧ w' = w := by
  have HP : Hid (TxtAt w p ss) := hp
  clear hp
  go_enter Tryz.func143, Tryz.ntmps143
  go_wp2
  go_loop [3] (fun i => ∃ k : Nat, k ≤ ss.length ∧ i = .int .i64 k ∧ Hid (∀ j (h : j < ss.length), j < k → ss[j].size = 32)) (fun i => ss.length - (intOf i).toNat)
  case atStart => exact ⟨0, Nat.zero_le _, rfl, fun j h hk => by omega⟩
  case round =>
    obtain ⟨k, hk, rfl, HK⟩ := hrel
    by_cases hlt : k < ss.length
    · obtain ⟨b, off, rfl, hb, hck⟩ := HP.out k hlt
      by_cases h32 : ss[k].size = 32
      · have HK2 : Hid (∀ j (h : j < ss.length), j < k + 1 → ss[j].size = 32) := fun j h hj => if he : j = k then by subst he; exact h32 else HK.out j h (by omega)
        generalize ss[k] = q at *
        have h33 : (q.size : Int) = 32 := by omega
        go_wp2
        go_round
        case rel => exact ⟨k + 1, by omega, by go_num, HK2⟩
        case measure => simp [intOf]; omega
      · have HF : Hid (wideB ss = false) := wideB_false hlt h32
        generalize ss[k] = q at *
        have h33 : ¬ (q.size : Int) = 32 := by omega
        go_wp2
        go_ret
        exact ⟨ret_bool HF.out.symm, rfl⟩
    · have HF : Hid (wideB ss = true) := wideB_true fun j h => HK.out j h (by omega)
      go_wp2
      go_ret
      exact ⟨ret_bool HF.out.symm, rfl⟩

end Go.Proofs.YthkmeneepkaedaaGreatDoor
/-
  What the specification's Included answers: 'incA'.
  Conditions: index and size are int64; the path's cells hold the texts.
-/
namespace Go.Proofs.YthkmeneepkaedaaGreatDoor
open Go.RowKit Go.Lib
set_option linter.unusedVariables false
set_option maxRecDepth 20000

set_option maxHeartbeats 4000000 in
theorem specInc_main (leaf : ByteArray) (I M : Nat) (p : Option Addr) (cap : Nat) (ss : List ByteArray) (root : ByteArray) (w : World) (hp : TxtAt w p ss) (hn : ss.length ≤ 63) (hcap : ss.length ≤ cap)
    (hi : I < M) (hM : M ≤ 9223372036854775807) (h32 : leaf.size = 32) (hr32 : root.size = 32) (hw : wideB ss = true) :
    Calls Tryz.prog 118 #[.string leaf, .int .i64 (I : Int), .int .i64 (M : Int), .slice p ss.length cap, .string root] w fun e w' => e = .returned (.bool (decide (cl leaf (dirs I M) ss = some root))) ∧ Below w.heap.size w w' := by
  have HP : Hid (TxtAt w p ss) := hp
  have HX : Hid (∀ x ∈ ss, x.size = 32) := wideB_all hw
  have HD := wide2_any p cap ss w hp (by omega) hcap
  rw [hw] at HD
  have H0 : Hid (cl leaf (dirs I M) ss = cl leaf (itd I (M - 1)) (ss.drop 0)) := by show _ = _; rw [dirs_eq hi, List.drop_zero]
  generalize cl leaf (dirs I M) ss = G at *
  have d1 : decide (63 < (ss.length : Int)) = false := decide_eq_false (by omega)
  have d2 : ((leaf.size : Int) != 32) = false := by simp; omega
  have d3 : ((root.size : Int) != 32) = false := by simp; omega
  have d4 : decide ((I : Int) < 0) = false := decide_eq_false (by omega)
  have d5 : decide ((M : Int) ≤ (I : Int)) = false := decide_eq_false (by omega)
  have d6 : decide (M ≤ I) = false := decide_eq_false (by omega)
  clear hp hw
  have HL : Hid (leaf.size = 32) := h32
  clear h32 hr32
  go_enter Tryz.func118, Tryz.ntmps118
  go_wp2_with fail
  refine HD.mono ?_
  rintro e w1 ⟨rfl, hw1⟩
  subst hw1
  go_wp2_with fail
  clear d1 d2 d3 d4 d5 d6 HD
  go_loopw [14, 11, 12, 13] (fun vi va vl vh wr => ∃ (k a l : Nat) (h : ByteArray), k ≤ ss.length ∧ vi = .int .i64 k ∧ va = .int .i64 a ∧ vl = .int .i64 l ∧ vh = .string h ∧ a ≤ l ∧ l ≤ 9223372036854775807 ∧ Hid (h.size = 32) ∧ Hid (G = cl h (itd a l) (ss.drop k)) ∧ Hid (Below w1.heap.size w1 wr)) (fun vi _ _ _ _ => ss.length - (intOf vi).toNat)
  case atStart => exact ⟨0, I, M - 1, leaf, Nat.zero_le _, rfl, rfl, by go_num, rfl, by omega, by omega, HL, H0, Below.refl _ _⟩
  case round =>
    clear H0 HL
    obtain ⟨k, a, l, h, hk, rfl, rfl, rfl, rfl, hal, hl, hh, hG, hB⟩ := hrel
    by_cases hlt : k < ss.length
    · have hdrop : Hid (ss.drop k = ss[k] :: ss.drop (k + 1)) := List.drop_eq_getElem_cons hlt
      obtain ⟨b, off, rfl, hb, hck⟩ := HP.out k hlt
      have hc1 : wr.cell? ⟨b, off + k, none⟩ = some (.string ss[k]) := (hB.out.cell (p := ⟨b, off + k, none⟩) hb).trans hck
      have hq32 := HX.out ss[k] (List.getElem_mem hlt)
      clear hck
      generalize ss[k] = q at *
      by_cases hz : l = 0
      · subst hz
        have HF : Hid (decide (G = some root) = false) := by
          refine decide_eq_false ?_
          rw [hG.out, itd_zero, hdrop.out]; simp [cl]
        go_wp2
        go_ret
        exact ⟨ret_bool HF.out.symm, hB.out⟩
      · have n1 := specL03Node_any q h wr (by omega) (by have := hh.out; omega)
        have n2 := specL03Node_any h q wr (by have := hh.out; omega) (by omega)
        by_cases hodd : a % 2 = 1 ∨ a = l
        · have hpos : 0 < a := by omega
          have hG2 : Hid (G = cl h (itd a l) (q :: ss.drop (k + 1))) := by show _ = _; rw [hG.out, hdrop.out]
          have hfst : (((a : Int) % 2 == 1) = true) ∨ (((a : Int) % 2 == 1) = false ∧ ((a : Int) == (l : Int)) = true) := by
            rcases hodd with h1 | h1
            · exact .inl (by simp; omega)
            · by_cases h3 : a % 2 = 1
              · exact .inl (by simp; omega)
              · exact .inr ⟨by simp; omega, by simp; omega⟩
          have hsz : Hid ((nodeB q h).size = 32) := nodeB_size q h
          have hcl : Hid (∀ T, cl h (true :: T) (q :: ss.drop (k + 1)) = cl (nodeB q h) T (ss.drop (k + 1))) := fun T => by show cl h (true :: T) (q :: _) = _; simp [cl]
          generalize nodeB q h = N at *
          clear hG n2
          rcases hfst with h1 | ⟨h1, h2⟩
          all_goals (
            go_wp2_with fail
            refine n1.mono ?_
            rintro e w2 ⟨rfl, b2⟩
            have HB2 : Hid (Below w1.heap.size w1 w2) := chainB hB.out b2
            clear b2
            go_wp2_with fail
            clear hc1
            have HI : Hid (itd a l = itd a l) := rfl
            rename World => W2
            go_loopw [11, 12] (fun va vl wr => ∃ (x y : Nat), va = .int .i64 x ∧ vl = .int .i64 y ∧ 0 < x ∧ x ≤ y ∧ y ≤ 9223372036854775807 ∧ (x % 2 = 1 ∨ x = y) ∧ Hid (G = cl h (itd x y) (q :: ss.drop (k + 1))) ∧ wr = W2) (fun va _ _ => (intOf va).toNat)
            case atStart => exact ⟨a, l, rfl, rfl, hpos, hal, hl, hodd, hG2, rfl⟩
            case round =>
              clear HI hG2 h1
              obtain ⟨x, y, rfl, rfl, hx0, hxy, hy, hor, hI, rfl⟩ := hrel
              by_cases he : x % 2 = 0
              · have e1 : ((x : Int) % 2 == 0) = true := by simp; omega
                obtain rfl : x = y := by omega
                have HI2 : Hid (G = cl h (itd (x / 2) (x / 2)) (q :: ss.drop (k + 1))) := by show _ = _; rw [hI.out, itd_last (by omega) he]
                go_wp2
                go_roundw
                case rel => exact ⟨x / 2, x / 2, by go_num, by go_num, by omega, by omega, by omega, by omega, HI2, trivial⟩
                case measure => simp [intOf]; omega
              · have e1 : ((x : Int) % 2 == 0) = false := by simp; omega
                have HI2 : Hid (G = cl N (itd (x / 2) (y / 2)) (ss.drop (k + 1))) := by show _ = _; rw [hI.out, itd_odd (by omega) (by omega), hcl.out]
                go_wp2
                go_roundw
                case rel => exact ⟨k + 1, x / 2, y / 2, N, by omega, by go_num, by go_num, by go_num, rfl, by omega, by omega, hsz, HI2, HB2⟩
                case measure => simp [intOf]; omega)
        · have e1 : ((a : Int) % 2 == 1) = false := by simp; omega
          have e2 : ((a : Int) == (l : Int)) = false := by simp; omega
          have hsz : Hid ((nodeB h q).size = 32) := nodeB_size h q
          have HI2 : Hid (G = cl (nodeB h q) (itd (a / 2) (l / 2)) (ss.drop (k + 1))) := by
            show _ = _
            rw [hG.out, hdrop.out, itd_even hz (by omega) (by omega)]; simp [cl]
          generalize nodeB h q = N at *
          clear hG n1
          go_wp2_with fail
          refine n2.mono ?_
          rintro e w2 ⟨rfl, b2⟩
          have HB2 : Hid (Below w1.heap.size w1 w2) := chainB hB.out b2
          clear b2
          go_wp2_with fail
          go_roundw
          case rel => exact ⟨k + 1, a / 2, l / 2, N, by omega, by go_num, by go_num, by go_num, rfl, by omega, by omega, hsz, HI2, HB2⟩
          case measure => simp [intOf]; omega
    · have hkk : k = ss.length := by omega
      subst hkk
      rw [List.drop_of_length_le (Nat.le_refl _)] at hG
      by_cases hz : l = 0
      · subst hz
        have e1 : (((0 : Nat) : Int) == 0) = true := by simp
        have HF : Hid (decide (G = some root) = (h.toList == root.toList)) := by
          show _ = _
          rw [hG.out, itd_zero]
          by_cases hq : h = root
          · subst hq; simp [cl]
          · rw [decide_eq_false (by simp [cl, hq])]
            exact (beq_eq_false_iff_ne.2 fun hh => hq (toList_inj' (by rw [hh]; simp))).symm
        go_wp2
        go_ret
        exact ⟨ret_bool HF.out.symm, hB.out⟩
      · have e1 : ((l : Int) == 0) = false := by simp; omega
        have HF : Hid (decide (G = some root) = false) := by
          refine decide_eq_false ?_
          rw [hG.out]
          cases hc : itd a l with
          | nil => exact absurd hc (itd_nil hal hz)
          | cons d ds => simp [cl]
        go_wp2
        go_ret
        exact ⟨ret_bool HF.out.symm, hB.out⟩

set_option maxHeartbeats 2000000 in
theorem specInc_any (leaf : ByteArray) (i n : Int) (p : Option Addr) (cap : Nat) (ss : List ByteArray) (root : ByteArray) (w : World) (hp : TxtAt w p ss) (hn : ss.length ≤ 140737488355328) (hcap : ss.length ≤ cap)
    (hls : leaf.size ≤ maxLen) (hrs : root.size ≤ maxLen) (i0 : -9223372036854775808 ≤ i) (i1 : i ≤ 9223372036854775807) (n0 : -9223372036854775808 ≤ n) (n1 : n ≤ 9223372036854775807) :
    Calls Tryz.prog 118 #[.string leaf, .int .i64 i, .int .i64 n, .slice p ss.length cap, .string root] w fun e w' => e = .returned (.bool (incA leaf i n ss root)) ∧ Below w.heap.size w w' := by
  unfold maxLen at hls hrs
  have H0 : Hid (incA leaf i n ss root = if 0 ≤ i ∧ i < n ∧ ss.length ≤ 63 ∧ leaf.size = 32 ∧ root.size = 32 ∧ wideB ss = true then decide (cl leaf (dirs i.toNat n.toNat) ss = some root) else false) := rfl
  by_cases c3 : ss.length ≤ 63
  case neg =>
    have d1 : decide (63 < (ss.length : Int)) = true := decide_eq_true (by omega)
    have H : Hid (incA leaf i n ss root = false) := H0.out.trans (if_neg fun h => c3 h.2.2.1)
    go_enter Tryz.func118, Tryz.ntmps118
    go_wp2_with fail
    go_ret
    exact ⟨ret_bool H.out.symm, Below.refl _ _⟩
  have d1 : decide (63 < (ss.length : Int)) = false := decide_eq_false (by omega)
  have HD := wide2_any p cap ss w hp (by omega) hcap
  cases c6 : wideB ss
  · have H : Hid (incA leaf i n ss root = false) := H0.out.trans (if_neg fun h => by rw [c6] at h; exact absurd h.2.2.2.2.2 (by simp))
    rw [c6] at HD
    clear c6 hp
    go_enter Tryz.func118, Tryz.ntmps118
    go_wp2_with fail
    refine HD.mono ?_
    rintro e w1 ⟨rfl, hw1⟩
    subst hw1
    go_wp2_with fail
    go_ret
    exact ⟨ret_bool H.out.symm, Below.refl _ _⟩
  by_cases c4 : leaf.size = 32
  case neg =>
    have d2 : ((leaf.size : Int) != 32) = true := by simp; omega
    have H : Hid (incA leaf i n ss root = false) := H0.out.trans (if_neg fun h => c4 h.2.2.2.1)
    rw [c6] at HD
    clear c6 hp
    go_enter Tryz.func118, Tryz.ntmps118
    go_wp2_with fail
    refine HD.mono ?_
    rintro e w1 ⟨rfl, hw1⟩
    subst hw1
    go_wp2_with fail
    go_ret
    exact ⟨ret_bool H.out.symm, Below.refl _ _⟩
  have d2 : ((leaf.size : Int) != 32) = false := by simp; omega
  by_cases c5 : root.size = 32
  case neg =>
    have d3 : ((root.size : Int) != 32) = true := by simp; omega
    have H : Hid (incA leaf i n ss root = false) := H0.out.trans (if_neg fun h => c5 h.2.2.2.2.1)
    rw [c6] at HD
    clear c6 hp
    go_enter Tryz.func118, Tryz.ntmps118
    go_wp2_with fail
    refine HD.mono ?_
    rintro e w1 ⟨rfl, hw1⟩
    subst hw1
    go_wp2_with fail
    go_ret
    exact ⟨ret_bool H.out.symm, Below.refl _ _⟩
  have d3 : ((root.size : Int) != 32) = false := by simp; omega
  by_cases c1 : 0 ≤ i
  case neg =>
    have d4 : decide (i < 0) = true := decide_eq_true (by omega)
    have H : Hid (incA leaf i n ss root = false) := H0.out.trans (if_neg fun h => c1 h.1)
    rw [c6] at HD
    clear c6 hp c4 c5
    go_enter Tryz.func118, Tryz.ntmps118
    go_wp2_with fail
    refine HD.mono ?_
    rintro e w1 ⟨rfl, hw1⟩
    subst hw1
    go_wp2_with fail
    go_ret
    exact ⟨ret_bool H.out.symm, Below.refl _ _⟩
  have d4 : decide (i < 0) = false := decide_eq_false (by omega)
  by_cases c2 : i < n
  case neg =>
    have d5 : decide (n ≤ i) = true := decide_eq_true (by omega)
    have H : Hid (incA leaf i n ss root = false) := H0.out.trans (if_neg fun h => c2 h.2.1)
    rw [c6] at HD
    clear c6 hp c4 c5
    go_enter Tryz.func118, Tryz.ntmps118
    go_wp2_with fail
    refine HD.mono ?_
    rintro e w1 ⟨rfl, hw1⟩
    subst hw1
    go_wp2_with fail
    go_ret
    exact ⟨ret_bool H.out.symm, Below.refl _ _⟩
  rw [H0.out, if_pos ⟨c1, c2, c3, c4, c5, c6⟩]
  obtain ⟨I, rfl⟩ := Int.eq_ofNat_of_zero_le c1
  obtain ⟨M, rfl⟩ := Int.eq_ofNat_of_zero_le (show 0 ≤ n by omega)
  simp only [Int.toNat_natCast]
  exact specInc_main leaf I M p cap ss root w hp c3 hcap (by omega) (by omega) c4 c5 c6
end Go.Proofs.YthkmeneepkaedaaGreatDoor
