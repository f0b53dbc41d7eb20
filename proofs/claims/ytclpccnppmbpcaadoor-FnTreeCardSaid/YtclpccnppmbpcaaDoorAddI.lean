/-
  What the program's RangeAdd answers: 'addN', 'addL', its nodes in new memory of their own.
  Conditions: Size is an int64; the cells of Nodes hold the texts, each of at most 2^20 bytes, at most 2^20 of them; the two tables lie as the program's text lays them.
-/
import Derived.Test.YtclpccnppmbpcaaDoorRows
import Derived.Test.YtclpccnppmbpcaaDoorBytes
import Derived.Test.YtclpccnppmbpcaaDoorDigMath
import Derived.Test.YtclpccnppmbpcaaDoorTreeMath
import Derived.Test.YtclpccnppmbpcaaDoorSlA
import Derived.Test.YtclpccnppmbpcaaDoorLeafNode
import Derived.Test.YtclpccnppmbpcaaDoorSlBOwnS
import Derived.Test.YtclpccnppmbpcaaDoorOnesMathOnes
import Derived.Test.YtclpccnppmbpcaaDoorRange
import Derived.Test.YtclpccnppmbpcaaDoorRootMathAddMathCopied
import Derived.Handy
import Derived.OwnWalk
import Derived.Laws.OwnMore
import Derived.Deep.AppendLies
import Derived.Deep.RegionLaw
namespace Go.Proofs.YtclpccnppmbpcaaDoor
open Go.RowKit Go.Lib
set_option linter.unusedVariables false
set_option maxRecDepth 20000

theorem and_one (a : Nat) (ha : a < 4294967296) : bits .and .i64 (a : Int) 1 = (a : Int) % 2 := by
  have h1 : (BitVec.ofInt 64 (a : Int)).toNat = a := by
    rw [BitVec.ofInt_natCast, BitVec.toNat_ofNat]; exact Nat.mod_eq_of_lt (by omega)
  have h2 : (BitVec.ofInt 64 (1 : Int)).toNat = 1 := by decide
  show IntKind.i64.wrap ((BitVec.ofInt 64 (a : Int) &&& BitVec.ofInt 64 (1 : Int)).toNat : Int) = _
  rw [BitVec.toNat_and, h1, h2, Nat.and_one_is_mod, IntKind.wrap_i64]
  omega
theorem ownS_pop {w : World} {base : Nat} {g cap k : Nat} {l : List ByteArray} (h : w.ownsRow base 9 1 (.slice (some ⟨g, 0, none⟩) (k + 1) cap) (k + 1) (strRow (l.take (k + 1)))) (hk : k + 1 ≤ l.length) :
    w.ownsRow base 9 1 (.slice (some ⟨g, 0, none⟩) k cap) k (strRow (l.take k)) ∧ k + 1 ≤ cap ∧ w.cell? ⟨g, k, none⟩ = some (.string (l[k]'(by omega))) := by
  have hc := h.cellAt k (by omega)
  rcases h.2 with ⟨h0, _⟩ | ⟨g', cap', cur, hv, h2, h3, h4, h5, h6, h7⟩
  · simp at h0
  · simp only [Value.slice.injEq, Option.some.injEq, Addr.mk.injEq, and_true, true_and] at hv
    obtain ⟨rfl, rfl⟩ := hv
    refine ⟨⟨by simp [strRow]; omega, .inr ⟨g, cap, cur, rfl, h2, h3, by omega, h5, h6, ?_⟩⟩, h4, ?_⟩
    · have e : strRow (l.take k) = (strRow (l.take (k + 1))).take k := by
        unfold strRow; rw [← List.map_take, List.take_take, Nat.min_eq_left (by omega)]
      rw [e, ← h7, List.take_take, Nat.mul_one, Nat.mul_one, Nat.min_eq_left (by omega)]
    · rw [hc]
      have : k < (l.take (k + 1)).length := by simp; omega
      simp [strRow, List.getElem?_eq_getElem (show k < l.length by omega)]

set_option maxHeartbeats 2000000 in
theorem implAdd_any (n : Int) (p : Option Addr) (cap : Nat) (ss : List ByteArray) (t : ByteArray) (w : World) (hT : Tabs w) (hp : TxtAt w p ss) (hn : ss.length ≤ 1048576) (hcap : ss.length ≤ cap) (hs : ∀ x ∈ ss, x.size ≤ 1048576) (ht : t.size ≤ maxLen) (n0 : -9223372036854775808 ≤ n) (n1 : n ≤ 9223372036854775807) :
    Calls Tryd.prog 30 #[.agg #[.int .i64 n, .slice p ss.length cap], .string t] w fun e w' => ∃ v, e = .returned (.agg #[.int .i64 (addN n ss t), v]) ∧ w'.ownsRow w.heap.size 9 1 v (addL n ss t).length (strRow (addL n ss t)) ∧ Below w.heap.size w w' := by
  have HT : Hid (Tabs w) := hT
  have HP : Hid (TxtAt w p ss) := hp
  have HS : Hid (∀ x ∈ ss, x.size ≤ 1048576) := hs
  clear hT hp hs
  have ht' := ht
  unfold maxLen at ht
  obtain ⟨W2, hW2⟩ : ∃ W2, W2 = (w.alloc (.cells #[.int .i64 n, .slice p ss.length cap] 48)).alloc (.cells #[.int .i64 0, .slice none 0 0] 48) := ⟨_, rfl⟩
  have B0 : Hid (Below w.heap.size w W2) := by rw [hW2]; exact ((Below.refl _ _).alloc (Nat.le_refl _) _).alloc (by simp) _
  have HS2 : Hid (W2.heap.size = w.heap.size + 2) := by rw [hW2]; show _ = _; simp
  have HK : Hid (∀ w4, Below W2.heap.size W2 w4 → w4.cell? ⟨w.heap.size, 0, none⟩ = some (.int .i64 n) ∧ w4.cell? ⟨w.heap.size, 1, none⟩ = some (.slice p ss.length cap) ∧ w4.cell? ⟨w.heap.size + 1, 0, none⟩ = some (.int .i64 0) ∧ w4.cell? ⟨w.heap.size + 1, 1, none⟩ = some (.slice none 0 0) ∧
      w4.frozen? ⟨w.heap.size + 1, 0, none⟩ = false ∧ w4.frozen? ⟨w.heap.size + 1, 1, none⟩ = false) := by
    intro w4 hb
    have hs := HS2.out
    refine ⟨?_, ?_, ?_, ?_, ?_, ?_⟩
    · rw [hb.cell (p := ⟨w.heap.size, 0, none⟩) (by show w.heap.size < _; omega), hW2]; go_simp
    · rw [hb.cell (p := ⟨w.heap.size, 1, none⟩) (by show w.heap.size < _; omega), hW2]; go_simp
    · rw [hb.cell (p := ⟨w.heap.size + 1, 0, none⟩) (by show w.heap.size + 1 < _; omega), hW2]; go_simp
    · rw [hb.cell (p := ⟨w.heap.size + 1, 1, none⟩) (by show w.heap.size + 1 < _; omega), hW2]; go_simp
    · rw [hb.frozen (p := ⟨w.heap.size + 1, 0, none⟩) (by show w.heap.size + 1 < _; omega), hW2]; go_simp
    · rw [hb.frozen (p := ⟨w.heap.size + 1, 1, none⟩) (by show w.heap.size + 1 < _; omega), hW2]; go_simp
  have HW2 : Hid (W2 = (w.alloc (.cells #[.int .i64 n, .slice p ss.length cap] 48)).alloc (.cells #[.int .i64 0, .slice none 0 0] 48)) := hW2
  have HN : Hid (addN n ss t = if 8000 < t.size then 0 else if addOk n ss t then n + 1 else n) := rfl
  have HL : Hid (addL n ss t = if 8000 < t.size then [] else if addOk n ss t then carry n.toNat ss (leafB t) else ss) := rfl
  clear hW2
  by_cases hbig : 8000 < t.size
  · rw [HN.out, HL.out, if_pos hbig, if_pos hbig]
    obtain ⟨k0, k1, k2, k3, f2, f3⟩ := HK.out W2 (Below.refl _ _)
    go_enter Tryd.func30, Tryd.ntmps30
    go_wp2_with fail
    refine bodyPost_ret (v := .agg #[.int .i64 0, .slice none 0 0]) (by simp [results, Tryd.results30, go_sem]) rfl ?_
    refine ⟨_, rfl, World.ownsRow_nil _ _ _ _, ?_⟩
    exact ((Below.refl _ _).alloc (Nat.le_refl _) _).alloc (by simp) _
  have HC := copied_any p cap ss W2 (HP.out.below B0.out) hn hcap HS.out
  have HRR : Hid (∀ w', Below W2.heap.size W2 w' → Calls Tryd.prog 71 #[.agg #[.int .i64 n, .slice p ss.length cap]] w' fun e w'' => e = .returned (.bool (rngB n ss)) ∧ Below w'.heap.size w' w'') := fun w' hb =>
    rangeRight_any n p cap ss w' (HP.out.below (chainB B0.out hb)) (by omega) hcap n0 n1
  rw [HN.out, HL.out, if_neg hbig, if_neg hbig]
  clear HN HL
  have HF : Hid (∀ (w5 : World) (v : Value) (l : List ByteArray) (a b : Value), w5.ownsRow W2.heap.size 9 1 v l.length (strRow l) → Below W2.heap.size W2 w5 →
      ((w5.setCell ⟨w.heap.size + 1, 0, none⟩ a).setCell ⟨w.heap.size + 1, 1, none⟩ b).ownsRow w.heap.size 9 1 v l.length (strRow l) ∧ Below w.heap.size w ((w5.setCell ⟨w.heap.size + 1, 0, none⟩ a).setCell ⟨w.heap.size + 1, 1, none⟩ b)) := by
    intro w5 v l a b ho hb
    have hs := HS2.out
    refine ⟨ownS_mono (ownsRow_setCell_below (ownsRow_setCell_below ho (by show w.heap.size + 1 < _; omega) _) (by show w.heap.size + 1 < _; omega) _) (by omega), ?_⟩
    exact ((chainB B0.out hb).setCell (by show w.heap.size ≤ w.heap.size + 1; omega) _).setCell (by show w.heap.size ≤ w.heap.size + 1; omega) _
  cases c1 : rngB n ss
  · rw [c1] at HRR
    have hno : ¬ addOk n ss t := fun h => by have := h.1; rw [c1] at this; cases this
    rw [if_neg hno, if_neg hno]
    clear hno c1
    go_enter Tryd.func30, Tryd.ntmps30
    go_wp2_with fail
    rw [← HW2.out]
    refine HC.mono ?_
    rintro e w3 ⟨v, rfl, own3, b3⟩
    obtain ⟨k0, k1, k2, k3, f2, f3⟩ := HK.out w3 b3
    have HO3 : Hid (w3.ownsRow W2.heap.size 9 1 v ss.length (strRow ss)) := own3
    clear own3
    go_wp2_with fail
    refine (HRR.out _ b3).mono ?_
    rintro e w4 ⟨rfl, b4⟩
    have b4' := chainB b3 b4
    obtain ⟨k0, k1, k2, k3, f2, f3⟩ := HK.out w4 b4'
    have HO4 : Hid (w4.ownsRow W2.heap.size 9 1 v ss.length (strRow ss)) := ownS_below HO3.out b4
    obtain ⟨p', c', rfl, _, _⟩ := ownS_form HO4.out
    go_wp2_with fail
    refine bodyPost_ret (v := .agg #[.int .i64 n, .slice p' ss.length c']) (by simp [results, Tryd.results30, go_sem, k2, k3]) rfl ?_
    exact ⟨_, rfl, HF.out w4 _ ss _ _ HO4.out b4'⟩
  by_cases c2 : n < 1000000
  case neg =>
    obtain ⟨-, c3, -, -⟩ := rngB_of c1
    have hn6 : (n == 1000000) = true := beq_iff_eq.2 (by omega)
    rw [c1] at HRR
    have hno : ¬ addOk n ss t := fun h => c2 h.2.1
    rw [if_neg hno, if_neg hno]
    clear hno c1 c2
    go_enter Tryd.func30, Tryd.ntmps30
    go_wp2_with fail
    rw [← HW2.out]
    refine HC.mono ?_
    rintro e w3 ⟨v, rfl, own3, b3⟩
    obtain ⟨k0, k1, k2, k3, f2, f3⟩ := HK.out w3 b3
    have HO3 : Hid (w3.ownsRow W2.heap.size 9 1 v ss.length (strRow ss)) := own3
    clear own3
    go_wp2_with fail
    refine (HRR.out _ b3).mono ?_
    rintro e w4 ⟨rfl, b4⟩
    have b4' := chainB b3 b4
    obtain ⟨k0, k1, k2, k3, f2, f3⟩ := HK.out w4 b4'
    have HO4 : Hid (w4.ownsRow W2.heap.size 9 1 v ss.length (strRow ss)) := ownS_below HO3.out b4
    obtain ⟨p', c', rfl, _, _⟩ := ownS_form HO4.out
    go_wp2_with fail
    refine bodyPost_ret (v := .agg #[.int .i64 n, .slice p' ss.length c']) (by simp [results, Tryd.results30, go_sem, k2, k3]) rfl ?_
    exact ⟨_, rfl, HF.out w4 _ ss _ _ HO4.out b4'⟩
  have hn6 : (n == 1000000) = false := beq_eq_false_iff_ne.2 (by omega)
  by_cases c3 : t.size ≤ 100
  case neg =>
    have ht6 : decide (100 < (t.size : Int)) = true := decide_eq_true (by omega)
    rw [c1] at HRR
    have hno : ¬ addOk n ss t := fun h => c3 h.2.2
    rw [if_neg hno, if_neg hno]
    clear hno c1
    go_enter Tryd.func30, Tryd.ntmps30
    go_wp2_with fail
    rw [← HW2.out]
    refine HC.mono ?_
    rintro e w3 ⟨v, rfl, own3, b3⟩
    obtain ⟨k0, k1, k2, k3, f2, f3⟩ := HK.out w3 b3
    have HO3 : Hid (w3.ownsRow W2.heap.size 9 1 v ss.length (strRow ss)) := own3
    clear own3
    go_wp2_with fail
    refine (HRR.out _ b3).mono ?_
    rintro e w4 ⟨rfl, b4⟩
    have b4' := chainB b3 b4
    obtain ⟨k0, k1, k2, k3, f2, f3⟩ := HK.out w4 b4'
    have HO4 : Hid (w4.ownsRow W2.heap.size 9 1 v ss.length (strRow ss)) := ownS_below HO3.out b4
    obtain ⟨p', c', rfl, _, _⟩ := ownS_form HO4.out
    go_wp2_with fail
    refine bodyPost_ret (v := .agg #[.int .i64 n, .slice p' ss.length c']) (by simp [results, Tryd.results30, go_sem, k2, k3]) rfl ?_
    exact ⟨_, rfl, HF.out w4 _ ss _ _ HO4.out b4'⟩
  have ht6 : decide (100 < (t.size : Int)) = false := decide_eq_false (by omega)
  have hok : addOk n ss t := ⟨c1, c2, c3⟩
  rw [if_pos hok, if_pos hok]
  obtain ⟨d1, d2, d3, d4⟩ := rngB_of c1
  rw [c1] at HRR
  have HX : Hid (∀ x ∈ ss, x.size = 32) := wideB_all d4
  have HLf : Hid (∀ w', Below W2.heap.size W2 w' → Calls Tryd.prog 32 #[.string t] w' fun e w'' => e = .returned (.string (leafB t)) ∧ Below w'.heap.size w' w'') := fun w' hb => by
    have := implLeaf_any t w' (HT.out.below (chainB B0.out hb) HT.out.1) ht'
    rwa [show leafA t = leafB t from if_pos c3] at this
  have HZ : Hid ((leafB t).size = 32) := leafB_size t
  obtain ⟨I, rfl⟩ := Int.eq_ofNat_of_zero_le d1
  rw [Int.toNat_natCast] at d3 ⊢
  have HCA : Hid (carry I ss (leafB t) = carry I (ss.take ss.length) (leafB t)) := by show _ = _; rw [List.take_length]
  have HON : Hid (ss.length = onesN I) := d3
  have HN6 : Hid (((I : Int) == 1000000) = false) := hn6
  have HI6 : Hid (I < 1000000) := by show _ < _; omega
  clear hok d3 d4 c1 hn6 c2 d2
  generalize leafB t = F at *
  obtain ⟨i0, hi, hz0, hz1, hz2⟩ := info_parts infoStr
  go_enter Tryd.func30, Tryd.ntmps30
  go_wp2_with fail
  rw [← HW2.out]
  refine HC.mono ?_
  rintro e w3 ⟨v, rfl, own3, b3⟩
  obtain ⟨k0, k1, k2, k3, f2, f3⟩ := HK.out w3 b3
  have HO3 : Hid (w3.ownsRow W2.heap.size 9 1 v ss.length (strRow ss)) := own3
  clear own3
  go_wp2_with fail
  refine (HRR.out _ b3).mono ?_
  rintro e w4 ⟨rfl, b4⟩
  have b4' := chainB b3 b4
  have HO4 : Hid (w4.ownsRow W2.heap.size 9 1 v ss.length (strRow ss)) := ownS_below HO3.out b4
  clear k0 k1 k2 k3 f2 f3
  obtain ⟨k0, k1, k2, k3, f2, f3⟩ := HK.out w4 b4'
  have hn6 := HN6.out
  go_wp2_with fail
  refine (HLf.out _ b4').mono ?_
  rintro e w5 ⟨rfl, b5⟩
  have b5' := chainB b4' b5
  have HO5 : Hid (w5.ownsRow W2.heap.size 9 1 v ss.length (strRow (ss.take ss.length))) := by
    show World.ownsRow _ _ _ _ _ _ _
    rw [List.take_length]; exact ownS_below HO4.out b5
  have HB5 : Hid (Below W2.heap.size W2 w5) := b5'
  clear k0 k1 k2 k3 f2 f3
  obtain ⟨k0, k1, k2, k3, f2, f3⟩ := HK.out w5 b5'
  clear b3 b4 b4' b5 b5' HO3 HO4
  go_wp2_with fail
  clear k0 k1 k2 k3 f2 f3
  go_loopw [7, 5, 6] (fun vs vn vh wr => ∃ (m k : Nat) (h : ByteArray), vs = .int .i64 m ∧ vh = .string h ∧ k ≤ ss.length ∧ m ≤ 1000000 ∧ Hid (k = onesN m) ∧ Hid (h.size = 32) ∧ Hid (carry I ss F = carry m (ss.take k) h) ∧ Hid (wr.ownsRow W2.heap.size 9 1 vn k (strRow (ss.take k))) ∧ Hid (Below W2.heap.size W2 wr)) (fun vs _ _ _ => (intOf vs).toNat)
  case atStart => exact ⟨I, ss.length, F, rfl, rfl, by omega, by have := HI6.out; omega, HON, HZ, HCA, HO5, HB5⟩
  case round =>
    clear HO5 HB5 HCA HON HZ
    obtain ⟨m, k, h, rfl, rfl, hk, hm, hon, hz, hca, hown, hB⟩ := hrel
    have ha := and_one m (by omega)
    obtain ⟨k0, k1, k2, k3, f2, f3⟩ := HK.out wr hB.out
    by_cases ho : m % 2 = 1
    · have e1 : ((m : Int) % 2 == 1) = true := by simp; omega
      have hk1 : 0 < k := by rw [hon.out, onesN_odd ho]; omega
      obtain ⟨k', rfl⟩ : ∃ k', k = k' + 1 := ⟨k - 1, by omega⟩
      obtain ⟨g, cp, rfl, _, _⟩ := hown.out.form hk1
      obtain ⟨ho2, hcp, hc⟩ := ownS_pop hown.out hk
      have HO2 : Hid (wr.ownsRow W2.heap.size 9 1 (.slice (some ⟨g, 0, none⟩) k' cp) k' (strRow (ss.take k'))) := ho2
      have HN2 : Hid (k' = onesN (m / 2)) := by show _ = _; have := hon.out; rw [onesN_odd ho] at this; omega
      have hq := HX.out (ss[k']'(by omega)) (List.getElem_mem _)
      have HC2 : Hid (carry I ss F = carry (m / 2) (ss.take k') (nodeA (ss[k']'(by omega)) h)) := by
        show _ = _
        rw [hca.out, carry_take ho ss k' hk, nodeA_of hq hz.out]
      have HZ2 : Hid ((nodeA (ss[k']'(by omega)) h).size = 32) := by show _ = _; rw [nodeA_of hq hz.out]; exact nodeB_size _ _
      have hnd := implNode_any (ss[k']'(by omega)) h wr (HT.out.below (chainB B0.out hB.out) HT.out.1) (by unfold maxLen; omega) (by have := hz.out; unfold maxLen; omega)
      generalize ss[k']'_ = q at *
      generalize nodeA q h = N at *
      clear ho2 hca hon hown
      have j1 : ((k' + 1 : Nat) : Int) - 1 = k' := by omega
      have j2 : (k' : Int) < ((k' + 1 : Nat) : Int) := by omega
      have j3 : (k' : Int) ≤ cp := by omega
      have j4 : ¬ cp = 0 := by omega
      go_wp2_with fail
      refine hnd.mono ?_
      rintro e w6 ⟨rfl, b6⟩
      have HB6 : Hid (Below W2.heap.size W2 w6) := chainB hB.out b6
      have HO6 : Hid (w6.ownsRow W2.heap.size 9 1 (.slice (some ⟨g, 0, none⟩) k' cp) k' (strRow (ss.take k'))) := ownS_below HO2.out b6
      clear b6 k0 k1 k2 k3 f2 f3 hc
      go_wp2_with fail
      go_roundw
      case rel => exact ⟨m / 2, k', N, by go_num, rfl, by omega, by omega, HN2, HZ2, HC2, HO6, HB6⟩
      case measure => simp [intOf]; omega
    · have e1 : ((m : Int) % 2 == 1) = false := by simp; omega
      have HC2 : Hid (carry I ss F = ss.take k ++ [h]) := by show _ = _; rw [hca.out, carry_even ho]
      have hlk : (ss.take k).length = k := by simp; omega
      have hW2s := HS2.out
      have hbs := hB.out.size
      clear hca hon
      have HI7 := HI6.out
      have q7 : IntKind.i64.wrap ((I : Int) + 1) = (I : Int) + 1 := by rw [IntKind.wrap_i64]; omega
      clear HI7
      have ka := (HK.out (wr.alloc (.cells #[.string h] 9)) (hB.out.alloc hB.out.size _)).1
      go_wp2_with fail
      go_region_law (refine step_append_lies _ rfl _ _ 41 rfl W2.heap.size 9 i0 (.string ByteArray.empty) 1 16 Tryd.underlying41 hi hz0 hz1 hz2 rfl (by omega) _ k (strRow (ss.take k)) rfl (World.ownsRow.drew (hown.out.alloc _)) ⟨wr.heap.size, 0, none⟩ 1 1 [.string h] rfl rfl (World.news_of_block (cs := #[.string h]) (t := 9) (fr := (0, 0)) (MapKept.heap_alloc wr _).1) (by simp [Value.oneCell']) (by omega) (by unfold maxLen; omega) (by omega) (by simp; omega) (wr.heap.size + 1) (by simp) ?_; intro g2 cap2 w6 hown6 hgrow hat hltg; have B6 : Below W2.heap.size W2 w6 := ((hB.out.alloc hB.out.size _).drew).grown hgrow (by simp; omega) (fun j hj => (hown.out.lt j hj).1); obtain ⟨m0, m1, m2, m3, g2', g3'⟩ := HK.out w6 B6)
      all_goals
        have ho6 : w6.ownsRow W2.heap.size 9 1 (.slice (some ⟨g2, 0, none⟩) (k + 1) cap2) (carry I ss F).length (strRow (carry I ss F)) := by
          rw [HC2.out]
          have e1 : (ss.take k ++ [h]).length = k + 1 := by rw [List.length_append, hlk]; rfl
          have e2 : strRow (ss.take k ++ [h]) = strRow (ss.take k) ++ [.string h] := by simp [strRow]
          rw [e1, e2]; exact hown6
        go_wp2_with fail
        refine bodyPost_ret (v := .agg #[.int .i64 ((I : Int) + 1), .slice (some ⟨g2, 0, none⟩) (k + 1) cap2]) (by simp [results, Tryd.results30, go_sem, m2, m3]) rfl ?_
        exact ⟨_, rfl, HF.out w6 _ _ _ _ ho6 B6⟩
end Go.Proofs.YtclpccnppmbpcaaDoor
