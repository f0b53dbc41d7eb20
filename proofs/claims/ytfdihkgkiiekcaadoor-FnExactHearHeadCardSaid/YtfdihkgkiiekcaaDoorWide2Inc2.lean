/-
  Parts of one proof, laid as one text: Wide2, Inc2; what each says stands at its head.
-/
import Derived.Test.YtfdihkgkiiekcaaDoorRows
import Derived.Test.YtfdihkgkiiekcaaDoorBytesDigMath
import Derived.Test.YtfdihkgkiiekcaaDoorTreeMath
import Derived.Test.YtfdihkgkiiekcaaDoorSlASlBBxK
import Derived.Handy
import Derived.Test.YtfdihkgkiiekcaaDoorAll2LeafNode
import Derived.Test.YtfdihkgkiiekcaaDoorPowerHalvesTreeTree2TreeHPathMathIncMath
/-
  What the specification's l03Wide answers.
  Conditions: the slice's cells hold those texts; it is at most 2^47 long.
-/
namespace Go.Proofs.YtfdihkgkiiekcaaDoor
open Go.RowKit Go.Lib
set_option linter.unusedVariables false

set_option maxHeartbeats 400000 in
theorem wide2_any (p : Option Addr) (cap : Nat) (ss : List ByteArray) (w : World) (hp : TxtAt w p ss) (hn : ss.length ≤ 140737488355328) (hcap : ss.length ≤ cap) :
    Calls Tryd.prog 38 #[.slice p ss.length cap] w fun e w' => e = .returned (.bool (wideB ss)) ∧ w' = w := by
  have HP : Hid (TxtAt w p ss) := hp
  clear hp
  go_enter Tryd.func38, Tryd.ntmps38
  go_wp2
  go_loop [3] (fun i => ∃ k : Nat, k ≤ ss.length ∧ i = .int .i64 k ∧ Hid (∀ j (h : j < ss.length), j < k → ss[j].size = 32)) (fun i => ss.length - (intOf i).toNat)
  case atStart => exact ⟨0, Nat.zero_le _, rfl, fun j h hk => by omega⟩
  case round =>
    obtain ⟨k, hk, rfl, HK⟩ := hrel
    by_cases hlt : k < ss.length
    · obtain ⟨b, off, rfl, hb, hck⟩ := HP.out k hlt
      by_cases h32 : ss[k].size = 32
      · have HK2 : Hid (∀ j (h : j < ss.length), j < k + 1 → ss[j].size = 32) := fun j h hj => if he : j = k then by subst he; exact h32 else HK.out j h (by omega)
        generalize ss[k] = q at *
        have h33 : (q.size : Int) = 32 := by omega
        go_wp2
        go_round
        case rel => exact ⟨k + 1, by omega, by go_num, HK2⟩
        case measure => simp [intOf]; omega
      · have HF : Hid (wideB ss = false) := wideB_false hlt h32
        generalize ss[k] = q at *
        have h33 : ¬ (q.size : Int) = 32 := by omega
        go_wp2
        go_ret
        exact ⟨ret_bool HF.out.symm, rfl⟩
    · have HF : Hid (wideB ss = true) := wideB_true fun j h => HK.out j h (by omega)
      go_wp2
      go_ret
      exact ⟨ret_bool HF.out.symm, rfl⟩

end Go.Proofs.YtfdihkgkiiekcaaDoor
/-
  What the specification's Included answers: 'incA'.
  Conditions: index and size are int64; the path's cells hold the texts.
-/
namespace Go.Proofs.YtfdihkgkiiekcaaDoor
open Go.RowKit Go.Lib
set_option linter.unusedVariables false
set_option maxRecDepth 20000

set_option maxHeartbeats 4000000 in
theorem specInc_main (leaf : ByteArray) (I M : Nat) (p : Option Addr) (cap : Nat) (ss : List ByteArray) (root : ByteArray) (w : World) (hp : TxtAt w p ss) (hn : ss.length ≤ 63) (hcap : ss.length ≤ cap)
    (hi : I < M) (hM : M ≤ 9223372036854775807) (h32 : leaf.size = 32) (hr32 : root.size = 32) (hw : wideB ss = true) :
    Calls Tryd.prog 35 #[.string leaf, .int .i64 (I : Int), .int .i64 (M : Int), .slice p ss.length cap, .string root] w fun e w' => e = .returned (.bool (decide (cl leaf (dirs I M) ss = some root))) ∧ Below w.heap.size w w' := by
  have HP : Hid (TxtAt w p ss) := hp
  have HX : Hid (∀ x ∈ ss, x.size = 32) := wideB_all hw
  have HD := wide2_any p cap ss w hp (by omega) hcap
  rw [hw] at HD
  have H0 : Hid (cl leaf (dirs I M) ss = cl leaf (itd I (M - 1)) (ss.drop 0)) := by show _ = _; rw [dirs_eq hi, List.drop_zero]
  generalize cl leaf (dirs I M) ss = G at *
  have d1 : decide (63 < (ss.length : Int)) = false := decide_eq_false (by omega)
  have d2 : ((leaf.size : Int) != 32) = false := by simp; omega
  have d3 : ((root.size : Int) != 32) = false := by simp; omega
  have d4 : decide ((I : Int) < 0) = false := decide_eq_false (by omega)
  have d5 : decide ((M : Int) ≤ (I : Int)) = false := decide_eq_false (by omega)
  have d6 : decide (M ≤ I) = false := decide_eq_false (by omega)
  clear hp hw
  have HL : Hid (leaf.size = 32) := h32
  clear h32 hr32
  go_enter Tryd.func35, Tryd.ntmps35
  go_wp2_with fail
  refine HD.mono ?_
  rintro e w1 ⟨rfl, hw1⟩
  subst hw1
  go_wp2_with fail
  clear d1 d2 d3 d4 d5 d6 HD
  go_loopw [14, 11, 12, 13] (fun vi va vl vh wr => ∃ (k a l : Nat) (h : ByteArray), k ≤ ss.length ∧ vi = .int .i64 k ∧ va = .int .i64 a ∧ vl = .int .i64 l ∧ vh = .string h ∧ a ≤ l ∧ l ≤ 9223372036854775807 ∧ Hid (h.size = 32) ∧ Hid (G = cl h (itd a l) (ss.drop k)) ∧ Hid (Below w1.heap.size w1 wr)) (fun vi _ _ _ _ => ss.length - (intOf vi).toNat)
  case atStart => exact ⟨0, I, M - 1, leaf, Nat.zero_le _, rfl, rfl, by go_num, rfl, by omega, by omega, HL, H0, Below.refl _ _⟩
  case round =>
    clear H0 HL
    obtain ⟨k, a, l, h, hk, rfl, rfl, rfl, rfl, hal, hl, hh, hG, hB⟩ := hrel
    by_cases hlt : k < ss.length
    · have hdrop : Hid (ss.drop k = ss[k] :: ss.drop (k + 1)) := List.drop_eq_getElem_cons hlt
      obtain ⟨b, off, rfl, hb, hck⟩ := HP.out k hlt
      have hc1 : wr.cell? ⟨b, off + k, none⟩ = some (.string ss[k]) := (hB.out.cell (p := ⟨b, off + k, none⟩) hb).trans hck
      have hq32 := HX.out ss[k] (List.getElem_mem hlt)
      clear hck
      generalize ss[k] = q at *
      by_cases hz : l = 0
      · subst hz
        have HF : Hid (decide (G = some root) = false) := by
          refine decide_eq_false ?_
          rw [hG.out, itd_zero, hdrop.out]; simp [cl]
        go_wp2
        go_ret
        exact ⟨ret_bool HF.out.symm, hB.out⟩
      · have n1 := specL03Node_any q h wr (by omega) (by have := hh.out; omega)
        have n2 := specL03Node_any h q wr (by have := hh.out; omega) (by omega)
        by_cases hodd : a % 2 = 1 ∨ a = l
        · have hpos : 0 < a := by omega
          have hG2 : Hid (G = cl h (itd a l) (q :: ss.drop (k + 1))) := by show _ = _; rw [hG.out, hdrop.out]
          have hfst : (((a : Int) % 2 == 1) = true) ∨ (((a : Int) % 2 == 1) = false ∧ ((a : Int) == (l : Int)) = true) := by
            rcases hodd with h1 | h1
            · exact .inl (by simp; omega)
            · by_cases h3 : a % 2 = 1
              · exact .inl (by simp; omega)
              · exact .inr ⟨by simp; omega, by simp; omega⟩
          have hsz : Hid ((nodeB q h).size = 32) := nodeB_size q h
          have hcl : Hid (∀ T, cl h (true :: T) (q :: ss.drop (k + 1)) = cl (nodeB q h) T (ss.drop (k + 1))) := fun T => by show cl h (true :: T) (q :: _) = _; simp [cl]
          generalize nodeB q h = N at *
          clear hG n2
          rcases hfst with h1 | ⟨h1, h2⟩
          all_goals (
            go_wp2_with fail
            refine n1.mono ?_
            rintro e w2 ⟨rfl, b2⟩
            have HB2 : Hid (Below w1.heap.size w1 w2) := chainB hB.out b2
            clear b2
            go_wp2_with fail
            clear hc1
            have HI : Hid (itd a l = itd a l) := rfl
            rename World => W2
            go_loopw [11, 12] (fun va vl wr => ∃ (x y : Nat), va = .int .i64 x ∧ vl = .int .i64 y ∧ 0 < x ∧ x ≤ y ∧ y ≤ 9223372036854775807 ∧ (x % 2 = 1 ∨ x = y) ∧ Hid (G = cl h (itd x y) (q :: ss.drop (k + 1))) ∧ wr = W2) (fun va _ _ => (intOf va).toNat)
            case atStart => exact ⟨a, l, rfl, rfl, hpos, hal, hl, hodd, hG2, rfl⟩
            case round =>
              clear HI hG2 h1
              obtain ⟨x, y, rfl, rfl, hx0, hxy, hy, hor, hI, rfl⟩ := hrel
              by_cases he : x % 2 = 0
              · have e1 : ((x : Int) % 2 == 0) = true := by simp; omega
                obtain rfl : x = y := by omega
                have HI2 : Hid (G = cl h (itd (x / 2) (x / 2)) (q :: ss.drop (k + 1))) := by show _ = _; rw [hI.out, itd_last (by omega) he]
                go_wp2
                go_roundw
                case rel => exact ⟨x / 2, x / 2, by go_num, by go_num, by omega, by omega, by omega, by omega, HI2, trivial⟩
                case measure => simp [intOf]; omega
              · have e1 : ((x : Int) % 2 == 0) = false := by simp; omega
                have HI2 : Hid (G = cl N (itd (x / 2) (y / 2)) (ss.drop (k + 1))) := by show _ = _; rw [hI.out, itd_odd (by omega) (by omega), hcl.out]
                go_wp2
                go_roundw
                case rel => exact ⟨k + 1, x / 2, y / 2, N, by omega, by go_num, by go_num, by go_num, rfl, by omega, by omega, hsz, HI2, HB2⟩
                case measure => simp [intOf]; omega)
        · have e1 : ((a : Int) % 2 == 1) = false := by simp; omega
          have e2 : ((a : Int) == (l : Int)) = false := by simp; omega
          have hsz : Hid ((nodeB h q).size = 32) := nodeB_size h q
          have HI2 : Hid (G = cl (nodeB h q) (itd (a / 2) (l / 2)) (ss.drop (k + 1))) := by
            show _ = _
            rw [hG.out, hdrop.out, itd_even hz (by omega) (by omega)]; simp [cl]
          generalize nodeB h q = N at *
          clear hG n1
          go_wp2_with fail
          refine n2.mono ?_
          rintro e w2 ⟨rfl, b2⟩
          have HB2 : Hid (Below w1.heap.size w1 w2) := chainB hB.out b2
          clear b2
          go_wp2_with fail
          go_roundw
          case rel => exact ⟨k + 1, a / 2, l / 2, N, by omega, by go_num, by go_num, by go_num, rfl, by omega, by omega, hsz, HI2, HB2⟩
          case measure => simp [intOf]; omega
    · have hkk : k = ss.length := by omega
      subst hkk
      rw [List.drop_of_length_le (Nat.le_refl _)] at hG
      by_cases hz : l = 0
      · subst hz
        have e1 : (((0 : Nat) : Int) == 0) = true := by simp
        have HF : Hid (decide (G = some root) = (h.toList == root.toList)) := by
          show _ = _
          rw [hG.out, itd_zero]
          by_cases hq : h = root
          · subst hq; simp [cl]
          · rw [decide_eq_false (by simp [cl, hq])]
            exact (beq_eq_false_iff_ne.2 fun hh => hq (toList_inj' (by rw [hh]; simp))).symm
        go_wp2
        go_ret
        exact ⟨ret_bool HF.out.symm, hB.out⟩
      · have e1 : ((l : Int) == 0) = false := by simp; omega
        have HF : Hid (decide (G = some root) = false) := by
          refine decide_eq_false ?_
          rw [hG.out]
          cases hc : itd a l with
          | nil => exact absurd hc (itd_nil hal hz)
          | cons d ds => simp [cl]
        go_wp2
        go_ret
        exact ⟨ret_bool HF.out.symm, hB.out⟩

set_option maxHeartbeats 2000000 in
theorem specInc_any (leaf : ByteArray) (i n : Int) (p : Option Addr) (cap : Nat) (ss : List ByteArray) (root : ByteArray) (w : World) (hp : TxtAt w p ss) (hn : ss.length ≤ 140737488355328) (hcap : ss.length ≤ cap)
    (hls : leaf.size ≤ maxLen) (hrs : root.size ≤ maxLen) (i0 : -9223372036854775808 ≤ i) (i1 : i ≤ 9223372036854775807) (n0 : -9223372036854775808 ≤ n) (n1 : n ≤ 9223372036854775807) :
    Calls Tryd.prog 35 #[.string leaf, .int .i64 i, .int .i64 n, .slice p ss.length cap, .string root] w fun e w' => e = .returned (.bool (incA leaf i n ss root)) ∧ Below w.heap.size w w' := by
  unfold maxLen at hls hrs
  have H0 : Hid (incA leaf i n ss root = if 0 ≤ i ∧ i < n ∧ ss.length ≤ 63 ∧ leaf.size = 32 ∧ root.size = 32 ∧ wideB ss = true then decide (cl leaf (dirs i.toNat n.toNat) ss = some root) else false) := rfl
  by_cases c3 : ss.length ≤ 63
  case neg =>
    have d1 : decide (63 < (ss.length : Int)) = true := decide_eq_true (by omega)
    have H : Hid (incA leaf i n ss root = false) := H0.out.trans (if_neg fun h => c3 h.2.2.1)
    go_enter Tryd.func35, Tryd.ntmps35
    go_wp2_with fail
    go_ret
    exact ⟨ret_bool H.out.symm, Below.refl _ _⟩
  have d1 : decide (63 < (ss.length : Int)) = false := decide_eq_false (by omega)
  have HD := wide2_any p cap ss w hp (by omega) hcap
  cases c6 : wideB ss
  · have H : Hid (incA leaf i n ss root = false) := H0.out.trans (if_neg fun h => by rw [c6] at h; exact absurd h.2.2.2.2.2 (by simp))
    rw [c6] at HD
    clear c6 hp
    go_enter Tryd.func35, Tryd.ntmps35
    go_wp2_with fail
    refine HD.mono ?_
    rintro e w1 ⟨rfl, hw1⟩
    subst hw1
    go_wp2_with fail
    go_ret
    exact ⟨ret_bool H.out.symm, Below.refl _ _⟩
  by_cases c4 : leaf.size = 32
  case neg =>
    have d2 : ((leaf.size : Int) != 32) = true := by simp; omega
    have H : Hid (incA leaf i n ss root = false) := H0.out.trans (if_neg fun h => c4 h.2.2.2.1)
    rw [c6] at HD
    clear c6 hp
    go_enter Tryd.func35, Tryd.ntmps35
    go_wp2_with fail
    refine HD.mono ?_
    rintro e w1 ⟨rfl, hw1⟩
    subst hw1
    go_wp2_with fail
    go_ret
    exact ⟨ret_bool H.out.symm, Below.refl _ _⟩
  have d2 : ((leaf.size : Int) != 32) = false := by simp; omega
  by_cases c5 : root.size = 32
  case neg =>
    have d3 : ((root.size : Int) != 32) = true := by simp; omega
    have H : Hid (incA leaf i n ss root = false) := H0.out.trans (if_neg fun h => c5 h.2.2.2.2.1)
    rw [c6] at HD
    clear c6 hp
    go_enter Tryd.func35, Tryd.ntmps35
    go_wp2_with fail
    refine HD.mono ?_
    rintro e w1 ⟨rfl, hw1⟩
    subst hw1
    go_wp2_with fail
    go_ret
    exact ⟨ret_bool H.out.symm, Below.refl _ _⟩
  have d3 : ((root.size : Int) != 32) = false := by simp; omega
  by_cases c1 : 0 ≤ i
  case neg =>
    have d4 : decide (i < 0) = true := decide_eq_true (by omega)
    have H : Hid (incA leaf i n ss root = false) := H0.out.trans (if_neg fun h => c1 h.1)
    rw [c6] at HD
    clear c6 hp c4 c5
    go_enter Tryd.func35, Tryd.ntmps35
    go_wp2_with fail
    refine HD.mono ?_
    rintro e w1 ⟨rfl, hw1⟩
    subst hw1
    go_wp2_with fail
    go_ret
    exact ⟨ret_bool H.out.symm, Below.refl _ _⟩
  have d4 : decide (i < 0) = false := decide_eq_false (by omega)
  by_cases c2 : i < n
  case neg =>
    have d5 : decide (n ≤ i) = true := decide_eq_true (by omega)
    have H : Hid (incA leaf i n ss root = false) := H0.out.trans (if_neg fun h => c2 h.2.1)
    rw [c6] at HD
    clear c6 hp c4 c5
    go_enter Tryd.func35, Tryd.ntmps35
    go_wp2_with fail
    refine HD.mono ?_
    rintro e w1 ⟨rfl, hw1⟩
    subst hw1
    go_wp2_with fail
    go_ret
    exact ⟨ret_bool H.out.symm, Below.refl _ _⟩
  rw [H0.out, if_pos ⟨c1, c2, c3, c4, c5, c6⟩]
  obtain ⟨I, rfl⟩ := Int.eq_ofNat_of_zero_le c1
  obtain ⟨M, rfl⟩ := Int.eq_ofNat_of_zero_le (show 0 ≤ n by omega)
  simp only [Int.toNat_natCast]
  exact specInc_main leaf I M p cap ss root w hp c3 hcap (by omega) (by omega) c4 c5 c6
end Go.Proofs.YtfdihkgkiiekcaaDoor
