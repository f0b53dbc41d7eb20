/-
  The law FnMac returns true at any two codes of at most 2^20 bytes, where the two tables lie as the program's text lays them.
-/
import Derived.Test.YtjdgeiddbmmckaaDoorRows
import Derived.Test.YtjdgeiddbmmckaaDoorBytes
import Derived.Test.YtjdgeiddbmmckaaDoorDigMath
import Derived.Test.YtjdgeiddbmmckaaDoorMacMath
import Derived.Test.YtjdgeiddbmmckaaDoorDigest
import Derived.Test.YtjdgeiddbmmckaaDoorMac2
import Derived.Test.YtjdgeiddbmmckaaDoorMacI
import Derived.Test.YtjdgeiddbmmckaaDoorStretch
import Derived.Test.YtjdgeiddbmmckaaDoorDrawKit
import Derived.Test.YtjdgeiddbmmckaaDoorDrawMac
import Derived.Handy
import Derived.WalkSpells
namespace Go.Proofs.YtjdgeiddbmmckaaDoor
open Go.RowKit Go.Lib
set_option linter.unusedVariables false
set_option maxRecDepth 20000

theorem digestB_small {t : ByteArray} (h : t.size ≤ 8000) : digestB t = digB t := if_pos h
theorem mac_of (key text : ByteArray) (h : key.size ≤ 64) : macB key text = digB (padK key 92 ++ digB (padK key 54 ++ text)) := by
  unfold macB; rw [show keyK key = key from if_neg (by omega)]
theorem str_step (pass : ByteArray) (n : Int) (h0 : 1 ≤ n) (h1 : n ≤ 99) : macA pass (strA pass n) = strA pass (n + 1) := by
  by_cases hp : pass.size ≤ 8000
  · have e1 : strA pass n = strB pass n.toNat := if_pos ⟨hp, h0, by omega⟩
    have e2 : strA pass (n + 1) = strB pass (n + 1).toNat := if_pos ⟨hp, by omega, by omega⟩
    have h3 := strB_size pass n.toNat
    rw [e1, e2, show (n + 1).toNat = n.toNat + 1 by omega]
    exact if_pos ⟨hp, by omega⟩
  · have e1 : strA pass (n + 1) = ByteArray.empty := if_neg (fun h => hp h.1)
    rw [e1]
    exact if_neg (fun h => hp h.1)
theorem strA_size (pass : ByteArray) (n : Int) : (strA pass n).size ≤ 32 := by
  unfold strA
  by_cases h : pass.size ≤ 8000 ∧ 1 ≤ n ∧ n ≤ 100
  · rw [if_pos h]; exact strB_size _ _
  · rw [if_neg h]; show 0 ≤ 32; omega

set_option maxHeartbeats 4000000 in
theorem fnMac_any (a0 : Option Addr) (len0 cap0 : Nat) (a1 : Option Addr) (len1 cap1 : Nat) (w : World) (hl0 : len0 ≤ 1048576) (hl1 : len1 ≤ 1048576) (c0 : CodeAt w.heap.size a0 len0 w) (c1 : CodeAt w.heap.size a1 len1 w) (hT : Tabs w) :
    Calls Tryd.prog 4 #[.slice a0 len0 cap0, .slice a1 len1 cap1] w fun e w' => e = .returned (.bool true) ∧ Below w.heap.size w w' := by
  have C0 : Hid (CodeAt w.heap.size a0 len0 w) := c0
  have C1 : Hid (CodeAt w.heap.size a1 len1 w) := c1
  have HT : Hid (Tabs w) := hT
  clear c0 c1 hT
  have d1 : decide (1048576 < (len0 : Int)) = false := by simp; omega
  have d2 : decide (1048576 < (len1 : Int)) = false := by simp; omega
  go_enter Tryd.func4, Tryd.ntmps4
  go_wp2_with fail
  refine (drawMac_any w.heap.size a0 len0 cap0 _ hl0 (Nat.le_refl _) C0.out).mono ?_
  rintro e w1 ⟨⟨key, text, rfl, hk, ht⟩, b1⟩
  clear d1 d2
  by_cases h64 : key.size ≤ 64
  · have e1 : decide ((key.size : Int) ≤ 64) = true := by simp; omega
    have e2 : decide ((text.size : Int) ≤ 7936) = true := by simp; omega
    have HP2 := padK_size key 54
    have HP1 := padK_size key 92
    have A2 := fun w => lwPad_any key 54 w h64 (by omega) (by omega)
    have A1 := fun w => lwPad_any key 92 w h64 (by omega) (by omega)
    have HMac := fun w h => macIB_any key text w h (by omega) (by omega)
    rw [mac_of key text h64] at HMac
    generalize padK key 54 = P2 at *
    generalize padK key 92 = P1 at *
    have HD := fun w h => implDigest_any (P2 ++ text) w (by rw [ByteArray.size_append]; unfold maxLen; omega) h
    rw [digestB_small (show (P2 ++ text).size ≤ 8000 by rw [ByteArray.size_append]; omega)] at HD
    have hD1 := digB_size (P2 ++ text)
    generalize digB (P2 ++ text) = D1 at *
    have HE := fun w h => implDigest_any (P1 ++ D1) w (by rw [ByteArray.size_append]; unfold maxLen; omega) h
    rw [digestB_small (show (P1 ++ D1).size ≤ 8000 by rw [ByteArray.size_append]; omega)] at HE
    generalize digB (P1 ++ D1) = D2 at *
    have Q2 : Hid (∀ w, Calls Tryd.prog 15 #[.string key, .int .u8 54] w fun e w' => e = .returned (.string P2) ∧ Below w.heap.size w w') := A2
    have Q1 : Hid (∀ w, Calls Tryd.prog 15 #[.string key, .int .u8 92] w fun e w' => e = .returned (.string P1) ∧ Below w.heap.size w w') := A1
    have QM : Hid (∀ w, Tabs w → Calls Tryd.prog 16 #[.string key, .string text] w fun e w' => e = .returned (.string D2) ∧ Below w.heap.size w w') := HMac
    have QD : Hid (∀ w, Tabs w → Calls Tryd.prog 14 #[.string (P2 ++ text)] w fun e w' => e = .returned (.string D1) ∧ Below w.heap.size w w') := HD
    have QE : Hid (∀ w, Tabs w → Calls Tryd.prog 14 #[.string (P1 ++ D1)] w fun e w' => e = .returned (.string D2) ∧ Below w.heap.size w w') := HE
    clear A2 A1 HMac HD HE
    go_wp2_with fail
    refine (Q2.out _).mono ?_
    rintro e w2 ⟨rfl, b2⟩
    have b2 := chain2 b1 b2
    go_wp2_with fail
    refine (QD.out _ (HT.out.below b2 HT.out.1)).mono ?_
    rintro e w3 ⟨rfl, b3⟩
    have b3 := chain2 b2 b3
    go_wp2_with fail
    refine (QM.out _ (HT.out.below b3 HT.out.1)).mono ?_
    rintro e w4 ⟨rfl, b4⟩
    have b4 := chain2 b3 b4
    go_wp2_with fail
    refine (Q1.out _).mono ?_
    rintro e w5 ⟨rfl, b5⟩
    have b5 := chain2 b4 b5
    go_wp2_with fail
    refine (QE.out _ (HT.out.below b5 HT.out.1)).mono ?_
    rintro e w6 ⟨rfl, b6⟩
    have b6 := chain2 b5 b6
    clear Q2 Q1 QM QD QE b1 b2 b3 b4 b5
    go_wp2_with fail
    refine (drawDigest_any w.heap.size a1 len1 cap1 _ hl1 b6.size (C1.out.below b6)).mono ?_
    rintro e w7 ⟨⟨t, rfl, ht7⟩, b7⟩
    have b7 := chain2 b6 b7
    clear b6 e1
    go_wp2_with fail
    refine (drawStretch_any w.heap.size a1 len1 cap1 _ hl1 b7.size (C1.out.below b7)).mono ?_
    rintro e w8 ⟨⟨pass, n, rfl, hp8, n0, n1⟩, b8⟩
    have b8 := chain2 b7 b8
    clear b7
    have hlt : t.size ≤ maxLen := by unfold maxLen; omega
    have hlp : pass.size ≤ maxLen := by unfold maxLen; omega
    have HL1 : Hid (t.size ≤ maxLen) := hlt
    have HL2 : Hid (pass.size ≤ maxLen) := hlp
    clear hlt hlp
    go_wp2_with fail
    refine (implDigest_any t _ HL1.out (HT.out.below b8 HT.out.1)).mono ?_
    rintro e w9 ⟨rfl, b9⟩
    have b9 := chain2 b8 b9
    clear b8
    go_wp2_with fail
    refine (specDigest_any t _ HL1.out).mono ?_
    rintro e w10 ⟨rfl, b10⟩
    have b10 := chain2 b9 b10
    clear b9
    go_wp2_with fail
    refine (implStretch_any pass n _ (HT.out.below b10 HT.out.1) HL2.out n0 n1).mono ?_
    rintro e w11 ⟨rfl, b11⟩
    have b11 := chain2 b10 b11
    clear b10
    go_wp2_with fail
    refine (specStretch_any pass n _ HL2.out n0 n1).mono ?_
    rintro e w12 ⟨rfl, b12⟩
    have b12 := chain2 b11 b12
    clear b11
    by_cases hn1 : n < 1
    · have f1 : decide (n < 1) = true := by simp; omega
      go_wp2_with fail
      go_ret
      exact ⟨rfl, b12⟩
    · have f1 : decide (n < 1) = false := by simp; omega
      by_cases hn2 : 99 < n
      · have f2 : decide (99 < n) = true := by simp; omega
        go_wp2_with fail
        go_ret
        exact ⟨rfl, b12⟩
      · have f2 : decide (99 < n) = false := by simp; omega
        have HS : Hid (macA pass (strA pass n) = strA pass (n + 1)) := str_step pass n (by omega) (by omega)
        have HZ : Hid ((strA pass n).size ≤ maxLen) := by show _ ≤ _; have := strA_size pass n; unfold maxLen; omega
        go_wp2_with fail
        refine (implStretch_any pass (n + 1) _ (HT.out.below b12 HT.out.1) HL2.out (by omega) (by omega)).mono ?_
        rintro e w13 ⟨rfl, b13⟩
        have b13 := chain2 b12 b13
        clear b12
        go_wp2_with fail
        refine (implStretch_any pass n _ (HT.out.below b13 HT.out.1) HL2.out n0 n1).mono ?_
        rintro e w14 ⟨rfl, b14⟩
        have b14 := chain2 b13 b14
        clear b13
        go_wp2_with fail
        refine (implMac_any pass (strA pass n) _ (HT.out.below b14 HT.out.1) HL2.out HZ.out).mono ?_
        rintro e w15 ⟨rfl, b15⟩
        have b15 := chain2 b14 b15
        clear b14
        rw [HS.out]
        go_wp2_with fail
        go_ret
        exact ⟨rfl, b15⟩
  · have e1 : decide ((key.size : Int) ≤ 64) = false := by simp; omega
    have b6 := b1
    clear b1
    go_wp2_with fail
    refine (drawDigest_any w.heap.size a1 len1 cap1 _ hl1 b6.size (C1.out.below b6)).mono ?_
    rintro e w7 ⟨⟨t, rfl, ht7⟩, b7⟩
    have b7 := chain2 b6 b7
    clear b6 e1
    go_wp2_with fail
    refine (drawStretch_any w.heap.size a1 len1 cap1 _ hl1 b7.size (C1.out.below b7)).mono ?_
    rintro e w8 ⟨⟨pass, n, rfl, hp8, n0, n1⟩, b8⟩
    have b8 := chain2 b7 b8
    clear b7
    have hlt : t.size ≤ maxLen := by unfold maxLen; omega
    have hlp : pass.size ≤ maxLen := by unfold maxLen; omega
    have HL1 : Hid (t.size ≤ maxLen) := hlt
    have HL2 : Hid (pass.size ≤ maxLen) := hlp
    clear hlt hlp
    go_wp2_with fail
    refine (implDigest_any t _ HL1.out (HT.out.below b8 HT.out.1)).mono ?_
    rintro e w9 ⟨rfl, b9⟩
    have b9 := chain2 b8 b9
    clear b8
    go_wp2_with fail
    refine (specDigest_any t _ HL1.out).mono ?_
    rintro e w10 ⟨rfl, b10⟩
    have b10 := chain2 b9 b10
    clear b9
    go_wp2_with fail
    refine (implStretch_any pass n _ (HT.out.below b10 HT.out.1) HL2.out n0 n1).mono ?_
    rintro e w11 ⟨rfl, b11⟩
    have b11 := chain2 b10 b11
    clear b10
    go_wp2_with fail
    refine (specStretch_any pass n _ HL2.out n0 n1).mono ?_
    rintro e w12 ⟨rfl, b12⟩
    have b12 := chain2 b11 b12
    clear b11
    by_cases hn1 : n < 1
    · have f1 : decide (n < 1) = true := by simp; omega
      go_wp2_with fail
      go_ret
      exact ⟨rfl, b12⟩
    · have f1 : decide (n < 1) = false := by simp; omega
      by_cases hn2 : 99 < n
      · have f2 : decide (99 < n) = true := by simp; omega
        go_wp2_with fail
        go_ret
        exact ⟨rfl, b12⟩
      · have f2 : decide (99 < n) = false := by simp; omega
        have HS : Hid (macA pass (strA pass n) = strA pass (n + 1)) := str_step pass n (by omega) (by omega)
        have HZ : Hid ((strA pass n).size ≤ maxLen) := by show _ ≤ _; have := strA_size pass n; unfold maxLen; omega
        go_wp2_with fail
        refine (implStretch_any pass (n + 1) _ (HT.out.below b12 HT.out.1) HL2.out (by omega) (by omega)).mono ?_
        rintro e w13 ⟨rfl, b13⟩
        have b13 := chain2 b12 b13
        clear b12
        go_wp2_with fail
        refine (implStretch_any pass n _ (HT.out.below b13 HT.out.1) HL2.out n0 n1).mono ?_
        rintro e w14 ⟨rfl, b14⟩
        have b14 := chain2 b13 b14
        clear b13
        go_wp2_with fail
        refine (implMac_any pass (strA pass n) _ (HT.out.below b14 HT.out.1) HL2.out HZ.out).mono ?_
        rintro e w15 ⟨rfl, b15⟩
        have b15 := chain2 b14 b15
        clear b14
        rw [HS.out]
        go_wp2_with fail
        go_ret
        exact ⟨rfl, b15⟩
end Go.Proofs.YtjdgeiddbmmckaaDoor
