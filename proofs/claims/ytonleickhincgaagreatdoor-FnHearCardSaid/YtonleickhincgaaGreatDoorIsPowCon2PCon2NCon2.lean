/-
  Parts of one proof, laid as one text: IsPow, Con2P, Con2N, Con2; what each says stands at its head.
-/
import Derived.Test.YtonleickhincgaaGreatDoorRows
import Derived.Test.YtonleickhincgaaGreatDoorBytesDigMath
import Derived.Test.YtonleickhincgaaGreatDoorTreeMathSlABxKSlBOwnS
import Derived.Test.YtonleickhincgaaGreatDoorBits
import Derived.Test.YtonleickhincgaaGreatDoorPowerHalvesTreeTree2TreeHPathMathIncMathTakerTakePathConMathProofLawSignMath
import Derived.Handy
import Derived.Test.YtonleickhincgaaGreatDoorMac2AppSSrcDrawsDrawKitSomeIsInSignSSignDWide2StepAppPath2DigestDrawTreeSpoil
import Derived.Test.YtonleickhincgaaGreatDoorAll2LeafNode
/-
  The specification's l03Power: is a number a power of two.
  Conditions: the number is an int64, and 1 or more.
-/
namespace Go.Proofs.YtonleickhincgaaGreatDoor
open Go.RowKit Go.Lib
set_option linter.unusedVariables false

set_option maxHeartbeats 400000 in
theorem isPow_any (n : Nat) (w : World) (h1 : 1 ≤ n) (hn : n ≤ 9223372036854775807) :
    Calls Tryz.prog 84 #[.int .i64 (n : Int)] w fun e w' => e = .returned (.bool (isPowB n)) ∧ w' = w := by
  have HB := isPowB_iff n
  generalize isPowB n = B at *
  have HB : Hid (B = true ↔ ∃ j, n = 2 ^ j) := HB
  go_enter Tryz.func84, Tryz.ntmps84
  go_wp2
  go_loop [0] (fun x => ∃ k : Nat, Hid ((∃ j, n = 2 ^ j) ↔ ∃ j, k = 2 ^ j) ∧ k ≤ n ∧ 0 < k ∧ x = .int .i64 k) (fun x => (Go.RowKit.intOf x).toNat)
  case atStart => exact ⟨n, Iff.rfl, by omega, by omega, rfl⟩
  case round =>
    obtain ⟨k, hk, hkn, hk0, rfl⟩ := hrel
    by_cases hlt : (k : Int) % 2 = 0
    · have HK : Hid ((∃ j, n = 2 ^ j) ↔ ∃ j, k / 2 = 2 ^ j) := hk.out.trans (pow_half k (by omega) hk0)
      go_wp2
      go_round
      case rel => exact ⟨k / 2, HK, by omega, by omega, by go_num⟩
      case measure => simp [Go.RowKit.intOf]; omega
    · have H : Hid (B = true ↔ k = 1) := HB.out.trans (hk.out.trans (pow_odd k (by omega)))
      clear HB hk
      go_wp2
      go_ret
      exact ⟨ret_bool' (by rw [H.out]; simp; omega), rfl⟩
end Go.Proofs.YtonleickhincgaaGreatDoor
/-
  What the specification's Consistent answers where old is a power of two below size: 'conB'.
  Conditions: size is an int64; the proof's cells hold the texts.
-/
namespace Go.Proofs.YtonleickhincgaaGreatDoor
open Go.RowKit Go.Lib
set_option linter.unusedVariables false
set_option maxRecDepth 20000

set_option maxHeartbeats 4000000 in
theorem specCon_pow (I M : Nat) (p : Option Addr) (cap : Nat) (ss : List ByteArray) (was root : ByteArray) (w : World) (hp : TxtAt w p ss) (hn : ss.length ≤ 64) (hcap : ss.length ≤ cap)
    (hi1 : 1 ≤ I) (hi : I < M) (hM : M ≤ 9223372036854775807) (h32 : was.size = 32) (hr32 : root.size = 32) (hw : wideB ss = true) (hpow : isPowB I = true) :
    Calls Tryz.prog 38 #[.int .i64 (I : Int), .int .i64 (M : Int), .slice p ss.length cap, .string was, .string root] w fun e w' => e = .returned (.bool (conB I M ss was root)) ∧ Below w.heap.size w w' := by
  have HX : Hid (∀ x ∈ ss, x.size = 32) := wideB_all hw
  have HD := wide2_any p cap ss w hp (by omega) hcap
  rw [hw] at HD
  have HIP := fun w => isPow_any I w hi1 (by omega)
  have hlp := lft_pd hi1 (.inl hi)
  have hpe := pd_eq hi1 (.inl hi)
  obtain ⟨v1, w1, hr1, ho1, hg1⟩ := app_texts (w.alloc (.cells #[] 9)) w.heap.size _ [] (ownS_none w) p cap ss (hp.below ((Below.refl _ _).alloc (Nat.le_refl _) _)) (by simp; omega) (by simp)
  have HB1 : Hid (Below w.heap.size w w1) := ((Below.refl _ _).alloc (Nat.le_refl _) _).grown hg1 (by simp) (fun j hj => by have := ((ownS_none w).lt j hj).1; omega)
  rw [List.nil_append] at ho1
  have d1 : decide (64 < (ss.length : Int)) = false := decide_eq_false (by omega)
  have d2 : ((was.size : Int) != 32) = false := by simp; omega
  have d3 : ((root.size : Int) != 32) = false := by simp; omega
  have d4 : decide ((I : Int) < 1) = false := decide_eq_false (by omega)
  have d4' : decide (I < 1) = false := decide_eq_false (by omega)
  have d5 : decide ((M : Int) < (I : Int)) = false := decide_eq_false (by omega)
  have d6 : decide (M < I) = false := decide_eq_false (by omega)
  have d7 : ((I : Int) == (M : Int)) = false := by simp; omega
  have HZw : Hid (was.size = 32) := h32
  have hlt : lft (pd I M) = true := hlp.2 ((isPowB_iff I).1 hpow)
  obtain ⟨p1, c1, rfl, hc1, ht1⟩ := ownS_form ho1
  obtain ⟨v2, w2, hr2, ho2, hg2⟩ := app_texts (w1.alloc (.cells #[.string was] 9)) w1.heap.size _ [was] (alloc_own w1 was) p1 c1 ss (ht1.below ((Below.refl _ _).alloc (Nat.le_refl _) _)) (by simp; omega) (by simp)
  have HB2 : Hid (Below w.heap.size w w2) := (HB1.out.alloc HB1.out.size _).grown hg2 (by have := HB1.out.size; simp; omega) (fun j hj => by have := ((alloc_own w1 was).lt j hj).1; have := HB1.out.size; omega)
  obtain ⟨pl, cl', rfl, hcl', htl⟩ := ownS_form ho2
  obtain ⟨l, hl⟩ : ∃ l, l = [was] ++ ss := ⟨_, rfl⟩
  rw [← hl] at htl hcl' hr2
  have HTl : Hid (TxtAt w2 pl l) := htl
  have hl1 : 1 ≤ l.length := by rw [hl]; simp
  have hl65 : l.length ≤ 65 := by rw [hl]; simp; omega
  have HS0 : Hid (∀ h : 0 < l.length, l[0] = was) := by intro _; simp [hl]
  have HS0 : Hid (l[0]'(by omega) = was) := HS0.out (by omega)
  have HX32 : Hid (∀ x ∈ l, x.size = 32) := by
    intro x hx
    rw [hl] at hx
    rcases List.mem_append.1 hx with h | h
    · obtain rfl := List.mem_singleton.1 h; exact HZw.out
    · exact HX.out x h
  obtain ⟨G, hG⟩ : ∃ G, G = cl2 was was (pd I M) ss := ⟨_, rfl⟩
  have HR : Hid (conB I M ss was root = decide (G = some (was, root))) := by show _ = _; rw [hG]; unfold conB; rw [if_pos hlt]
  have H0 : Hid (G = cl2 was was (sitd (I - 1) (M - 1)) (l.drop 1)) := by show _ = _; rw [hG, hpe, hl]; rfl
  generalize conB I M ss was root = R at *
  rw [hpow] at HIP
  clear hlp hpe hlt hG hl htl ho1 ho2 hg1 hg2 ht1 hpow
  obtain ⟨s0, hs0⟩ : ∃ s0, s0 = was := ⟨_, rfl⟩
  have HZ0 : Hid (s0.size = 32) := by show _ = _; rw [hs0]; exact HZw.out
  rw [← hs0] at HS0 H0
  clear hs0
  clear hp hw h32 hr32
  go_enter Tryz.func38, Tryz.ntmps38
  go_wp2_with fail
  refine HD.mono ?_
  rintro e w' ⟨rfl, hw'⟩
  subst hw'
  go_wp2_with (at_builtin; refine wpList_append_run rfl _ _ _ rfl _ _ _ _ rfl rfl hr1 ?_)
  refine (HIP _).mono ?_
  rintro e w'' ⟨rfl, hw''⟩
  subst hw''
  go_wp2_with (at_builtin; refine wpList_append_run rfl _ _ _ rfl _ _ _ _ rfl rfl hr2 ?_)
  clear d1 d2 d3 d4 d4' d5 d6 d7 HD HIP hr1 hr2
  obtain ⟨b, off, rfl, hb, hc0⟩ := HTl.out 0 (by omega)
  rw [Nat.add_zero, HS0.out] at hc0
  have hlz : ((l.length : Int) == 0) = false := beq_eq_false_iff_ne.2 (by omega)
  go_wp2_with fail
  clear hlz
  go_loop [12, 13] (fun va vl => ∃ (x y : Nat), va = .int .i64 x ∧ vl = .int .i64 y ∧ x ≤ y ∧ y ≤ 9223372036854775807 ∧ Hid (G = cl2 s0 s0 (sitd x y) (l.drop 1))) (fun va _ => (Go.RowKit.intOf va).toNat)
  case atStart => exact ⟨I - 1, M - 1, by go_num, by go_num, by omega, by omega, H0⟩
  case round =>
    clear H0
    obtain ⟨x, y, rfl, rfl, hxy, hy, hI⟩ := hrel
    by_cases hodd : x % 2 = 1
    · have e1 : ((x : Int) % 2 == 1) = true := by simp; omega
      have HI2 : Hid (G = cl2 s0 s0 (sitd (x / 2) (y / 2)) (l.drop 1)) := by show _ = _; rw [hI.out, sitd_odd hodd]
      go_wp2
      go_round
      case rel => exact ⟨x / 2, y / 2, by go_num, by go_num, by omega, by omega, HI2⟩
      case measure => simp [Go.RowKit.intOf]; omega
    have e1 : ((x : Int) % 2 == 1) = false := by simp; omega
    have HI2 : Hid (G = cl2 s0 s0 (itd x y) (l.drop 1)) := by show _ = _; rw [hI.out, sitd_even (by omega)]
    clear hI
    have hl1i : (0 : Int) < (l.length : Int) := by omega
    go_wp2_with fail
    clear e1 hodd hl1i
    go_loopw [16, 12, 13, 14, 15] (fun vi va vl vx vy wr => ∃ (k a e : Nat) (h g : ByteArray), 1 ≤ k ∧ k ≤ l.length ∧ vi = .int .i64 k ∧ va = .int .i64 a ∧ vl = .int .i64 e ∧ vx = .string h ∧ vy = .string g ∧ a ≤ e ∧ e ≤ 9223372036854775807 ∧ Hid (h.size = 32) ∧ Hid (g.size = 32) ∧ Hid (G = cl2 h g (itd a e) (l.drop k)) ∧ Hid (Below w2.heap.size w2 wr)) (fun vi _ _ _ _ _ => l.length - (Go.RowKit.intOf vi).toNat)
    case atStart => exact ⟨1, x, y, s0, s0, by omega, by omega, rfl, rfl, rfl, rfl, rfl, hxy, hy, HZ0, HZ0, HI2, Below.refl _ _⟩
    case round =>
      clear HI2 hc0
      obtain ⟨k, a, e, h, g, hk1, hk, rfl, rfl, rfl, rfl, rfl, hal, hle, hh, hg, hG, hB⟩ := hrel
      by_cases hlt : k < l.length
      · have hdrop : Hid (l.drop k = l[k] :: l.drop (k + 1)) := List.drop_eq_getElem_cons hlt
        have hck := HTl.out.at k hlt
        have hc1 : wr.cell? ⟨b, off + k, none⟩ = some (.string l[k]) := (hB.out.cell (p := ⟨b, off + k, none⟩) hb).trans hck
        have hq32 := HX32.out l[k] (List.getElem_mem hlt)
        clear hck
        generalize l[k] = q at *
        by_cases hz : e = 0
        · subst hz
          have HF : Hid (decide (G = some (was, root)) = false) := by
            refine decide_eq_false ?_
            rw [hG.out, itd_zero, hdrop.out]; simp [cl2]
          go_wp2
          go_ret
          exact ⟨ret_bool (HR.out.trans HF.out).symm, chainB HB2.out hB.out⟩
        · by_cases hodd : a % 2 = 1 ∨ a = e
          · have hpos : 0 < a := by omega
            have hG2 : Hid (G = cl2 h g (itd a e) (q :: l.drop (k + 1))) := by show _ = _; rw [hG.out, hdrop.out]
            have hfst : (((a : Int) % 2 == 1) = true) ∨ (((a : Int) % 2 == 1) = false ∧ ((a : Int) == (e : Int)) = true) := by
              rcases hodd with h1 | h1
              · exact .inl (by simp; omega)
              · by_cases h3 : a % 2 = 1
                · exact .inl (by simp; omega)
                · exact .inr ⟨by simp; omega, by simp; omega⟩
            have hsz1 : Hid ((nodeB q h).size = 32) := nodeB_size q h
            have hsz2 : Hid ((nodeB q g).size = 32) := nodeB_size q g
            have hcl : Hid (∀ T, cl2 h g (true :: T) (q :: l.drop (k + 1)) = cl2 (nodeB q h) (nodeB q g) T (l.drop (k + 1))) := fun T => by show cl2 h g (true :: T) (q :: _) = _; simp [cl2]
            have n1 := specL03Node_any q h wr (by omega) (by have := hh.out; omega)
            have n2 : Hid (∀ w', Calls Tryz.prog 85 #[.string q, .string g] w' fun e w'' => e = .returned (.string (nodeB q g)) ∧ Below w'.heap.size w' w'') := fun w' => specL03Node_any q g w' (by omega) (by have := hg.out; omega)
            generalize nodeB q h = N1 at *
            generalize nodeB q g = N2 at *
            clear hG
            rcases hfst with h1 | ⟨h1, h2⟩
            all_goals (
              go_wp2_with fail
              refine n1.mono ?_
              rintro e w3 ⟨rfl, b3⟩
              have HB3 : Hid (Below w2.heap.size w2 w3) := chainB hB.out b3
              have hc3 : w3.cell? ⟨b, off + k, none⟩ = some (.string q) := by
                rw [b3.cell (p := ⟨b, off + k, none⟩) (Nat.lt_of_lt_of_le hb hB.out.size)]; exact hc1
              clear b3
              go_wp2_with fail
              refine (n2.out _).mono ?_
              rintro e w4 ⟨rfl, b4⟩
              have HB4 : Hid (Below w2.heap.size w2 w4) := chainB HB3.out b4
              clear b4
              go_wp2_with fail
              clear hc1 hc3
              rename World => W4
              go_loopw [12, 13] (fun va vl wr => ∃ (x y : Nat), va = .int .i64 x ∧ vl = .int .i64 y ∧ 0 < x ∧ x ≤ y ∧ y ≤ 9223372036854775807 ∧ (x % 2 = 1 ∨ x = y) ∧ Hid (G = cl2 h g (itd x y) (q :: l.drop (k + 1))) ∧ wr = W4) (fun va _ _ => (Go.RowKit.intOf va).toNat)
              case atStart => exact ⟨a, _, rfl, rfl, hpos, hal, hle, hodd, hG2, rfl⟩
              case round =>
                clear hG2 h1
                obtain ⟨x, y, rfl, rfl, hx0, hxy, hy, hor, hI, rfl⟩ := hrel
                by_cases he : x % 2 = 0
                · have e1 : ((x : Int) % 2 == 0) = true := by simp; omega
                  obtain rfl : x = y := by omega
                  have HI2 : Hid (G = cl2 h g (itd (x / 2) (x / 2)) (q :: l.drop (k + 1))) := by show _ = _; rw [hI.out, itd_last (by omega) he]
                  go_wp2
                  go_roundw
                  case rel => exact ⟨x / 2, x / 2, by go_num, by go_num, by omega, by omega, by omega, by omega, HI2, trivial⟩
                  case measure => simp [Go.RowKit.intOf]; omega
                · have e1 : ((x : Int) % 2 == 0) = false := by simp; omega
                  have HI2 : Hid (G = cl2 N1 N2 (itd (x / 2) (y / 2)) (l.drop (k + 1))) := by show _ = _; rw [hI.out, itd_odd (by omega) (by omega), hcl.out]
                  go_wp2
                  go_roundw
                  case rel => exact ⟨k + 1, x / 2, y / 2, N1, N2, by omega, by omega, by go_num, by go_num, by go_num, rfl, rfl, by omega, by omega, hsz1, hsz2, HI2, HB4⟩
                  case measure => simp [Go.RowKit.intOf]; omega)
          · have e1 : ((a : Int) % 2 == 1) = false := by simp; omega
            have e2 : ((a : Int) == (e : Int)) = false := by simp; omega
            have hsz : Hid ((nodeB g q).size = 32) := nodeB_size g q
            have HI2 : Hid (G = cl2 h (nodeB g q) (itd (a / 2) (e / 2)) (l.drop (k + 1))) := by
              show _ = _
              rw [hG.out, hdrop.out, itd_even hz (by omega) (by omega)]; simp [cl2]
            have n2 := specL03Node_any g q wr (by have := hg.out; omega) (by omega)
            generalize nodeB g q = N at *
            clear hG
            go_wp2_with fail
            refine n2.mono ?_
            rintro e w3 ⟨rfl, b3⟩
            have HB3 : Hid (Below w2.heap.size w2 w3) := chainB hB.out b3
            clear b3
            go_wp2_with fail
            go_roundw
            case rel => exact ⟨k + 1, a / 2, _, h, N, by omega, by omega, by go_num, by go_num, by go_num, rfl, rfl, by omega, by omega, hh, hsz, HI2, HB3⟩
            case measure => simp [Go.RowKit.intOf]; omega
      · have hkk : k = l.length := by omega
        subst hkk
        rw [List.drop_of_length_le (Nat.le_refl _)] at hG
        by_cases hz : e = 0
        · subst hz
          have e1 : (((0 : Nat) : Int) == 0) = true := by simp
          have HF : Hid (decide (G = some (was, root)) = ((h.toList == was.toList) && (g.toList == root.toList))) := by
            show _ = _
            rw [hG.out, itd_zero]
            by_cases hq : h = was
            · by_cases hq2 : g = root
              · subst hq; subst hq2; simp [cl2]
              · rw [decide_eq_false (by simp [cl2, hq2])]
                have : (g.toList == root.toList) = false := beq_eq_false_iff_ne.2 fun hh => hq2 (toList_inj' (by rw [hh]; simp))
                rw [this]; simp
            · rw [decide_eq_false (by simp [cl2, hq])]
              have : (h.toList == was.toList) = false := beq_eq_false_iff_ne.2 fun hh => hq (toList_inj' (by rw [hh]; simp))
              rw [this]; simp
          have HF2 := HR.out.trans HF.out
          clear HF
          cases q1 : (h.toList == was.toList)
          · rw [q1] at HF2
            have HF3 : Hid (R = false) := HF2
            clear HF2
            go_wp2
            go_ret
            exact ⟨ret_bool HF3.out.symm, chainB HB2.out hB.out⟩
          · rw [q1] at HF2
            have HF3 : Hid (R = (g.toList == root.toList)) := HF2
            clear HF2
            go_wp2
            go_ret
            exact ⟨ret_bool HF3.out.symm, chainB HB2.out hB.out⟩
        · have e1 : ((e : Int) == 0) = false := by simp; omega
          have HF : Hid (decide (G = some (was, root)) = false) := by
            refine decide_eq_false ?_
            rw [hG.out]
            cases hc : itd a e with
            | nil => exact absurd hc (itd_nil hal hz)
            | cons d ds => simp [cl2]
          go_wp2
          go_ret
          exact ⟨ret_bool (HR.out.trans HF.out).symm, chainB HB2.out hB.out⟩
end Go.Proofs.YtonleickhincgaaGreatDoor
/-
  What the specification's Consistent answers where old is below size, and no power of two: 'conB'.
  Conditions: size is an int64; the proof's cells hold the texts.
-/
namespace Go.Proofs.YtonleickhincgaaGreatDoor
open Go.RowKit Go.Lib
set_option linter.unusedVariables false
set_option maxRecDepth 20000

set_option maxHeartbeats 2000000 in
theorem specCon_not (I M : Nat) (p : Option Addr) (cap : Nat) (ss : List ByteArray) (was root : ByteArray) (w : World) (hp : TxtAt w p ss) (hn : ss.length ≤ 64) (hcap : ss.length ≤ cap)
    (hi1 : 1 ≤ I) (hi : I < M) (hM : M ≤ 9223372036854775807) (h32 : was.size = 32) (hr32 : root.size = 32) (hw : wideB ss = true) (hpow : isPowB I = false) :
    Calls Tryz.prog 38 #[.int .i64 (I : Int), .int .i64 (M : Int), .slice p ss.length cap, .string was, .string root] w fun e w' => e = .returned (.bool (conB I M ss was root)) ∧ Below w.heap.size w w' := by
  have HX : Hid (∀ x ∈ ss, x.size = 32) := wideB_all hw
  have HD := wide2_any p cap ss w hp (by omega) hcap
  rw [hw] at HD
  have HIP := fun w => isPow_any I w hi1 (by omega)
  have hlp := lft_pd hi1 (.inl hi)
  have hpe := pd_eq hi1 (.inl hi)
  obtain ⟨v1, w1, hr1, ho1, hg1⟩ := app_texts (w.alloc (.cells #[] 9)) w.heap.size _ [] (ownS_none w) p cap ss (hp.below ((Below.refl _ _).alloc (Nat.le_refl _) _)) (by simp; omega) (by simp)
  have HB1 : Hid (Below w.heap.size w w1) := ((Below.refl _ _).alloc (Nat.le_refl _) _).grown hg1 (by simp) (fun j hj => by have := ((ownS_none w).lt j hj).1; omega)
  rw [List.nil_append] at ho1
  have d1 : decide (64 < (ss.length : Int)) = false := decide_eq_false (by omega)
  have d2 : ((was.size : Int) != 32) = false := by simp; omega
  have d3 : ((root.size : Int) != 32) = false := by simp; omega
  have d4 : decide ((I : Int) < 1) = false := decide_eq_false (by omega)
  have d4' : decide (I < 1) = false := decide_eq_false (by omega)
  have d5 : decide ((M : Int) < (I : Int)) = false := decide_eq_false (by omega)
  have d6 : decide (M < I) = false := decide_eq_false (by omega)
  have d7 : ((I : Int) == (M : Int)) = false := by simp; omega
  have HZw : Hid (was.size = 32) := h32
  have hlt : ¬ lft (pd I M) = true := fun h => by have := (isPowB_iff I).2 (hlp.1 h); rw [hpow] at this; cases this
  obtain ⟨pl, cl', rfl, hcl', htl⟩ := ownS_form ho1
  by_cases hss0 : ss.length = 0
  · obtain rfl : ss = [] := List.length_eq_zero_iff.1 hss0
    have HR : Hid (conB I M [] was root = false) := by show _ = _; unfold conB; rw [if_neg hlt]
    generalize conB I M [] was root = R at *
    rw [hpow] at HIP
    clear hlp hpe hlt htl ho1 hg1 hpow hss0
    rw [List.length_nil] at *
    clear hp hw h32 hr32
    go_enter Tryz.func38, Tryz.ntmps38
    go_wp2_with fail
    refine HD.mono ?_
    rintro e w' ⟨rfl, hw'⟩
    subst hw'
    go_wp2_with (at_builtin; refine wpList_append_run rfl _ _ _ rfl _ _ _ _ rfl rfl hr1 ?_)
    refine (HIP _).mono ?_
    rintro e w'' ⟨rfl, hw''⟩
    subst hw''
    go_wp2_with fail
    go_ret
    exact ⟨ret_bool HR.out.symm, HB1.out⟩
  have HTl : Hid (TxtAt w1 pl ss) := htl
  have hl1 : 1 ≤ ss.length := by omega
  have hl65 : ss.length ≤ 65 := by omega
  obtain ⟨s0, hs0⟩ : ∃ s0, s0 = ss[0] := ⟨_, rfl⟩
  have HS0 : Hid (ss[0]'(by omega) = s0) := hs0.symm
  have HX32 : Hid (∀ x ∈ ss, x.size = 32) := HX
  have HZ0 : Hid (s0.size = 32) := HX.out s0 (by rw [hs0]; exact List.getElem_mem _)
  obtain ⟨G, hG⟩ : ∃ G, G = cl2 s0 s0 (pd I M) (ss.drop 1) := ⟨_, rfl⟩
  have HR : Hid (conB I M ss was root = decide (G = some (was, root))) := by
    show _ = _
    rw [hG]; unfold conB; rw [if_neg hlt]
    cases hq : ss with
    | nil => rw [hq] at hl1; simp at hl1
    | cons a t => simp only [hq] at hs0; rw [hs0]; simp
  have H0 : Hid (G = cl2 s0 s0 (sitd (I - 1) (M - 1)) (ss.drop 1)) := by show _ = _; rw [hG, hpe]
  generalize conB I M ss was root = R at *
  rw [hpow] at HIP
  have HB2 := HB1
  clear hlp hpe hlt hG hs0 htl ho1 hg1 hpow
  clear hp hw h32 hr32
  go_enter Tryz.func38, Tryz.ntmps38
  go_wp2_with fail
  refine HD.mono ?_
  rintro e w' ⟨rfl, hw'⟩
  subst hw'
  go_wp2_with (at_builtin; refine wpList_append_run rfl _ _ _ rfl _ _ _ _ rfl rfl hr1 ?_)
  refine (HIP _).mono ?_
  rintro e w'' ⟨rfl, hw''⟩
  subst hw''
  clear d1 d2 d3 d4 d4' d5 d6 d7 HD HIP hr1
  obtain ⟨b, off, rfl, hb, hc0⟩ := HTl.out 0 (by omega)
  rw [Nat.add_zero, HS0.out] at hc0
  have hlz : ((ss.length : Int) == 0) = false := beq_eq_false_iff_ne.2 (by omega)
  go_wp2_with fail
  clear hlz
  go_loop [12, 13] (fun va vl => ∃ (x y : Nat), va = .int .i64 x ∧ vl = .int .i64 y ∧ x ≤ y ∧ y ≤ 9223372036854775807 ∧ Hid (G = cl2 s0 s0 (sitd x y) (ss.drop 1))) (fun va _ => (Go.RowKit.intOf va).toNat)
  case atStart => exact ⟨I - 1, M - 1, by go_num, by go_num, by omega, by omega, H0⟩
  case round =>
    clear H0
    obtain ⟨x, y, rfl, rfl, hxy, hy, hI⟩ := hrel
    by_cases hodd : x % 2 = 1
    · have e1 : ((x : Int) % 2 == 1) = true := by simp; omega
      have HI2 : Hid (G = cl2 s0 s0 (sitd (x / 2) (y / 2)) (ss.drop 1)) := by show _ = _; rw [hI.out, sitd_odd hodd]
      go_wp2
      go_round
      case rel => exact ⟨x / 2, y / 2, by go_num, by go_num, by omega, by omega, HI2⟩
      case measure => simp [Go.RowKit.intOf]; omega
    have e1 : ((x : Int) % 2 == 1) = false := by simp; omega
    have HI2 : Hid (G = cl2 s0 s0 (itd x y) (ss.drop 1)) := by show _ = _; rw [hI.out, sitd_even (by omega)]
    clear hI
    have hl1i : (0 : Int) < (ss.length : Int) := by omega
    go_wp2_with fail
    clear e1 hodd hl1i
    go_loopw [16, 12, 13, 14, 15] (fun vi va vl vx vy wr => ∃ (k a e : Nat) (h g : ByteArray), 1 ≤ k ∧ k ≤ ss.length ∧ vi = .int .i64 k ∧ va = .int .i64 a ∧ vl = .int .i64 e ∧ vx = .string h ∧ vy = .string g ∧ a ≤ e ∧ e ≤ 9223372036854775807 ∧ Hid (h.size = 32) ∧ Hid (g.size = 32) ∧ Hid (G = cl2 h g (itd a e) (ss.drop k)) ∧ Hid (Below w''.heap.size w'' wr)) (fun vi _ _ _ _ _ => ss.length - (Go.RowKit.intOf vi).toNat)
    case atStart => exact ⟨1, x, y, s0, s0, by omega, by omega, rfl, rfl, rfl, rfl, rfl, hxy, hy, HZ0, HZ0, HI2, Below.refl _ _⟩
    case round =>
      clear HI2 hc0
      obtain ⟨k, a, e, h, g, hk1, hk, rfl, rfl, rfl, rfl, rfl, hal, hle, hh, hg, hG, hB⟩ := hrel
      by_cases hlt : k < ss.length
      · have hdrop : Hid (ss.drop k = ss[k] :: ss.drop (k + 1)) := List.drop_eq_getElem_cons hlt
        have hck := HTl.out.at k hlt
        have hc1 : wr.cell? ⟨b, off + k, none⟩ = some (.string ss[k]) := (hB.out.cell (p := ⟨b, off + k, none⟩) hb).trans hck
        have hq32 := HX32.out ss[k] (List.getElem_mem hlt)
        clear hck
        generalize ss[k] = q at *
        by_cases hz : e = 0
        · subst hz
          have HF : Hid (decide (G = some (was, root)) = false) := by
            refine decide_eq_false ?_
            rw [hG.out, itd_zero, hdrop.out]; simp [cl2]
          go_wp2
          go_ret
          exact ⟨ret_bool (HR.out.trans HF.out).symm, chainB HB2.out hB.out⟩
        · by_cases hodd : a % 2 = 1 ∨ a = e
          · have hpos : 0 < a := by omega
            have hG2 : Hid (G = cl2 h g (itd a e) (q :: ss.drop (k + 1))) := by show _ = _; rw [hG.out, hdrop.out]
            have hfst : (((a : Int) % 2 == 1) = true) ∨ (((a : Int) % 2 == 1) = false ∧ ((a : Int) == (e : Int)) = true) := by
              rcases hodd with h1 | h1
              · exact .inl (by simp; omega)
              · by_cases h3 : a % 2 = 1
                · exact .inl (by simp; omega)
                · exact .inr ⟨by simp; omega, by simp; omega⟩
            have hsz1 : Hid ((nodeB q h).size = 32) := nodeB_size q h
            have hsz2 : Hid ((nodeB q g).size = 32) := nodeB_size q g
            have hcl : Hid (∀ T, cl2 h g (true :: T) (q :: ss.drop (k + 1)) = cl2 (nodeB q h) (nodeB q g) T (ss.drop (k + 1))) := fun T => by show cl2 h g (true :: T) (q :: _) = _; simp [cl2]
            have n1 := specL03Node_any q h wr (by omega) (by have := hh.out; omega)
            have n2 : Hid (∀ w', Calls Tryz.prog 85 #[.string q, .string g] w' fun e w'' => e = .returned (.string (nodeB q g)) ∧ Below w'.heap.size w' w'') := fun w' => specL03Node_any q g w' (by omega) (by have := hg.out; omega)
            generalize nodeB q h = N1 at *
            generalize nodeB q g = N2 at *
            clear hG
            rcases hfst with h1 | ⟨h1, h2⟩
            all_goals (
              go_wp2_with fail
              refine n1.mono ?_
              rintro e w3 ⟨rfl, b3⟩
              have HB3 : Hid (Below w''.heap.size w'' w3) := chainB hB.out b3
              have hc3 : w3.cell? ⟨b, off + k, none⟩ = some (.string q) := by
                rw [b3.cell (p := ⟨b, off + k, none⟩) (Nat.lt_of_lt_of_le hb hB.out.size)]; exact hc1
              clear b3
              go_wp2_with fail
              refine (n2.out _).mono ?_
              rintro e w4 ⟨rfl, b4⟩
              have HB4 : Hid (Below w''.heap.size w'' w4) := chainB HB3.out b4
              clear b4
              go_wp2_with fail
              clear hc1 hc3
              rename World => W4
              go_loopw [12, 13] (fun va vl wr => ∃ (x y : Nat), va = .int .i64 x ∧ vl = .int .i64 y ∧ 0 < x ∧ x ≤ y ∧ y ≤ 9223372036854775807 ∧ (x % 2 = 1 ∨ x = y) ∧ Hid (G = cl2 h g (itd x y) (q :: ss.drop (k + 1))) ∧ wr = W4) (fun va _ _ => (Go.RowKit.intOf va).toNat)
              case atStart => exact ⟨a, _, rfl, rfl, hpos, hal, hle, hodd, hG2, rfl⟩
              case round =>
                clear hG2 h1
                obtain ⟨x, y, rfl, rfl, hx0, hxy, hy, hor, hI, rfl⟩ := hrel
                by_cases he : x % 2 = 0
                · have e1 : ((x : Int) % 2 == 0) = true := by simp; omega
                  obtain rfl : x = y := by omega
                  have HI2 : Hid (G = cl2 h g (itd (x / 2) (x / 2)) (q :: ss.drop (k + 1))) := by show _ = _; rw [hI.out, itd_last (by omega) he]
                  go_wp2
                  go_roundw
                  case rel => exact ⟨x / 2, x / 2, by go_num, by go_num, by omega, by omega, by omega, by omega, HI2, trivial⟩
                  case measure => simp [Go.RowKit.intOf]; omega
                · have e1 : ((x : Int) % 2 == 0) = false := by simp; omega
                  have HI2 : Hid (G = cl2 N1 N2 (itd (x / 2) (y / 2)) (ss.drop (k + 1))) := by show _ = _; rw [hI.out, itd_odd (by omega) (by omega), hcl.out]
                  go_wp2
                  go_roundw
                  case rel => exact ⟨k + 1, x / 2, y / 2, N1, N2, by omega, by omega, by go_num, by go_num, by go_num, rfl, rfl, by omega, by omega, hsz1, hsz2, HI2, HB4⟩
                  case measure => simp [Go.RowKit.intOf]; omega)
          · have e1 : ((a : Int) % 2 == 1) = false := by simp; omega
            have e2 : ((a : Int) == (e : Int)) = false := by simp; omega
            have hsz : Hid ((nodeB g q).size = 32) := nodeB_size g q
            have HI2 : Hid (G = cl2 h (nodeB g q) (itd (a / 2) (e / 2)) (ss.drop (k + 1))) := by
              show _ = _
              rw [hG.out, hdrop.out, itd_even hz (by omega) (by omega)]; simp [cl2]
            have n2 := specL03Node_any g q wr (by have := hg.out; omega) (by omega)
            generalize nodeB g q = N at *
            clear hG
            go_wp2_with fail
            refine n2.mono ?_
            rintro e w3 ⟨rfl, b3⟩
            have HB3 : Hid (Below w''.heap.size w'' w3) := chainB hB.out b3
            clear b3
            go_wp2_with fail
            go_roundw
            case rel => exact ⟨k + 1, a / 2, _, h, N, by omega, by omega, by go_num, by go_num, by go_num, rfl, rfl, by omega, by omega, hh, hsz, HI2, HB3⟩
            case measure => simp [Go.RowKit.intOf]; omega
      · have hkk : k = ss.length := by omega
        subst hkk
        rw [List.drop_of_length_le (Nat.le_refl _)] at hG
        by_cases hz : e = 0
        · subst hz
          have e1 : (((0 : Nat) : Int) == 0) = true := by simp
          have HF : Hid (decide (G = some (was, root)) = ((h.toList == was.toList) && (g.toList == root.toList))) := by
            show _ = _
            rw [hG.out, itd_zero]
            by_cases hq : h = was
            · by_cases hq2 : g = root
              · subst hq; subst hq2; simp [cl2]
              · rw [decide_eq_false (by simp [cl2, hq2])]
                have : (g.toList == root.toList) = false := beq_eq_false_iff_ne.2 fun hh => hq2 (toList_inj' (by rw [hh]; simp))
                rw [this]; simp
            · rw [decide_eq_false (by simp [cl2, hq])]
              have : (h.toList == was.toList) = false := beq_eq_false_iff_ne.2 fun hh => hq (toList_inj' (by rw [hh]; simp))
              rw [this]; simp
          have HF2 := HR.out.trans HF.out
          clear HF
          cases q1 : (h.toList == was.toList)
          · rw [q1] at HF2
            have HF3 : Hid (R = false) := HF2
            clear HF2
            go_wp2
            go_ret
            exact ⟨ret_bool HF3.out.symm, chainB HB2.out hB.out⟩
          · rw [q1] at HF2
            have HF3 : Hid (R = (g.toList == root.toList)) := HF2
            clear HF2
            go_wp2
            go_ret
            exact ⟨ret_bool HF3.out.symm, chainB HB2.out hB.out⟩
        · have e1 : ((e : Int) == 0) = false := by simp; omega
          have HF : Hid (decide (G = some (was, root)) = false) := by
            refine decide_eq_false ?_
            rw [hG.out]
            cases hc : itd a e with
            | nil => exact absurd hc (itd_nil hal hz)
            | cons d ds => simp [cl2]
          go_wp2
          go_ret
          exact ⟨ret_bool (HR.out.trans HF.out).symm, chainB HB2.out hB.out⟩
end Go.Proofs.YtonleickhincgaaGreatDoor
/-
  What the specification's Consistent answers: 'conA'.
  Conditions: old and size are int64; the proof's cells hold the texts.
-/
namespace Go.Proofs.YtonleickhincgaaGreatDoor
open Go.RowKit Go.Lib
set_option linter.unusedVariables false
set_option maxRecDepth 20000

set_option maxHeartbeats 2000000 in
theorem specCon_any (i n : Int) (p : Option Addr) (cap : Nat) (ss : List ByteArray) (leaf root : ByteArray) (w : World) (hp : TxtAt w p ss) (hn : ss.length ≤ 140737488355328) (hcap : ss.length ≤ cap)
    (hls : leaf.size ≤ maxLen) (hrs : root.size ≤ maxLen) (i0 : -9223372036854775808 ≤ i) (i1 : i ≤ 9223372036854775807) (n0 : -9223372036854775808 ≤ n) (n1 : n ≤ 9223372036854775807) :
    Calls Tryz.prog 38 #[.int .i64 i, .int .i64 n, .slice p ss.length cap, .string leaf, .string root] w fun e w' => e = .returned (.bool (conA i n ss leaf root)) ∧ Below w.heap.size w w' := by
  unfold maxLen at hls hrs
  have H0 : Hid (conA i n ss leaf root = if 1 ≤ i ∧ i ≤ n ∧ ss.length ≤ 64 ∧ leaf.size = 32 ∧ root.size = 32 ∧ wideB ss = true then conB i.toNat n.toNat ss leaf root else false) := rfl
  by_cases c3 : ss.length ≤ 64
  case neg =>
    have d1 : decide (64 < (ss.length : Int)) = true := decide_eq_true (by omega)
    have H : Hid (conA i n ss leaf root = false) := H0.out.trans (if_neg fun h => c3 h.2.2.1)
    go_enter Tryz.func38, Tryz.ntmps38
    go_wp2_with fail
    go_ret
    exact ⟨ret_bool H.out.symm, Below.refl _ _⟩
  have d1 : decide (64 < (ss.length : Int)) = false := decide_eq_false (by omega)
  have HD := wide2_any p cap ss w hp (by omega) hcap
  cases c6 : wideB ss
  · have H : Hid (conA i n ss leaf root = false) := H0.out.trans (if_neg fun h => by rw [c6] at h; exact absurd h.2.2.2.2.2 (by simp))
    rw [c6] at HD
    clear c6 hp
    go_enter Tryz.func38, Tryz.ntmps38
    go_wp2_with fail
    refine HD.mono ?_
    rintro e w1 ⟨rfl, hw1⟩
    subst hw1
    go_wp2_with fail
    go_ret
    exact ⟨ret_bool H.out.symm, Below.refl _ _⟩
  by_cases c4 : leaf.size = 32
  case neg =>
    have d2 : ((leaf.size : Int) != 32) = true := by simp; omega
    have H : Hid (conA i n ss leaf root = false) := H0.out.trans (if_neg fun h => c4 h.2.2.2.1)
    rw [c6] at HD
    clear c6 hp
    go_enter Tryz.func38, Tryz.ntmps38
    go_wp2_with fail
    refine HD.mono ?_
    rintro e w1 ⟨rfl, hw1⟩
    subst hw1
    go_wp2_with fail
    go_ret
    exact ⟨ret_bool H.out.symm, Below.refl _ _⟩
  have d2 : ((leaf.size : Int) != 32) = false := by simp; omega
  by_cases c5 : root.size = 32
  case neg =>
    have d3 : ((root.size : Int) != 32) = true := by simp; omega
    have H : Hid (conA i n ss leaf root = false) := H0.out.trans (if_neg fun h => c5 h.2.2.2.2.1)
    rw [c6] at HD
    clear c6 hp
    go_enter Tryz.func38, Tryz.ntmps38
    go_wp2_with fail
    refine HD.mono ?_
    rintro e w1 ⟨rfl, hw1⟩
    subst hw1
    go_wp2_with fail
    go_ret
    exact ⟨ret_bool H.out.symm, Below.refl _ _⟩
  have d3 : ((root.size : Int) != 32) = false := by simp; omega
  by_cases c1 : 1 ≤ i
  case neg =>
    have d4 : decide (i < 1) = true := decide_eq_true (by omega)
    have H : Hid (conA i n ss leaf root = false) := H0.out.trans (if_neg fun h => c1 h.1)
    rw [c6] at HD
    clear c6 hp c4 c5
    go_enter Tryz.func38, Tryz.ntmps38
    go_wp2_with fail
    refine HD.mono ?_
    rintro e w1 ⟨rfl, hw1⟩
    subst hw1
    go_wp2_with fail
    go_ret
    exact ⟨ret_bool H.out.symm, Below.refl _ _⟩
  have d4 : decide (i < 1) = false := decide_eq_false (by omega)
  by_cases c2 : i ≤ n
  case neg =>
    have d5 : decide (n < i) = true := decide_eq_true (by omega)
    have H : Hid (conA i n ss leaf root = false) := H0.out.trans (if_neg fun h => c2 h.2.1)
    rw [c6] at HD
    clear c6 hp c4 c5
    go_enter Tryz.func38, Tryz.ntmps38
    go_wp2_with fail
    refine HD.mono ?_
    rintro e w1 ⟨rfl, hw1⟩
    subst hw1
    go_wp2_with fail
    go_ret
    exact ⟨ret_bool H.out.symm, Below.refl _ _⟩
  rw [H0.out, if_pos ⟨c1, c2, c3, c4, c5, c6⟩]
  obtain ⟨I, rfl⟩ := Int.eq_ofNat_of_zero_le (show 0 ≤ i by omega)
  obtain ⟨M, rfl⟩ := Int.eq_ofNat_of_zero_le (show 0 ≤ n by omega)
  simp only [Int.toNat_natCast]
  by_cases he : I < M
  · cases hq : isPowB I
    · exact specCon_not I M p cap ss leaf root w hp c3 hcap (by omega) he (by omega) c4 c5 c6 hq
    · exact specCon_pow I M p cap ss leaf root w hp c3 hcap (by omega) he (by omega) c4 c5 c6 hq
  · have hIM : I = M := by omega
    have d4 : decide ((I : Int) < 1) = false := decide_eq_false (by omega)
    have d4' : decide (I < 1) = false := decide_eq_false (by omega)
    have d5 : decide ((M : Int) < (I : Int)) = false := decide_eq_false (by omega)
    have d6 : decide (M < I) = false := decide_eq_false (by omega)
    have d7 : ((I : Int) == (M : Int)) = true := by simp; omega
    have HR : Hid (conB I M ss leaf root = decide (ss.length = 0 ∧ leaf = root)) := by
      show _ = _
      unfold conB
      rw [hIM, pd_all, if_pos (show lft [] = true from rfl)]
      cases ss with
      | nil => simp [cl2]
      | cons a t => simp [cl2]
    rw [c6] at HD
    clear c6 hp c4 c5 hIM he H0
    generalize conB I M ss leaf root = R at *
    by_cases hz : ss.length = 0
    · have e1 : ((ss.length : Int) == 0) = true := beq_iff_eq.2 (by omega)
      have HR2 : Hid (R = (leaf.toList == root.toList)) := by
        show _ = _
        rw [HR.out]
        by_cases hq : leaf = root
        · subst hq; simp [hz]
        · rw [decide_eq_false (fun h => hq h.2)]
          exact (beq_eq_false_iff_ne.2 fun hh => hq (toList_inj' (by rw [hh]; simp))).symm
      clear HR hz
      go_enter Tryz.func38, Tryz.ntmps38
      go_wp2_with fail
      refine HD.mono ?_
      rintro e w1 ⟨rfl, hw1⟩
      subst hw1
      go_wp2_with fail
      go_ret
      exact ⟨ret_bool HR2.out.symm, Below.refl _ _⟩
    · have e1 : ((ss.length : Int) == 0) = false := beq_eq_false_iff_ne.2 (by omega)
      have HR2 : Hid (R = false) := HR.out.trans (decide_eq_false (fun h => hz h.1))
      clear HR
      go_enter Tryz.func38, Tryz.ntmps38
      go_wp2_with fail
      refine HD.mono ?_
      rintro e w1 ⟨rfl, hw1⟩
      subst hw1
      go_wp2_with fail
      go_ret
      exact ⟨ret_bool HR2.out.symm, Below.refl _ _⟩
end Go.Proofs.YtonleickhincgaaGreatDoor
