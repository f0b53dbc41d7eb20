/-
  Parts of one proof, laid as one text: FldIs, TimeI, GrK, SpecGN, SpecGT, TillTwo, FldN; what each says stands at its head.
-/
import Derived.Test.YtonleickhincgaaGreatDoorRows
import Derived.Test.YtonleickhincgaaGreatDoorTimeBPutMathPutNumJoinedPutTextFldMath
import Derived.Handy
import Derived.WalkSpells
import Derived.OwnWalk
import Derived.Test.YtonleickhincgaaGreatDoorBytesDigMath
import Derived.Test.YtonleickhincgaaGreatDoorTreeMathSlABxKSlBOwnS
import Derived.Test.YtonleickhincgaaGreatDoorImplVerInc2SignRSignWFldRiseScanMath
import Derived.Test.YtonleickhincgaaGreatDoorGetValGetTxtNumMathFldRdNumFromTmbMathLgMath
import Derived.Deep.RegionHeld3
import Derived.Test.YtonleickhincgaaGreatDoorLgLawTakesTakesLPutterPathI
import Derived.Deep.Cut
import Derived.Deep.CutRange
/-
  What the specification's l07Is and l07Time answer.
-/
namespace Go.Proofs.YtonleickhincgaaGreatDoor
open Go.RowKit Go.Lib
set_option linter.unusedVariables false
set_option maxRecDepth 20000

theorem l07Is_any (n lo hi : Int) (w : World) : Calls Tryz.prog 45 #[.int .i64 n, .int .i64 lo, .int .i64 hi] w fun e w' => e = .returned (.bool (decide (lo ≤ n ∧ n ≤ hi))) ∧ w' = w := by
  by_cases h1 : lo ≤ n
  · have d1 : decide (lo ≤ n) = true := decide_eq_true h1
    by_cases h2 : n ≤ hi
    · have d2 : decide (n ≤ hi) = true := decide_eq_true h2
      rw [decide_eq_true (And.intro h1 h2)]
      clear h1 h2
      go_enter Tryz.func45, Tryz.ntmps45
      go_wp2_with fail
      go_ret
      exact ⟨rfl, rfl⟩
    · have d2 : decide (n ≤ hi) = false := decide_eq_false h2
      rw [decide_eq_false (fun h => h2 h.2)]
      clear h1 h2
      go_enter Tryz.func45, Tryz.ntmps45
      go_wp2_with fail
      go_ret
      exact ⟨rfl, rfl⟩
  · have d1 : decide (lo ≤ n) = false := decide_eq_false h1
    rw [decide_eq_false (fun h => h1 h.1)]
    clear h1
    go_enter Tryz.func45, Tryz.ntmps45
    go_wp2_with fail
    go_ret
    exact ⟨rfl, rfl⟩
theorem l07Time_any (n : Int) (w : World) : Calls Tryz.prog 72 #[.int .i64 n] w fun e w' => e = .returned (.bool (timeB n)) ∧ w' = w := by
  have h := l07Is_any n 0 1000000 w
  unfold timeB
  generalize decide (0 ≤ n ∧ n ≤ 1000000) = bo at *
  go_enter Tryz.func72, Tryz.ntmps72
  go_wp2_with fail
  refine h.mono ?_
  rintro e w1 ⟨rfl, rfl⟩
  go_wp2_with fail
  go_ret
  exact ⟨rfl, rfl⟩
end Go.Proofs.YtonleickhincgaaGreatDoor
/-
  What the program's timeRight answers.
-/
namespace Go.Proofs.YtonleickhincgaaGreatDoor
open Go.RowKit Go.Lib
set_option linter.unusedVariables false
set_option maxRecDepth 20000

theorem timeRight_any (n : Int) (w : World) : Calls Tryz.prog 151 #[.int .i64 n] w fun e w' => e = .returned (.bool (timeB n)) ∧ w' = w := by
  unfold timeB
  by_cases h1 : 0 ≤ n
  · have d1 : decide (0 ≤ n) = true := decide_eq_true h1
    by_cases h2 : n ≤ 1000000
    · have d2 : decide (n ≤ 1000000) = true := decide_eq_true h2
      rw [decide_eq_true (And.intro h1 h2)]
      clear h1 h2
      go_enter Tryz.func151, Tryz.ntmps151
      go_wp2_with fail
      go_ret
      exact ⟨rfl, rfl⟩
    · have d2 : decide (n ≤ 1000000) = false := decide_eq_false h2
      rw [decide_eq_false (fun h => h2 h.2)]
      clear h1 h2
      go_enter Tryz.func151, Tryz.ntmps151
      go_wp2_with fail
      go_ret
      exact ⟨rfl, rfl⟩
  · have d1 : decide (0 ≤ n) = false := decide_eq_false h1
    rw [decide_eq_false (fun h => h1 h.1)]
    clear h1
    go_enter Tryz.func151, Tryz.ntmps151
    go_wp2_with fail
    go_ret
    exact ⟨rfl, rfl⟩
end Go.Proofs.YtonleickhincgaaGreatDoor
/-
  A world that has grown, one block turned: steps of it.
-/
namespace Go.Proofs.YtonleickhincgaaGreatDoor
open Go.RowKit Go.Lib
set_option linter.unusedVariables false

theorem grown_below {w x : World} {P : Nat} (h : Below w.heap.size w x) : w.grownBy x (some P) := ⟨h.os, h.tape, h.output, h.size, fun g hg _ => h.block g hg⟩
theorem grown_set {w x : World} {P : Nat} (h : w.grownBy x (some P)) (i : Nat) (v : Value) : w.grownBy (x.setCell ⟨P, i, none⟩ v) (some P) := by
  refine ⟨h.os, h.tape, h.output, ?_, fun g hg hne => ?_⟩
  · have := h.size
    simpa [World.setCell] using this
  · have hne' : P ≠ g := fun e => hne (by rw [e])
    rw [show (x.setCell ⟨P, i, none⟩ v).heap[g]? = x.heap[g]? by simp [World.setCell, Array.getElem?_modify, hne']]
    exact h.block g hg hne
theorem grown_trans {a b c : World} {P : Nat} (h : a.grownBy b (some P)) (k : b.grownBy c (some P)) : a.grownBy c (some P) :=
  ⟨k.os.trans h.os, k.tape.trans h.tape, k.output.trans h.output, Nat.le_trans h.size k.size, fun g hg hne => (k.block g (Nat.lt_of_lt_of_le hg h.size) hne).trans (h.block g hg hne)⟩
theorem grown_drew {a b : World} {P : Nat} (h : a.grownBy b (some P)) : a.grownBy b.drew (some P) := ⟨h.os, h.tape, h.output, h.size, h.block⟩
/-- Behind a growth that turns a block of one's own all below is as it was. -/
theorem below_turned {B : Nat} {a x y : World} {P : Nat} (h : Below B a x) (k : x.grownBy y (some P)) (hx : B ≤ x.heap.size) (hP : B ≤ P) : Below B a y :=
  h.grown k hx (fun j hj => by have := hj; simp at this; omega)
end Go.Proofs.YtonleickhincgaaGreatDoor
/-
  What the specification's GetNum answers: 'getN' of the text and the place, in new memory.
  Conditions: the string fits the form's own reach; the place is an int64.
-/
namespace Go.Proofs.YtonleickhincgaaGreatDoor
open Go.RowKit
set_option linter.unusedVariables false

set_option maxRecDepth 20000 in
set_option maxHeartbeats 2000000 in
theorem specGetNum_any (s : ByteArray) (at0 : Int) (w : World) (hs : s.size ≤ maxLen) (h1 : at0 ≤ 9223372036854775807) :
    Calls Tryz.prog 96 #[.string s, .int .i64 at0] w fun e w' => e = .returned (getV s at0) ∧ Below w.heap.size w w' := by
  unfold maxLen at hs
  by_cases hb : 8000 < s.size
  · have H : Hid (getV s at0 = numOut 0 0 2) := getV_size hb
    go_enter Tryz.func96, Tryz.ntmps96
    go_wp2
    go_returns
    exact ⟨ret_valN (H.out.trans rfl).symm, (Below.refl _ _).alloc (Nat.le_refl _) _⟩
  by_cases h0 : at0 < 0
  · have H : Hid (getV s at0 = numOut 0 0 1) := getV_form hb h0
    go_enter Tryz.func96, Tryz.ntmps96
    go_wp2
    go_returns
    exact ⟨ret_valN (H.out.trans rfl).symm, (Below.refl _ _).alloc (Nat.le_refl _) _⟩
  obtain ⟨a, ha⟩ : ∃ a : Nat, at0 = a := ⟨at0.toNat, by omega⟩
  subst ha
  have d1 : decide (8000 < (s.size : Int)) = false := by simp; omega
  have d2 : decide ((a : Int) < 0) = false := by simp
  have HB : Hid (¬ 8000 < s.size) := hb
  go_enter Tryz.func96, Tryz.ntmps96
  go_wp2
  go_loop [5, 6] (fun x i => ∃ (k : Nat) (u : Int), i = .int .i64 k ∧ x = .int .u64 u ∧ Hid (GetTo s a k u)) (fun _ i => 10 - (Go.RowKit.intOf i).toNat)
  case atStart => exact ⟨0, 0, rfl, rfl, getTo_start s a⟩
  case round =>
    obtain ⟨k, u, rfl, rfl, HT⟩ := hrel
    have hk : k ≤ 9 := HT.out.1
    have hu0 : 0 ≤ u := HT.out.2.1
    have hu1 : Hid (u < 2 ^ (7 * k)) := HT.out.2.2.1
    by_cases hl : s.size ≤ a + k
    · have H : Hid (getV s (a : Int) = numOut 0 0 4) := getV_bad HB.out (by decide) (getTo_short HT.out hl)
      go_wp2
      go_returns
      exact ⟨ret_valN (H.out.trans rfl).symm, (Below.refl _ _).alloc (Nat.le_refl _) _⟩
    have hak : a + k < s.size := by omega
    have hcb : (s[a + k].toNat : Int) ≤ 255 := by have := s[a + k].toNat_lt; omega
    by_cases hbig : k = 9 ∧ 1 < (s[a + k].toNat : Int)
    · have H : Hid (getV s (a : Int) = numOut 0 0 3) := getV_bad HB.out (by decide) (getTo_big HT.out hak hbig.1 hbig.2)
      have k9 : ((k : Int) == 9) = true := by simp; omega
      obtain ⟨e9, hc1⟩ := hbig
      clear e9
      go_wp2
      go_returns
      exact ⟨ret_valN (H.out.trans rfl).symm, (Below.refl _ _).alloc (Nat.le_refl _) _⟩
    by_cases hc : 128 ≤ (s[a + k].toNat : Int)
    · have hk8 : k ≤ 8 := by omega
      have k9 : ((k : Int) == 9) = false := by simp; omega
      have HM : Hid (GetTo s a (k + 1) (u + ((s[a + k].toNat : Int) - 128) * 2 ^ (7 * k))) := getTo_more HT.out hak hk8 hc
      have HA : Hid (IntKind.u64.wrap (u + IntKind.u64.wrap ((s[a + k].toNat : Int) % 128 * 2 ^ (7 * k))) = u + ((s[a + k].toNat : Int) - 128) * 2 ^ (7 * k)) := by
        show _ = _
        rw [spec_add hk hu0 hu1.out (by omega) (by omega) (by omega), show (s[a + k].toNat : Int) % 128 = (s[a + k].toNat : Int) - 128 by omega]
      clear hbig hb
      go_wp2
      go_round
      case rel => exact ⟨k + 1, _, by go_num, by rw [HA.out], HM⟩
      case measure => simp [Go.RowKit.intOf]; omega
    · have h9 : k = 9 → (s[a + k].toNat : Int) ≤ 1 := fun e => by omega
      obtain ⟨v, hv⟩ : ∃ v, v = u + (s[a + k].toNat : Int) * 2 ^ (7 * k) := ⟨_, rfl⟩
      have hvb := add_fits (x := (s[a + k].toNat : Int)) hk hu0 hu1.out (by omega) (by omega) h9
      have hA : IntKind.u64.wrap (u + IntKind.u64.wrap ((s[a + k].toNat : Int) % 128 * 2 ^ (7 * k))) = v := by
        rw [show (s[a + k].toNat : Int) % 128 = (s[a + k].toNat : Int) by omega, spec_add hk hu0 hu1.out (by omega) (by omega) h9, hv]
      have v0 : 0 ≤ v := by omega
      have v1 : v ≤ 18446744073709551615 := by omega
      have HV : Hid (v = u + (s[a + k].toNat : Int) * 2 ^ (7 * k)) := hv
      have H9 : Hid (k = 9 → (s[a + k].toNat : Int) ≤ 1) := h9
      clear hv hvb hbig hb h9
      by_cases hz : (s[a + k].toNat : Int) = 0 ∧ 0 < k
      · have H : Hid (getV s (a : Int) = numOut 0 0 3) := getV_bad HB.out (by decide) (getTo_zero HT.out hak hz.1 hz.2)
        have c0 : ((s[a + k].toNat : Int) == 0) = true := by simp; omega
        have hkp : 0 < k := hz.2
        have c1 : (s[a + k].toNat : Int) ≤ 0 := by omega
        clear hz
        cases k9 : ((k : Int) == 9)
        · go_wp2
          go_returns
          exact ⟨ret_valN (H.out.trans rfl).symm, (Below.refl _ _).alloc (Nat.le_refl _) _⟩
        · go_wp2
          go_returns
          exact ⟨ret_valN (H.out.trans rfl).symm, (Below.refl _ _).alloc (Nat.le_refl _) _⟩
      · have H : Hid (getV s (a : Int) = numOut (unfoldN v) ((a : Int) + (k : Int) + 1) 0) := by
          show _ = _
          rw [getV_ok HB.out (getTo_ok HT.out hak (by omega) H9.out (fun hp hc0 => hz ⟨hc0, hp⟩)), ← HV.out]
          congr 1
        have h9i : ((k : Int) == 9) = true → (s[a + k].toNat : Int) ≤ 1 := fun e => H9.out (by simp at e; omega)
        have hzi : ((s[a + k].toNat : Int) == 0) = true → (k : Int) ≤ 0 := fun e => by simp at e; omega
        have H9i : Hid (((k : Int) == 9) = true → (s[a + k].toNat : Int) ≤ 1) := h9i
        have Hzi : Hid (((s[a + k].toNat : Int) == 0) = true → (k : Int) ≤ 0) := hzi
        clear hz h9i hzi
        cases hp : (v % 2 == 1)
        · have HU : Hid (unfoldN v = v / 2) := if_neg (by simp at hp; omega)
          cases k9 : ((k : Int) == 9)
          · cases c0 : ((s[a + k].toNat : Int) == 0)
            · go_wp2
              go_returns
              exact ⟨ret_valN (by rw [H.out, HU.out]; rfl), (Below.refl _ _).alloc (Nat.le_refl _) _⟩
            · have hk0 := Hzi.out c0
              go_wp2
              go_returns
              exact ⟨ret_valN (by rw [H.out, HU.out]; rfl), (Below.refl _ _).alloc (Nat.le_refl _) _⟩
          · have hc1 := H9i.out k9
            cases c0 : ((s[a + k].toNat : Int) == 0)
            · go_wp2
              go_returns
              exact ⟨ret_valN (by rw [H.out, HU.out]; rfl), (Below.refl _ _).alloc (Nat.le_refl _) _⟩
            · have hk0 := Hzi.out c0
              exfalso
              simp at k9; omega
        · have HU : Hid (unfoldN v = -(v / 2) - 1) := if_pos (by simpa using hp)
          cases k9 : ((k : Int) == 9)
          · cases c0 : ((s[a + k].toNat : Int) == 0)
            · go_wp2
              go_returns
              exact ⟨ret_valN (by rw [H.out, HU.out]; rfl), (Below.refl _ _).alloc (Nat.le_refl _) _⟩
            · have hk0 := Hzi.out c0
              go_wp2
              go_returns
              exact ⟨ret_valN (by rw [H.out, HU.out]; rfl), (Below.refl _ _).alloc (Nat.le_refl _) _⟩
          · have hc1 := H9i.out k9
            cases c0 : ((s[a + k].toNat : Int) == 0)
            · go_wp2
              go_returns
              exact ⟨ret_valN (by rw [H.out, HU.out]; rfl), (Below.refl _ _).alloc (Nat.le_refl _) _⟩
            · have hk0 := Hzi.out c0
              exfalso
              simp at k9; omega
end Go.Proofs.YtonleickhincgaaGreatDoor
/-
  What the specification's GetText answers: 'getTV' of the text and the place, in new memory.
  Conditions: the string fits the form's own reach; the place is an int64.
-/
namespace Go.Proofs.YtonleickhincgaaGreatDoor
open Go.RowKit Go.Extern.Stop Go.Stop Go.Extern
set_option linter.unusedVariables false

set_option maxHeartbeats 2000000 in
theorem specGetText_any (s : ByteArray) (at0 : Int) (w : World) (hs : s.size ≤ maxLen) (h1 : at0 ≤ 9223372036854775807) :
    Calls Tryz.prog 97 #[.string s, .int .i64 at0] w fun e w' => e = .returned (getTV s at0) ∧ Below w.heap.size w w' := by
  rcases getN_cases s at0 with ⟨n, b, hgn⟩ | ⟨c, hc, hgn⟩
  · obtain ⟨b0, b1, hs8, n0, n1⟩ := getN_ok hgn
    have HV : Hid (getV s at0 = .agg #[.int .i64 n, .int .i64 b, .int .i64 0]) := by show _ = _; unfold getV; rw [hgn]; rfl
    by_cases hn0 : n < 0
    · have H : Hid (getTV s at0 = txt ByteArray.empty 0 3) := getTV_syn hgn (.inl hn0)
      have d1 : decide (n < 0) = true := by simp; omega
      clear hgn
      go_enter Tryz.func97, Tryz.ntmps97
      go_wp2_with fail
      refine (specGetNum_any _ _ _ hs h1).mono ?_
      rintro e w1 ⟨rfl, hb1⟩
      rw [HV.out]
      have hh := held_box hb1
      have hf := held_free hb1
      have hz : w.heap.size + 1 ≤ w1.heap.size := by have := hb1.size; simp at this; omega
      go_wp2_with fail
      refine bodyPost_ret (v := txt ByteArray.empty 0 3) (by simp [txt, results, Tryz.results97, go_sem, hh]; rfl) rfl ⟨ret_valN H.out.symm, ?_⟩
      exact ((((((Below.refl _ _).alloc (Nat.le_refl _) _).trans (hb1.mono (by simp))).alloc (by omega) _).setCell (Nat.le_refl _) _).setCell (Nat.le_refl _) _).setCell (Nat.le_refl _) _
    have d1 : decide (n < 0) = false := by simp; omega
    by_cases hn1 : 8000 < n
    · have H : Hid (getTV s at0 = txt ByteArray.empty 0 3) := getTV_syn hgn (.inr hn1)
      have d2 : decide (8000 < n) = true := by simp; omega
      clear hgn
      go_enter Tryz.func97, Tryz.ntmps97
      go_wp2_with fail
      refine (specGetNum_any _ _ _ hs h1).mono ?_
      rintro e w1 ⟨rfl, hb1⟩
      rw [HV.out]
      have hh := held_box hb1
      have hf := held_free hb1
      have hz : w.heap.size + 1 ≤ w1.heap.size := by have := hb1.size; simp at this; omega
      go_wp2_with fail
      refine bodyPost_ret (v := txt ByteArray.empty 0 3) (by simp [txt, results, Tryz.results97, go_sem, hh]; rfl) rfl ⟨ret_valN H.out.symm, ?_⟩
      exact ((((((Below.refl _ _).alloc (Nat.le_refl _) _).trans (hb1.mono (by simp))).alloc (by omega) _).setCell (Nat.le_refl _) _).setCell (Nat.le_refl _) _).setCell (Nat.le_refl _) _
    have d2 : decide (8000 < n) = false := by simp; omega
    by_cases hl : (s.size : Int) < b + n
    · have H : Hid (getTV s at0 = txt ByteArray.empty 0 4) := getTV_short hgn (by omega) hl
      clear hgn
      go_enter Tryz.func97, Tryz.ntmps97
      go_wp2_with fail
      refine (specGetNum_any _ _ _ hs h1).mono ?_
      rintro e w1 ⟨rfl, hb1⟩
      rw [HV.out]
      have hh := held_box hb1
      have hf := held_free hb1
      have hz : w.heap.size + 1 ≤ w1.heap.size := by have := hb1.size; simp at this; omega
      go_wp2_with fail
      refine bodyPost_ret (v := txt ByteArray.empty 0 4) (by simp [txt, results, Tryz.results97, go_sem, hh]; rfl) rfl ⟨ret_valN H.out.symm, ?_⟩
      exact ((((((Below.refl _ _).alloc (Nat.le_refl _) _).trans (hb1.mono (by simp))).alloc (by omega) _).setCell (Nat.le_refl _) _).setCell (Nat.le_refl _) _).setCell (Nat.le_refl _) _
    · have H : Hid (getTV s at0 = txt (s.extract b.toNat (b + n).toNat) (b + n) 0) := getTV_ok hgn (by omega) hl
      clear hgn
      go_enter Tryz.func97, Tryz.ntmps97
      go_wp2_with fail
      refine (specGetNum_any _ _ _ hs h1).mono ?_
      rintro e w1 ⟨rfl, hb1⟩
      rw [HV.out]
      have hh := held_box hb1
      have hf := held_free hb1
      have hz : w.heap.size + 1 ≤ w1.heap.size := by have := hb1.size; simp at this; omega
      have hbel : Below w.heap.size w (w1.alloc (.cells #[.int .i64 n, .int .i64 b, .int .i64 0] 150)) := (((Below.refl _ _).alloc (Nat.le_refl _) _).trans (hb1.mono (by simp))).alloc (by omega) _
      have r0 := hh (.cells #[.int .i64 n, .int .i64 b, .int .i64 0] 150) 0
      have r1 := hh (.cells #[.int .i64 n, .int .i64 b, .int .i64 0] 150) 1
      have r2 := hh (.cells #[.int .i64 n, .int .i64 b, .int .i64 0] 150) 2
      have f0 := hf (.cells #[.int .i64 n, .int .i64 b, .int .i64 0] 150) 0
      have f1 := hf (.cells #[.int .i64 n, .int .i64 b, .int .i64 0] 150) 1
      have f2 := hf (.cells #[.int .i64 n, .int .i64 b, .int .i64 0] 150) 2
      have g0 : (w1.alloc (.cells #[.int .i64 n, .int .i64 b, .int .i64 0] 150)).cell? ⟨w1.heap.size, 0, none⟩ = some (.int .i64 n) := by simp
      have g1 : (w1.alloc (.cells #[.int .i64 n, .int .i64 b, .int .i64 0] 150)).cell? ⟨w1.heap.size, 1, none⟩ = some (.int .i64 b) := by simp
      have hwr : IntKind.i64.wrap (b + n) = b + n := by rw [IntKind.wrap_i64]; omega
      have hsl := fun wx => run_slice_string (P := Tryz.prog) wx 9 s .i64 .i64 b (b + n) Tryz.underlying9 (by omega) (by omega) (by omega)
      go_wp2_with fail
      simp only [List.getElem?_toArray, List.getElem?_cons_zero, List.getElem?_cons_succ] at r0 r1 r2
      clear hh hf hb1
      have hne : ¬ w1.heap.size = w.heap.size := by omega
      have hne' : ¬ w.heap.size = w1.heap.size := by omega
      generalize w1.heap.size = q at *
      generalize w1.alloc (.cells #[.int .i64 n, .int .i64 b, .int .i64 0] 150) = W at *
      go_region_held3 (fun w' => w'.cell? ⟨q, 0, none⟩ = some (.int .i64 n) ∧ w'.cell? ⟨q, 1, none⟩ = some (.int .i64 b)) (go_keep) (fail)
      all_goals go_wp2
      refine bodyPost_ret (v := txt (s.extract b.toNat (b + n).toNat) (b + n) 0) (by simp [txt, results, Tryz.results97, go_sem, r0, r1, r2]) rfl ⟨ret_valN H.out.symm, ?_⟩
      exact (((hbel.setCell (Nat.le_refl _) _).setCell (Nat.le_refl _) _).setCell (Nat.le_refl _) _).drew
  · have HV : Hid (getV s at0 = .agg #[.int .i64 0, .int .i64 0, .int .i64 c]) := by show _ = _; unfold getV; rw [hgn]; rfl
    have H : Hid (getTV s at0 = txt ByteArray.empty 0 c) := getTV_bad hgn hc
    have c0 : (c != 0) = true := by simpa using hc
    clear hgn hc
    go_enter Tryz.func97, Tryz.ntmps97
    go_wp2_with fail
    refine (specGetNum_any _ _ _ hs h1).mono ?_
    rintro e w1 ⟨rfl, hb1⟩
    rw [HV.out]
    have hh := held_box hb1
    have hf := held_free hb1
    have hz : w.heap.size + 1 ≤ w1.heap.size := by have := hb1.size; simp at this; omega
    go_wp2_with fail
    refine bodyPost_ret (v := txt ByteArray.empty 0 c) (by simp [txt, results, Tryz.results97, go_sem, hh]; rfl) rfl ⟨ret_valN H.out.symm, ?_⟩
    exact ((((((Below.refl _ _).alloc (Nat.le_refl _) _).trans (hb1.mono (by simp))).alloc (by omega) _).setCell (Nat.le_refl _) _).setCell (Nat.le_refl _) _).setCell (Nat.le_refl _) _

end Go.Proofs.YtonleickhincgaaGreatDoor
/-
  Two operations of a drawing region that are ready at once, each order written out.
-/
namespace Go.Proofs.YtonleickhincgaaGreatDoor
open Go.RowKit Go.Lib
set_option linter.unusedVariables false

theorem till_ready2 {P : Program} {ops : Array Oper} {Q : Exit → Act → World → Prop} {md : Region.Mode} {S : World → Prop} {l : Nat} (i j : Nat) {oi oj : Oper} {fuel : Nat} {listed : Array Bool} {a : Act} {w : World} (hi : ops.toList[i]? = some oi) (hj : ops.toList[j]? = some oj) (hr : Region.ready md ops listed = [i, j])
    (h1 : ∀ K' : Act → World → Prop, Shut (∀ a w, S w → (S w → AnyTill P md ops Q S l fuel (listed.setIfInBounds i true) a w) → K' a w) → if Region.wanted oi (yielded ops a.tmps) = true then Oper.wp P oi a w K' Q else K' (a.put oi.dst undef) w)
    (h2 : ∀ K' : Act → World → Prop, Shut (∀ a w, S w → (S w → AnyTill P md ops Q S l fuel (listed.setIfInBounds j true) a w) → K' a w) → if Region.wanted oj (yielded ops a.tmps) = true then Oper.wp P oj a w K' Q else K' (a.put oj.dst undef) w) : AnyTill P md ops Q S l (fuel + 1) listed a w :=
  ⟨fun h0 => absurd (hr ▸ h0) (by simp), fun k hk => by
    rw [hr] at hk
    have hk' : k = i ∨ k = j := by simpa using hk
    rcases hk' with rfl | rfl
    · exact wpOp_step (by rw [← hi]; simp) (fun K' hK => h1 K' (fun a w hS hW => hK a w ⟨fun _ => hS, hW hS⟩))
    · exact wpOp_step (by rw [← hj]; simp) (fun K' hK => h2 K' (fun a w hS hW => hK a w ⟨fun _ => hS, hW hS⟩))⟩
end Go.Proofs.YtonleickhincgaaGreatDoor
/-
  What the specification's reader of numbers and texts answers: num, text, many.
  Conditions: the reader's box holds the text, the place and the flag.
-/
namespace Go.Proofs.YtonleickhincgaaGreatDoor
open Go.RowKit Go.Lib
set_option linter.unusedVariables false
set_option maxRecDepth 20000

set_option maxHeartbeats 4000000 in
theorem rdNum_any (P : Nat) (t : ByteArray) (a : Int) (bd : Bool) (w : World) (hp : Bxs w P 81 #[.string t, .int .i64 a, .bool bd]) (ht : t.size ≤ 8000) (a1 : a ≤ 9223372036854775807) :
    Calls Tryz.prog 43 #[.pointer (some ⟨P, 0, none⟩)] w fun e w' => e = .returned (.int .i64 (rnN t a bd)) ∧ Bxs w' P 81 #[.string t, .int .i64 (rnA t a bd), .bool (rnB t a bd)] ∧ w.grownBy w' (some P) := by
  have HP : Hid (Bxs w P 81 #[.string t, .int .i64 a, .bool bd]) := hp
  have HPl : Hid (P < w.heap.size) := hp.lt
  obtain ⟨n, b, c, hg⟩ : ∃ (n : Int) (b c : Int), getN t a = (n, b, c) := ⟨_, _, _, rfl⟩
  have HB : Hid (rnB t a bd = (bd || (c != 0))) := by show (_ || _) = _; rw [hg]
  have HN : Hid (rnN t a bd = if (bd || (c != 0)) = true then 0 else n) := by show (if _ then _ else _) = _; rw [HB.out, hg]
  have HA : Hid (rnA t a bd = if (bd || (c != 0)) = true then a else b) := by show (if _ then _ else _) = _; rw [HB.out, hg]
  have HG : Hid (∀ x, Calls Tryz.prog 96 #[.string t, .int .i64 a] x fun e w' => e = .returned (.agg #[.int .i64 n, .int .i64 b, .int .i64 c]) ∧ Below x.heap.size x w') := fun x => by
    have h := specGetNum_any t a x (by unfold maxLen; omega) a1
    unfold getV numOut at h
    rw [hg] at h; exact h
  clear hg hp
  have BR : Hid (Below w.heap.size w w.drew) := (Below.refl _ _).drew
  have HY : Hid (∀ x, Below w.heap.size w x → x.cell? ⟨P, 0, none⟩ = some (.string t) ∧ x.cell? ⟨P, 1, none⟩ = some (.int .i64 a)) := fun x hx => ⟨(HP.out.below hx).cell 0, (HP.out.below hx).cell 1⟩
  have HEa : Hid (∀ y, Below w.heap.size w y → Bxs (y.alloc (.cells #[.int .i64 n, .int .i64 b, .int .i64 c] 150)) y.heap.size 150 #[.int .i64 n, .int .i64 b, .int .i64 c] ∧ Below w.heap.size w (y.alloc (.cells #[.int .i64 n, .int .i64 b, .int .i64 c] 150)) ∧ y.heap.size ≠ P) := fun y hy => ⟨Bxs.new _ _ _, alB hy _, by have := hy.size; have := HPl.out; omega⟩
  have HEb : Hid (∀ y, Below (w.alloc (.cells #[.int .i64 0, .int .i64 0, .int .i64 0] 150)).heap.size (w.alloc (.cells #[.int .i64 0, .int .i64 0, .int .i64 0] 150)) y → Below w.heap.size w y ∧ Bxs y w.heap.size 150 #[.int .i64 0, .int .i64 0, .int .i64 0]) := fun y hy => ⟨((Below.refl _ _).alloc (Nat.le_refl _) _).trans (hy.mono (by rw [szA]; omega)), (Bxs.new _ _ _).below hy⟩
  have HEc : Hid (∀ y, Below w.heap.size w y → Bxs y w.heap.size 150 #[.int .i64 0, .int .i64 0, .int .i64 0] → Bxs (((y.setCell ⟨w.heap.size, 0, none⟩ (.int .i64 n)).setCell ⟨w.heap.size, 1, none⟩ (.int .i64 b)).setCell ⟨w.heap.size, 2, none⟩ (.int .i64 c)) w.heap.size 150 #[.int .i64 n, .int .i64 b, .int .i64 c] ∧ Below w.heap.size w (((y.setCell ⟨w.heap.size, 0, none⟩ (.int .i64 n)).setCell ⟨w.heap.size, 1, none⟩ (.int .i64 b)).setCell ⟨w.heap.size, 2, none⟩ (.int .i64 c)) ∧ w.heap.size ≠ P) := fun y hy hk => ⟨((hk.set 0 _).set 1 _).set 2 _, below_set3 hy (Nat.le_refl _) _ _ _, by have := HPl.out; omega⟩
  go_enter Tryz.func43, Tryz.ntmps43
  go_upto_region 1 with fail
  go_cut [3] from 4 to 12 (fun s3 wx => ∃ N, s3 = .pointer (some ⟨N, 0, none⟩) ∧ Hid (Bxs wx N 150 #[.int .i64 n, .int .i64 b, .int .i64 c] ∧ Below w.heap.size w wx ∧ N ≠ P))
  case first =>
    refine region_till (fun w' => w'.cell? ⟨P, 0, none⟩ = some (.string t) ∧ w'.cell? ⟨P, 1, none⟩ = some (.int .i64 a)) 10 (by kernel_rfl) (HY.out _ BR.out) (fun hHeld => ?_)
    refine till_take 0 (v := ?_) rfl (by kernel_rfl) (by kernel_rfl) (by kernel_rfl) (by kernel_rfl) (fun _ _ _ h => h) hHeld (Or.inl ⟨by rfl, ?_⟩) ?_
    rotate_left
    · (intro w hSw; (try dsimp only at hSw); go_simp; try with_reducible rfl)
    simp only [Act.put, List.setIfInBounds_toArray, List.set_cons_zero, List.set_cons_succ]
    refine till_take 1 (v := ?_) rfl (by kernel_rfl) (by kernel_rfl) (by kernel_rfl) (by kernel_rfl) (fun _ _ _ h => h) hHeld (Or.inl ⟨by rfl, ?_⟩) ?_
    rotate_left
    · (intro w hSw; (try dsimp only at hSw); go_simp; try with_reducible rfl)
    simp only [Act.put, List.setIfInBounds_toArray, List.set_cons_zero, List.set_cons_succ]
    refine till_take 2 (v := ?_) rfl (by kernel_rfl) (by kernel_rfl) (by kernel_rfl) (by kernel_rfl) (fun _ _ _ h => h) hHeld (Or.inl ⟨by rfl, ?_⟩) ?_
    rotate_left
    · (intro w hSw; (try dsimp only at hSw); go_simp; try with_reducible rfl)
    simp only [Act.put, List.setIfInBounds_toArray, List.set_cons_zero, List.set_cons_succ]
    refine till_take 3 (v := ?_) rfl (by kernel_rfl) (by kernel_rfl) (by kernel_rfl) (by kernel_rfl) (fun _ _ _ h => h) hHeld (Or.inl ⟨by rfl, ?_⟩) ?_
    rotate_left
    · (intro w hSw; (try dsimp only at hSw); go_simp; try with_reducible rfl)
    simp only [Act.put, List.setIfInBounds_toArray, List.set_cons_zero, List.set_cons_succ]
    refine till_take 4 (v := ?_) rfl (by kernel_rfl) (by kernel_rfl) (by kernel_rfl) (by kernel_rfl) (fun _ _ _ h => h) hHeld (Or.inl ⟨by rfl, ?_⟩) ?_
    rotate_left
    · (intro w hSw; (try dsimp only at hSw); go_simp; try with_reducible rfl)
    simp only [Act.put, List.setIfInBounds_toArray, List.set_cons_zero, List.set_cons_succ]
    refine till_take 5 (v := ?_) rfl (by kernel_rfl) (by kernel_rfl) (by kernel_rfl) (by kernel_rfl) (fun _ _ _ h => h) hHeld (Or.inl ⟨by rfl, ?_⟩) ?_
    rotate_left
    · (intro w hSw; (try dsimp only at hSw); go_simp; try with_reducible rfl)
    simp only [Act.put, List.setIfInBounds_toArray, List.set_cons_zero, List.set_cons_succ]
    refine till_take 6 (v := ?_) rfl (by kernel_rfl) (by kernel_rfl) (by kernel_rfl) (by kernel_rfl) (fun _ _ _ h => h) hHeld (Or.inl ⟨by rfl, ?_⟩) ?_
    rotate_left
    · (intro w hSw; (try dsimp only at hSw); go_simp; try with_reducible rfl)
    simp only [Act.put, List.setIfInBounds_toArray, List.set_cons_zero, List.set_cons_succ]
    refine till_take 7 (v := ?_) rfl (by kernel_rfl) (by kernel_rfl) (by kernel_rfl) (by kernel_rfl) (fun _ _ _ h => h) hHeld (Or.inl ⟨by rfl, ?_⟩) ?_
    rotate_left
    · (intro w hSw; (try dsimp only at hSw); go_simp; try with_reducible rfl)
    simp only [Act.put, List.setIfInBounds_toArray, List.set_cons_zero, List.set_cons_succ]
    refine till_ready2 8 9 rfl rfl (by kernel_rfl) (fun K hK => ?_) (fun K hK => ?_)
    · go_simp
      (go_at_call 96; with_reducible refine (HG.out _).mono ?_; rintro e y ⟨rfl, z0⟩)
      have z1 : Below w.heap.size w y := chainB BR.out z0
      refine hK.out _ _ (HY.out _ z1) (fun hHeld => ?_)
      clear hK K
      try simp only [Act.put, List.setIfInBounds_toArray, List.set_cons_zero, List.set_cons_succ]
      refine till_ready 9 rfl (by kernel_rfl) (fun K hK => ?_)
      go_simp
      refine hK.out _ _ (HY.out _ (alB z1 _)) (fun hHeld => ?_)
      clear hK K
      try simp only [Act.put, List.setIfInBounds_toArray, List.set_cons_zero, List.set_cons_succ]
      refine till_last rfl (by kernel_rfl) (by kernel_rfl) (fun K hK => ?_)
      go_simp
      refine hK.out _ _ ?_
      clear hK K
      have HE : Hid _ := HEa.out y z1
      clear z0 z1 hHeld
      go_wp2_with fail
      go_meet
      exact ⟨_, rfl, HE⟩
    · go_simp
      refine hK.out _ _ (HY.out _ (alB BR.out _)) (fun hHeld => ?_)
      clear hK K
      try simp only [Act.put, List.setIfInBounds_toArray, List.set_cons_zero, List.set_cons_succ]
      refine till_ready 8 rfl (by kernel_rfl) (fun K hK => ?_)
      go_simp
      (go_at_call 96; with_reducible refine (HG.out _).mono ?_; rintro e y ⟨rfl, z0⟩)
      obtain ⟨z1, kb⟩ := HEb.out y (by first | exact z0 | exact chainB ((Below.refl _ _).drew) z0)
      refine hK.out _ _ (HY.out _ z1) (fun hHeld => ?_)
      clear hK K
      try simp only [Act.put, List.setIfInBounds_toArray, List.set_cons_zero, List.set_cons_succ]
      obtain ⟨k0, k1, k2⟩ : y.cell? ⟨w.heap.size, 0, none⟩ = some (.int .i64 0) ∧ y.cell? ⟨w.heap.size, 1, none⟩ = some (.int .i64 0) ∧ y.cell? ⟨w.heap.size, 2, none⟩ = some (.int .i64 0) := ⟨kb.cell 0, kb.cell 1, kb.cell 2⟩
      have g0 := kb.fr 0
      have g1 := kb.fr 1
      have g2 := kb.fr 2
      refine till_last rfl (by kernel_rfl) (by kernel_rfl) (fun K hK => ?_)
      go_simp
      refine hK.out _ _ ?_
      clear hK K
      have HE : Hid _ := HEc.out y z1 kb
      clear z0 z1 hHeld k0 k1 k2 g0 g1 g2 kb
      go_wp2_with fail
      go_meet
      exact ⟨_, rfl, HE⟩
  case rest =>
  obtain ⟨N, rfl, hE⟩ := hcut
  obtain ⟨p0, p1, p2⟩ : wc.cell? ⟨P, 0, none⟩ = some (.string t) ∧ wc.cell? ⟨P, 1, none⟩ = some (.int .i64 a) ∧ wc.cell? ⟨P, 2, none⟩ = some (.bool bd) := ⟨(HP.out.below hE.out.2.1).cell 0, (HP.out.below hE.out.2.1).cell 1, (HP.out.below hE.out.2.1).cell 2⟩
  have f1 := (HP.out.below hE.out.2.1).fr 1
  have f2 := (HP.out.below hE.out.2.1).fr 2
  obtain ⟨k0, k1, k2⟩ : wc.cell? ⟨N, 0, none⟩ = some (.int .i64 n) ∧ wc.cell? ⟨N, 1, none⟩ = some (.int .i64 b) ∧ wc.cell? ⟨N, 2, none⟩ = some (.int .i64 c) := ⟨hE.out.1.cell 0, hE.out.1.cell 1, hE.out.1.cell 2⟩
  have hNP : ¬ N = P := hE.out.2.2
  have hPN : ¬ P = N := fun h => hNP h.symm
  have HF1 : Hid (∀ v, Bxs (wc.setCell ⟨P, 1, none⟩ v) P 81 #[.string t, v, .bool bd] ∧ w.grownBy (wc.setCell ⟨P, 1, none⟩ v) (some P)) := fun v => ⟨(HP.out.below hE.out.2.1).set 1 v, grown_set (grown_below hE.out.2.1) 1 v⟩
  have HF2 : Hid (∀ v, Bxs (wc.setCell ⟨P, 2, none⟩ v) P 81 #[.string t, .int .i64 a, v] ∧ w.grownBy (wc.setCell ⟨P, 2, none⟩ v) (some P)) := fun v => ⟨(HP.out.below hE.out.2.1).set 2 v, grown_set (grown_below hE.out.2.1) 2 v⟩
  clear hE HEa HEb HEc HG HY BR
  cases bd with
  | true =>
    go_wp2_with fail
    go_ret
    rw [HN.out, HA.out, HB.out, Bool.true_or, if_pos rfl, if_pos rfl]
    exact ⟨rfl, HF2.out _⟩
  | false =>
  by_cases hc : c = 0
  · have c0 : (c != 0) = false := by simpa using hc
    clear hc
    go_wp2_with fail
    go_ret
    rw [HN.out, HA.out, HB.out, c0, Bool.false_or, if_neg Bool.false_ne_true, if_neg Bool.false_ne_true]
    exact ⟨rfl, HF1.out _⟩
  · have c0 : (c != 0) = true := by simpa using hc
    go_wp2_with fail
    go_ret
    rw [HN.out, HA.out, HB.out, c0, Bool.false_or, if_pos rfl, if_pos rfl]
    exact ⟨rfl, HF2.out _⟩
set_option maxHeartbeats 4000000 in
theorem rdText_any (P : Nat) (t : ByteArray) (a : Int) (bd : Bool) (w : World) (hp : Bxs w P 81 #[.string t, .int .i64 a, .bool bd]) (ht : t.size ≤ 8000) (a1 : a ≤ 9223372036854775807) :
    Calls Tryz.prog 44 #[.pointer (some ⟨P, 0, none⟩)] w fun e w' => e = .returned (.string (rtT t a bd)) ∧ Bxs w' P 81 #[.string t, .int .i64 (rtA t a bd), .bool (rtB t a bd)] ∧ w.grownBy w' (some P) := by
  have HP : Hid (Bxs w P 81 #[.string t, .int .i64 a, .bool bd]) := hp
  have HPl : Hid (P < w.heap.size) := hp.lt
  obtain ⟨n, b, c, hg⟩ : ∃ (n : ByteArray) (b c : Int), getT t a = (n, b, c) := ⟨_, _, _, rfl⟩
  have HB : Hid (rtB t a bd = (bd || (c != 0))) := by show (_ || _) = _; rw [hg]
  have HN : Hid (rtT t a bd = if (bd || (c != 0)) = true then ByteArray.empty else n) := by show (if _ then _ else _) = _; rw [HB.out, hg]
  have HA : Hid (rtA t a bd = if (bd || (c != 0)) = true then a else b) := by show (if _ then _ else _) = _; rw [HB.out, hg]
  have HG : Hid (∀ x, Calls Tryz.prog 97 #[.string t, .int .i64 a] x fun e w' => e = .returned (.agg #[.string n, .int .i64 b, .int .i64 c]) ∧ Below x.heap.size x w') := fun x => by
    have h := specGetText_any t a x (by unfold maxLen; omega) a1
    rw [getT_val] at h
    rw [hg] at h; exact h
  clear hg hp
  have BR : Hid (Below w.heap.size w w.drew) := (Below.refl _ _).drew
  have HY : Hid (∀ x, Below w.heap.size w x → x.cell? ⟨P, 0, none⟩ = some (.string t) ∧ x.cell? ⟨P, 1, none⟩ = some (.int .i64 a)) := fun x hx => ⟨(HP.out.below hx).cell 0, (HP.out.below hx).cell 1⟩
  have HEa : Hid (∀ y, Below w.heap.size w y → Bxs (y.alloc (.cells #[.string n, .int .i64 b, .int .i64 c] 153)) y.heap.size 153 #[.string n, .int .i64 b, .int .i64 c] ∧ Below w.heap.size w (y.alloc (.cells #[.string n, .int .i64 b, .int .i64 c] 153)) ∧ y.heap.size ≠ P) := fun y hy => ⟨Bxs.new _ _ _, alB hy _, by have := hy.size; have := HPl.out; omega⟩
  have HEb : Hid (∀ y, Below (w.alloc (.cells #[.string ⟨#[]⟩, .int .i64 0, .int .i64 0] 153)).heap.size (w.alloc (.cells #[.string ⟨#[]⟩, .int .i64 0, .int .i64 0] 153)) y → Below w.heap.size w y ∧ Bxs y w.heap.size 153 #[.string ⟨#[]⟩, .int .i64 0, .int .i64 0]) := fun y hy => ⟨((Below.refl _ _).alloc (Nat.le_refl _) _).trans (hy.mono (by rw [szA]; omega)), (Bxs.new _ _ _).below hy⟩
  have HEc : Hid (∀ y, Below w.heap.size w y → Bxs y w.heap.size 153 #[.string ⟨#[]⟩, .int .i64 0, .int .i64 0] → Bxs (((y.setCell ⟨w.heap.size, 0, none⟩ (.string n)).setCell ⟨w.heap.size, 1, none⟩ (.int .i64 b)).setCell ⟨w.heap.size, 2, none⟩ (.int .i64 c)) w.heap.size 153 #[.string n, .int .i64 b, .int .i64 c] ∧ Below w.heap.size w (((y.setCell ⟨w.heap.size, 0, none⟩ (.string n)).setCell ⟨w.heap.size, 1, none⟩ (.int .i64 b)).setCell ⟨w.heap.size, 2, none⟩ (.int .i64 c)) ∧ w.heap.size ≠ P) := fun y hy hk => ⟨((hk.set 0 _).set 1 _).set 2 _, below_set3 hy (Nat.le_refl _) _ _ _, by have := HPl.out; omega⟩
  go_enter Tryz.func44, Tryz.ntmps44
  go_upto_region 1 with fail
  go_cut [3] from 4 to 12 (fun s3 wx => ∃ N, s3 = .pointer (some ⟨N, 0, none⟩) ∧ Hid (Bxs wx N 153 #[.string n, .int .i64 b, .int .i64 c] ∧ Below w.heap.size w wx ∧ N ≠ P))
  case first =>
    refine region_till (fun w' => w'.cell? ⟨P, 0, none⟩ = some (.string t) ∧ w'.cell? ⟨P, 1, none⟩ = some (.int .i64 a)) 10 (by kernel_rfl) (HY.out _ BR.out) (fun hHeld => ?_)
    refine till_take 0 (v := ?_) rfl (by kernel_rfl) (by kernel_rfl) (by kernel_rfl) (by kernel_rfl) (fun _ _ _ h => h) hHeld (Or.inl ⟨by rfl, ?_⟩) ?_
    rotate_left
    · (intro w hSw; (try dsimp only at hSw); go_simp; try with_reducible rfl)
    simp only [Act.put, List.setIfInBounds_toArray, List.set_cons_zero, List.set_cons_succ]
    refine till_take 1 (v := ?_) rfl (by kernel_rfl) (by kernel_rfl) (by kernel_rfl) (by kernel_rfl) (fun _ _ _ h => h) hHeld (Or.inl ⟨by rfl, ?_⟩) ?_
    rotate_left
    · (intro w hSw; (try dsimp only at hSw); go_simp; try with_reducible rfl)
    simp only [Act.put, List.setIfInBounds_toArray, List.set_cons_zero, List.set_cons_succ]
    refine till_take 2 (v := ?_) rfl (by kernel_rfl) (by kernel_rfl) (by kernel_rfl) (by kernel_rfl) (fun _ _ _ h => h) hHeld (Or.inl ⟨by rfl, ?_⟩) ?_
    rotate_left
    · (intro w hSw; (try dsimp only at hSw); go_simp; try with_reducible rfl)
    simp only [Act.put, List.setIfInBounds_toArray, List.set_cons_zero, List.set_cons_succ]
    refine till_take 3 (v := ?_) rfl (by kernel_rfl) (by kernel_rfl) (by kernel_rfl) (by kernel_rfl) (fun _ _ _ h => h) hHeld (Or.inl ⟨by rfl, ?_⟩) ?_
    rotate_left
    · (intro w hSw; (try dsimp only at hSw); go_simp; try with_reducible rfl)
    simp only [Act.put, List.setIfInBounds_toArray, List.set_cons_zero, List.set_cons_succ]
    refine till_take 4 (v := ?_) rfl (by kernel_rfl) (by kernel_rfl) (by kernel_rfl) (by kernel_rfl) (fun _ _ _ h => h) hHeld (Or.inl ⟨by rfl, ?_⟩) ?_
    rotate_left
    · (intro w hSw; (try dsimp only at hSw); go_simp; try with_reducible rfl)
    simp only [Act.put, List.setIfInBounds_toArray, List.set_cons_zero, List.set_cons_succ]
    refine till_take 5 (v := ?_) rfl (by kernel_rfl) (by kernel_rfl) (by kernel_rfl) (by kernel_rfl) (fun _ _ _ h => h) hHeld (Or.inl ⟨by rfl, ?_⟩) ?_
    rotate_left
    · (intro w hSw; (try dsimp only at hSw); go_simp; try with_reducible rfl)
    simp only [Act.put, List.setIfInBounds_toArray, List.set_cons_zero, List.set_cons_succ]
    refine till_take 6 (v := ?_) rfl (by kernel_rfl) (by kernel_rfl) (by kernel_rfl) (by kernel_rfl) (fun _ _ _ h => h) hHeld (Or.inl ⟨by rfl, ?_⟩) ?_
    rotate_left
    · (intro w hSw; (try dsimp only at hSw); go_simp; try with_reducible rfl)
    simp only [Act.put, List.setIfInBounds_toArray, List.set_cons_zero, List.set_cons_succ]
    refine till_take 7 (v := ?_) rfl (by kernel_rfl) (by kernel_rfl) (by kernel_rfl) (by kernel_rfl) (fun _ _ _ h => h) hHeld (Or.inl ⟨by rfl, ?_⟩) ?_
    rotate_left
    · (intro w hSw; (try dsimp only at hSw); go_simp; try with_reducible rfl)
    simp only [Act.put, List.setIfInBounds_toArray, List.set_cons_zero, List.set_cons_succ]
    refine till_ready2 8 9 rfl rfl (by kernel_rfl) (fun K hK => ?_) (fun K hK => ?_)
    · go_simp
      (go_at_call 97; with_reducible refine (HG.out _).mono ?_; rintro e y ⟨rfl, z0⟩)
      have z1 : Below w.heap.size w y := chainB BR.out z0
      refine hK.out _ _ (HY.out _ z1) (fun hHeld => ?_)
      clear hK K
      try simp only [Act.put, List.setIfInBounds_toArray, List.set_cons_zero, List.set_cons_succ]
      refine till_ready 9 rfl (by kernel_rfl) (fun K hK => ?_)
      go_simp
      refine hK.out _ _ (HY.out _ (alB z1 _)) (fun hHeld => ?_)
      clear hK K
      try simp only [Act.put, List.setIfInBounds_toArray, List.set_cons_zero, List.set_cons_succ]
      refine till_last rfl (by kernel_rfl) (by kernel_rfl) (fun K hK => ?_)
      go_simp
      refine hK.out _ _ ?_
      clear hK K
      have HE : Hid _ := HEa.out y z1
      clear z0 z1 hHeld
      go_wp2_with fail
      go_meet
      exact ⟨_, rfl, HE⟩
    · go_simp
      refine hK.out _ _ (HY.out _ (alB BR.out _)) (fun hHeld => ?_)
      clear hK K
      try simp only [Act.put, List.setIfInBounds_toArray, List.set_cons_zero, List.set_cons_succ]
      refine till_ready 8 rfl (by kernel_rfl) (fun K hK => ?_)
      go_simp
      (go_at_call 97; with_reducible refine (HG.out _).mono ?_; rintro e y ⟨rfl, z0⟩)
      obtain ⟨z1, kb⟩ := HEb.out y (by first | exact z0 | exact chainB ((Below.refl _ _).drew) z0)
      refine hK.out _ _ (HY.out _ z1) (fun hHeld => ?_)
      clear hK K
      try simp only [Act.put, List.setIfInBounds_toArray, List.set_cons_zero, List.set_cons_succ]
      obtain ⟨k0, k1, k2⟩ : y.cell? ⟨w.heap.size, 0, none⟩ = some (.string ByteArray.empty) ∧ y.cell? ⟨w.heap.size, 1, none⟩ = some (.int .i64 0) ∧ y.cell? ⟨w.heap.size, 2, none⟩ = some (.int .i64 0) := ⟨kb.cell 0, kb.cell 1, kb.cell 2⟩
      have g0 := kb.fr 0
      have g1 := kb.fr 1
      have g2 := kb.fr 2
      refine till_last rfl (by kernel_rfl) (by kernel_rfl) (fun K hK => ?_)
      go_simp
      refine hK.out _ _ ?_
      clear hK K
      have HE : Hid _ := HEc.out y z1 kb
      clear z0 z1 hHeld k0 k1 k2 g0 g1 g2 kb
      go_wp2_with fail
      go_meet
      exact ⟨_, rfl, HE⟩
  case rest =>
  obtain ⟨N, rfl, hE⟩ := hcut
  obtain ⟨p0, p1, p2⟩ : wc.cell? ⟨P, 0, none⟩ = some (.string t) ∧ wc.cell? ⟨P, 1, none⟩ = some (.int .i64 a) ∧ wc.cell? ⟨P, 2, none⟩ = some (.bool bd) := ⟨(HP.out.below hE.out.2.1).cell 0, (HP.out.below hE.out.2.1).cell 1, (HP.out.below hE.out.2.1).cell 2⟩
  have f1 := (HP.out.below hE.out.2.1).fr 1
  have f2 := (HP.out.below hE.out.2.1).fr 2
  obtain ⟨k0, k1, k2⟩ : wc.cell? ⟨N, 0, none⟩ = some (.string n) ∧ wc.cell? ⟨N, 1, none⟩ = some (.int .i64 b) ∧ wc.cell? ⟨N, 2, none⟩ = some (.int .i64 c) := ⟨hE.out.1.cell 0, hE.out.1.cell 1, hE.out.1.cell 2⟩
  have hNP : ¬ N = P := hE.out.2.2
  have hPN : ¬ P = N := fun h => hNP h.symm
  have HF1 : Hid (∀ v, Bxs (wc.setCell ⟨P, 1, none⟩ v) P 81 #[.string t, v, .bool bd] ∧ w.grownBy (wc.setCell ⟨P, 1, none⟩ v) (some P)) := fun v => ⟨(HP.out.below hE.out.2.1).set 1 v, grown_set (grown_below hE.out.2.1) 1 v⟩
  have HF2 : Hid (∀ v, Bxs (wc.setCell ⟨P, 2, none⟩ v) P 81 #[.string t, .int .i64 a, v] ∧ w.grownBy (wc.setCell ⟨P, 2, none⟩ v) (some P)) := fun v => ⟨(HP.out.below hE.out.2.1).set 2 v, grown_set (grown_below hE.out.2.1) 2 v⟩
  clear hE HEa HEb HEc HG HY BR
  cases bd with
  | true =>
    go_wp2_with fail
    go_ret
    rw [HN.out, HA.out, HB.out, Bool.true_or, if_pos rfl, if_pos rfl]
    exact ⟨rfl, HF2.out _⟩
  | false =>
  by_cases hc : c = 0
  · have c0 : (c != 0) = false := by simpa using hc
    clear hc
    go_wp2_with fail
    go_ret
    rw [HN.out, HA.out, HB.out, c0, Bool.false_or, if_neg Bool.false_ne_true, if_neg Bool.false_ne_true]
    exact ⟨rfl, HF1.out _⟩
  · have c0 : (c != 0) = true := by simpa using hc
    go_wp2_with fail
    go_ret
    rw [HN.out, HA.out, HB.out, c0, Bool.false_or, if_pos rfl, if_pos rfl]
    exact ⟨rfl, HF2.out _⟩
end Go.Proofs.YtonleickhincgaaGreatDoor
