/-
  Parts of one proof, laid as one text: SpecGN, SpecGT, FldN, FldIs, FldTb, FldTr; what each says stands at its head.
-/
import Derived.Test.YtepmoihgemhjcaaGreatDoorRows
import Derived.Test.YtepmoihgemhjcaaGreatDoorBytesDigMath
import Derived.Test.YtepmoihgemhjcaaGreatDoorFldGSrcDrawsDrawKitAppSSomeDrawTreeScanMath
import Derived.Test.YtepmoihgemhjcaaGreatDoorGetValGetTxtNumMathFldRdNumFromTmbMathFldRiseLgMath
import Derived.Handy
import Derived.WalkSpells
import Derived.Deep.RegionHeld3
import Derived.Test.YtepmoihgemhjcaaGreatDoorTreeMathSlABxKSlBOwnS
import Derived.Test.YtepmoihgemhjcaaGreatDoorLtMathLaMathLfMathTakesLStepAppBlNotTakes
import Derived.Test.YtepmoihgemhjcaaGreatDoorGrKImplFT
import Derived.Test.YtepmoihgemhjcaaGreatDoorTillTwoPhaseKImplCp
import Derived.OwnWalk
import Derived.Deep.Cut
import Derived.Deep.CutRange
import Derived.Test.YtepmoihgemhjcaaGreatDoorTimeBPutMathPutNumJoinedPutTextFldMath
import Derived.Deep.RegionWith
/-
  What the specification's GetNum answers: 'getN' of the text and the place, in new memory.
  Conditions: the string fits the form's own reach; the place is an int64.
-/
namespace Go.Proofs.YtepmoihgemhjcaaGreatDoor
open Go.RowKit
set_option linter.unusedVariables false

set_option maxRecDepth 20000 in
set_option maxHeartbeats 2000000 in
theorem specGetNum_any (s : ByteArray) (at0 : Int) (w : World) (hs : s.size ≤ maxLen) (h1 : at0 ≤ 9223372036854775807) :
    Calls Tryz.prog 212 #[.string s, .int .i64 at0] w fun e w' => e = .returned (getV s at0) ∧ Below w.heap.size w w' := by
  unfold maxLen at hs
  by_cases hb : 8000 < s.size
  · have H : Hid (getV s at0 = numOut 0 0 2) := getV_size hb
    go_enter Tryz.func212, Tryz.ntmps212
    go_wp2
    go_returns
    exact ⟨ret_valN (H.out.trans rfl).symm, (Below.refl _ _).alloc (Nat.le_refl _) _⟩
  by_cases h0 : at0 < 0
  · have H : Hid (getV s at0 = numOut 0 0 1) := getV_form hb h0
    go_enter Tryz.func212, Tryz.ntmps212
    go_wp2
    go_returns
    exact ⟨ret_valN (H.out.trans rfl).symm, (Below.refl _ _).alloc (Nat.le_refl _) _⟩
  obtain ⟨a, ha⟩ : ∃ a : Nat, at0 = a := ⟨at0.toNat, by omega⟩
  subst ha
  have d1 : decide (8000 < (s.size : Int)) = false := by simp; omega
  have d2 : decide ((a : Int) < 0) = false := by simp
  have HB : Hid (¬ 8000 < s.size) := hb
  go_enter Tryz.func212, Tryz.ntmps212
  go_wp2
  go_loop [5, 6] (fun x i => ∃ (k : Nat) (u : Int), i = .int .i64 k ∧ x = .int .u64 u ∧ Hid (GetTo s a k u)) (fun _ i => 10 - (Go.RowKit.intOf i).toNat)
  case atStart => exact ⟨0, 0, rfl, rfl, getTo_start s a⟩
  case round =>
    obtain ⟨k, u, rfl, rfl, HT⟩ := hrel
    have hk : k ≤ 9 := HT.out.1
    have hu0 : 0 ≤ u := HT.out.2.1
    have hu1 : Hid (u < 2 ^ (7 * k)) := HT.out.2.2.1
    by_cases hl : s.size ≤ a + k
    · have H : Hid (getV s (a : Int) = numOut 0 0 4) := getV_bad HB.out (by decide) (getTo_short HT.out hl)
      go_wp2
      go_returns
      exact ⟨ret_valN (H.out.trans rfl).symm, (Below.refl _ _).alloc (Nat.le_refl _) _⟩
    have hak : a + k < s.size := by omega
    have hcb : (s[a + k].toNat : Int) ≤ 255 := by have := s[a + k].toNat_lt; omega
    by_cases hbig : k = 9 ∧ 1 < (s[a + k].toNat : Int)
    · have H : Hid (getV s (a : Int) = numOut 0 0 3) := getV_bad HB.out (by decide) (getTo_big HT.out hak hbig.1 hbig.2)
      have k9 : ((k : Int) == 9) = true := by simp; omega
      obtain ⟨e9, hc1⟩ := hbig
      clear e9
      go_wp2
      go_returns
      exact ⟨ret_valN (H.out.trans rfl).symm, (Below.refl _ _).alloc (Nat.le_refl _) _⟩
    by_cases hc : 128 ≤ (s[a + k].toNat : Int)
    · have hk8 : k ≤ 8 := by omega
      have k9 : ((k : Int) == 9) = false := by simp; omega
      have HM : Hid (GetTo s a (k + 1) (u + ((s[a + k].toNat : Int) - 128) * 2 ^ (7 * k))) := getTo_more HT.out hak hk8 hc
      have HA : Hid (IntKind.u64.wrap (u + IntKind.u64.wrap ((s[a + k].toNat : Int) % 128 * 2 ^ (7 * k))) = u + ((s[a + k].toNat : Int) - 128) * 2 ^ (7 * k)) := by
        show _ = _
        rw [spec_add hk hu0 hu1.out (by omega) (by omega) (by omega), show (s[a + k].toNat : Int) % 128 = (s[a + k].toNat : Int) - 128 by omega]
      clear hbig hb
      go_wp2
      go_round
      case rel => exact ⟨k + 1, _, by go_num, by rw [HA.out], HM⟩
      case measure => simp [Go.RowKit.intOf]; omega
    · have h9 : k = 9 → (s[a + k].toNat : Int) ≤ 1 := fun e => by omega
      obtain ⟨v, hv⟩ : ∃ v, v = u + (s[a + k].toNat : Int) * 2 ^ (7 * k) := ⟨_, rfl⟩
      have hvb := add_fits (x := (s[a + k].toNat : Int)) hk hu0 hu1.out (by omega) (by omega) h9
      have hA : IntKind.u64.wrap (u + IntKind.u64.wrap ((s[a + k].toNat : Int) % 128 * 2 ^ (7 * k))) = v := by
        rw [show (s[a + k].toNat : Int) % 128 = (s[a + k].toNat : Int) by omega, spec_add hk hu0 hu1.out (by omega) (by omega) h9, hv]
      have v0 : 0 ≤ v := by omega
      have v1 : v ≤ 18446744073709551615 := by omega
      have HV : Hid (v = u + (s[a + k].toNat : Int) * 2 ^ (7 * k)) := hv
      have H9 : Hid (k = 9 → (s[a + k].toNat : Int) ≤ 1) := h9
      clear hv hvb hbig hb h9
      by_cases hz : (s[a + k].toNat : Int) = 0 ∧ 0 < k
      · have H : Hid (getV s (a : Int) = numOut 0 0 3) := getV_bad HB.out (by decide) (getTo_zero HT.out hak hz.1 hz.2)
        have c0 : ((s[a + k].toNat : Int) == 0) = true := by simp; omega
        have hkp : 0 < k := hz.2
        have c1 : (s[a + k].toNat : Int) ≤ 0 := by omega
        clear hz
        cases k9 : ((k : Int) == 9)
        · go_wp2
          go_returns
          exact ⟨ret_valN (H.out.trans rfl).symm, (Below.refl _ _).alloc (Nat.le_refl _) _⟩
        · go_wp2
          go_returns
          exact ⟨ret_valN (H.out.trans rfl).symm, (Below.refl _ _).alloc (Nat.le_refl _) _⟩
      · have H : Hid (getV s (a : Int) = numOut (unfoldN v) ((a : Int) + (k : Int) + 1) 0) := by
          show _ = _
          rw [getV_ok HB.out (getTo_ok HT.out hak (by omega) H9.out (fun hp hc0 => hz ⟨hc0, hp⟩)), ← HV.out]
          congr 1
        have h9i : ((k : Int) == 9) = true → (s[a + k].toNat : Int) ≤ 1 := fun e => H9.out (by simp at e; omega)
        have hzi : ((s[a + k].toNat : Int) == 0) = true → (k : Int) ≤ 0 := fun e => by simp at e; omega
        have H9i : Hid (((k : Int) == 9) = true → (s[a + k].toNat : Int) ≤ 1) := h9i
        have Hzi : Hid (((s[a + k].toNat : Int) == 0) = true → (k : Int) ≤ 0) := hzi
        clear hz h9i hzi
        cases hp : (v % 2 == 1)
        · have HU : Hid (unfoldN v = v / 2) := if_neg (by simp at hp; omega)
          cases k9 : ((k : Int) == 9)
          · cases c0 : ((s[a + k].toNat : Int) == 0)
            · go_wp2
              go_returns
              exact ⟨ret_valN (by rw [H.out, HU.out]; rfl), (Below.refl _ _).alloc (Nat.le_refl _) _⟩
            · have hk0 := Hzi.out c0
              go_wp2
              go_returns
              exact ⟨ret_valN (by rw [H.out, HU.out]; rfl), (Below.refl _ _).alloc (Nat.le_refl _) _⟩
          · have hc1 := H9i.out k9
            cases c0 : ((s[a + k].toNat : Int) == 0)
            · go_wp2
              go_returns
              exact ⟨ret_valN (by rw [H.out, HU.out]; rfl), (Below.refl _ _).alloc (Nat.le_refl _) _⟩
            · have hk0 := Hzi.out c0
              exfalso
              simp at k9; omega
        · have HU : Hid (unfoldN v = -(v / 2) - 1) := if_pos (by simpa using hp)
          cases k9 : ((k : Int) == 9)
          · cases c0 : ((s[a + k].toNat : Int) == 0)
            · go_wp2
              go_returns
              exact ⟨ret_valN (by rw [H.out, HU.out]; rfl), (Below.refl _ _).alloc (Nat.le_refl _) _⟩
            · have hk0 := Hzi.out c0
              go_wp2
              go_returns
              exact ⟨ret_valN (by rw [H.out, HU.out]; rfl), (Below.refl _ _).alloc (Nat.le_refl _) _⟩
          · have hc1 := H9i.out k9
            cases c0 : ((s[a + k].toNat : Int) == 0)
            · go_wp2
              go_returns
              exact ⟨ret_valN (by rw [H.out, HU.out]; rfl), (Below.refl _ _).alloc (Nat.le_refl _) _⟩
            · have hk0 := Hzi.out c0
              exfalso
              simp at k9; omega
end Go.Proofs.YtepmoihgemhjcaaGreatDoor
/-
  What the specification's GetText answers: 'getTV' of the text and the place, in new memory.
  Conditions: the string fits the form's own reach; the place is an int64.
-/
namespace Go.Proofs.YtepmoihgemhjcaaGreatDoor
open Go.RowKit Go.Extern.Stop Go.Stop Go.Extern
set_option linter.unusedVariables false

end Go.Proofs.YtepmoihgemhjcaaGreatDoor
/-
  What the specification's reader of numbers and texts answers: num, text, many.
  Conditions: the reader's box holds the text, the place and the flag.
-/
namespace Go.Proofs.YtepmoihgemhjcaaGreatDoor
open Go.RowKit Go.Lib
set_option linter.unusedVariables false
set_option maxRecDepth 20000

set_option maxHeartbeats 4000000 in
theorem rdNum_any (P : Nat) (t : ByteArray) (a : Int) (bd : Bool) (w : World) (hp : Bxs w P 195 #[.string t, .int .i64 a, .bool bd]) (ht : t.size ≤ 8000) (a1 : a ≤ 9223372036854775807) :
    Calls Tryz.prog 190 #[.pointer (some ⟨P, 0, none⟩)] w fun e w' => e = .returned (.int .i64 (rnN t a bd)) ∧ Bxs w' P 195 #[.string t, .int .i64 (rnA t a bd), .bool (rnB t a bd)] ∧ w.grownBy w' (some P) := by
  have HP : Hid (Bxs w P 195 #[.string t, .int .i64 a, .bool bd]) := hp
  have HPl : Hid (P < w.heap.size) := hp.lt
  obtain ⟨n, b, c, hg⟩ : ∃ (n : Int) (b c : Int), getN t a = (n, b, c) := ⟨_, _, _, rfl⟩
  have HB : Hid (rnB t a bd = (bd || (c != 0))) := by show (_ || _) = _; rw [hg]
  have HN : Hid (rnN t a bd = if (bd || (c != 0)) = true then 0 else n) := by show (if _ then _ else _) = _; rw [HB.out, hg]
  have HA : Hid (rnA t a bd = if (bd || (c != 0)) = true then a else b) := by show (if _ then _ else _) = _; rw [HB.out, hg]
  have HG : Hid (∀ x, Calls Tryz.prog 212 #[.string t, .int .i64 a] x fun e w' => e = .returned (.agg #[.int .i64 n, .int .i64 b, .int .i64 c]) ∧ Below x.heap.size x w') := fun x => by
    have h := specGetNum_any t a x (by unfold maxLen; omega) a1
    unfold getV numOut at h
    rw [hg] at h; exact h
  clear hg hp
  have BR : Hid (Below w.heap.size w w.drew) := (Below.refl _ _).drew
  have HY : Hid (∀ x, Below w.heap.size w x → x.cell? ⟨P, 0, none⟩ = some (.string t) ∧ x.cell? ⟨P, 1, none⟩ = some (.int .i64 a)) := fun x hx => ⟨(HP.out.below hx).cell 0, (HP.out.below hx).cell 1⟩
  have HEa : Hid (∀ y, Below w.heap.size w y → Bxs (y.alloc (.cells #[.int .i64 n, .int .i64 b, .int .i64 c] 211)) y.heap.size 211 #[.int .i64 n, .int .i64 b, .int .i64 c] ∧ Below w.heap.size w (y.alloc (.cells #[.int .i64 n, .int .i64 b, .int .i64 c] 211)) ∧ y.heap.size ≠ P) := fun y hy => ⟨Bxs.new _ _ _, alB hy _, by have := hy.size; have := HPl.out; omega⟩
  have HEb : Hid (∀ y, Below (w.alloc (.cells #[.int .i64 0, .int .i64 0, .int .i64 0] 211)).heap.size (w.alloc (.cells #[.int .i64 0, .int .i64 0, .int .i64 0] 211)) y → Below w.heap.size w y ∧ Bxs y w.heap.size 211 #[.int .i64 0, .int .i64 0, .int .i64 0]) := fun y hy => ⟨((Below.refl _ _).alloc (Nat.le_refl _) _).trans (hy.mono (by rw [szA]; omega)), (Bxs.new _ _ _).below hy⟩
  have HEc : Hid (∀ y, Below w.heap.size w y → Bxs y w.heap.size 211 #[.int .i64 0, .int .i64 0, .int .i64 0] → Bxs (((y.setCell ⟨w.heap.size, 0, none⟩ (.int .i64 n)).setCell ⟨w.heap.size, 1, none⟩ (.int .i64 b)).setCell ⟨w.heap.size, 2, none⟩ (.int .i64 c)) w.heap.size 211 #[.int .i64 n, .int .i64 b, .int .i64 c] ∧ Below w.heap.size w (((y.setCell ⟨w.heap.size, 0, none⟩ (.int .i64 n)).setCell ⟨w.heap.size, 1, none⟩ (.int .i64 b)).setCell ⟨w.heap.size, 2, none⟩ (.int .i64 c)) ∧ w.heap.size ≠ P) := fun y hy hk => ⟨((hk.set 0 _).set 1 _).set 2 _, below_set3 hy (Nat.le_refl _) _ _ _, by have := HPl.out; omega⟩
  go_enter Tryz.func190, Tryz.ntmps190
  go_upto_region 1 with fail
  go_cut [3] from 4 to 12 (fun s3 wx => ∃ N, s3 = .pointer (some ⟨N, 0, none⟩) ∧ Hid (Bxs wx N 211 #[.int .i64 n, .int .i64 b, .int .i64 c] ∧ Below w.heap.size w wx ∧ N ≠ P))
  case first =>
    refine region_till (fun w' => w'.cell? ⟨P, 0, none⟩ = some (.string t) ∧ w'.cell? ⟨P, 1, none⟩ = some (.int .i64 a)) 10 (by kernel_rfl) (HY.out _ BR.out) (fun hHeld => ?_)
    refine till_take 0 (v := ?_) rfl (by kernel_rfl) (by kernel_rfl) (by kernel_rfl) (by kernel_rfl) (fun _ _ _ h => h) hHeld (Or.inl ⟨by rfl, ?_⟩) ?_
    rotate_left
    · (intro w hSw; (try dsimp only at hSw); go_simp; try with_reducible rfl)
    simp only [Act.put, List.setIfInBounds_toArray, List.set_cons_zero, List.set_cons_succ]
    refine till_take 1 (v := ?_) rfl (by kernel_rfl) (by kernel_rfl) (by kernel_rfl) (by kernel_rfl) (fun _ _ _ h => h) hHeld (Or.inl ⟨by rfl, ?_⟩) ?_
    rotate_left
    · (intro w hSw; (try dsimp only at hSw); go_simp; try with_reducible rfl)
    simp only [Act.put, List.setIfInBounds_toArray, List.set_cons_zero, List.set_cons_succ]
    refine till_take 2 (v := ?_) rfl (by kernel_rfl) (by kernel_rfl) (by kernel_rfl) (by kernel_rfl) (fun _ _ _ h => h) hHeld (Or.inl ⟨by rfl, ?_⟩) ?_
    rotate_left
    · (intro w hSw; (try dsimp only at hSw); go_simp; try with_reducible rfl)
    simp only [Act.put, List.setIfInBounds_toArray, List.set_cons_zero, List.set_cons_succ]
    refine till_take 3 (v := ?_) rfl (by kernel_rfl) (by kernel_rfl) (by kernel_rfl) (by kernel_rfl) (fun _ _ _ h => h) hHeld (Or.inl ⟨by rfl, ?_⟩) ?_
    rotate_left
    · (intro w hSw; (try dsimp only at hSw); go_simp; try with_reducible rfl)
    simp only [Act.put, List.setIfInBounds_toArray, List.set_cons_zero, List.set_cons_succ]
    refine till_take 4 (v := ?_) rfl (by kernel_rfl) (by kernel_rfl) (by kernel_rfl) (by kernel_rfl) (fun _ _ _ h => h) hHeld (Or.inl ⟨by rfl, ?_⟩) ?_
    rotate_left
    · (intro w hSw; (try dsimp only at hSw); go_simp; try with_reducible rfl)
    simp only [Act.put, List.setIfInBounds_toArray, List.set_cons_zero, List.set_cons_succ]
    refine till_take 5 (v := ?_) rfl (by kernel_rfl) (by kernel_rfl) (by kernel_rfl) (by kernel_rfl) (fun _ _ _ h => h) hHeld (Or.inl ⟨by rfl, ?_⟩) ?_
    rotate_left
    · (intro w hSw; (try dsimp only at hSw); go_simp; try with_reducible rfl)
    simp only [Act.put, List.setIfInBounds_toArray, List.set_cons_zero, List.set_cons_succ]
    refine till_take 6 (v := ?_) rfl (by kernel_rfl) (by kernel_rfl) (by kernel_rfl) (by kernel_rfl) (fun _ _ _ h => h) hHeld (Or.inl ⟨by rfl, ?_⟩) ?_
    rotate_left
    · (intro w hSw; (try dsimp only at hSw); go_simp; try with_reducible rfl)
    simp only [Act.put, List.setIfInBounds_toArray, List.set_cons_zero, List.set_cons_succ]
    refine till_take 7 (v := ?_) rfl (by kernel_rfl) (by kernel_rfl) (by kernel_rfl) (by kernel_rfl) (fun _ _ _ h => h) hHeld (Or.inl ⟨by rfl, ?_⟩) ?_
    rotate_left
    · (intro w hSw; (try dsimp only at hSw); go_simp; try with_reducible rfl)
    simp only [Act.put, List.setIfInBounds_toArray, List.set_cons_zero, List.set_cons_succ]
    refine till_ready2 8 9 rfl rfl (by kernel_rfl) (fun K hK => ?_) (fun K hK => ?_)
    · go_simp
      (go_at_call 212; with_reducible refine (HG.out _).mono ?_; rintro e y ⟨rfl, z0⟩)
      have z1 : Below w.heap.size w y := chainB BR.out z0
      refine hK.out _ _ (HY.out _ z1) (fun hHeld => ?_)
      clear hK K
      try simp only [Act.put, List.setIfInBounds_toArray, List.set_cons_zero, List.set_cons_succ]
      refine till_ready 9 rfl (by kernel_rfl) (fun K hK => ?_)
      go_simp
      refine hK.out _ _ (HY.out _ (alB z1 _)) (fun hHeld => ?_)
      clear hK K
      try simp only [Act.put, List.setIfInBounds_toArray, List.set_cons_zero, List.set_cons_succ]
      refine till_last rfl (by kernel_rfl) (by kernel_rfl) (fun K hK => ?_)
      go_simp
      refine hK.out _ _ ?_
      clear hK K
      have HE : Hid _ := HEa.out y z1
      clear z0 z1 hHeld
      go_wp2_with fail
      go_meet
      exact ⟨_, rfl, HE⟩
    · go_simp
      refine hK.out _ _ (HY.out _ (alB BR.out _)) (fun hHeld => ?_)
      clear hK K
      try simp only [Act.put, List.setIfInBounds_toArray, List.set_cons_zero, List.set_cons_succ]
      refine till_ready 8 rfl (by kernel_rfl) (fun K hK => ?_)
      go_simp
      (go_at_call 212; with_reducible refine (HG.out _).mono ?_; rintro e y ⟨rfl, z0⟩)
      obtain ⟨z1, kb⟩ := HEb.out y (by first | exact z0 | exact chainB ((Below.refl _ _).drew) z0)
      refine hK.out _ _ (HY.out _ z1) (fun hHeld => ?_)
      clear hK K
      try simp only [Act.put, List.setIfInBounds_toArray, List.set_cons_zero, List.set_cons_succ]
      obtain ⟨k0, k1, k2⟩ : y.cell? ⟨w.heap.size, 0, none⟩ = some (.int .i64 0) ∧ y.cell? ⟨w.heap.size, 1, none⟩ = some (.int .i64 0) ∧ y.cell? ⟨w.heap.size, 2, none⟩ = some (.int .i64 0) := ⟨kb.cell 0, kb.cell 1, kb.cell 2⟩
      have g0 := kb.fr 0
      have g1 := kb.fr 1
      have g2 := kb.fr 2
      refine till_last rfl (by kernel_rfl) (by kernel_rfl) (fun K hK => ?_)
      go_simp
      refine hK.out _ _ ?_
      clear hK K
      have HE : Hid _ := HEc.out y z1 kb
      clear z0 z1 hHeld k0 k1 k2 g0 g1 g2 kb
      go_wp2_with fail
      go_meet
      exact ⟨_, rfl, HE⟩
  case rest =>
  obtain ⟨N, rfl, hE⟩ := hcut
  obtain ⟨p0, p1, p2⟩ : wc.cell? ⟨P, 0, none⟩ = some (.string t) ∧ wc.cell? ⟨P, 1, none⟩ = some (.int .i64 a) ∧ wc.cell? ⟨P, 2, none⟩ = some (.bool bd) := ⟨(HP.out.below hE.out.2.1).cell 0, (HP.out.below hE.out.2.1).cell 1, (HP.out.below hE.out.2.1).cell 2⟩
  have f1 := (HP.out.below hE.out.2.1).fr 1
  have f2 := (HP.out.below hE.out.2.1).fr 2
  obtain ⟨k0, k1, k2⟩ : wc.cell? ⟨N, 0, none⟩ = some (.int .i64 n) ∧ wc.cell? ⟨N, 1, none⟩ = some (.int .i64 b) ∧ wc.cell? ⟨N, 2, none⟩ = some (.int .i64 c) := ⟨hE.out.1.cell 0, hE.out.1.cell 1, hE.out.1.cell 2⟩
  have hNP : ¬ N = P := hE.out.2.2
  have hPN : ¬ P = N := fun h => hNP h.symm
  have HF1 : Hid (∀ v, Bxs (wc.setCell ⟨P, 1, none⟩ v) P 195 #[.string t, v, .bool bd] ∧ w.grownBy (wc.setCell ⟨P, 1, none⟩ v) (some P)) := fun v => ⟨(HP.out.below hE.out.2.1).set 1 v, grown_set (grown_below hE.out.2.1) 1 v⟩
  have HF2 : Hid (∀ v, Bxs (wc.setCell ⟨P, 2, none⟩ v) P 195 #[.string t, .int .i64 a, v] ∧ w.grownBy (wc.setCell ⟨P, 2, none⟩ v) (some P)) := fun v => ⟨(HP.out.below hE.out.2.1).set 2 v, grown_set (grown_below hE.out.2.1) 2 v⟩
  clear hE HEa HEb HEc HG HY BR
  cases bd with
  | true =>
    go_wp2_with fail
    go_ret
    rw [HN.out, HA.out, HB.out, Bool.true_or, if_pos rfl, if_pos rfl]
    exact ⟨rfl, HF2.out _⟩
  | false =>
  by_cases hc : c = 0
  · have c0 : (c != 0) = false := by simpa using hc
    clear hc
    go_wp2_with fail
    go_ret
    rw [HN.out, HA.out, HB.out, c0, Bool.false_or, if_neg Bool.false_ne_true, if_neg Bool.false_ne_true]
    exact ⟨rfl, HF1.out _⟩
  · have c0 : (c != 0) = true := by simpa using hc
    go_wp2_with fail
    go_ret
    rw [HN.out, HA.out, HB.out, c0, Bool.false_or, if_pos rfl, if_pos rfl]
    exact ⟨rfl, HF2.out _⟩
end Go.Proofs.YtepmoihgemhjcaaGreatDoor
/-
  What the specification's l07Is and l07Time answer.
-/
namespace Go.Proofs.YtepmoihgemhjcaaGreatDoor
open Go.RowKit Go.Lib
set_option linter.unusedVariables false
set_option maxRecDepth 20000

theorem l07Is_any (n lo hi : Int) (w : World) : Calls Tryz.prog 78 #[.int .i64 n, .int .i64 lo, .int .i64 hi] w fun e w' => e = .returned (.bool (decide (lo ≤ n ∧ n ≤ hi))) ∧ w' = w := by
  by_cases h1 : lo ≤ n
  · have d1 : decide (lo ≤ n) = true := decide_eq_true h1
    by_cases h2 : n ≤ hi
    · have d2 : decide (n ≤ hi) = true := decide_eq_true h2
      rw [decide_eq_true (And.intro h1 h2)]
      clear h1 h2
      go_enter Tryz.func78, Tryz.ntmps78
      go_wp2_with fail
      go_ret
      exact ⟨rfl, rfl⟩
    · have d2 : decide (n ≤ hi) = false := decide_eq_false h2
      rw [decide_eq_false (fun h => h2 h.2)]
      clear h1 h2
      go_enter Tryz.func78, Tryz.ntmps78
      go_wp2_with fail
      go_ret
      exact ⟨rfl, rfl⟩
  · have d1 : decide (lo ≤ n) = false := decide_eq_false h1
    rw [decide_eq_false (fun h => h1 h.1)]
    clear h1
    go_enter Tryz.func78, Tryz.ntmps78
    go_wp2_with fail
    go_ret
    exact ⟨rfl, rfl⟩
theorem l07Time_any (n : Int) (w : World) : Calls Tryz.prog 81 #[.int .i64 n] w fun e w' => e = .returned (.bool (timeB n)) ∧ w' = w := by
  have h := l07Is_any n 0 1000000 w
  unfold timeB
  generalize decide (0 ≤ n ∧ n ≤ 1000000) = bo at *
  go_enter Tryz.func81, Tryz.ntmps81
  go_wp2_with fail
  refine h.mono ?_
  rintro e w1 ⟨rfl, rfl⟩
  go_wp2_with fail
  go_ret
  exact ⟨rfl, rfl⟩
end Go.Proofs.YtepmoihgemhjcaaGreatDoor
/-
  What the specification's TombRight, l08Text and TombText answer.
-/
namespace Go.Proofs.YtepmoihgemhjcaaGreatDoor
open Go.RowKit Go.Lib
set_option linter.unusedVariables false
set_option maxRecDepth 20000

theorem tmB_four (t : Tmb) : tmB t = (decide (0 ≤ t.r ∧ t.r ≤ 63) && (decide (0 ≤ t.f ∧ t.f ≤ 2) && (decide (1 ≤ t.y ∧ t.y ≤ 2) && timeB t.a))) := by
  unfold tmB timeB; simp [Bool.and_assoc]

set_option maxHeartbeats 2000000 in
theorem specTombRight_any (t : Tmb) (w : World) : Calls Tryz.prog 172 #[tmV t] w fun e w' => e = .returned (.bool (tmB t)) ∧ Below w.heap.size w w' := by
  rw [tmB_four]
  obtain ⟨r, f, y, a⟩ := t
  show Calls Tryz.prog 172 #[.agg #[.int .i64 r, .int .i64 f, .int .i64 y, .int .i64 a]] w _
  dsimp only
  obtain ⟨W1, hW1⟩ : ∃ W1, W1 = w.alloc (.cells #[.int .i64 r, .int .i64 f, .int .i64 y, .int .i64 a] 93) := ⟨_, rfl⟩
  have HW1 : Hid (W1 = w.alloc (.cells #[.int .i64 r, .int .i64 f, .int .i64 y, .int .i64 a] 93)) := hW1
  have B1 : Hid (Below w.heap.size w W1) := by rw [hW1]; exact (Below.refl _ _).alloc (Nat.le_refl _) _
  have K1 : Bxs W1 w.heap.size 93 #[.int .i64 r, .int .i64 f, .int .i64 y, .int .i64 a] := by rw [hW1]; exact Bxs.new _ _ _
  obtain ⟨x0, x1, x2, x3⟩ : W1.cell? ⟨w.heap.size, 0, none⟩ = some (.int .i64 r) ∧ W1.cell? ⟨w.heap.size, 1, none⟩ = some (.int .i64 f) ∧ W1.cell? ⟨w.heap.size, 2, none⟩ = some (.int .i64 y) ∧ W1.cell? ⟨w.heap.size, 3, none⟩ = some (.int .i64 a) := ⟨K1.cell 0, K1.cell 1, K1.cell 2, K1.cell 3⟩
  clear K1 hW1
  have Qr : Hid (∀ x, Calls Tryz.prog 78 #[.int .i64 r, .int .i64 0, .int .i64 63] x fun e w' => e = .returned (.bool (decide (0 ≤ r ∧ r ≤ 63))) ∧ w' = x) := fun x => l07Is_any r 0 63 x
  have Qf : Hid (∀ x, Calls Tryz.prog 78 #[.int .i64 f, .int .i64 0, .int .i64 2] x fun e w' => e = .returned (.bool (decide (0 ≤ f ∧ f ≤ 2))) ∧ w' = x) := fun x => l07Is_any f 0 2 x
  have Qy : Hid (∀ x, Calls Tryz.prog 78 #[.int .i64 y, .int .i64 1, .int .i64 2] x fun e w' => e = .returned (.bool (decide (1 ≤ y ∧ y ≤ 2))) ∧ w' = x) := fun x => l07Is_any y 1 2 x
  have Qa : Hid (∀ x, Calls Tryz.prog 81 #[.int .i64 a] x fun e w' => e = .returned (.bool (timeB a)) ∧ w' = x) := fun x => l07Time_any a x
  generalize decide (0 ≤ r ∧ r ≤ 63) = Dr at *
  generalize decide (0 ≤ f ∧ f ≤ 2) = Df at *
  generalize decide (1 ≤ y ∧ y ≤ 2) = Dy at *
  generalize timeB a = Da at *
  cases Dr with
  | false =>
    go_enter Tryz.func172, Tryz.ntmps172
    go_wp2_with fail
    rw [← HW1.out]
    refine (Qr.out _).mono ?_
    rintro e w1 ⟨rfl, rfl⟩
    go_wp2_with fail
    go_ret
    exact ⟨rfl, B1.out⟩
  | true =>
    cases Df with
    | false =>
      go_enter Tryz.func172, Tryz.ntmps172
      go_wp2_with fail
      rw [← HW1.out]
      refine (Qr.out _).mono ?_
      rintro e w1 ⟨rfl, rfl⟩
      go_wp2_with fail
      refine (Qf.out _).mono ?_
      rintro e w1 ⟨rfl, rfl⟩
      go_wp2_with fail
      go_ret
      exact ⟨rfl, B1.out⟩
    | true =>
      cases Dy with
      | false =>
        go_enter Tryz.func172, Tryz.ntmps172
        go_wp2_with fail
        rw [← HW1.out]
        refine (Qr.out _).mono ?_
        rintro e w1 ⟨rfl, rfl⟩
        go_wp2_with fail
        refine (Qf.out _).mono ?_
        rintro e w1 ⟨rfl, rfl⟩
        go_wp2_with fail
        refine (Qy.out _).mono ?_
        rintro e w1 ⟨rfl, rfl⟩
        go_wp2_with fail
        go_ret
        exact ⟨rfl, B1.out⟩
      | true =>
        cases Da with
        | false =>
          go_enter Tryz.func172, Tryz.ntmps172
          go_wp2_with fail
          rw [← HW1.out]
          refine (Qr.out _).mono ?_
          rintro e w1 ⟨rfl, rfl⟩
          go_wp2_with fail
          refine (Qf.out _).mono ?_
          rintro e w1 ⟨rfl, rfl⟩
          go_wp2_with fail
          refine (Qy.out _).mono ?_
          rintro e w1 ⟨rfl, rfl⟩
          go_wp2_with fail
          refine (Qa.out _).mono ?_
          rintro e w1 ⟨rfl, rfl⟩
          go_wp2_with fail
          go_ret
          exact ⟨rfl, B1.out⟩
        | true =>
          go_enter Tryz.func172, Tryz.ntmps172
          go_wp2_with fail
          rw [← HW1.out]
          refine (Qr.out _).mono ?_
          rintro e w1 ⟨rfl, rfl⟩
          go_wp2_with fail
          refine (Qf.out _).mono ?_
          rintro e w1 ⟨rfl, rfl⟩
          go_wp2_with fail
          refine (Qy.out _).mono ?_
          rintro e w1 ⟨rfl, rfl⟩
          go_wp2_with fail
          refine (Qa.out _).mono ?_
          rintro e w1 ⟨rfl, rfl⟩
          go_wp2_with fail
          go_ret
          exact ⟨rfl, B1.out⟩
set_option maxHeartbeats 2000000 in
theorem l08Text_any (t : Tmb) (w : World) (h : tmB t = true) : Calls Tryz.prog 139 #[tmV t] w fun e w' => e = .returned (.string (tmRaw t)) ∧ Below w.heap.size w w' := by
  obtain ⟨⟨a0, a1⟩, ⟨b0, b1⟩, ⟨c0, c1⟩, d0, d1⟩ := (tmB_iff t).1 h
  clear h
  obtain ⟨r, f, y, a⟩ := t
  show Calls Tryz.prog 139 #[.agg #[.int .i64 r, .int .i64 f, .int .i64 y, .int .i64 a]] w _
  dsimp only at a0 a1 b0 b1 c0 c1 d0 d1
  obtain ⟨W1, hW1⟩ : ∃ W1, W1 = w.alloc (.cells #[.int .i64 r, .int .i64 f, .int .i64 y, .int .i64 a] 93) := ⟨_, rfl⟩
  have HW1 : Hid (W1 = w.alloc (.cells #[.int .i64 r, .int .i64 f, .int .i64 y, .int .i64 a] 93)) := hW1
  have B1 : Hid (Below w.heap.size w W1) := by rw [hW1]; exact (Below.refl _ _).alloc (Nat.le_refl _) _
  have K1 : Bxs W1 w.heap.size 93 #[.int .i64 r, .int .i64 f, .int .i64 y, .int .i64 a] := by rw [hW1]; exact Bxs.new _ _ _
  have HX : Hid (∀ x, Below W1.heap.size W1 x → x.cell? ⟨w.heap.size, 0, none⟩ = some (.int .i64 r) ∧ x.cell? ⟨w.heap.size, 1, none⟩ = some (.int .i64 f) ∧ x.cell? ⟨w.heap.size, 2, none⟩ = some (.int .i64 y) ∧ x.cell? ⟨w.heap.size, 3, none⟩ = some (.int .i64 a)) := fun x hb => ⟨(K1.below hb).cell 0, (K1.below hb).cell 1, (K1.below hb).cell 2, (K1.below hb).cell 3⟩
  obtain ⟨x0, x1, x2, x3⟩ := HX.out W1 (Below.refl _ _)
  have Qr : Hid (∀ x, Calls Tryz.prog 137 #[.int .i64 r] x fun e w' => e = .returned (.string (putB r)) ∧ Below x.heap.size x w') := fun x => specPutNum_any r x (by omega) (by omega)
  have Qf : Hid (∀ x, Calls Tryz.prog 137 #[.int .i64 f] x fun e w' => e = .returned (.string (putB f)) ∧ Below x.heap.size x w') := fun x => specPutNum_any f x (by omega) (by omega)
  have Qy : Hid (∀ x, Calls Tryz.prog 137 #[.int .i64 y] x fun e w' => e = .returned (.string (putB y)) ∧ Below x.heap.size x w') := fun x => specPutNum_any y x (by omega) (by omega)
  have Qa : Hid (∀ x, Calls Tryz.prog 137 #[.int .i64 a] x fun e w' => e = .returned (.string (putB a)) ∧ Below x.heap.size x w') := fun x => specPutNum_any a x (by omega) (by omega)
  have HR : Hid (tmRaw ⟨r, f, y, a⟩ = ⟨#[116]⟩ ++ putB r ++ putB f ++ putB y ++ putB a) := rfl
  have zr := putB_size r
  have zf := putB_size f
  have zy := putB_size y
  have za := putB_size a
  have BR : Hid (Below W1.heap.size W1 W1.drew) := (Below.refl _ _).drew
  rw [HR.out]
  clear K1 hW1 HR a0 a1 b0 b1 c0 c1 d0 d1
  generalize putB r = R at *
  generalize putB f = F at *
  generalize putB y = Y at *
  generalize putB a = A at *
  have z1 : ((⟨#[116]⟩ : ByteArray) ++ R).size ≤ 11 := by rw [ByteArray.size_append]; show 1 + _ ≤ _; omega
  have z2 : ((⟨#[116]⟩ : ByteArray) ++ R ++ F).size ≤ 21 := by rw [ByteArray.size_append]; omega
  have z3 : ((⟨#[116]⟩ : ByteArray) ++ R ++ F ++ Y).size ≤ 31 := by rw [ByteArray.size_append]; omega
  have PT : Hid (∀ (n : Int) (N : ByteArray), (∀ x, Calls Tryz.prog 137 #[.int .i64 n] x fun e w' => e = .returned (.string N) ∧ Below x.heap.size x w') → ∀ x, Below W1.heap.size W1 x → Calls Tryz.prog 137 #[.int .i64 n] x fun e x1 => e = .returned (.string N) ∧ Below W1.heap.size W1 x1) := fun n N h x hb => (h x).mono (by rintro e x1 ⟨rfl, b⟩; exact ⟨rfl, chainB hb b⟩)
  have PR := PT.out r R Qr.out
  have PF := PT.out f F Qf.out
  have PY := PT.out y Y Qy.out
  have PA := PT.out a A Qa.out
  have Qr : Hid (∀ x, Below W1.heap.size W1 x → Calls Tryz.prog 137 #[.int .i64 r] x fun e x1 => e = .returned (.string R) ∧ Below W1.heap.size W1 x1) := PR
  have Qf : Hid (∀ x, Below W1.heap.size W1 x → Calls Tryz.prog 137 #[.int .i64 f] x fun e x1 => e = .returned (.string F) ∧ Below W1.heap.size W1 x1) := PF
  have Qy : Hid (∀ x, Below W1.heap.size W1 x → Calls Tryz.prog 137 #[.int .i64 y] x fun e x1 => e = .returned (.string Y) ∧ Below W1.heap.size W1 x1) := PY
  have Qa : Hid (∀ x, Below W1.heap.size W1 x → Calls Tryz.prog 137 #[.int .i64 a] x fun e x1 => e = .returned (.string A) ∧ Below W1.heap.size W1 x1) := PA
  have HR : Hid (Below W1.heap.size W1 W1) := Below.refl _ _
  have z0 : (⟨#[116]⟩ : ByteArray).size = 1 := rfl
  have u1 : ∀ w, (Op.stringOp .add (⟨#[116]⟩ : ByteArray) R).run Tryz.prog w = .ok (.string ((⟨#[116]⟩ : ByteArray) ++ R)) w := fun w => run_string_add w _ _ (by omega) (by omega)
  have u2 : ∀ w, (Op.stringOp .add ((⟨#[116]⟩ : ByteArray) ++ R) F).run Tryz.prog w = .ok (.string ((⟨#[116]⟩ : ByteArray) ++ R ++ F)) w := fun w => run_string_add w _ _ (by omega) (by omega)
  have u3 : ∀ w, (Op.stringOp .add ((⟨#[116]⟩ : ByteArray) ++ R ++ F) Y).run Tryz.prog w = .ok (.string ((⟨#[116]⟩ : ByteArray) ++ R ++ F ++ Y)) w := fun w => run_string_add w _ _ (by omega) (by omega)
  have u4 : ∀ w, (Op.stringOp .add ((⟨#[116]⟩ : ByteArray) ++ R ++ F ++ Y) A).run Tryz.prog w = .ok (.string ((⟨#[116]⟩ : ByteArray) ++ R ++ F ++ Y ++ A)) w := fun w => run_string_add w _ _ (by omega) (by omega)
  clear PR PF PY PA PT z0 z1 z2 z3 zr zf zy za
  go_enter Tryz.func139, Tryz.ntmps139
  go_upto_region 1 with fail
  rw [← HW1.out]
  first
    | (go_region_held3 (fun w' => w'.cell? ⟨w.heap.size, 0, none⟩ = some (.int .i64 r) ∧ w'.cell? ⟨w.heap.size, 1, none⟩ = some (.int .i64 f) ∧ w'.cell? ⟨w.heap.size, 2, none⟩ = some (.int .i64 y) ∧ w'.cell? ⟨w.heap.size, 3, none⟩ = some (.int .i64 a)) ((refine HX.out _ ?hT; (case hT => (with_reducible repeat (first | assumption | exact HR.out | refine Below.drew ?_ | refine alB ?_ _))))) (first
      | (go_at_call 137; with_reducible refine (Qr.out _ ?hB).mono ?_; (case hB => first | exact HR.out | exact HR.out.drew); rintro e x1 ⟨rfl, y1⟩)
      | (go_at_call 137; with_reducible refine (Qf.out _ ?hB).mono ?_; (case hB => first | exact y1 | exact y1.drew); rintro e x2 ⟨rfl, y2⟩)
      | (go_at_call 137; with_reducible refine (Qy.out _ ?hB).mono ?_; (case hB => first | exact y2 | exact y2.drew); rintro e x3 ⟨rfl, y3⟩)
      | (go_at_call 137; with_reducible refine (Qa.out _ ?hB).mono ?_; (case hB => first | exact y3 | exact y3.drew); rintro e x4 ⟨rfl, y4⟩)))
    | fail
  all_goals
    have y6 := chainB B1.out y4
    go_wp2_with fail
    go_ret
    exact ⟨rfl, y6⟩
set_option maxHeartbeats 1000000 in
theorem specTombText_any (t : Tmb) (w : World) : Calls Tryz.prog 118 #[tmV t] w fun e w' => e = .returned (.string (tmT t)) ∧ Below w.heap.size w w' := by
  have hr := fun x => specTombRight_any t x
  cases h : tmB t with
  | true =>
    have hl := fun x => l08Text_any t x h
    have HT : Hid (tmT t = tmRaw t) := if_pos h
    rw [HT.out]
    rw [h] at hr
    have HR : Hid (∀ x, Calls Tryz.prog 172 #[.agg #[.int .i64 t.r, .int .i64 t.f, .int .i64 t.y, .int .i64 t.a]] x fun e w' => e = .returned (.bool true) ∧ Below x.heap.size x w') := hr
    have HL : Hid (∀ x, Calls Tryz.prog 139 #[.agg #[.int .i64 t.r, .int .i64 t.f, .int .i64 t.y, .int .i64 t.a]] x fun e w' => e = .returned (.string (tmRaw t)) ∧ Below x.heap.size x w') := hl
    obtain ⟨W1, hW1⟩ : ∃ W1, W1 = w.alloc (.cells #[.int .i64 t.r, .int .i64 t.f, .int .i64 t.y, .int .i64 t.a] 93) := ⟨_, rfl⟩
    have HW1 : Hid (W1 = w.alloc (.cells #[.int .i64 t.r, .int .i64 t.f, .int .i64 t.y, .int .i64 t.a] 93)) := hW1
    have B1 : Hid (Below w.heap.size w W1) := by rw [hW1]; exact (Below.refl _ _).alloc (Nat.le_refl _) _
    have K1 : Hid (Bxs W1 w.heap.size 93 #[.int .i64 t.r, .int .i64 t.f, .int .i64 t.y, .int .i64 t.a]) := by rw [hW1]; exact Bxs.new _ _ _
    clear hr hl h HT hW1
    generalize tmRaw t = O at *
    show Calls Tryz.prog 118 #[.agg #[.int .i64 t.r, .int .i64 t.f, .int .i64 t.y, .int .i64 t.a]] w _
    obtain ⟨r, f, y, a⟩ := t
    dsimp only at *
    go_enter Tryz.func118, Tryz.ntmps118
    go_wp2_with fail
    rw [← HW1.out]
    refine (HR.out W1).mono ?_
    rintro e w1 ⟨rfl, b1⟩
    have k := K1.out.below b1
    obtain ⟨x0, x1, x2, x3⟩ : w1.cell? ⟨w.heap.size, 0, none⟩ = some (.int .i64 r) ∧ w1.cell? ⟨w.heap.size, 1, none⟩ = some (.int .i64 f) ∧ w1.cell? ⟨w.heap.size, 2, none⟩ = some (.int .i64 y) ∧ w1.cell? ⟨w.heap.size, 3, none⟩ = some (.int .i64 a) := ⟨k.cell 0, k.cell 1, k.cell 2, k.cell 3⟩
    have c1 : Hid (Below w.heap.size w w1) := chainB B1.out b1
    clear k b1
    go_wp2_with fail
    refine (HL.out w1).mono ?_
    rintro e w2 ⟨rfl, b2⟩
    go_wp2_with fail
    go_ret
    exact ⟨rfl, chainB c1.out b2⟩
  | false =>
    have HT : Hid (tmT t = ByteArray.empty) := if_neg (by rw [h]; exact Bool.false_ne_true)
    rw [HT.out]
    rw [h] at hr
    have HR : Hid (∀ x, Calls Tryz.prog 172 #[.agg #[.int .i64 t.r, .int .i64 t.f, .int .i64 t.y, .int .i64 t.a]] x fun e w' => e = .returned (.bool false) ∧ Below x.heap.size x w') := hr
    obtain ⟨W1, hW1⟩ : ∃ W1, W1 = w.alloc (.cells #[.int .i64 t.r, .int .i64 t.f, .int .i64 t.y, .int .i64 t.a] 93) := ⟨_, rfl⟩
    have HW1 : Hid (W1 = w.alloc (.cells #[.int .i64 t.r, .int .i64 t.f, .int .i64 t.y, .int .i64 t.a] 93)) := hW1
    have B1 : Hid (Below w.heap.size w W1) := by rw [hW1]; exact (Below.refl _ _).alloc (Nat.le_refl _) _
    clear hr h HT hW1
    show Calls Tryz.prog 118 #[.agg #[.int .i64 t.r, .int .i64 t.f, .int .i64 t.y, .int .i64 t.a]] w _
    obtain ⟨r, f, y, a⟩ := t
    dsimp only at *
    go_enter Tryz.func118, Tryz.ntmps118
    go_wp2_with fail
    rw [← HW1.out]
    refine (HR.out W1).mono ?_
    rintro e w1 ⟨rfl, b1⟩
    have c1 : Hid (Below w.heap.size w w1) := chainB B1.out b1
    clear b1
    go_wp2_with fail
    go_ret
    exact ⟨rfl, c1.out⟩
end Go.Proofs.YtepmoihgemhjcaaGreatDoor
/-
  What the specification's TombRead and LeafKind answer.
  Conditions: the text fits the form's own reach.
-/
namespace Go.Proofs.YtepmoihgemhjcaaGreatDoor
open Go.RowKit Go.Lib
set_option linter.unusedVariables false
set_option maxRecDepth 20000

theorem ba_eq {a b : ByteArray} (h : a.toList = b.toList) : a = b := by
  apply ByteArray.ext; apply Array.ext'
  rw [← ByteArray.toList_eq, ← ByteArray.toList_eq]; exact h
theorem ba_beq (a b : ByteArray) : (a.toList == b.toList) = decide (a = b) := by
  by_cases h : a = b
  · subst h; simp
  · rw [decide_eq_false h]
    exact beq_eq_false_iff_ne.2 (fun e => h (ba_eq e))
theorem ba_nil (a : ByteArray) : a.toList.isEmpty = decide (a.size = 0) := by
  rw [ByteArray.toList_eq]
  by_cases h : a.size = 0
  · rw [decide_eq_true h]
    have : a.data.toList.length = 0 := by rw [sz_list]; exact h
    simp [List.length_eq_zero_iff.1 this]
  · rw [decide_eq_false h]
    cases e : a.data.toList with
    | nil => exfalso; apply h; rw [← sz_list, e]; rfl
    | cons => rfl
/-- A reader's box and a Tomb's beside it. -/
structure RbS (W : World) (P Z : Nat) (t : ByteArray) (a : Int) (bd : Bool) (cs : Array Value) (x : World) : Prop where
  bel : Below W.heap.size W x
  rd : Bxs x P 195 #[.string t, .int .i64 a, .bool bd]
  box : Bxs x Z 93 cs
  hP : W.heap.size ≤ P
  hZ : W.heap.size ≤ Z
  ne : Z ≠ P
theorem RbS.call {W : World} {P Z : Nat} {t : ByteArray} {a a' : Int} {bd bd' : Bool} {cs : Array Value} {x y : World} (h : RbS W P Z t a bd cs x) (hr : Bxs y P 195 #[.string t, .int .i64 a', .bool bd']) (hg : x.grownBy y (some P)) : RbS W P Z t a' bd' cs y :=
  ⟨h.bel.grown hg h.bel.size (fun j hj => by cases hj; exact h.hP), hr, h.box.grown hg (fun e => h.ne (by cases e; rfl)), h.hP, h.hZ, h.ne⟩
theorem RbS.put {W : World} {P Z : Nat} {t : ByteArray} {a : Int} {bd : Bool} {cs : Array Value} {x : World} (h : RbS W P Z t a bd cs x) (i : Nat) (v : Value) : RbS W P Z t a bd (cs.setIfInBounds i v) (x.setCell ⟨Z, i, none⟩ v) :=
  ⟨h.bel.setCell h.hZ _, h.rd.other _ _ h.ne _, h.box.set i v, h.hP, h.hZ, h.ne⟩
theorem trC_bad {t : ByteArray} (h : ¬ 8000 < t.size) (hb : trBad t = true) : trC t = 3 ∧ trO t = tmZ := by
  have hc : trC t = 3 := by unfold trC; rw [if_neg h, if_pos hb]
  exact ⟨hc, by unfold trO; rw [if_neg (by omega)]⟩
theorem trC_good {t : ByteArray} (h : ¬ 8000 < t.size) (hb : trBad t = false) : trC t = 0 ∧ trO t = trT t := by
  have hc : trC t = 0 := by unfold trC; rw [if_neg h, if_neg (by rw [hb]; exact Bool.false_ne_true)]
  exact ⟨hc, by unfold trO; rw [if_pos hc]⟩
set_option maxHeartbeats 4000000 in
theorem specTombRead_any (t : ByteArray) (w : World) (ht : t.size ≤ maxLen) :
    Calls Tryz.prog 144 #[.string t] w fun e w' => e = .returned (tmO (trO t) (trC t)) ∧ Below w.heap.size w w' := by
  obtain ⟨W1, hW1⟩ : ∃ W1, W1 = w.alloc (.cells #[.int .i64 0, .int .i64 0, .int .i64 0, .int .i64 0, .int .i64 0] 160) := ⟨_, rfl⟩
  have HW1 : Hid (W1 = w.alloc (.cells #[.int .i64 0, .int .i64 0, .int .i64 0, .int .i64 0, .int .i64 0] 160)) := hW1
  have HS1 : Hid (W1.heap.size = w.heap.size + 1) := by rw [hW1]; show _ = _; simp
  have K1 : Hid (Bxs W1 w.heap.size 160 #[.int .i64 0, .int .i64 0, .int .i64 0, .int .i64 0, .int .i64 0]) := by rw [hW1]; exact Bxs.new _ _ _
  have B1 : Hid (Below w.heap.size w W1) := by rw [hW1]; exact (Below.refl _ _).alloc (Nat.le_refl _) _
  have HEr : Hid (∀ (y : World) (c : Int) (T : Tmb) (x0 x1 x2 x3 x4 : Value), Below W1.heap.size W1 y → trC t = c → trO t = T → Ending.returned (.agg #[.int .i64 T.r, .int .i64 T.f, .int .i64 T.y, .int .i64 T.a, .int .i64 c]) = .returned (tmO (trO t) (trC t)) ∧ Below w.heap.size w (((((y.setCell ⟨w.heap.size, 0, none⟩ x0).setCell ⟨w.heap.size, 1, none⟩ x1).setCell ⟨w.heap.size, 2, none⟩ x2).setCell ⟨w.heap.size, 3, none⟩ x3).setCell ⟨w.heap.size, 4, none⟩ x4)) := by
    intro y c T x0 x1 x2 x3 x4 hb hc hT
    rw [hc, hT]
    exact ⟨rfl, below_set5 (chainB B1.out hb) (Nat.le_refl _) _ _ _ _ _⟩
  clear hW1
  unfold maxLen at ht
  by_cases h8 : 8000 < t.size
  · have hC : trC t = 2 := if_pos h8
    have hO : trO t = tmZ := if_neg (by rw [hC]; decide)
    have d8 : decide (8000 < (t.size : Int)) = true := decide_eq_true (by omega)
    have HE := fun x0 x1 x2 x3 x4 => HEr.out W1 2 tmZ x0 x1 x2 x3 x4 (Below.refl _ _) hC hO
    rw [HW1.out] at HE
    have HE : Hid _ := HE
    clear HEr h8 hC hO
    go_enter Tryz.func144, Tryz.ntmps144
    go_upto_region 2 with fail
    rw [← HW1.out] at HE ⊢
    obtain ⟨r0, r1, r2, r3, r4⟩ := K1.out.five
    have f0 := K1.out.fr 0
    have f1 := K1.out.fr 1
    have f2 := K1.out.fr 2
    have f3 := K1.out.fr 3
    have f4 := K1.out.fr 4
    go_wp2_with fail
    refine bodyPost_ret (v := .agg #[.int .i64 0, .int .i64 0, .int .i64 0, .int .i64 0, .int .i64 2]) (by simp [results, Tryz.results144, go_sem, r0, r1, r2, r3, r4]) rfl ?_
    exact HE.out _ _ _ _ _
  have d8 : decide (8000 < (t.size : Int)) = false := decide_eq_false (by omega)
  have ht8 : t.size ≤ 8000 := by omega
  obtain ⟨Q, hQw⟩ : ∃ Q, Q = w.heap.size + 1 := ⟨_, rfl⟩
  have hQ : Q = W1.heap.size := by rw [hQw, HS1.out]
  have HNx : Hid (∀ (a : Int) (bd : Bool) (x : World), a ≤ 9223372036854775807 → Bxs x Q 195 #[.string t, .int .i64 a, .bool bd] → Calls Tryz.prog 190 #[.pointer (some ⟨Q, 0, none⟩)] x fun e w' => e = .returned (.int .i64 (rnN t a bd)) ∧ Bxs w' Q 195 #[.string t, .int .i64 (rnA t a bd), .bool (rnB t a bd)] ∧ x.grownBy w' (some Q)) := fun a bd x ha hb => rdNum_any Q t a bd x hb ht8 ha
  have HGood : Hid (trBad t = false → trC t = 0 ∧ trO t = trT t) := trC_good h8
  have HBad : Hid (trBad t = true → trC t = 3 ∧ trO t = tmZ) := trC_bad h8
  have l1 : trA1 t ≤ 9223372036854775807 := rnA_top t 1 false (by omega) ht8
  have l2 : trA2 t ≤ 9223372036854775807 := rnA_top t _ _ l1 ht8
  have l3 : trA3 t ≤ 9223372036854775807 := rnA_top t _ _ l2 ht8
  obtain ⟨n1, hn1⟩ : ∃ n, n = rnN t 1 false := ⟨_, rfl⟩
  obtain ⟨n2, hn2⟩ : ∃ n, n = rnN t (trA1 t) (trB1 t) := ⟨_, rfl⟩
  obtain ⟨n3, hn3⟩ : ∃ n, n = rnN t (trA2 t) (trB2 t) := ⟨_, rfl⟩
  obtain ⟨n4, hn4⟩ : ∃ n, n = rnN t (trA3 t) (trB3 t) := ⟨_, rfl⟩
  obtain ⟨a4, ha4⟩ : ∃ n, n = rnA t (trA3 t) (trB3 t) := ⟨_, rfl⟩
  obtain ⟨b4, hb4⟩ : ∃ n, n = trBd t := ⟨_, rfl⟩
  have HT : Hid (trT t = ⟨n1, n2, n3, n4⟩) := by show _ = _; rw [hn1, hn2, hn3, hn4]; rfl
  have HBd : Hid (trBad t = (b4 || decide (t.size = 0) || !decide (tmT ⟨n1, n2, n3, n4⟩ = t))) := by show _ = _; unfold trBad; rw [HT.out, hb4]
  have C1 : Hid (∀ x, Bxs x Q 195 #[.string t, .int .i64 1, .bool false] → Calls Tryz.prog 190 #[.pointer (some ⟨Q, 0, none⟩)] x fun e w' => e = .returned (.int .i64 n1) ∧ Bxs w' Q 195 #[.string t, .int .i64 (trA1 t), .bool (trB1 t)] ∧ x.grownBy w' (some Q)) := by rw [hn1]; exact fun x hx => HNx.out 1 false x (by omega) hx
  have C2 : Hid (∀ x, Bxs x Q 195 #[.string t, .int .i64 (trA1 t), .bool (trB1 t)] → Calls Tryz.prog 190 #[.pointer (some ⟨Q, 0, none⟩)] x fun e w' => e = .returned (.int .i64 n2) ∧ Bxs w' Q 195 #[.string t, .int .i64 (trA2 t), .bool (trB2 t)] ∧ x.grownBy w' (some Q)) := by rw [hn2]; exact fun x hx => HNx.out _ _ x l1 hx
  have C3 : Hid (∀ x, Bxs x Q 195 #[.string t, .int .i64 (trA2 t), .bool (trB2 t)] → Calls Tryz.prog 190 #[.pointer (some ⟨Q, 0, none⟩)] x fun e w' => e = .returned (.int .i64 n3) ∧ Bxs w' Q 195 #[.string t, .int .i64 (trA3 t), .bool (trB3 t)] ∧ x.grownBy w' (some Q)) := by rw [hn3]; exact fun x hx => HNx.out _ _ x l2 hx
  have C4 : Hid (∀ x, Bxs x Q 195 #[.string t, .int .i64 (trA3 t), .bool (trB3 t)] → Calls Tryz.prog 190 #[.pointer (some ⟨Q, 0, none⟩)] x fun e w' => e = .returned (.int .i64 n4) ∧ Bxs w' Q 195 #[.string t, .int .i64 a4, .bool b4] ∧ x.grownBy w' (some Q)) := by rw [hn4, ha4, hb4]; exact fun x hx => HNx.out _ _ x l3 hx
  have CT : Hid (∀ x, Calls Tryz.prog 118 #[.agg #[.int .i64 n1, .int .i64 n2, .int .i64 n3, .int .i64 n4]] x fun e w' => e = .returned (.string (tmT ⟨n1, n2, n3, n4⟩)) ∧ Below x.heap.size x w') := fun x => specTombText_any ⟨n1, n2, n3, n4⟩ x
  obtain ⟨W2, hW2⟩ : ∃ W2, W2 = W1.alloc (.cells #[.string t, .int .i64 1, .bool false] 195) := ⟨_, rfl⟩
  have KP : Hid (Bxs W2 Q 195 #[.string t, .int .i64 1, .bool false]) := by rw [hW2, hQ]; exact Bxs.new _ _ _
  have B2 : Hid (Below W1.heap.size W1 W2) := by rw [hW2]; exact (Below.refl _ _).alloc (Nat.le_refl _) _
  have HW2 : Hid (W2 = W1.alloc (.cells #[.string t, .int .i64 1, .bool false] 195)) := hW2
  have HQd : Hid (Q = w.heap.size + 1) := hQw
  have HQs : Hid (W1.heap.size ≤ Q) := by show _ ≤ _; omega
  have e0 := ba_nil t
  have eT := ba_beq (tmT ⟨n1, n2, n3, n4⟩) t
  generalize tmT ⟨n1, n2, n3, n4⟩ = TX at *
  have E0 : Hid (t.toList.isEmpty = decide (t.size = 0)) := e0
  have ET : Hid ((TX.toList == t.toList) = decide (TX = t)) := eT
  clear hn1 hn2 hn3 hn4 ha4 hb4 HNx l1 l2 l3 h8 hW2 hQ hQw e0 eT
  go_enter Tryz.func144, Tryz.ntmps144
  go_upto_region 4 with fail
  rw [← HW1.out]
  rw [← HW2.out, ← HQd.out]
  clear HW2 HW1 HQd d8
  go_wp2_with fail
  refine (C1.out W2 KP.out).mono ?_
  rintro e y1 ⟨rfl, kb1, hg1⟩
  go_upto_region 5 with fail
  obtain ⟨y2, hy2⟩ : ∃ y2, y2 = y1.alloc (.cells #[.int .i64 n1, .int .i64 0, .int .i64 0, .int .i64 0] 93) := ⟨_, rfl⟩
  rw [← hy2]
  obtain ⟨Z, hZ⟩ : ∃ Z, Z = y1.heap.size := ⟨_, rfl⟩
  have S2 : RbS W1 Q Z t (trA1 t) (trB1 t) #[.int .i64 n1, .int .i64 0, .int .i64 0, .int .i64 0] y2 := by
    have hz1 := kb1.lt
    have b1 : Below W1.heap.size W1 y1 := B2.out.grown hg1 B2.out.size (fun j hj => by cases hj; exact HQs.out)
    rw [hy2, hZ]
    exact ⟨alB b1 _, kb1.alloc _, Bxs.new _ _ _, HQs.out, b1.size, by omega⟩
  rw [← hZ]
  have S2' : Hid (RbS W1 Q Z t (trA1 t) (trB1 t) #[.int .i64 n1, .int .i64 0, .int .i64 0, .int .i64 0] y2) := S2
  clear hy2 hZ S2 kb1 hg1 KP B2
  go_wp2_with fail
  refine (C2.out y2 S2'.out.rd).mono ?_
  rintro e z1 ⟨rfl, kb, hg⟩
  have S := S2'.out.call kb hg
  have p1 : z1.cell? ⟨Z, 1, none⟩ = some (.int .i64 0) := S.box.cell 1
  have f1 := S.box.fr 1
  have T1 : Hid (RbS W1 Q Z t (trA2 t) (trB2 t) #[.int .i64 n1, .int .i64 n2, .int .i64 0, .int .i64 0] (z1.setCell ⟨Z, 1, none⟩ (.int .i64 n2))) := S.put 1 _
  clear S kb hg S2'
  go_upto_region 6 with fail
  obtain ⟨u1, hu1⟩ : ∃ u1, u1 = z1.setCell ⟨Z, 1, none⟩ (.int .i64 n2) := ⟨_, rfl⟩
  rw [← hu1] at T1 ⊢
  have S3' : Hid (RbS W1 Q Z t (trA2 t) (trB2 t) #[.int .i64 n1, .int .i64 n2, .int .i64 0, .int .i64 0] u1) := T1.out
  clear hu1 T1 p1 f1
  go_wp2_with fail
  refine (C3.out u1 S3'.out.rd).mono ?_
  rintro e z2 ⟨rfl, kb, hg⟩
  have S := S3'.out.call kb hg
  have p2 : z2.cell? ⟨Z, 2, none⟩ = some (.int .i64 0) := S.box.cell 2
  have f2 := S.box.fr 2
  have T2 : Hid (RbS W1 Q Z t (trA3 t) (trB3 t) #[.int .i64 n1, .int .i64 n2, .int .i64 n3, .int .i64 0] (z2.setCell ⟨Z, 2, none⟩ (.int .i64 n3))) := S.put 2 _
  clear S kb hg S3'
  go_upto_region 7 with fail
  obtain ⟨u2, hu2⟩ : ∃ u2, u2 = z2.setCell ⟨Z, 2, none⟩ (.int .i64 n3) := ⟨_, rfl⟩
  rw [← hu2] at T2 ⊢
  have S4' : Hid (RbS W1 Q Z t (trA3 t) (trB3 t) #[.int .i64 n1, .int .i64 n2, .int .i64 n3, .int .i64 0] u2) := T2.out
  clear hu2 T2 p2 f2
  go_wp2_with fail
  refine (C4.out u2 S4'.out.rd).mono ?_
  rintro e z3 ⟨rfl, kb, hg⟩
  have S := S4'.out.call kb hg
  have p3 : z3.cell? ⟨Z, 3, none⟩ = some (.int .i64 0) := S.box.cell 3
  have f3 := S.box.fr 3
  have T3 : Hid (RbS W1 Q Z t a4 b4 #[.int .i64 n1, .int .i64 n2, .int .i64 n3, .int .i64 n4] (z3.setCell ⟨Z, 3, none⟩ (.int .i64 n4))) := S.put 3 _
  clear S kb hg S4'
  go_upto_region 8 with fail
  obtain ⟨u3, hu3⟩ : ∃ u3, u3 = z3.setCell ⟨Z, 3, none⟩ (.int .i64 n4) := ⟨_, rfl⟩
  rw [← hu3] at T3 ⊢
  have S5' : Hid (RbS W1 Q Z t a4 b4 #[.int .i64 n1, .int .i64 n2, .int .i64 n3, .int .i64 n4] u3) := T3.out
  clear hu3 T3 p3 f3
  have q2 : u3.cell? ⟨Q, 2, none⟩ = some (.bool b4) := S5'.out.rd.cell 2
  obtain ⟨c0, c1, c2, c3⟩ := S5'.out.box.four
  have K9 : Hid (Bxs u3 w.heap.size 160 #[.int .i64 0, .int .i64 0, .int .i64 0, .int .i64 0, .int .i64 0]) := K1.out.below S5'.out.bel
  have HE3 : Hid (trBad t = true → ∀ (y : World), Below u3.heap.size u3 y → ∀ x0 x1 x2 x3 x4, Ending.returned (.agg #[.int .i64 0, .int .i64 0, .int .i64 0, .int .i64 0, .int .i64 3]) = .returned (tmO (trO t) (trC t)) ∧ Below w.heap.size w (((((y.setCell ⟨w.heap.size, 0, none⟩ x0).setCell ⟨w.heap.size, 1, none⟩ x1).setCell ⟨w.heap.size, 2, none⟩ x2).setCell ⟨w.heap.size, 3, none⟩ x3).setCell ⟨w.heap.size, 4, none⟩ x4)) := fun h y hy x0 x1 x2 x3 x4 => HEr.out y 3 tmZ x0 x1 x2 x3 x4 (chainB S5'.out.bel hy) (HBad.out h).1 (HBad.out h).2
  have HE0 : Hid (trBad t = false → ∀ (y : World), Below u3.heap.size u3 y → ∀ x0 x1 x2 x3 x4, Ending.returned (.agg #[.int .i64 n1, .int .i64 n2, .int .i64 n3, .int .i64 n4, .int .i64 0]) = .returned (tmO (trO t) (trC t)) ∧ Below w.heap.size w (((((y.setCell ⟨w.heap.size, 0, none⟩ x0).setCell ⟨w.heap.size, 1, none⟩ x1).setCell ⟨w.heap.size, 2, none⟩ x2).setCell ⟨w.heap.size, 3, none⟩ x3).setCell ⟨w.heap.size, 4, none⟩ x4)) := fun h y hy x0 x1 x2 x3 x4 => HEr.out y 0 ⟨n1, n2, n3, n4⟩ x0 x1 x2 x3 x4 (chainB S5'.out.bel hy) (HGood.out h).1 ((HGood.out h).2.trans HT.out)
  have BZ : Hid (Bxs u3 Z 93 #[.int .i64 n1, .int .i64 n2, .int .i64 n3, .int .i64 n4]) := S5'.out.box
  rw [HBd.out] at HE3 HE0
  clear S5' HEr HBad HGood HT HBd C1 C2 C3 C4 K1 B1 HS1
  cases b4 with
  | true =>
    have HE : Hid _ := HE3.out rfl u3 (Below.refl _ _)
    clear HE3 HE0
    obtain ⟨r0, r1, r2, r3, r4⟩ := (K9.out).five
    have f0 := (K9.out).fr 0
    have f1 := (K9.out).fr 1
    have f2 := (K9.out).fr 2
    have f3 := (K9.out).fr 3
    have f4 := (K9.out).fr 4
    go_wp2_with fail
    refine bodyPost_ret (v := .agg #[.int .i64 0, .int .i64 0, .int .i64 0, .int .i64 0, .int .i64 3]) (by simp [results, Tryz.results144, go_sem, r0, r1, r2, r3, r4]) rfl ?_
    exact HE.out _ _ _ _ _
  | false =>
  cases h0 : t.toList.isEmpty with
  | true =>
    have d0 : decide (t.size = 0) = true := by rw [← E0.out]; exact h0
    have HE : Hid _ := HE3.out (by rw [d0]; rfl) u3 (Below.refl _ _)
    clear HE3 HE0 d0 E0
    obtain ⟨r0, r1, r2, r3, r4⟩ := (K9.out).five
    have f0 := (K9.out).fr 0
    have f1 := (K9.out).fr 1
    have f2 := (K9.out).fr 2
    have f3 := (K9.out).fr 3
    have f4 := (K9.out).fr 4
    go_wp2_with fail
    refine bodyPost_ret (v := .agg #[.int .i64 0, .int .i64 0, .int .i64 0, .int .i64 0, .int .i64 3]) (by simp [results, Tryz.results144, go_sem, r0, r1, r2, r3, r4]) rfl ?_
    exact HE.out _ _ _ _ _
  | false =>
    have d0 : decide (t.size = 0) = false := by rw [← E0.out]; exact h0
    cases h1 : (TX.toList == t.toList) with
    | false =>
      have d1 : decide (TX = t) = false := by rw [← ET.out]; exact h1
      have HE3' : Hid (∀ (y : World), Below u3.heap.size u3 y → ∀ x0 x1 x2 x3 x4, Ending.returned (.agg #[.int .i64 0, .int .i64 0, .int .i64 0, .int .i64 0, .int .i64 3]) = .returned (tmO (trO t) (trC t)) ∧ Below w.heap.size w (((((y.setCell ⟨w.heap.size, 0, none⟩ x0).setCell ⟨w.heap.size, 1, none⟩ x1).setCell ⟨w.heap.size, 2, none⟩ x2).setCell ⟨w.heap.size, 3, none⟩ x3).setCell ⟨w.heap.size, 4, none⟩ x4)) := HE3.out (by rw [d0, d1]; rfl)
      clear HE3 HE0 d0 d1 E0 ET
      go_wp2_with fail
      refine (CT.out u3).mono ?_
      rintro e y9 ⟨rfl, b9⟩
      have HE : Hid _ := HE3'.out y9 b9
      have KK := K9.out.below b9
      clear HE3' 
      obtain ⟨r0, r1, r2, r3, r4⟩ := (KK).five
      have f0 := (KK).fr 0
      have f1 := (KK).fr 1
      have f2 := (KK).fr 2
      have f3 := (KK).fr 3
      have f4 := (KK).fr 4
      clear KK K9 b9
      go_wp2_with fail
      refine bodyPost_ret (v := .agg #[.int .i64 0, .int .i64 0, .int .i64 0, .int .i64 0, .int .i64 3]) (by simp [results, Tryz.results144, go_sem, r0, r1, r2, r3, r4]) rfl ?_
      exact HE.out _ _ _ _ _
    | true =>
      have d1 : decide (TX = t) = true := by rw [← ET.out]; exact h1
      have HE0' : Hid (∀ (y : World), Below u3.heap.size u3 y → ∀ x0 x1 x2 x3 x4, Ending.returned (.agg #[.int .i64 n1, .int .i64 n2, .int .i64 n3, .int .i64 n4, .int .i64 0]) = .returned (tmO (trO t) (trC t)) ∧ Below w.heap.size w (((((y.setCell ⟨w.heap.size, 0, none⟩ x0).setCell ⟨w.heap.size, 1, none⟩ x1).setCell ⟨w.heap.size, 2, none⟩ x2).setCell ⟨w.heap.size, 3, none⟩ x3).setCell ⟨w.heap.size, 4, none⟩ x4)) := HE0.out (by rw [d0, d1]; rfl)
      clear HE3 HE0 d0 d1 E0 ET
      go_wp2_with fail
      refine (CT.out u3).mono ?_
      rintro e y9 ⟨rfl, b9⟩
      have HE : Hid _ := HE0'.out y9 b9
      have KK := K9.out.below b9
      obtain ⟨c0, c1, c2, c3⟩ := (BZ.out.below b9).four
      clear HE0' 
      obtain ⟨r0, r1, r2, r3, r4⟩ := (KK).five
      have f0 := (KK).fr 0
      have f1 := (KK).fr 1
      have f2 := (KK).fr 2
      have f3 := (KK).fr 3
      have f4 := (KK).fr 4
      clear KK K9 b9 BZ
      go_wp2_with fail
      refine bodyPost_ret (v := .agg #[.int .i64 n1, .int .i64 n2, .int .i64 n3, .int .i64 n4, .int .i64 0]) (by simp [results, Tryz.results144, go_sem, r0, r1, r2, r3, r4]) rfl ?_
      exact HE.out _ _ _ _ _
end Go.Proofs.YtepmoihgemhjcaaGreatDoor
