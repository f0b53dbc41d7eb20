/-
  Parts of one proof, laid as one text: LawFM, LawFX, Takes, LawSG; what each says stands at its head.
-/
import Derived.Test.YthfecjjahoflcaaGreatDoorRows
import Derived.Test.YthfecjjahoflcaaGreatDoorBytesDigMathTreeMath
import Derived.Test.YthfecjjahoflcaaGreatDoorSlASlBBxKOwnSTakesLTillTwo
import Derived.Test.YthfecjjahoflcaaGreatDoorLawFRLawSLawM
import Derived.Test.YthfecjjahoflcaaGreatDoorJoinedPutTextFldMathFldGShwK
import Derived.Test.YthfecjjahoflcaaGreatDoorOneKFldBlkFldRiseScanMathGetValGetTxtNumMathFldRdNumFromTmbMath
import Derived.Test.YthfecjjahoflcaaGreatDoorLgMathLgAtKRwBlkLawF
import Derived.Handy
import Derived.OwnWalk
import Derived.Laws.OwnMore
import Derived.Deep.RegionLaw
import Derived.Deep.RegionWith
import Derived.Deep.RegionHeld3
import Derived.Deep.QuietTactic
import Derived.BigQuiet
/-
  What the laws' own helpers do that mark fields: markFieldS, heldFieldS, from any number on.
  Conditions: the slice owns its row, of at most 2^20 fields.
-/
namespace Go.Proofs.YthfecjjahoflcaaGreatDoor
open Go.RowKit Go.Lib
set_option linter.unusedVariables false
set_option maxRecDepth 20000

def mkF (s j : Nat) : Fld := ⟨markB (s + 5 * j), markB (s + 5 * j + 1), markB (s + 5 * j + 2), markB (s + 5 * j + 3), decide ((s + 5 * j + 4) % 3 = 0)⟩
def mfN (s n : Nat) : List Fld := (List.range n).map (mkF s)
def mfT (s : Nat) (l : List Fld) (k : Nat) : List Fld := mfN s k ++ l.drop k
theorem mfT_len (s : Nat) (l : List Fld) (k : Nat) (h : k ≤ l.length) : (mfT s l k).length = l.length := by simp [mfT, mfN]; omega
theorem mfT_set (s : Nat) (l : List Fld) (k : Nat) (h : k < l.length) : (mfT s l k).set k (mkF s k) = mfT s l (k + 1) := by
  unfold mfT mfN
  have hl : ((List.range k).map (mkF s)).length = k := by simp
  rw [List.set_append_right _ _ (by omega), hl, Nat.sub_self, List.drop_eq_getElem_cons h, List.set_cons_zero, List.range_succ, List.map_append, List.append_assoc]; rfl
theorem mfT_all (s : Nat) (l : List Fld) : mfT s l l.length = mfN s l.length := by unfold mfT; simp
theorem mfN_len (s n : Nat) : (mfN s n).length = n := by simp [mfN]
theorem markText_int (z : Int) (k : Nat) (hz : z = (k : Int)) (w : World) (h1 : 1 ≤ k) (h2 : k ≤ 16777217) :
    Calls Tryz.prog 72 #[.int .i64 z] w fun e w' => e = .returned (.string (markB k)) ∧ Below w.heap.size w w' := by
  subst hz; exact markText_any k w h1 h2
/-- A step of the marking: a row of its own, and what is told of the world since. -/
structure MfS (w : World) (base g n cap : Nat) (row : List Value) (x : World) : Prop where
  own : x.ownsRow base 87 5 (.slice (some ⟨g, 0, none⟩) n cap) n row
  gr : w.grownBy x (some g)
theorem MfS.cell {w : World} {base g n cap : Nat} {row : List Value} {x y : World} (h : MfS w base g n cap row x) (hb : Below x.heap.size x y) (i : Nat) (hi : i < n * 5) : (∃ v, y.cell? ⟨g, i, none⟩ = some v) ∧ y.frozen? ⟨g, i, none⟩ = false := by
  have ho := ownS_below h.own hb
  refine ⟨?_, ho.frozenAt _⟩
  rw [ho.cellAt i hi]
  have hl : row.length = n * 5 := h.own.1
  exact ⟨row[i]'(by omega), List.getElem?_eq_getElem (by omega)⟩
theorem MfS.step {w : World} {base g n cap : Nat} {row : List Value} {x y : World} (h : MfS w base g n cap row x) (hb : Below x.heap.size x y) (i : Nat) (v : Value) : MfS w base g n cap (row.set i v) (y.setCell ⟨g, i, none⟩ v) := by
  have ho := ownS_below h.own hb
  have hst := ho.stored i v
  refine ⟨hst.1, ?_⟩
  have a := h.gr
  have a2 := hst.2
  refine ⟨(a2.os.trans hb.os).trans a.os, (a2.tape.trans hb.tape).trans a.tape, (a2.output.trans hb.output).trans a.output, by have := a.size; have := hb.size; have := a2.size; omega, fun q hq hne => ?_⟩
  have l1 := Nat.lt_of_lt_of_le hq a.size
  have l3 := Nat.lt_of_lt_of_le l1 hb.size
  exact (a2.block q l3 hne).trans ((hb.block q l1).trans (a.block q hq hne))
theorem mod3 (z : Int) (k : Nat) (hz : z = (k : Int)) : (z % 3 == 0) = decide (k % 3 = 0) := by
  subst hz
  rw [Bool.eq_iff_iff, beq_iff_eq, decide_eq_true_iff]; omega

set_option maxHeartbeats 4000000 in
theorem markF_any (s : Nat) (hs1 : 1 ≤ s) (base : Nat) (v : Value) (l : List Fld) (w : World) (h : w.ownsRow base 87 5 v l.length (fldRow l)) (hl : s + 5 * l.length ≤ 16777210) :
    Calls Tryz.prog 44 #[v, .int .i64 (s : Int)] w fun e w' => e = .returned (.int .i64 (5 * (l.length : Int) + s)) ∧ w'.ownsRow base 87 5 v l.length (fldRow (mfN s l.length)) ∧ w.grownBy w' v.ownBlock := by
  rcases h.2 with ⟨rfl, h0⟩ | ⟨g, cap, cur, rfl, hg1, hg2, hg3, hg4, hg5, hg6⟩
  · have hl0 : l = [] := List.length_eq_zero_iff.1 h0
    subst hl0
    clear h h0
    go_enter Tryz.func44, Tryz.ntmps44
    go_wp2_with fail
    go_loop [5, 1] (fun i x => i = .int .i64 0 ∧ x = .int .i64 (s : Int)) (fun _ _ => 0)
    case atStart => exact ⟨rfl, rfl⟩
    case round =>
      obtain ⟨rfl, rfl⟩ := hrel
      go_wp2_with fail
      go_ret
      exact ⟨by simp, World.ownsRow_nil _ _ _ _, World.grownBy.refl _ _⟩
  · have HO : Hid (MfS w base g l.length cap (fldRow (mfT s l 0)) w) := by
      refine ⟨?_, World.grownBy.refl _ _⟩
      rw [show mfT s l 0 = l by simp [mfT, mfN]]; exact h
    clear h hg2 hg5 hg6
    go_enter Tryz.func44, Tryz.ntmps44
    go_wp2_with fail
    go_loopw [5, 1] (fun i x wr => ∃ k : Nat, k ≤ l.length ∧ i = .int .i64 k ∧ x = .int .i64 (5 * (k : Int) + s) ∧ Hid (MfS w base g l.length cap (fldRow (mfT s l k)) wr)) (fun i _ _ => l.length - (intOf i).toNat)
    case atStart => exact ⟨0, Nat.zero_le _, rfl, by simp, HO⟩
    case round =>
      clear HO
      obtain ⟨k, hk, rfl, rfl, hM⟩ := hrel
      by_cases hlt : k < l.length
      · have i1 : (k : Int) < l.length := by omega
        have HE : Hid ((((((fldRow (mfT s l k)).set (k * 5) (.string (markB (s + 5 * k)))).set (k * 5 + 1) (.string (markB (s + 5 * k + 1)))).set (k * 5 + 2) (.string (markB (s + 5 * k + 2)))).set (k * 5 + 3) (.string (markB (s + 5 * k + 3)))).set (k * 5 + 4) (.bool (decide ((s + 5 * k + 4) % 3 = 0))) = fldRow (mfT s l (k + 1))) := by
          show _ = _
          rw [← mfT_set s l k hlt, ← fldRow_set]; rfl
        generalize fldRow (mfT s l k) = row0 at *
        have A1 : Hid (∀ z : Int, ∀ w, z = 5 * (k : Int) + s → Calls Tryz.prog 72 #[.int .i64 z] w fun e w' => e = .returned (.string (markB (s + 5 * k))) ∧ Below w.heap.size w w') := fun z w hz => markText_int z _ (by omega) w (by omega) (by omega)
        have A2 : Hid (∀ z : Int, ∀ w, z = 5 * (k : Int) + s + 1 → Calls Tryz.prog 72 #[.int .i64 z] w fun e w' => e = .returned (.string (markB (s + 5 * k + 1))) ∧ Below w.heap.size w w') := fun z w hz => markText_int z _ (by omega) w (by omega) (by omega)
        have A3 : Hid (∀ z : Int, ∀ w, z = 5 * (k : Int) + s + 2 → Calls Tryz.prog 72 #[.int .i64 z] w fun e w' => e = .returned (.string (markB (s + 5 * k + 2))) ∧ Below w.heap.size w w') := fun z w hz => markText_int z _ (by omega) w (by omega) (by omega)
        have A4 : Hid (∀ z : Int, ∀ w, z = 5 * (k : Int) + s + 3 → Calls Tryz.prog 72 #[.int .i64 z] w fun e w' => e = .returned (.string (markB (s + 5 * k + 3))) ∧ Below w.heap.size w w') := fun z w hz => markText_int z _ (by omega) w (by omega) (by omega)
        generalize markB (s + 5 * k) = M1 at *
        generalize markB (s + 5 * k + 1) = M2 at *
        generalize markB (s + 5 * k + 2) = M3 at *
        generalize markB (s + 5 * k + 3) = M4 at *
        go_wp2_with fail
        refine (A1.out _ _ (by omega)).mono ?_
        rintro e y ⟨rfl, b⟩
        obtain ⟨⟨x, c1⟩, f1⟩ := hM.out.cell b (k * 5) (by omega)
        obtain ⟨Y1, hY1⟩ : ∃ Y, Y = y.setCell ⟨g, k * 5, none⟩ (.string M1) := ⟨_, rfl⟩
        have HY1 : Hid (Y1 = y.setCell ⟨g, k * 5, none⟩ (.string M1)) := hY1
        have HM1 : Hid (MfS w base g l.length cap (row0.set (k * 5) (.string M1)) Y1) := by rw [hY1]; exact hM.out.step b _ _
        clear hM b hY1 A1
        go_wp2_with fail
        rw [← HY1.out]
        refine (A2.out _ _ (by omega)).mono ?_
        clear HY1 c1 f1
        rintro e y ⟨rfl, b⟩
        obtain ⟨⟨x, c1⟩, f1⟩ := HM1.out.cell b (k * 5 + 1) (by omega)
        obtain ⟨Y2, hY2⟩ : ∃ Y, Y = y.setCell ⟨g, k * 5 + 1, none⟩ (.string M2) := ⟨_, rfl⟩
        have HY2 : Hid (Y2 = y.setCell ⟨g, k * 5 + 1, none⟩ (.string M2)) := hY2
        have HM2 : Hid (MfS w base g l.length cap ((row0.set (k * 5) (.string M1)).set (k * 5 + 1) (.string M2)) Y2) := by rw [hY2]; exact HM1.out.step b _ _
        clear HM1 b hY2 A2
        go_wp2_with fail
        rw [← HY2.out]
        refine (A3.out _ _ (by omega)).mono ?_
        clear HY2 c1 f1
        rintro e y ⟨rfl, b⟩
        obtain ⟨⟨x, c1⟩, f1⟩ := HM2.out.cell b (k * 5 + 2) (by omega)
        obtain ⟨Y3, hY3⟩ : ∃ Y, Y = y.setCell ⟨g, k * 5 + 2, none⟩ (.string M3) := ⟨_, rfl⟩
        have HY3 : Hid (Y3 = y.setCell ⟨g, k * 5 + 2, none⟩ (.string M3)) := hY3
        have HM3 : Hid (MfS w base g l.length cap (((row0.set (k * 5) (.string M1)).set (k * 5 + 1) (.string M2)).set (k * 5 + 2) (.string M3)) Y3) := by rw [hY3]; exact HM2.out.step b _ _
        clear HM2 b hY3 A3
        go_wp2_with fail
        rw [← HY3.out]
        refine (A4.out _ _ (by omega)).mono ?_
        clear HY3 c1 f1
        rintro e y ⟨rfl, b⟩
        obtain ⟨⟨x, c1⟩, f1⟩ := HM3.out.cell b (k * 5 + 3) (by omega)
        obtain ⟨Y4, hY4⟩ : ∃ Y, Y = y.setCell ⟨g, k * 5 + 3, none⟩ (.string M4) := ⟨_, rfl⟩
        have HY4 : Hid (Y4 = y.setCell ⟨g, k * 5 + 3, none⟩ (.string M4)) := hY4
        have HM4 : Hid (MfS w base g l.length cap ((((row0.set (k * 5) (.string M1)).set (k * 5 + 1) (.string M2)).set (k * 5 + 2) (.string M3)).set (k * 5 + 3) (.string M4)) Y4) := by rw [hY4]; exact HM3.out.step b _ _
        obtain ⟨⟨x5, c5⟩, f5⟩ := HM4.out.cell (Below.refl _ _) (k * 5 + 4) (by omega)
        rw [hY4] at c5 f5
        clear HM3 b hY4 A4
        go_wp2_with fail
        rw [← HY4.out]
        go_roundw
        case rel =>
          have h5 := HM4.out.step (Below.refl _ _) (k * 5 + 4) (.bool (decide ((s + 5 * k + 4) % 3 = 0)))
          rw [HE.out] at h5
          refine ⟨k + 1, by omega, by go_num, by go_num, ?_⟩
          rw [mod3 (5 * (k : Int) + s + 1 + 1 + 1 + 1) (s + 5 * k + 4) (by omega)]
          exact h5
        case measure => simp [intOf]; omega
      · obtain rfl : k = l.length := by omega
        have HO2 : Hid (MfS w base g l.length cap (fldRow (mfN s l.length)) wr) := by
          rw [← mfT_all]; exact hM.out
        go_wp2_with fail
        go_ret
        exact ⟨rfl, HO2.out.own, HO2.out.gr⟩

set_option maxHeartbeats 4000000 in
theorem heldF_any (s : Nat) (hs1 : 1 ≤ s) (p : Option Addr) (cap n : Nat) (w : World) (hp : FldAt w p (mfN s n)) (hn : s + 5 * n ≤ 16777210) (hcap : n ≤ cap) :
    Calls Tryz.prog 94 #[.slice p n cap, .int .i64 (s : Int)] w fun e w' => e = .returned (.int .i64 (5 * (n : Int) + s)) ∧ Below w.heap.size w w' := by
  have HP : Hid (FldAt w p (mfN s n)) := hp
  clear hp
  go_enter Tryz.func94, Tryz.ntmps94
  go_wp2_with fail
  go_loopw [5, 1] (fun i x wr => ∃ k : Nat, k ≤ n ∧ i = .int .i64 k ∧ x = .int .i64 (5 * (k : Int) + s) ∧ Hid (Below w.heap.size w wr)) (fun i _ _ => n - (intOf i).toNat)
  case atStart => exact ⟨0, Nat.zero_le _, rfl, by simp, Below.refl _ _⟩
  case round =>
    obtain ⟨k, hk, rfl, rfl, hB⟩ := hrel
    by_cases hlt : k < n
    · obtain ⟨b, off, rfl, hb, hq⟩ := HP.out k (by rw [mfN_len]; exact hlt)
      have e1 : (mfN s n)[k]'(by rw [mfN_len]; exact hlt) = mkF s k := by simp [mfN]
      rw [e1] at hq
      have HQ : Hid (∀ x, Below w.heap.size w x → x.cell? ⟨b, off + k * 5, none⟩ = some (.string (markB (s + 5 * k))) ∧ x.cell? ⟨b, off + k * 5 + 1, none⟩ = some (.string (markB (s + 5 * k + 1))) ∧ x.cell? ⟨b, off + k * 5 + 2, none⟩ = some (.string (markB (s + 5 * k + 2))) ∧ x.cell? ⟨b, off + k * 5 + 3, none⟩ = some (.string (markB (s + 5 * k + 3))) ∧ x.cell? ⟨b, off + k * 5 + 4, none⟩ = some (.bool ((5 * (k : Int) + s + 1 + 1 + 1 + 1) % 3 == 0))) := fun x hx => by
        rw [mod3 (5 * (k : Int) + s + 1 + 1 + 1 + 1) (s + 5 * k + 4) (by omega)]
        exact ⟨(hx.cell (p := ⟨b, off + k * 5, none⟩) hb).trans hq.1, (hx.cell (p := ⟨b, off + k * 5 + 1, none⟩) hb).trans hq.2.1, (hx.cell (p := ⟨b, off + k * 5 + 2, none⟩) hb).trans hq.2.2.1, (hx.cell (p := ⟨b, off + k * 5 + 3, none⟩) hb).trans hq.2.2.2.1, (hx.cell (p := ⟨b, off + k * 5 + 4, none⟩) hb).trans hq.2.2.2.2⟩
      have A1 : Hid (∀ z : Int, ∀ w, z = 5 * (k : Int) + s → Calls Tryz.prog 72 #[.int .i64 z] w fun e w' => e = .returned (.string (markB (s + 5 * k))) ∧ Below w.heap.size w w') := fun z w hz => markText_int z _ (by omega) w (by omega) (by omega)
      have A2 : Hid (∀ z : Int, ∀ w, z = 5 * (k : Int) + s + 1 → Calls Tryz.prog 72 #[.int .i64 z] w fun e w' => e = .returned (.string (markB (s + 5 * k + 1))) ∧ Below w.heap.size w w') := fun z w hz => markText_int z _ (by omega) w (by omega) (by omega)
      have A3 : Hid (∀ z : Int, ∀ w, z = 5 * (k : Int) + s + 2 → Calls Tryz.prog 72 #[.int .i64 z] w fun e w' => e = .returned (.string (markB (s + 5 * k + 2))) ∧ Below w.heap.size w w') := fun z w hz => markText_int z _ (by omega) w (by omega) (by omega)
      have A4 : Hid (∀ z : Int, ∀ w, z = 5 * (k : Int) + s + 3 → Calls Tryz.prog 72 #[.int .i64 z] w fun e w' => e = .returned (.string (markB (s + 5 * k + 3))) ∧ Below w.heap.size w w') := fun z w hz => markText_int z _ (by omega) w (by omega) (by omega)
      clear hq e1
      generalize markB (s + 5 * k) = M1 at *
      generalize markB (s + 5 * k + 1) = M2 at *
      generalize markB (s + 5 * k + 2) = M3 at *
      generalize markB (s + 5 * k + 3) = M4 at *
      have j5 : (k : Int) < n := by omega
      obtain ⟨c1, -⟩ := HQ.out wr hB.out
      go_wp2_with fail
      go_region_with (first | (go_at_call 72; refine (A1.out _ _ (by omega)).mono ?_; rintro e w2 ⟨rfl, b2⟩; have b2 : Below w.heap.size w w2 := chainB (by first | exact hB.out | exact hB.out.drew) b2; have c2 := (HQ.out w2 b2).1))
      all_goals
        have HB2 : Hid (Below w.heap.size w w2) := b2
        have c22 := (HQ.out w2 HB2.out).2.1
        clear b2
        go_wp2_with fail
        go_region_with (first | (go_at_call 72; refine (A2.out _ _ (by omega)).mono ?_; rintro e w3 ⟨rfl, b3⟩; have b3 : Below w.heap.size w w3 := chainB (by first | exact HB2.out | exact HB2.out.drew) b3; have c3 := (HQ.out w3 b3).2.1))
        all_goals
          have HB3 : Hid (Below w.heap.size w w3) := b3
          have c33 := (HQ.out w3 HB3.out).2.2.1
          clear b3
          go_wp2_with fail
          go_region_with (first | (go_at_call 72; refine (A3.out _ _ (by omega)).mono ?_; rintro e w4 ⟨rfl, b4⟩; have b4 : Below w.heap.size w w4 := chainB (by first | exact HB3.out | exact HB3.out.drew) b4; have c4 := (HQ.out w4 b4).2.2.1))
          all_goals
            have HB4 : Hid (Below w.heap.size w w4) := b4
            have c44 := (HQ.out w4 HB4.out).2.2.2.1
            clear b4
            go_wp2_with fail
            go_region_with (first | (go_at_call 72; refine (A4.out _ _ (by omega)).mono ?_; rintro e w5 ⟨rfl, b5⟩; have b5 : Below w.heap.size w w5 := chainB (by first | exact HB4.out | exact HB4.out.drew) b5; have c5 := (HQ.out w5 b5).2.2.2.1))
            all_goals
              have HB5 : Hid (Below w.heap.size w w5) := b5
              have c55 := (HQ.out w5 HB5.out).2.2.2.2
              clear b5
              go_wp2_with fail
              go_roundw
              case rel => exact ⟨k + 1, by omega, by go_num, by go_num, HB5⟩
              case measure => simp [intOf]; omega
    · obtain rfl : k = n := by omega
      go_wp2_with fail
      go_ret
      exact ⟨rfl, hB.out⟩
end Go.Proofs.YthfecjjahoflcaaGreatDoor
/-
  What the laws' own helpers do that mark and look at rows: markRow, heldRow, markRowOut, heldRowOut; what stays as it was while they do.
-/
namespace Go.Proofs.YthfecjjahoflcaaGreatDoor
open Go.RowKit Go.Lib
set_option linter.unusedVariables false
set_option maxRecDepth 20000

theorem Bxs.read3 {w : World} {g : Nat} {T : TypeId} {a b c : Value} (k : Bxs w g T #[a, b, c]) : w.cell? ⟨g, 0, none⟩ = some a ∧ w.cell? ⟨g, 1, none⟩ = some b ∧ w.cell? ⟨g, 2, none⟩ = some c := ⟨k.cell 0, k.cell 1, k.cell 2⟩
theorem Bxs.read4 {w : World} {g : Nat} {T : TypeId} {a b c d : Value} (k : Bxs w g T #[a, b, c, d]) : w.cell? ⟨g, 0, none⟩ = some a ∧ w.cell? ⟨g, 1, none⟩ = some b ∧ w.cell? ⟨g, 2, none⟩ = some c ∧ w.cell? ⟨g, 3, none⟩ = some d := ⟨k.cell 0, k.cell 1, k.cell 2, k.cell 3⟩
/-- What marking a row leaves. -/
def MkF (base : Nat) (p : Option Addr) (c : Nat) (l : List Fld) (w w' : World) : Prop :=
  w'.ownsRow base 87 5 (.slice p l.length c) l.length (fldRow (mfN 1 l.length)) ∧ w.grownBy w' (Value.slice p l.length c).ownBlock
theorem MkF.alloc {base : Nat} {p : Option Addr} {c : Nat} {l : List Fld} {w w' : World} {o : Obj} (h : MkF base p c l (w.alloc o) w') : MkF base p c l w w' := by
  obtain ⟨h1, g⟩ := h
  exact ⟨h1, ⟨g.os, g.tape, g.output, by have := g.size; simp at this; omega, fun b hb hn => (g.block b (by simp; omega) hn).trans (Below.heap_alloc _ _ _ hb)⟩⟩

set_option maxHeartbeats 1000000 in
theorem markRow_any (kd : ByteArray) (at_ : Int) (base : Nat) (p : Option Addr) (c : Nat) (l : List Fld) (w : World) (o : w.ownsRow base 87 5 (.slice p l.length c) l.length (fldRow l)) (hl : l.length ≤ 1048576) :
    Calls Tryz.prog 15 #[.agg #[.string kd, .int .i64 at_, .slice p l.length c], .int .i64 1] w fun e w' => e = .returned (.int .i64 (5 * (l.length : Int) + 1)) ∧ MkF base p c l w w' := by
  obtain ⟨W1, hW1⟩ : ∃ W1, W1 = w.alloc (.cells #[.string kd, .int .i64 at_, .slice p l.length c] 40) := ⟨_, rfl⟩
  have HW1 : Hid (W1 = w.alloc (.cells #[.string kd, .int .i64 at_, .slice p l.length c] 40)) := hW1
  have HG : Hid (∀ w', MkF base p c l W1 w' → MkF base p c l w w') := by rw [hW1]; exact fun w' h => h.alloc
  have H1 := markF_any 1 (by omega) base (.slice p l.length c) l W1 (by rw [hW1]; exact o.alloc _) (by omega)
  rw [show ((1 : Nat) : Int) = 1 from rfl] at H1
  clear hW1 o
  go_enter Tryz.func15, Tryz.ntmps15
  go_wp2_with fail
  rw [← HW1.out]
  refine H1.mono ?_
  rintro e w2 ⟨rfl, q1, g1⟩
  have HP : Hid (MkF base p c l w w2) := HG.out w2 ⟨q1, g1⟩
  clear q1 g1 H1
  go_wp2_with fail
  go_ret
  exact ⟨rfl, HP.out⟩

/-- A row of fields of its own, and what it reads. -/
theorem ownF_at {w : World} {base : Nat} {p : Option Addr} {c : Nat} {l : List Fld} (h : w.ownsRow base 87 5 (.slice p l.length c) l.length (fldRow l)) : FldAt w p l ∧ l.length ≤ c := by
  obtain ⟨p', c', e, h1, h2⟩ := ownF_form h
  cases e
  exact ⟨h2, h1⟩
theorem ownF_marks {w : World} {base : Nat} {p : Option Addr} {c n : Nat} (h : w.ownsRow base 87 5 (.slice p n c) n (fldRow (mfN 1 n))) : FldAt w p (mfN 1 n) := by
  have h' : w.ownsRow base 87 5 (.slice p (mfN 1 n).length c) (mfN 1 n).length (fldRow (mfN 1 n)) := by rw [mfN_len]; exact h
  exact (ownF_at h').1
/-- What stays as it was while rows are marked: a first box, two boxes of answers, and a row that is nobody's to mark. -/
structure MkS (w : World) (A T : TypeId) (ca cw cg : Array Value) (bw bg : Nat) (P : World → Prop) (x : World) : Prop where
  bel : Below w.heap.size w x
  ba : Bxs x w.heap.size A ca
  bw : Bxs x bw T cw
  bg : Bxs x bg T cg
  ps : P x
theorem MkS.below {w : World} {A T : TypeId} {ca cw cg : Array Value} {bw bg : Nat} {P : World → Prop} {x y : World} (h : MkS w A T ca cw cg bw bg P x) (hP : ∀ x y, P x → Below x.heap.size x y → P y) (hb : Below x.heap.size x y) : MkS w A T ca cw cg bw bg P y :=
  ⟨chainB h.bel hb, h.ba.below hb, h.bw.below hb, h.bg.below hb, hP _ _ h.ps hb⟩
theorem MkS.grown {w : World} {A T : TypeId} {ca cw cg : Array Value} {bw bg : Nat} {P : World → Prop} {x y : World} {row : Option Nat} (h : MkS w A T ca cw cg bw bg P x) (hg : x.grownBy y row) (hr : ∀ j, row = some j → w.heap.size < j ∧ j ≠ bw ∧ j ≠ bg) (hP : P y) : MkS w A T ca cw cg bw bg P y :=
  ⟨h.bel.grown hg h.bel.size (fun j hj => by have := hr j hj; omega), h.ba.grown hg (fun e => by have := hr _ e.symm; omega), h.bw.grown hg (fun e => by have := hr _ e.symm; omega), h.bg.grown hg (fun e => by have := hr _ e.symm; omega), hP⟩
end Go.Proofs.YthfecjjahoflcaaGreatDoor
/-
  One operation of a drawing region taken by hand: wanted or not, a call that stands alone.
-/
namespace Go.Proofs.YthfecjjahoflcaaGreatDoor
open Go.RowKit Go.Lib
set_option linter.unusedVariables false

theorem take_at {P : Program} {md : Region.Mode} {ops : Array Oper} {Q : Exit → Act → World → Prop} {S : World → Prop} (i : Nat) {oi : Oper} {v : Value} {fuel : Nat} {listed : Array Bool} {a : Act} {w : World} (hi : ops.toList[i]? = some oi)
    (hs : Region.noSelect ops = true) (hf : Region.free md ops listed i = true) (hr : (Region.ready md ops listed).contains i = true)
    (hQ : ∀ c a w, Q (.panic c) (a.put oi.dst v) w → Q (.panic c) a w) (hS : S w) (hy : YieldsIf P ops S oi v a)
    (h : wpAnyH P md ops Q S fuel (listed.setIfInBounds i true) (a.put oi.dst v) w) : wpAnyH P md ops Q S (fuel + 1) listed a w :=
  wpAnyH_take (by rw [← hi]; simp) hs hf hr hQ hy hS h
theorem ready_at {P : Program} {md : Region.Mode} {ops : Array Oper} {Q : Exit → Act → World → Prop} {S : World → Prop} (i : Nat) {o : Oper} {fuel : Nat} {listed : Array Bool} {a : Act} {w : World} (hi : ops.toList[i]? = some o) (hr : Region.ready md ops listed = [i])
    (h : ∀ K' : Act → World → Prop, Shut (∀ a w, S w → (S w → wpAnyH P md ops Q S fuel (listed.setIfInBounds i true) a w) → K' a w) → if Region.wanted o (yielded ops a.tmps) = true then Oper.wp P o a w K' Q else K' (a.put o.dst undef) w) : wpAnyH P md ops Q S (fuel + 1) listed a w :=
  wpAnyH_ready hr (by simp) (AllReadyH.cons (by rw [← hi]; simp) h AllReadyH.nil)
end Go.Proofs.YthfecjjahoflcaaGreatDoor
/-
  szStringS from any number on.
-/
namespace Go.Proofs.YthfecjjahoflcaaGreatDoor
open Go.RowKit Go.Lib
set_option linter.unusedVariables false

def SzTo (r l0 : Int) (ss : List ByteArray) : Prop := r = -1 ∨ (0 ≤ r ∧ r ≤ l0 ∧ ss.length ≤ 1048576 ∧ ∀ x ∈ ss, x.size ≤ 1048576)
set_option maxHeartbeats 400000 in
theorem szG_any (l0 : Int) (l00 : 0 ≤ l0) (l01 : l0 ≤ 1048576) (p : Option Addr) (cap : Nat) (ss : List ByteArray) (w : World) (hp : TxtAt w p ss) (hn : ss.length ≤ 9223372036854775807) (hcap : ss.length ≤ cap) (hs : ∀ x ∈ ss, x.size ≤ 9223372036854775807) :
    Calls Tryz.prog 21 #[.slice p ss.length cap, .int .i64 l0] w fun e w' => (∃ r : Int, e = .returned (.int .i64 r) ∧ SzTo r l0 ss) ∧ w' = w := by
  have HP : Hid (TxtAt w p ss) := hp
  have HS : Hid (∀ x ∈ ss, x.size ≤ 9223372036854775807) := hs
  clear hp hs
  by_cases hl : (ss.length : Int) ≤ l0
  · go_enter Tryz.func21, Tryz.ntmps21
    go_wp2
    go_loop [5, 1] (fun i x => ∃ (k : Nat) (l : Int), k ≤ ss.length ∧ i = .int .i64 k ∧ x = .int .i64 l ∧ 0 ≤ l ∧ l ≤ l0 ∧ Hid (∀ j (h : j < ss.length), j < k → ss[j].size ≤ 1048576)) (fun i _ => ss.length - (intOf i).toNat)
    case atStart => exact ⟨0, _, Nat.zero_le _, rfl, rfl, by omega, by omega, fun j h hk => by omega⟩
    case round =>
      obtain ⟨k, l, hk, rfl, rfl, hl0, hl1, HK⟩ := hrel
      by_cases hlt : k < ss.length
      · obtain ⟨b, off, rfl, hb, hck⟩ := HP.out k hlt
        have hsz := HS.out ss[k] (List.getElem_mem hlt)
        by_cases h32 : (ss[k].size : Int) ≤ l
        · have HK2 : Hid (∀ j (h : j < ss.length), j < k + 1 → ss[j].size ≤ 1048576) := fun j h hj => if he : j = k then by subst he; omega else HK.out j h (by omega)
          generalize ss[k] = q at *
          go_wp2
          go_round
          case rel => exact ⟨k + 1, l - q.size, by omega, by go_num, by go_num, by omega, by omega, HK2⟩
          case measure => simp [intOf]; omega
        · generalize ss[k] = q at *
          go_wp2
          go_ret
          exact ⟨⟨_, rfl, .inl rfl⟩, rfl⟩
      · have HF : Hid (∀ x ∈ ss, x.size ≤ 1048576) := fun x hx => by
          obtain ⟨j, hj, rfl⟩ := List.getElem_of_mem hx
          exact HK.out j hj (by omega)
        go_wp2
        go_ret
        exact ⟨⟨_, rfl, .inr ⟨hl0, by omega, by omega, HF.out⟩⟩, rfl⟩
  · go_enter Tryz.func21, Tryz.ntmps21
    go_wp2
    go_ret
    exact ⟨⟨_, rfl, .inl rfl⟩, rfl⟩

end Go.Proofs.YthfecjjahoflcaaGreatDoor
