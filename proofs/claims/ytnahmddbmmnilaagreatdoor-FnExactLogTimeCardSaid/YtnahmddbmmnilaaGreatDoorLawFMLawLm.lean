/-
  Parts of one proof, laid as one text: LawFM, LawLm; what each says stands at its head.
-/
import Derived.Test.YtnahmddbmmnilaaGreatDoorRows
import Derived.Test.YtnahmddbmmnilaaGreatDoorBytesDigMath
import Derived.Test.YtnahmddbmmnilaaGreatDoorSlASlBBxKOwnS
import Derived.Test.YtnahmddbmmnilaaGreatDoorLawMLawMG
import Derived.Test.YtnahmddbmmnilaaGreatDoorJoinedPutTextFldMathFldRiseScanMath
import Derived.Test.YtnahmddbmmnilaaGreatDoorOneKFldGFldBlkRwBlkTakes
import Derived.Test.YtnahmddbmmnilaaGreatDoorLawFLawFRLawSLawSG
import Derived.Handy
import Derived.OwnWalk
import Derived.Laws.OwnMore
import Derived.Deep.RegionLaw
import Derived.Deep.RegionWith
import Derived.Test.YtnahmddbmmnilaaGreatDoorLgMathLgAtKShwK
import Derived.Test.YtnahmddbmmnilaaGreatDoorLawLhLawLz
import Derived.WalkSpells
/-
  What the laws' own helpers do that mark fields: markFieldS, heldFieldS, from any number on.
  Conditions: the slice owns its row, of at most 2^20 fields.
-/
namespace Go.Proofs.YtnahmddbmmnilaaGreatDoor
open Go.RowKit Go.Lib
set_option linter.unusedVariables false
set_option maxRecDepth 20000

def mkF (s j : Nat) : Fld := ⟨markB (s + 5 * j), markB (s + 5 * j + 1), markB (s + 5 * j + 2), markB (s + 5 * j + 3), decide ((s + 5 * j + 4) % 3 = 0)⟩
def mfN (s n : Nat) : List Fld := (List.range n).map (mkF s)
def mfT (s : Nat) (l : List Fld) (k : Nat) : List Fld := mfN s k ++ l.drop k
theorem mfT_len (s : Nat) (l : List Fld) (k : Nat) (h : k ≤ l.length) : (mfT s l k).length = l.length := by simp [mfT, mfN]; omega
theorem mfT_set (s : Nat) (l : List Fld) (k : Nat) (h : k < l.length) : (mfT s l k).set k (mkF s k) = mfT s l (k + 1) := by
  unfold mfT mfN
  have hl : ((List.range k).map (mkF s)).length = k := by simp
  rw [List.set_append_right _ _ (by omega), hl, Nat.sub_self, List.drop_eq_getElem_cons h, List.set_cons_zero, List.range_succ, List.map_append, List.append_assoc]; rfl
theorem mfT_all (s : Nat) (l : List Fld) : mfT s l l.length = mfN s l.length := by unfold mfT; simp
theorem mfN_len (s n : Nat) : (mfN s n).length = n := by simp [mfN]
theorem markText_int (z : Int) (k : Nat) (hz : z = (k : Int)) (w : World) (h1 : 1 ≤ k) (h2 : k ≤ 16777217) :
    Calls Tryz.prog 202 #[.int .i64 z] w fun e w' => e = .returned (.string (markB k)) ∧ Below w.heap.size w w' := by
  subst hz; exact markText_any k w h1 h2
/-- A step of the marking: a row of its own, and what is told of the world since. -/
structure MfS (w : World) (base g n cap : Nat) (row : List Value) (x : World) : Prop where
  own : x.ownsRow base 120 5 (.slice (some ⟨g, 0, none⟩) n cap) n row
  gr : w.grownBy x (some g)
theorem MfS.cell {w : World} {base g n cap : Nat} {row : List Value} {x y : World} (h : MfS w base g n cap row x) (hb : Below x.heap.size x y) (i : Nat) (hi : i < n * 5) : (∃ v, y.cell? ⟨g, i, none⟩ = some v) ∧ y.frozen? ⟨g, i, none⟩ = false := by
  have ho := ownS_below h.own hb
  refine ⟨?_, ho.frozenAt _⟩
  rw [ho.cellAt i hi]
  have hl : row.length = n * 5 := h.own.1
  exact ⟨row[i]'(by omega), List.getElem?_eq_getElem (by omega)⟩
theorem MfS.step {w : World} {base g n cap : Nat} {row : List Value} {x y : World} (h : MfS w base g n cap row x) (hb : Below x.heap.size x y) (i : Nat) (v : Value) : MfS w base g n cap (row.set i v) (y.setCell ⟨g, i, none⟩ v) := by
  have ho := ownS_below h.own hb
  have hst := ho.stored i v
  refine ⟨hst.1, ?_⟩
  have a := h.gr
  have a2 := hst.2
  refine ⟨(a2.os.trans hb.os).trans a.os, (a2.tape.trans hb.tape).trans a.tape, (a2.output.trans hb.output).trans a.output, by have := a.size; have := hb.size; have := a2.size; omega, fun q hq hne => ?_⟩
  have l1 := Nat.lt_of_lt_of_le hq a.size
  have l3 := Nat.lt_of_lt_of_le l1 hb.size
  exact (a2.block q l3 hne).trans ((hb.block q l1).trans (a.block q hq hne))
theorem mod3 (z : Int) (k : Nat) (hz : z = (k : Int)) : (z % 3 == 0) = decide (k % 3 = 0) := by
  subst hz
  rw [Bool.eq_iff_iff, beq_iff_eq, decide_eq_true_iff]; omega

set_option maxHeartbeats 4000000 in
theorem markF_any (s : Nat) (hs1 : 1 ≤ s) (base : Nat) (v : Value) (l : List Fld) (w : World) (h : w.ownsRow base 120 5 v l.length (fldRow l)) (hl : s + 5 * l.length ≤ 16777210) :
    Calls Tryz.prog 143 #[v, .int .i64 (s : Int)] w fun e w' => e = .returned (.int .i64 (5 * (l.length : Int) + s)) ∧ w'.ownsRow base 120 5 v l.length (fldRow (mfN s l.length)) ∧ w.grownBy w' v.ownBlock := by
  rcases h.2 with ⟨rfl, h0⟩ | ⟨g, cap, cur, rfl, hg1, hg2, hg3, hg4, hg5, hg6⟩
  · have hl0 : l = [] := List.length_eq_zero_iff.1 h0
    subst hl0
    clear h h0
    go_enter Tryz.func143, Tryz.ntmps143
    go_wp2_with fail
    go_loop [5, 1] (fun i x => i = .int .i64 0 ∧ x = .int .i64 (s : Int)) (fun _ _ => 0)
    case atStart => exact ⟨rfl, rfl⟩
    case round =>
      obtain ⟨rfl, rfl⟩ := hrel
      go_wp2_with fail
      go_ret
      exact ⟨by simp, World.ownsRow_nil _ _ _ _, World.grownBy.refl _ _⟩
  · have HO : Hid (MfS w base g l.length cap (fldRow (mfT s l 0)) w) := by
      refine ⟨?_, World.grownBy.refl _ _⟩
      rw [show mfT s l 0 = l by simp [mfT, mfN]]; exact h
    clear h hg2 hg5 hg6
    go_enter Tryz.func143, Tryz.ntmps143
    go_wp2_with fail
    go_loopw [5, 1] (fun i x wr => ∃ k : Nat, k ≤ l.length ∧ i = .int .i64 k ∧ x = .int .i64 (5 * (k : Int) + s) ∧ Hid (MfS w base g l.length cap (fldRow (mfT s l k)) wr)) (fun i _ _ => l.length - (intOf i).toNat)
    case atStart => exact ⟨0, Nat.zero_le _, rfl, by simp, HO⟩
    case round =>
      clear HO
      obtain ⟨k, hk, rfl, rfl, hM⟩ := hrel
      by_cases hlt : k < l.length
      · have i1 : (k : Int) < l.length := by omega
        have HE : Hid ((((((fldRow (mfT s l k)).set (k * 5) (.string (markB (s + 5 * k)))).set (k * 5 + 1) (.string (markB (s + 5 * k + 1)))).set (k * 5 + 2) (.string (markB (s + 5 * k + 2)))).set (k * 5 + 3) (.string (markB (s + 5 * k + 3)))).set (k * 5 + 4) (.bool (decide ((s + 5 * k + 4) % 3 = 0))) = fldRow (mfT s l (k + 1))) := by
          show _ = _
          rw [← mfT_set s l k hlt, ← fldRow_set]; rfl
        generalize fldRow (mfT s l k) = row0 at *
        have A1 : Hid (∀ z : Int, ∀ w, z = 5 * (k : Int) + s → Calls Tryz.prog 202 #[.int .i64 z] w fun e w' => e = .returned (.string (markB (s + 5 * k))) ∧ Below w.heap.size w w') := fun z w hz => markText_int z _ (by omega) w (by omega) (by omega)
        have A2 : Hid (∀ z : Int, ∀ w, z = 5 * (k : Int) + s + 1 → Calls Tryz.prog 202 #[.int .i64 z] w fun e w' => e = .returned (.string (markB (s + 5 * k + 1))) ∧ Below w.heap.size w w') := fun z w hz => markText_int z _ (by omega) w (by omega) (by omega)
        have A3 : Hid (∀ z : Int, ∀ w, z = 5 * (k : Int) + s + 2 → Calls Tryz.prog 202 #[.int .i64 z] w fun e w' => e = .returned (.string (markB (s + 5 * k + 2))) ∧ Below w.heap.size w w') := fun z w hz => markText_int z _ (by omega) w (by omega) (by omega)
        have A4 : Hid (∀ z : Int, ∀ w, z = 5 * (k : Int) + s + 3 → Calls Tryz.prog 202 #[.int .i64 z] w fun e w' => e = .returned (.string (markB (s + 5 * k + 3))) ∧ Below w.heap.size w w') := fun z w hz => markText_int z _ (by omega) w (by omega) (by omega)
        generalize markB (s + 5 * k) = M1 at *
        generalize markB (s + 5 * k + 1) = M2 at *
        generalize markB (s + 5 * k + 2) = M3 at *
        generalize markB (s + 5 * k + 3) = M4 at *
        go_wp2_with fail
        refine (A1.out _ _ (by omega)).mono ?_
        rintro e y ⟨rfl, b⟩
        obtain ⟨⟨x, c1⟩, f1⟩ := hM.out.cell b (k * 5) (by omega)
        obtain ⟨Y1, hY1⟩ : ∃ Y, Y = y.setCell ⟨g, k * 5, none⟩ (.string M1) := ⟨_, rfl⟩
        have HY1 : Hid (Y1 = y.setCell ⟨g, k * 5, none⟩ (.string M1)) := hY1
        have HM1 : Hid (MfS w base g l.length cap (row0.set (k * 5) (.string M1)) Y1) := by rw [hY1]; exact hM.out.step b _ _
        clear hM b hY1 A1
        go_wp2_with fail
        rw [← HY1.out]
        refine (A2.out _ _ (by omega)).mono ?_
        clear HY1 c1 f1
        rintro e y ⟨rfl, b⟩
        obtain ⟨⟨x, c1⟩, f1⟩ := HM1.out.cell b (k * 5 + 1) (by omega)
        obtain ⟨Y2, hY2⟩ : ∃ Y, Y = y.setCell ⟨g, k * 5 + 1, none⟩ (.string M2) := ⟨_, rfl⟩
        have HY2 : Hid (Y2 = y.setCell ⟨g, k * 5 + 1, none⟩ (.string M2)) := hY2
        have HM2 : Hid (MfS w base g l.length cap ((row0.set (k * 5) (.string M1)).set (k * 5 + 1) (.string M2)) Y2) := by rw [hY2]; exact HM1.out.step b _ _
        clear HM1 b hY2 A2
        go_wp2_with fail
        rw [← HY2.out]
        refine (A3.out _ _ (by omega)).mono ?_
        clear HY2 c1 f1
        rintro e y ⟨rfl, b⟩
        obtain ⟨⟨x, c1⟩, f1⟩ := HM2.out.cell b (k * 5 + 2) (by omega)
        obtain ⟨Y3, hY3⟩ : ∃ Y, Y = y.setCell ⟨g, k * 5 + 2, none⟩ (.string M3) := ⟨_, rfl⟩
        have HY3 : Hid (Y3 = y.setCell ⟨g, k * 5 + 2, none⟩ (.string M3)) := hY3
        have HM3 : Hid (MfS w base g l.length cap (((row0.set (k * 5) (.string M1)).set (k * 5 + 1) (.string M2)).set (k * 5 + 2) (.string M3)) Y3) := by rw [hY3]; exact HM2.out.step b _ _
        clear HM2 b hY3 A3
        go_wp2_with fail
        rw [← HY3.out]
        refine (A4.out _ _ (by omega)).mono ?_
        clear HY3 c1 f1
        rintro e y ⟨rfl, b⟩
        obtain ⟨⟨x, c1⟩, f1⟩ := HM3.out.cell b (k * 5 + 3) (by omega)
        obtain ⟨Y4, hY4⟩ : ∃ Y, Y = y.setCell ⟨g, k * 5 + 3, none⟩ (.string M4) := ⟨_, rfl⟩
        have HY4 : Hid (Y4 = y.setCell ⟨g, k * 5 + 3, none⟩ (.string M4)) := hY4
        have HM4 : Hid (MfS w base g l.length cap ((((row0.set (k * 5) (.string M1)).set (k * 5 + 1) (.string M2)).set (k * 5 + 2) (.string M3)).set (k * 5 + 3) (.string M4)) Y4) := by rw [hY4]; exact HM3.out.step b _ _
        obtain ⟨⟨x5, c5⟩, f5⟩ := HM4.out.cell (Below.refl _ _) (k * 5 + 4) (by omega)
        rw [hY4] at c5 f5
        clear HM3 b hY4 A4
        go_wp2_with fail
        rw [← HY4.out]
        go_roundw
        case rel =>
          have h5 := HM4.out.step (Below.refl _ _) (k * 5 + 4) (.bool (decide ((s + 5 * k + 4) % 3 = 0)))
          rw [HE.out] at h5
          refine ⟨k + 1, by omega, by go_num, by go_num, ?_⟩
          rw [mod3 (5 * (k : Int) + s + 1 + 1 + 1 + 1) (s + 5 * k + 4) (by omega)]
          exact h5
        case measure => simp [intOf]; omega
      · obtain rfl : k = l.length := by omega
        have HO2 : Hid (MfS w base g l.length cap (fldRow (mfN s l.length)) wr) := by
          rw [← mfT_all]; exact hM.out
        go_wp2_with fail
        go_ret
        exact ⟨rfl, HO2.out.own, HO2.out.gr⟩

set_option maxHeartbeats 4000000 in
theorem heldF_any (s : Nat) (hs1 : 1 ≤ s) (p : Option Addr) (cap n : Nat) (w : World) (hp : FldAt w p (mfN s n)) (hn : s + 5 * n ≤ 16777210) (hcap : n ≤ cap) :
    Calls Tryz.prog 236 #[.slice p n cap, .int .i64 (s : Int)] w fun e w' => e = .returned (.int .i64 (5 * (n : Int) + s)) ∧ Below w.heap.size w w' := by
  have HP : Hid (FldAt w p (mfN s n)) := hp
  clear hp
  go_enter Tryz.func236, Tryz.ntmps236
  go_wp2_with fail
  go_loopw [5, 1] (fun i x wr => ∃ k : Nat, k ≤ n ∧ i = .int .i64 k ∧ x = .int .i64 (5 * (k : Int) + s) ∧ Hid (Below w.heap.size w wr)) (fun i _ _ => n - (intOf i).toNat)
  case atStart => exact ⟨0, Nat.zero_le _, rfl, by simp, Below.refl _ _⟩
  case round =>
    obtain ⟨k, hk, rfl, rfl, hB⟩ := hrel
    by_cases hlt : k < n
    · obtain ⟨b, off, rfl, hb, hq⟩ := HP.out k (by rw [mfN_len]; exact hlt)
      have e1 : (mfN s n)[k]'(by rw [mfN_len]; exact hlt) = mkF s k := by simp [mfN]
      rw [e1] at hq
      have HQ : Hid (∀ x, Below w.heap.size w x → x.cell? ⟨b, off + k * 5, none⟩ = some (.string (markB (s + 5 * k))) ∧ x.cell? ⟨b, off + k * 5 + 1, none⟩ = some (.string (markB (s + 5 * k + 1))) ∧ x.cell? ⟨b, off + k * 5 + 2, none⟩ = some (.string (markB (s + 5 * k + 2))) ∧ x.cell? ⟨b, off + k * 5 + 3, none⟩ = some (.string (markB (s + 5 * k + 3))) ∧ x.cell? ⟨b, off + k * 5 + 4, none⟩ = some (.bool ((5 * (k : Int) + s + 1 + 1 + 1 + 1) % 3 == 0))) := fun x hx => by
        rw [mod3 (5 * (k : Int) + s + 1 + 1 + 1 + 1) (s + 5 * k + 4) (by omega)]
        exact ⟨(hx.cell (p := ⟨b, off + k * 5, none⟩) hb).trans hq.1, (hx.cell (p := ⟨b, off + k * 5 + 1, none⟩) hb).trans hq.2.1, (hx.cell (p := ⟨b, off + k * 5 + 2, none⟩) hb).trans hq.2.2.1, (hx.cell (p := ⟨b, off + k * 5 + 3, none⟩) hb).trans hq.2.2.2.1, (hx.cell (p := ⟨b, off + k * 5 + 4, none⟩) hb).trans hq.2.2.2.2⟩
      have A1 : Hid (∀ z : Int, ∀ w, z = 5 * (k : Int) + s → Calls Tryz.prog 202 #[.int .i64 z] w fun e w' => e = .returned (.string (markB (s + 5 * k))) ∧ Below w.heap.size w w') := fun z w hz => markText_int z _ (by omega) w (by omega) (by omega)
      have A2 : Hid (∀ z : Int, ∀ w, z = 5 * (k : Int) + s + 1 → Calls Tryz.prog 202 #[.int .i64 z] w fun e w' => e = .returned (.string (markB (s + 5 * k + 1))) ∧ Below w.heap.size w w') := fun z w hz => markText_int z _ (by omega) w (by omega) (by omega)
      have A3 : Hid (∀ z : Int, ∀ w, z = 5 * (k : Int) + s + 2 → Calls Tryz.prog 202 #[.int .i64 z] w fun e w' => e = .returned (.string (markB (s + 5 * k + 2))) ∧ Below w.heap.size w w') := fun z w hz => markText_int z _ (by omega) w (by omega) (by omega)
      have A4 : Hid (∀ z : Int, ∀ w, z = 5 * (k : Int) + s + 3 → Calls Tryz.prog 202 #[.int .i64 z] w fun e w' => e = .returned (.string (markB (s + 5 * k + 3))) ∧ Below w.heap.size w w') := fun z w hz => markText_int z _ (by omega) w (by omega) (by omega)
      clear hq e1
      generalize markB (s + 5 * k) = M1 at *
      generalize markB (s + 5 * k + 1) = M2 at *
      generalize markB (s + 5 * k + 2) = M3 at *
      generalize markB (s + 5 * k + 3) = M4 at *
      have j5 : (k : Int) < n := by omega
      obtain ⟨c1, -⟩ := HQ.out wr hB.out
      go_wp2_with fail
      go_region_with (first | (go_at_call 202; refine (A1.out _ _ (by omega)).mono ?_; rintro e w2 ⟨rfl, b2⟩; have b2 : Below w.heap.size w w2 := chainB (by first | exact hB.out | exact hB.out.drew) b2; have c2 := (HQ.out w2 b2).1))
      all_goals
        have HB2 : Hid (Below w.heap.size w w2) := b2
        have c22 := (HQ.out w2 HB2.out).2.1
        clear b2
        go_wp2_with fail
        go_region_with (first | (go_at_call 202; refine (A2.out _ _ (by omega)).mono ?_; rintro e w3 ⟨rfl, b3⟩; have b3 : Below w.heap.size w w3 := chainB (by first | exact HB2.out | exact HB2.out.drew) b3; have c3 := (HQ.out w3 b3).2.1))
        all_goals
          have HB3 : Hid (Below w.heap.size w w3) := b3
          have c33 := (HQ.out w3 HB3.out).2.2.1
          clear b3
          go_wp2_with fail
          go_region_with (first | (go_at_call 202; refine (A3.out _ _ (by omega)).mono ?_; rintro e w4 ⟨rfl, b4⟩; have b4 : Below w.heap.size w w4 := chainB (by first | exact HB3.out | exact HB3.out.drew) b4; have c4 := (HQ.out w4 b4).2.2.1))
          all_goals
            have HB4 : Hid (Below w.heap.size w w4) := b4
            have c44 := (HQ.out w4 HB4.out).2.2.2.1
            clear b4
            go_wp2_with fail
            go_region_with (first | (go_at_call 202; refine (A4.out _ _ (by omega)).mono ?_; rintro e w5 ⟨rfl, b5⟩; have b5 : Below w.heap.size w w5 := chainB (by first | exact HB4.out | exact HB4.out.drew) b5; have c5 := (HQ.out w5 b5).2.2.2.1))
            all_goals
              have HB5 : Hid (Below w.heap.size w w5) := b5
              have c55 := (HQ.out w5 HB5.out).2.2.2.2
              clear b5
              go_wp2_with fail
              go_roundw
              case rel => exact ⟨k + 1, by omega, by go_num, by go_num, HB5⟩
              case measure => simp [intOf]; omega
    · obtain rfl : k = n := by omega
      go_wp2_with fail
      go_ret
      exact ⟨rfl, hB.out⟩
end Go.Proofs.YtnahmddbmmnilaaGreatDoor
/-
  What the laws' own helpers markRowS and markLog do with a log of its own: all blocks but the log's own stay.
-/
namespace Go.Proofs.YtnahmddbmmnilaaGreatDoor
open Go.RowKit Go.Lib
set_option linter.unusedVariables false
set_option maxRecDepth 20000

/-- What lay is as it was, but for the blocks of S. -/
structure But (S : Nat → Prop) (w w' : World) : Prop where
  os : w'.os = w.os
  tape : w'.tape = w.tape
  output : w'.output = w.output
  size : w.heap.size ≤ w'.heap.size
  block : ∀ k, k < w.heap.size → ¬ S k → w'.heap[k]? = w.heap[k]?
theorem But.refl (S : Nat → Prop) (w : World) : But S w w := ⟨rfl, rfl, rfl, Nat.le_refl _, fun _ _ _ => rfl⟩
theorem But.more {S : Nat → Prop} {a b c : World} (h : But S a b) (k : Below b.heap.size b c) : But S a c :=
  ⟨k.os.trans h.os, k.tape.trans h.tape, k.output.trans h.output, Nat.le_trans h.size k.size, fun q hq hn => (k.block q (Nat.lt_of_lt_of_le hq h.size)).trans (h.block q hq hn)⟩
theorem But.put {S : Nat → Prop} {a b : World} (h : But S a b) {p : Addr} (hp : S p.block) (v : Value) : But S a (b.setCell p v) :=
  ⟨h.os, h.tape, h.output, by simpa [World.setCell] using h.size, fun q hq hn => (Below.heap_setCell b p v q (fun e => hn (e ▸ hp))).trans (h.block q hq hn)⟩
theorem But.grown {S : Nat → Prop} {a b c : World} (h : But S a b) {g : Nat} (k : b.grownBy c (some g)) (hg : S g) : But S a c :=
  ⟨k.os.trans h.os, k.tape.trans h.tape, k.output.trans h.output, Nat.le_trans h.size k.size, fun q hq hn => (k.block q (Nat.lt_of_lt_of_le hq h.size) (fun e => hn (by cases e; exact hg))).trans (h.block q hq hn)⟩
theorem But.below {S : Nat → Prop} {a b c : World} {B : Nat} (h : Below B a b) (hB : B ≤ b.heap.size) (k : But S b c) (hS : ∀ q, S q → B ≤ q) : Below B a c :=
  ⟨k.os.trans h.os, k.tape.trans h.tape, k.output.trans h.output, Nat.le_trans h.size k.size, fun q hq => (k.block q (Nat.lt_of_lt_of_le hq hB) (fun e => by have := hS q e; omega)).trans (h.block q hq)⟩
theorem Bxs.but {S : Nat → Prop} {w w' : World} {g : Nat} {T : TypeId} {cs : Array Value} (h : Bxs w g T cs) (k : But S w w') (hn : ¬ S g) : Bxs w' g T cs := (k.block g h.lt hn).trans h
theorem ownS_but {S : Nat → Prop} {w w' : World} {base : Nat} {e : TypeId} {s : Nat} {v : Value} {n : Nat} {xs : List Value} (h : w.ownsRow base e s v n xs) (k : But S w w') (hn : ∀ g, v.ownBlock = some g → ¬ S g) : w'.ownsRow base e s v n xs := by
  refine ⟨h.1, ?_⟩
  rcases h.2 with h0 | ⟨g, cap, cur, h1, h2, h3, h4⟩
  · exact .inl h0
  · exact .inr ⟨g, cap, cur, h1, h2, (k.block g (lt_of_block h3) (hn g (by rw [h1]; rfl))).trans h3, h4⟩
/-- How many fields the first k rows have. -/
def fX (xs : List (Rw × Nat)) (k : Nat) : Nat := fsN ((xs.map (·.1)).take k)
theorem fX_step (xs : List (Rw × Nat)) (k : Nat) (h : k < xs.length) : fX xs (k + 1) = fX xs k + xs[k].1.fs.length := by
  unfold fX
  rw [fsN_take _ k (by simpa using h), List.getElem_map]
theorem fX_le (xs : List (Rw × Nat)) (k : Nat) : fX xs k ≤ fsN (xs.map (·.1)) := by
  unfold fX fsN
  conv => rhs; rw [← List.take_append_drop k (xs.map (·.1))]
  rw [List.map_append, List.sum_append]; omega
theorem fX_all (xs : List (Rw × Nat)) : fX xs xs.length = fsN (xs.map (·.1)) := by
  have := fsN_all (xs.map (·.1)); rw [List.length_map] at this; exact this
/-- i rows are marked. -/
structure MkR (S : Nat → Prop) (w : World) (g : Nat) (xs : List (Rw × Nat)) (i : Nat) (x : World) : Prop where
  bl : ∃ row : List Value, row.length = xs.length * 3 ∧ (∀ j (h : j < xs.length), row[j * 3 + 2]? = some (.slice (some ⟨xs[j].2, 0, none⟩) xs[j].1.fs.length xs[j].1.fs.length)) ∧ Bxs x g 29 row.toArray
  fl : ∀ j (h : j < xs.length), i ≤ j → BlkF x xs[j].2 xs[j].1.fs
  but : But S w x
theorem MkR.start {S : Nat → Prop} {w : World} {g : Nat} {xs : List (Rw × Nat)} (h : RwsB w g xs) : MkR S w g xs 0 w := by
  refine ⟨⟨rcRow (xs.map rcOf), by rw [rcRow_len]; simp, fun j hj => ?_, h.blk⟩, fun j hj _ => h.fld _ (List.getElem_mem hj), But.refl _ _⟩
  have := (rcRow_at (xs.map rcOf) j (by simpa using hj)).2.2
  rw [this]; simp [rcOf]
theorem MkR.below {S : Nat → Prop} {w : World} {g : Nat} {xs : List (Rw × Nat)} {i : Nat} {x y : World} (h : MkR S w g xs i x) (hb : Below x.heap.size x y) : MkR S w g xs i y := by
  obtain ⟨row, h1, h2, h3⟩ := h.bl
  exact ⟨⟨row, h1, h2, h3.below hb⟩, fun j hj hi => (h.fl j hj hi).below hb, h.but.more hb⟩
theorem MkR.put {S : Nat → Prop} {w : World} {g : Nat} {xs : List (Rw × Nat)} {i : Nat} {x : World} (h : MkR S w g xs i x) (hS : S g) (hu : ∀ x ∈ xs, g < x.2) (a : Nat) (ha : a % 3 ≠ 2) (v : Value) : MkR S w g xs i (x.setCell ⟨g, a, none⟩ v) := by
  obtain ⟨row, h1, h2, h3⟩ := h.bl
  refine ⟨⟨row.set a v, by simpa using h1, fun j hj => ?_, bxs_set1 h3 a v⟩, fun j hj hi => ?_, h.but.put hS v⟩
  · rw [List.getElem?_set_ne (by omega)]; exact h2 j hj
  · have := hu _ (List.getElem_mem hj)
    exact Bxs.other (h.fl j hj hi) _ _ (by omega) _
theorem MkR.cells {S : Nat → Prop} {w : World} {g : Nat} {xs : List (Rw × Nat)} {i : Nat} {x : World} (h : MkR S w g xs i x) (j : Nat) (hj : j < xs.length) : (∃ v, x.cell? ⟨g, j * 3, none⟩ = some v) ∧ (∃ v, x.cell? ⟨g, j * 3 + 1, none⟩ = some v) ∧ x.cell? ⟨g, j * 3 + 2, none⟩ = some (.slice (some ⟨xs[j].2, 0, none⟩) xs[j].1.fs.length xs[j].1.fs.length) ∧ x.frozen? ⟨g, j * 3, none⟩ = false ∧ x.frozen? ⟨g, j * 3 + 1, none⟩ = false := by
  obtain ⟨row, h1, h2, h3⟩ := h.bl
  have hc : ∀ a, x.cell? ⟨g, a, none⟩ = row[a]? := fun a => by rw [h3.cell a]; simp
  refine ⟨⟨row[j * 3]'(by omega), ?_⟩, ⟨row[j * 3 + 1]'(by omega), ?_⟩, ?_, h3.fr _, h3.fr _⟩
  · rw [hc]; exact List.getElem?_eq_getElem _
  · rw [hc]; exact List.getElem?_eq_getElem _
  · rw [hc]; exact h2 j hj
theorem MkR.fields {S : Nat → Prop} {w : World} {g : Nat} {xs : List (Rw × Nat)} {i : Nat} {x y : World} (h : MkR S w g xs i x) (hi : i < xs.length) (hS : S xs[i].2) (hu : ∀ x ∈ xs, g < x.2) (ha : xs.Pairwise (fun x y => x.2 < y.2)) (hg : x.grownBy y (some xs[i].2)) : MkR S w g xs (i + 1) y := by
  obtain ⟨row, h1, h2, h3⟩ := h.bl
  have := hu _ (List.getElem_mem hi)
  refine ⟨⟨row, h1, h2, h3.grown hg (fun e => by have := Option.some.inj e; omega)⟩, fun j hj hij => ?_, h.but.grown hg hS⟩
  have hl := List.pairwise_iff_getElem.1 ha i j hi hj (by omega)
  exact Bxs.grown (h.fl j hj (by omega)) hg (fun e => by have := Option.some.inj e; omega)

set_option maxHeartbeats 4000000 in
theorem markRowS_any (S : Nat → Prop) (g : Nat) (xs : List (Rw × Nat)) (s : Nat) (w : World) (h : RwsB w g xs) (hs1 : 1 ≤ s) (hS : S g) (hSx : ∀ x ∈ xs, S x.2) (hn : xs.length ≤ 1048576) (hb : s + 2 * xs.length + 5 * fsN (xs.map (·.1)) ≤ 16777210) :
    Calls Tryz.prog 141 #[.slice (some ⟨g, 0, none⟩) xs.length xs.length, .int .i64 (s : Int)] w fun e w' => (∃ r : Nat, e = .returned (.int .i64 (r : Int)) ∧ s ≤ r ∧ r ≤ s + 2 * xs.length + 5 * fsN (xs.map (·.1))) ∧ But S w w' := by
  have HM0 : Hid (MkR S w g xs 0 w) := MkR.start h
  have HU : Hid (∀ x ∈ xs, g < x.2) := h.up
  have HA : Hid (xs.Pairwise (fun x y => x.2 < y.2)) := h.apart
  have HSX : Hid (∀ x ∈ xs, S x.2) := hSx
  have HLE : Hid (∀ k (hk : k < xs.length), fX xs (k + 1) = fX xs k + xs[k].1.fs.length ∧ fX xs (k + 1) ≤ fsN (xs.map (·.1))) := fun k hk => ⟨fX_step xs k hk, fX_le xs (k + 1)⟩
  have hAll : fX xs xs.length = fsN (xs.map (·.1)) := fX_all xs
  have F0 : fX xs 0 = 0 := rfl
  clear h hSx
  generalize fsN (xs.map (·.1)) = T at *
  generalize fX xs = F at *
  go_enter Tryz.func141, Tryz.ntmps141
  go_wp2_with fail
  go_loopw [5, 1] (fun i x wr => ∃ (k : Nat) (c : Nat), k ≤ xs.length ∧ i = .int .i64 k ∧ x = .int .i64 (c : Int) ∧ c = s + 2 * k + 5 * F k ∧ Hid (MkR S w g xs k wr)) (fun i _ _ => xs.length - (intOf i).toNat)
  case atStart => exact ⟨0, s, Nat.zero_le _, rfl, rfl, by omega, HM0⟩
  case round =>
    clear HM0
    obtain ⟨k, c, hk, rfl, rfl, hc, HM⟩ := hrel
    by_cases hlt : k < xs.length
    · have i1 : (k : Int) < xs.length := by omega
      obtain ⟨l1, l2⟩ := HLE.out k hlt
      have A1 : Hid (∀ z : Int, ∀ w, z = (c : Int) → Calls Tryz.prog 202 #[.int .i64 z] w fun e w' => e = .returned (.string (markB c)) ∧ Below w.heap.size w w') := fun z w hz => markText_int z _ hz w (by omega) (by omega)
      have A2 : Hid (∀ z : Int, ∀ x, z = (c : Int) + 1 + 1 → BlkF x xs[k].2 xs[k].1.fs → Calls Tryz.prog 143 #[.slice (some ⟨xs[k].2, 0, none⟩) xs[k].1.fs.length xs[k].1.fs.length, .int .i64 z] x fun e w' => e = .returned (.int .i64 (5 * (xs[k].1.fs.length : Int) + (c + 2 : Nat))) ∧ x.grownBy w' (some xs[k].2)) := fun z x hz hB => by
        have := markF_any (c + 2) (by omega) 0 _ _ x (hB.own 0 (Nat.zero_le _) (by unfold maxLen; omega)) (by omega)
        rw [show ((c + 2 : Nat) : Int) = z by omega] at this
        refine this.mono ?_
        rintro e y ⟨rfl, -, hg⟩
        exact ⟨by rw [show z = ((c + 2 : Nat) : Int) by omega], hg⟩
      have HMf : Hid (∀ x, MkR S w g xs k x → BlkF x xs[k].2 xs[k].1.fs) := fun x hx => hx.fl k hlt (Nat.le_refl _)
      have HMn : Hid (∀ x y, MkR S w g xs k x → x.grownBy y (some xs[k].2) → MkR S w g xs (k + 1) y) := fun x y hx hg => hx.fields hlt (HSX.out _ (List.getElem_mem hlt)) HU.out HA.out hg
      have HMc : Hid (∀ x, MkR S w g xs k x → (∃ v, x.cell? ⟨g, k * 3, none⟩ = some v) ∧ (∃ v, x.cell? ⟨g, k * 3 + 1, none⟩ = some v) ∧ x.cell? ⟨g, k * 3 + 2, none⟩ = some (.slice (some ⟨xs[k].2, 0, none⟩) xs[k].1.fs.length xs[k].1.fs.length) ∧ x.frozen? ⟨g, k * 3, none⟩ = false ∧ x.frozen? ⟨g, k * 3 + 1, none⟩ = false) := fun x hx => hx.cells k hlt
      have HN2 : Hid (5 * xs[k].1.fs.length + (c + 2) = s + 2 * (k + 1) + 5 * F (k + 1)) := by show _ = _; omega
      have c1 : c + 5 * xs[k].1.fs.length ≤ 16777210 := by omega
      clear l1 l2 hc
      generalize xs[k].2 = gk at *
      generalize xs[k].1.fs = fk at *
      generalize markB c = M1 at *
      go_wp2_with fail
      refine (A1.out _ _ (by omega)).mono ?_
      rintro e y ⟨rfl, b⟩
      have HY : Hid (MkR S w g xs k y) := HM.out.below b
      clear b HM A1
      obtain ⟨⟨x0, c0⟩, -, -, f0, -⟩ := HMc.out y HY.out
      have HY1 : Hid (MkR S w g xs k (y.setCell ⟨g, k * 3, none⟩ (.string M1))) := HY.out.put hS HU.out _ (by omega) _
      obtain ⟨-, ⟨x1, c1⟩, -, -, f1⟩ := HMc.out _ HY1.out
      have HY2 : Hid (MkR S w g xs k ((y.setCell ⟨g, k * 3, none⟩ (.string M1)).setCell ⟨g, k * 3 + 1, none⟩ (.int .i64 ((c : Int) + 1)))) := HY1.out.put hS HU.out _ (by omega) _
      obtain ⟨-, -, c2, -, -⟩ := HMc.out _ HY2.out
      have hF := A2.out _ _ rfl (HMf.out _ HY2.out)
      clear HY HY1 A2 HMc HMf
      go_wp2_with fail
      refine hF.mono ?_
      rintro e y3 ⟨rfl, hg3⟩
      have HN : Hid (MkR S w g xs (k + 1) y3) := HMn.out _ _ HY2.out hg3
      clear hF hg3 HY2 HMn c0 f0 c1 f1 c2
      go_wp2_with fail
      go_roundw
      case rel => exact ⟨k + 1, 5 * fk.length + (c + 2), by omega, by go_num, by go_num, HN2.out, HN.out⟩
      case measure => simp [intOf]; omega
    · obtain rfl : k = xs.length := by omega
      have HC : Hid (s ≤ c ∧ c ≤ s + 2 * xs.length + 5 * T) := ⟨by omega, by omega⟩
      clear hc
      go_wp2_with fail
      go_ret
      exact ⟨⟨c, rfl, HC.out.1, HC.out.2⟩, HM.out.but⟩

/-- The blocks of a log of its own. -/
def lgS (g : Nat) (xs : List (Rw × Nat)) (gl : Nat) (k : Nat) : Prop := k = g ∨ k = gl ∨ ∃ x ∈ xs, k = x.2
set_option maxHeartbeats 2000000 in
theorem markLog_any (g : Nat) (xs : List (Rw × Nat)) (gl : Nat) (lv : List ByteArray) (now : Int) (s : Nat) (w : World) (h : LgB w g xs gl lv) (hs1 : 1 ≤ s) (hn : xs.length ≤ 1048576) (hl : lv.length ≤ 1048576) (hb : s + 2 * xs.length + 5 * fsN (xs.map (·.1)) + lv.length ≤ 16777210) :
    Calls Tryz.prog 63 #[.agg #[.slice (some ⟨g, 0, none⟩) xs.length xs.length, .slice (some ⟨gl, 0, none⟩) lv.length lv.length, .int .i64 now], .int .i64 (s : Int)] w fun e w' => (∃ r : Nat, e = .returned (.int .i64 (r : Int))) ∧ But (lgS g xs gl) w w' := by
  obtain ⟨W1, hW1⟩ : ∃ W1, W1 = w.alloc (.cells #[.slice (some ⟨g, 0, none⟩) xs.length xs.length, .slice (some ⟨gl, 0, none⟩) lv.length lv.length, .int .i64 now] 26) := ⟨_, rfl⟩
  have HW1 : Hid (W1 = w.alloc (.cells #[.slice (some ⟨g, 0, none⟩) xs.length xs.length, .slice (some ⟨gl, 0, none⟩) lv.length lv.length, .int .i64 now] 26)) := hW1
  have B1 : Below w.heap.size w W1 := by rw [hW1]; exact (Below.refl _ _).alloc (Nat.le_refl _) _
  have K1 : Hid (Bxs W1 w.heap.size 26 #[.slice (some ⟨g, 0, none⟩) xs.length xs.length, .slice (some ⟨gl, 0, none⟩) lv.length lv.length, .int .i64 now]) := by rw [hW1]; exact Bxs.new _ _ _
  have hL1 := h.below B1
  have hR := markRowS_any (fun k => k = g ∨ ∃ x ∈ xs, k = x.2) g xs s W1 hL1.rw hs1 (.inl rfl) (fun x hx => .inr ⟨x, hx, rfl⟩) hn (by omega)
  have HB1 : Hid (But (lgS g xs gl) w W1) := (But.refl _ _).more B1
  have HLF : Hid (BlkS W1 gl lv) := hL1.lf
  have HG : Hid (gl ≠ g ∧ ∀ x ∈ xs, gl ≠ x.2) := ⟨by have := h.gg; omega, fun x hx => by have := h.gx x hx; omega⟩
  have HLt : Hid (g < w.heap.size ∧ ∀ x ∈ xs, x.2 < w.heap.size) := ⟨h.rw.lt, fun x hx => Bxs.lt (h.rw.fld x hx)⟩
  have x0 := K1.out.cell 0
  rw [HW1.out] at x0
  clear hW1 h hL1 B1
  go_enter Tryz.func63, Tryz.ntmps63
  go_wp2_with fail
  rw [← HW1.out]
  refine hR.mono ?_
  rintro e y ⟨⟨r, rfl, r0, r1⟩, hbut⟩
  clear hR x0 HW1
  have K2 : Bxs y w.heap.size 26 #[.slice (some ⟨g, 0, none⟩) xs.length xs.length, .slice (some ⟨gl, 0, none⟩) lv.length lv.length, .int .i64 now] := K1.out.but hbut (by
    rintro (e | ⟨x, hx, e⟩)
    · have := HLt.out.1; omega
    · have := HLt.out.2 x hx; omega)
  have x1 := K2.cell 1
  have hLF : BlkS y gl lv := Bxs.but HLF.out hbut (by
    rintro (e | ⟨x, hx, e⟩)
    · exact HG.out.1 e
    · exact HG.out.2 x hx e)
  have hM := markG_any r (by omega) 0 _ lv y (hLF.own 0 (Nat.zero_le _) (by unfold maxLen; omega)) (by omega)
  have HB2 : Hid (But (lgS g xs gl) w y) := ⟨hbut.os.trans HB1.out.os, hbut.tape.trans HB1.out.tape, hbut.output.trans HB1.out.output, Nat.le_trans HB1.out.size hbut.size, fun q hq hnq => (hbut.block q (Nat.lt_of_lt_of_le hq HB1.out.size) (fun e => hnq (by rcases e with e | e; exact .inl e; exact .inr (.inr e)))).trans (HB1.out.block q hq hnq)⟩
  clear hbut K2 hLF K1 HLF HB1
  go_wp2_with fail
  refine hM.mono ?_
  rintro e y2 ⟨rfl, -, hg⟩
  have HB3 : Hid (But (lgS g xs gl) w y2) := HB2.out.grown hg (.inr (.inl rfl))
  clear hM hg HB2
  go_wp2_with fail
  go_ret
  exact ⟨⟨lv.length + r, by simp⟩, HB3.out⟩
theorem lgS_from {w : World} {g : Nat} {xs : List (Rw × Nat)} {gl : Nat} {lv : List ByteArray} (h : LgB w g xs gl lv) {q : Nat} (hq : lgS g xs gl q) : g ≤ q ∧ q < w.heap.size := by
  rcases hq with rfl | rfl | ⟨x, hx, rfl⟩
  · exact ⟨Nat.le_refl _, h.rw.lt⟩
  · exact ⟨Nat.le_of_lt h.gg, h.lf.lt⟩
  · exact ⟨Nat.le_of_lt (h.rw.up x hx), Bxs.lt (h.rw.fld x hx)⟩
end Go.Proofs.YtnahmddbmmnilaaGreatDoor
