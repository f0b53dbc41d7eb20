/-
  What the laws' own helpers do that mark fields: markFieldS, heldFieldS, from any number on.
  Conditions: the slice owns its row, of at most 2^20 fields.
-/
import Derived.Test.YtefakcpclihaealDoorRows
import Derived.Test.YtefakcpclihaealDoorBytesDigMath
import Derived.Test.YtefakcpclihaealDoorSlABxKSlBOwnS
import Derived.Test.YtefakcpclihaealDoorLawM
import Derived.Test.YtefakcpclihaealDoorJoinedPutTextFldMath
import Derived.Test.YtefakcpclihaealDoorFldOMFldOFldG
import Derived.Test.YtefakcpclihaealDoorImplFgFldBlk
import Derived.Test.YtefakcpclihaealDoorLawF
import Derived.Handy
import Derived.OwnWalk
import Derived.Laws.OwnMore
import Derived.Deep.RegionLaw
import Derived.Deep.RegionWith
namespace Go.Proofs.YtefakcpclihaealDoor
open Go.RowKit Go.Lib
set_option linter.unusedVariables false
set_option maxRecDepth 20000

def mkF (s j : Nat) : Fld := ⟨markB (s + 5 * j), markB (s + 5 * j + 1), markB (s + 5 * j + 2), markB (s + 5 * j + 3), decide ((s + 5 * j + 4) % 3 = 0)⟩
def mfN (s n : Nat) : List Fld := (List.range n).map (mkF s)
def mfT (s : Nat) (l : List Fld) (k : Nat) : List Fld := mfN s k ++ l.drop k
theorem mfT_len (s : Nat) (l : List Fld) (k : Nat) (h : k ≤ l.length) : (mfT s l k).length = l.length := by simp [mfT, mfN]; omega
theorem mfT_set (s : Nat) (l : List Fld) (k : Nat) (h : k < l.length) : (mfT s l k).set k (mkF s k) = mfT s l (k + 1) := by
  unfold mfT mfN
  have hl : ((List.range k).map (mkF s)).length = k := by simp
  rw [List.set_append_right _ _ (by omega), hl, Nat.sub_self, List.drop_eq_getElem_cons h, List.set_cons_zero, List.range_succ, List.map_append, List.append_assoc]; rfl
theorem mfT_all (s : Nat) (l : List Fld) : mfT s l l.length = mfN s l.length := by unfold mfT; simp
theorem mfN_len (s n : Nat) : (mfN s n).length = n := by simp [mfN]
theorem markText_int (z : Int) (k : Nat) (hz : z = (k : Int)) (w : World) (h1 : 1 ≤ k) (h2 : k ≤ 16777217) :
    Calls Tryd.prog 68 #[.int .i64 z] w fun e w' => e = .returned (.string (markB k)) ∧ Below w.heap.size w w' := by
  subst hz; exact markText_any k w h1 h2
/-- A step of the marking: a row of its own, and what is told of the world since. -/
structure MfS (w : World) (base g n cap : Nat) (row : List Value) (x : World) : Prop where
  own : x.ownsRow base 59 5 (.slice (some ⟨g, 0, none⟩) n cap) n row
  gr : w.grownBy x (some g)
theorem MfS.cell {w : World} {base g n cap : Nat} {row : List Value} {x y : World} (h : MfS w base g n cap row x) (hb : Below x.heap.size x y) (i : Nat) (hi : i < n * 5) : (∃ v, y.cell? ⟨g, i, none⟩ = some v) ∧ y.frozen? ⟨g, i, none⟩ = false := by
  have ho := ownS_below h.own hb
  refine ⟨?_, ho.frozenAt _⟩
  rw [ho.cellAt i hi]
  have hl : row.length = n * 5 := h.own.1
  exact ⟨row[i]'(by omega), List.getElem?_eq_getElem (by omega)⟩
theorem MfS.step {w : World} {base g n cap : Nat} {row : List Value} {x y : World} (h : MfS w base g n cap row x) (hb : Below x.heap.size x y) (i : Nat) (v : Value) : MfS w base g n cap (row.set i v) (y.setCell ⟨g, i, none⟩ v) := by
  have ho := ownS_below h.own hb
  have hst := ho.stored i v
  refine ⟨hst.1, ?_⟩
  have a := h.gr
  have a2 := hst.2
  refine ⟨(a2.os.trans hb.os).trans a.os, (a2.tape.trans hb.tape).trans a.tape, (a2.output.trans hb.output).trans a.output, by have := a.size; have := hb.size; have := a2.size; omega, fun q hq hne => ?_⟩
  have l1 := Nat.lt_of_lt_of_le hq a.size
  have l3 := Nat.lt_of_lt_of_le l1 hb.size
  exact (a2.block q l3 hne).trans ((hb.block q l1).trans (a.block q hq hne))
theorem mod3 (z : Int) (k : Nat) (hz : z = (k : Int)) : (z % 3 == 0) = decide (k % 3 = 0) := by
  subst hz
  rw [Bool.eq_iff_iff, beq_iff_eq, decide_eq_true_iff]; omega

set_option maxHeartbeats 4000000 in
theorem markF_any (s : Nat) (hs1 : 1 ≤ s) (base : Nat) (v : Value) (l : List Fld) (w : World) (h : w.ownsRow base 59 5 v l.length (fldRow l)) (hl : s + 5 * l.length ≤ 16777210) :
    Calls Tryd.prog 41 #[v, .int .i64 (s : Int)] w fun e w' => e = .returned (.int .i64 (5 * (l.length : Int) + s)) ∧ w'.ownsRow base 59 5 v l.length (fldRow (mfN s l.length)) ∧ w.grownBy w' v.ownBlock := by
  rcases h.2 with ⟨rfl, h0⟩ | ⟨g, cap, cur, rfl, hg1, hg2, hg3, hg4, hg5, hg6⟩
  · have hl0 : l = [] := List.length_eq_zero_iff.1 h0
    subst hl0
    clear h h0
    go_enter Tryd.func41, Tryd.ntmps41
    go_wp2_with fail
    go_loop [5, 1] (fun i x => i = .int .i64 0 ∧ x = .int .i64 (s : Int)) (fun _ _ => 0)
    case atStart => exact ⟨rfl, rfl⟩
    case round =>
      obtain ⟨rfl, rfl⟩ := hrel
      go_wp2_with fail
      go_ret
      exact ⟨by simp, World.ownsRow_nil _ _ _ _, World.grownBy.refl _ _⟩
  · have HO : Hid (MfS w base g l.length cap (fldRow (mfT s l 0)) w) := by
      refine ⟨?_, World.grownBy.refl _ _⟩
      rw [show mfT s l 0 = l by simp [mfT, mfN]]; exact h
    clear h hg2 hg5 hg6
    go_enter Tryd.func41, Tryd.ntmps41
    go_wp2_with fail
    go_loopw [5, 1] (fun i x wr => ∃ k : Nat, k ≤ l.length ∧ i = .int .i64 k ∧ x = .int .i64 (5 * (k : Int) + s) ∧ Hid (MfS w base g l.length cap (fldRow (mfT s l k)) wr)) (fun i _ _ => l.length - (intOf i).toNat)
    case atStart => exact ⟨0, Nat.zero_le _, rfl, by simp, HO⟩
    case round =>
      clear HO
      obtain ⟨k, hk, rfl, rfl, hM⟩ := hrel
      by_cases hlt : k < l.length
      · have i1 : (k : Int) < l.length := by omega
        have HE : Hid ((((((fldRow (mfT s l k)).set (k * 5) (.string (markB (s + 5 * k)))).set (k * 5 + 1) (.string (markB (s + 5 * k + 1)))).set (k * 5 + 2) (.string (markB (s + 5 * k + 2)))).set (k * 5 + 3) (.string (markB (s + 5 * k + 3)))).set (k * 5 + 4) (.bool (decide ((s + 5 * k + 4) % 3 = 0))) = fldRow (mfT s l (k + 1))) := by
          show _ = _
          rw [← mfT_set s l k hlt, ← fldRow_set]; rfl
        generalize fldRow (mfT s l k) = row0 at *
        have A1 : Hid (∀ z : Int, ∀ w, z = 5 * (k : Int) + s → Calls Tryd.prog 68 #[.int .i64 z] w fun e w' => e = .returned (.string (markB (s + 5 * k))) ∧ Below w.heap.size w w') := fun z w hz => markText_int z _ (by omega) w (by omega) (by omega)
        have A2 : Hid (∀ z : Int, ∀ w, z = 5 * (k : Int) + s + 1 → Calls Tryd.prog 68 #[.int .i64 z] w fun e w' => e = .returned (.string (markB (s + 5 * k + 1))) ∧ Below w.heap.size w w') := fun z w hz => markText_int z _ (by omega) w (by omega) (by omega)
        have A3 : Hid (∀ z : Int, ∀ w, z = 5 * (k : Int) + s + 2 → Calls Tryd.prog 68 #[.int .i64 z] w fun e w' => e = .returned (.string (markB (s + 5 * k + 2))) ∧ Below w.heap.size w w') := fun z w hz => markText_int z _ (by omega) w (by omega) (by omega)
        have A4 : Hid (∀ z : Int, ∀ w, z = 5 * (k : Int) + s + 3 → Calls Tryd.prog 68 #[.int .i64 z] w fun e w' => e = .returned (.string (markB (s + 5 * k + 3))) ∧ Below w.heap.size w w') := fun z w hz => markText_int z _ (by omega) w (by omega) (by omega)
        generalize markB (s + 5 * k) = M1 at *
        generalize markB (s + 5 * k + 1) = M2 at *
        generalize markB (s + 5 * k + 2) = M3 at *
        generalize markB (s + 5 * k + 3) = M4 at *
        go_wp2_with fail
        refine (A1.out _ _ (by omega)).mono ?_
        rintro e y ⟨rfl, b⟩
        obtain ⟨⟨x, c1⟩, f1⟩ := hM.out.cell b (k * 5) (by omega)
        obtain ⟨Y1, hY1⟩ : ∃ Y, Y = y.setCell ⟨g, k * 5, none⟩ (.string M1) := ⟨_, rfl⟩
        have HY1 : Hid (Y1 = y.setCell ⟨g, k * 5, none⟩ (.string M1)) := hY1
        have HM1 : Hid (MfS w base g l.length cap (row0.set (k * 5) (.string M1)) Y1) := by rw [hY1]; exact hM.out.step b _ _
        clear hM b hY1 A1
        go_wp2_with fail
        rw [← HY1.out]
        refine (A2.out _ _ (by omega)).mono ?_
        clear HY1 c1 f1
        rintro e y ⟨rfl, b⟩
        obtain ⟨⟨x, c1⟩, f1⟩ := HM1.out.cell b (k * 5 + 1) (by omega)
        obtain ⟨Y2, hY2⟩ : ∃ Y, Y = y.setCell ⟨g, k * 5 + 1, none⟩ (.string M2) := ⟨_, rfl⟩
        have HY2 : Hid (Y2 = y.setCell ⟨g, k * 5 + 1, none⟩ (.string M2)) := hY2
        have HM2 : Hid (MfS w base g l.length cap ((row0.set (k * 5) (.string M1)).set (k * 5 + 1) (.string M2)) Y2) := by rw [hY2]; exact HM1.out.step b _ _
        clear HM1 b hY2 A2
        go_wp2_with fail
        rw [← HY2.out]
        refine (A3.out _ _ (by omega)).mono ?_
        clear HY2 c1 f1
        rintro e y ⟨rfl, b⟩
        obtain ⟨⟨x, c1⟩, f1⟩ := HM2.out.cell b (k * 5 + 2) (by omega)
        obtain ⟨Y3, hY3⟩ : ∃ Y, Y = y.setCell ⟨g, k * 5 + 2, none⟩ (.string M3) := ⟨_, rfl⟩
        have HY3 : Hid (Y3 = y.setCell ⟨g, k * 5 + 2, none⟩ (.string M3)) := hY3
        have HM3 : Hid (MfS w base g l.length cap (((row0.set (k * 5) (.string M1)).set (k * 5 + 1) (.string M2)).set (k * 5 + 2) (.string M3)) Y3) := by rw [hY3]; exact HM2.out.step b _ _
        clear HM2 b hY3 A3
        go_wp2_with fail
        rw [← HY3.out]
        refine (A4.out _ _ (by omega)).mono ?_
        clear HY3 c1 f1
        rintro e y ⟨rfl, b⟩
        obtain ⟨⟨x, c1⟩, f1⟩ := HM3.out.cell b (k * 5 + 3) (by omega)
        obtain ⟨Y4, hY4⟩ : ∃ Y, Y = y.setCell ⟨g, k * 5 + 3, none⟩ (.string M4) := ⟨_, rfl⟩
        have HY4 : Hid (Y4 = y.setCell ⟨g, k * 5 + 3, none⟩ (.string M4)) := hY4
        have HM4 : Hid (MfS w base g l.length cap ((((row0.set (k * 5) (.string M1)).set (k * 5 + 1) (.string M2)).set (k * 5 + 2) (.string M3)).set (k * 5 + 3) (.string M4)) Y4) := by rw [hY4]; exact HM3.out.step b _ _
        obtain ⟨⟨x5, c5⟩, f5⟩ := HM4.out.cell (Below.refl _ _) (k * 5 + 4) (by omega)
        rw [hY4] at c5 f5
        clear HM3 b hY4 A4
        go_wp2_with fail
        rw [← HY4.out]
        go_roundw
        case rel =>
          have h5 := HM4.out.step (Below.refl _ _) (k * 5 + 4) (.bool (decide ((s + 5 * k + 4) % 3 = 0)))
          rw [HE.out] at h5
          refine ⟨k + 1, by omega, by go_num, by go_num, ?_⟩
          rw [mod3 (5 * (k : Int) + s + 1 + 1 + 1 + 1) (s + 5 * k + 4) (by omega)]
          exact h5
        case measure => simp [intOf]; omega
      · obtain rfl : k = l.length := by omega
        have HO2 : Hid (MfS w base g l.length cap (fldRow (mfN s l.length)) wr) := by
          rw [← mfT_all]; exact hM.out
        go_wp2_with fail
        go_ret
        exact ⟨rfl, HO2.out.own, HO2.out.gr⟩

set_option maxHeartbeats 4000000 in
theorem heldF_any (s : Nat) (hs1 : 1 ≤ s) (p : Option Addr) (cap n : Nat) (w : World) (hp : FldAt w p (mfN s n)) (hn : s + 5 * n ≤ 16777210) (hcap : n ≤ cap) :
    Calls Tryd.prog 69 #[.slice p n cap, .int .i64 (s : Int)] w fun e w' => e = .returned (.int .i64 (5 * (n : Int) + s)) ∧ Below w.heap.size w w' := by
  have HP : Hid (FldAt w p (mfN s n)) := hp
  clear hp
  go_enter Tryd.func69, Tryd.ntmps69
  go_wp2_with fail
  go_loopw [5, 1] (fun i x wr => ∃ k : Nat, k ≤ n ∧ i = .int .i64 k ∧ x = .int .i64 (5 * (k : Int) + s) ∧ Hid (Below w.heap.size w wr)) (fun i _ _ => n - (intOf i).toNat)
  case atStart => exact ⟨0, Nat.zero_le _, rfl, by simp, Below.refl _ _⟩
  case round =>
    obtain ⟨k, hk, rfl, rfl, hB⟩ := hrel
    by_cases hlt : k < n
    · obtain ⟨b, off, rfl, hb, hq⟩ := HP.out k (by rw [mfN_len]; exact hlt)
      have e1 : (mfN s n)[k]'(by rw [mfN_len]; exact hlt) = mkF s k := by simp [mfN]
      rw [e1] at hq
      have HQ : Hid (∀ x, Below w.heap.size w x → x.cell? ⟨b, off + k * 5, none⟩ = some (.string (markB (s + 5 * k))) ∧ x.cell? ⟨b, off + k * 5 + 1, none⟩ = some (.string (markB (s + 5 * k + 1))) ∧ x.cell? ⟨b, off + k * 5 + 2, none⟩ = some (.string (markB (s + 5 * k + 2))) ∧ x.cell? ⟨b, off + k * 5 + 3, none⟩ = some (.string (markB (s + 5 * k + 3))) ∧ x.cell? ⟨b, off + k * 5 + 4, none⟩ = some (.bool ((5 * (k : Int) + s + 1 + 1 + 1 + 1) % 3 == 0))) := fun x hx => by
        rw [mod3 (5 * (k : Int) + s + 1 + 1 + 1 + 1) (s + 5 * k + 4) (by omega)]
        exact ⟨(hx.cell (p := ⟨b, off + k * 5, none⟩) hb).trans hq.1, (hx.cell (p := ⟨b, off + k * 5 + 1, none⟩) hb).trans hq.2.1, (hx.cell (p := ⟨b, off + k * 5 + 2, none⟩) hb).trans hq.2.2.1, (hx.cell (p := ⟨b, off + k * 5 + 3, none⟩) hb).trans hq.2.2.2.1, (hx.cell (p := ⟨b, off + k * 5 + 4, none⟩) hb).trans hq.2.2.2.2⟩
      have A1 : Hid (∀ z : Int, ∀ w, z = 5 * (k : Int) + s → Calls Tryd.prog 68 #[.int .i64 z] w fun e w' => e = .returned (.string (markB (s + 5 * k))) ∧ Below w.heap.size w w') := fun z w hz => markText_int z _ (by omega) w (by omega) (by omega)
      have A2 : Hid (∀ z : Int, ∀ w, z = 5 * (k : Int) + s + 1 → Calls Tryd.prog 68 #[.int .i64 z] w fun e w' => e = .returned (.string (markB (s + 5 * k + 1))) ∧ Below w.heap.size w w') := fun z w hz => markText_int z _ (by omega) w (by omega) (by omega)
      have A3 : Hid (∀ z : Int, ∀ w, z = 5 * (k : Int) + s + 2 → Calls Tryd.prog 68 #[.int .i64 z] w fun e w' => e = .returned (.string (markB (s + 5 * k + 2))) ∧ Below w.heap.size w w') := fun z w hz => markText_int z _ (by omega) w (by omega) (by omega)
      have A4 : Hid (∀ z : Int, ∀ w, z = 5 * (k : Int) + s + 3 → Calls Tryd.prog 68 #[.int .i64 z] w fun e w' => e = .returned (.string (markB (s + 5 * k + 3))) ∧ Below w.heap.size w w') := fun z w hz => markText_int z _ (by omega) w (by omega) (by omega)
      clear hq e1
      generalize markB (s + 5 * k) = M1 at *
      generalize markB (s + 5 * k + 1) = M2 at *
      generalize markB (s + 5 * k + 2) = M3 at *
      generalize markB (s + 5 * k + 3) = M4 at *
      have j5 : (k : Int) < n := by omega
      obtain ⟨c1, -⟩ := HQ.out wr hB.out
      go_wp2_with fail
      go_region_with (first | (go_at_call 68; refine (A1.out _ _ (by omega)).mono ?_; rintro e w2 ⟨rfl, b2⟩; have b2 : Below w.heap.size w w2 := chainB (by first | exact hB.out | exact hB.out.drew) b2; have c2 := (HQ.out w2 b2).1))
      all_goals
        have HB2 : Hid (Below w.heap.size w w2) := b2
        have c22 := (HQ.out w2 HB2.out).2.1
        clear b2
        go_wp2_with fail
        go_region_with (first | (go_at_call 68; refine (A2.out _ _ (by omega)).mono ?_; rintro e w3 ⟨rfl, b3⟩; have b3 : Below w.heap.size w w3 := chainB (by first | exact HB2.out | exact HB2.out.drew) b3; have c3 := (HQ.out w3 b3).2.1))
        all_goals
          have HB3 : Hid (Below w.heap.size w w3) := b3
          have c33 := (HQ.out w3 HB3.out).2.2.1
          clear b3
          go_wp2_with fail
          go_region_with (first | (go_at_call 68; refine (A3.out _ _ (by omega)).mono ?_; rintro e w4 ⟨rfl, b4⟩; have b4 : Below w.heap.size w w4 := chainB (by first | exact HB3.out | exact HB3.out.drew) b4; have c4 := (HQ.out w4 b4).2.2.1))
          all_goals
            have HB4 : Hid (Below w.heap.size w w4) := b4
            have c44 := (HQ.out w4 HB4.out).2.2.2.1
            clear b4
            go_wp2_with fail
            go_region_with (first | (go_at_call 68; refine (A4.out _ _ (by omega)).mono ?_; rintro e w5 ⟨rfl, b5⟩; have b5 : Below w.heap.size w w5 := chainB (by first | exact HB4.out | exact HB4.out.drew) b5; have c5 := (HQ.out w5 b5).2.2.2.1))
            all_goals
              have HB5 : Hid (Below w.heap.size w w5) := b5
              have c55 := (HQ.out w5 HB5.out).2.2.2.2
              clear b5
              go_wp2_with fail
              go_roundw
              case rel => exact ⟨k + 1, by omega, by go_num, by go_num, HB5⟩
              case measure => simp [intOf]; omega
    · obtain rfl : k = n := by omega
      go_wp2_with fail
      go_ret
      exact ⟨rfl, hB.out⟩
end Go.Proofs.YtefakcpclihaealDoor
