/-
  What the laws' own helpers do that mark texts: markText (the mark of a number), markStringS (each text of a slice becomes its mark), heldStringS (are all still marked).
  Conditions: the slice owns its row, of at most 2^20 texts.
-/
import Derived.Test.YteiffjpmccbcoaaGreatDoorRows
import Derived.Test.YteiffjpmccbcoaaGreatDoorBytes
import Derived.Test.YteiffjpmccbcoaaGreatDoorDigMath
import Derived.Test.YteiffjpmccbcoaaGreatDoorSlA
import Derived.Test.YteiffjpmccbcoaaGreatDoorLawS
import Derived.Test.YteiffjpmccbcoaaGreatDoorOwnS
import Derived.Handy
import Derived.OwnWalk
import Derived.Laws.OwnMore
import Derived.Deep.AppendLies
namespace Go.Proofs.YteiffjpmccbcoaaGreatDoor
open Go.RowKit Go.Lib
set_option linter.unusedVariables false
set_option maxRecDepth 20000

def digs (k : Nat) (acc : ByteArray) : ByteArray := if h : k = 0 then acc else digs (k / 10) (strOfNums [48 + (k : Int) % 10] ++ acc)
termination_by k
decreasing_by omega
theorem digs_zero (acc : ByteArray) : digs 0 acc = acc := by rw [digs]; simp
theorem digs_pos {k : Nat} (h : k ≠ 0) (acc : ByteArray) : digs k acc = digs (k / 10) (strOfNums [48 + (k : Int) % 10] ++ acc) := by rw [digs]; simp [h]
def mk109 : ByteArray := ⟨#[109]⟩
def markB (k : Nat) : ByteArray := mk109 ++ digs k ByteArray.empty
def marksTo (l : List ByteArray) (k : Nat) : List ByteArray := (List.range k).map (fun j => markB (j + 1)) ++ l.drop k
def marksL (n : Nat) : List ByteArray := (List.range n).map (fun j => markB (j + 1))
theorem marksTo_len (l : List ByteArray) (k : Nat) (h : k ≤ l.length) : (marksTo l k).length = l.length := by simp [marksTo]; omega
theorem marksTo_set (l : List ByteArray) (k : Nat) (h : k < l.length) : (marksTo l k).set k (markB (k + 1)) = marksTo l (k + 1) := by
  unfold marksTo
  have hl : ((List.range k).map (fun j => markB (j + 1))).length = k := by simp
  rw [List.set_append_right _ _ (by omega), hl, Nat.sub_self, List.drop_eq_getElem_cons h, List.set_cons_zero, List.range_succ, List.map_append, List.append_assoc]; rfl
theorem marksTo_all (l : List ByteArray) : marksTo l l.length = marksL l.length := by unfold marksTo marksL; simp

theorem conv_one (w : World) (x : Int) : (convert 35 9 (.slice (some ⟨w.heap.size, 0, none⟩) 1 1)).run Tryz.prog (w.alloc (.cells #[.int .u8 x] 5)) = .ok (.string (strOfNums [x])) (w.alloc (.cells #[.int .u8 x] 5)) :=
  run_convert_bytes_arg (P := Tryz.prog) _ 35 5 Tryz.underlying35 Tryz.underlying5 w.heap.size 0 1 1 [x] rfl (fun i hi => by
    have : i = 0 := by simpa using hi
    subst this
    rw [World.cell?_alloc_mark]; rfl) 9 Tryz.underlying9

set_option maxHeartbeats 1000000 in
theorem markText_any (k : Nat) (w : World) (h1 : 1 ≤ k) (h2 : k ≤ 16777217) :
    Calls Tryz.prog 10 #[.int .i64 (k : Int)] w fun e w' => e = .returned (.string (markB k)) ∧ Below w.heap.size w w' := by
  have HB : Hid (markB k = mk109 ++ digs k ByteArray.empty) := rfl
  generalize markB k = M at *
  go_enter Tryz.func10, Tryz.ntmps10
  go_wp2
  go_loopw [0, 3] (fun x v wr => ∃ (j : Nat) (acc : ByteArray), x = .int .i64 j ∧ v = .string acc ∧ acc.size + j ≤ k ∧ Hid (M = mk109 ++ digs j acc) ∧ Hid (Below w.heap.size w wr)) (fun x _ _ => (intOf x).toNat)
  case atStart => exact ⟨k, ByteArray.empty, rfl, rfl, by simp, HB, Below.refl _ _⟩
  case round =>
    clear HB
    obtain ⟨j, acc, rfl, rfl, hs, hM, hB⟩ := hrel
    by_cases hj : 0 < j
    · have hcv := conv_one wr (48 + (j : Int) % 10)
      have hz : (strOfNums [48 + (j : Int) % 10]).size = 1 := by rw [strOfNums_size]; rfl
      have HM2 : Hid (M = mk109 ++ digs (j / 10) (strOfNums [48 + (j : Int) % 10] ++ acc)) := by show _ = _; rw [hM.out, digs_pos (by omega)]
      have HB2 : Hid (Below w.heap.size w (wr.alloc (.cells #[.int .u8 (48 + (j : Int) % 10)] 5))) := hB.out.alloc hB.out.size _
      generalize strOfNums [48 + (j : Int) % 10] = D at *
      go_wp2
      go_roundw
      case rel => exact ⟨j / 10, D ++ acc, by go_num, rfl, by rw [ByteArray.size_append, hz]; omega, HM2, HB2⟩
      case measure => simp [intOf]; omega
    · obtain rfl : j = 0 := by omega
      have HM2 : Hid (M = mk109 ++ acc) := by show _ = _; rw [hM.out, digs_zero]
      go_wp2
      go_ret
      exact ⟨ret_str HM2.out.symm, hB.out⟩

set_option maxHeartbeats 1000000 in
theorem mark_any (base : Nat) (v : Value) (l : List ByteArray) (w : World) (h : w.ownsRow base 9 1 v l.length (strRow l)) (hl : l.length ≤ 1048576) :
    Calls Tryz.prog 7 #[v, .int .i64 1] w fun e w' => e = .returned (.int .i64 ((l.length : Int) + 1)) ∧ w'.ownsRow base 9 1 v l.length (strRow (marksL l.length)) ∧ w.grownBy w' v.ownBlock := by
  rcases h.2 with ⟨rfl, h0⟩ | ⟨g, cap, cur, rfl, hg1, hg2, hg3, hg4, hg5, hg6⟩
  · have hl0 : l = [] := List.length_eq_zero_iff.1 h0
    subst hl0
    clear h h0
    go_enter Tryz.func7, Tryz.ntmps7
    go_wp2
    go_loop [5, 1] (fun i x => i = .int .i64 0 ∧ x = .int .i64 1) (fun _ _ => 0)
    case atStart => exact ⟨rfl, rfl⟩
    case round =>
      obtain ⟨rfl, rfl⟩ := hrel
      go_wp2
      go_ret
      exact ⟨rfl, World.ownsRow_nil _ _ _ _, World.grownBy.refl _ _⟩
  · have HO : Hid (w.ownsRow base 9 1 (.slice (some ⟨g, 0, none⟩) l.length cap) l.length (strRow (marksTo l 0))) := by
      show World.ownsRow _ _ _ _ _ _ _
      rw [show marksTo l 0 = l by simp [marksTo]]; exact h
    have HL : Hid (∀ k, k ≤ l.length → (strRow (marksTo l k)).length = l.length) := fun k hk => by simp [strRow, marksTo_len l k hk]
    clear h hg2 hg5 hg6
    go_enter Tryz.func7, Tryz.ntmps7
    go_wp2
    go_loopw [5, 1] (fun i x wr => ∃ k : Nat, k ≤ l.length ∧ i = .int .i64 k ∧ x = .int .i64 ((k : Int) + 1) ∧ Hid (wr.ownsRow base 9 1 (.slice (some ⟨g, 0, none⟩) l.length cap) l.length (strRow (marksTo l k))) ∧ Hid (w.grownBy wr (some g))) (fun i _ _ => l.length - (intOf i).toNat)
    case atStart => exact ⟨0, Nat.zero_le _, rfl, rfl, HO, World.grownBy.refl _ _⟩
    case round =>
      clear HO
      obtain ⟨k, hk, rfl, rfl, hown, hgr⟩ := hrel
      by_cases hlt : k < l.length
      · have hm := markText_any (k + 1) wr (by omega) (by omega)
        have hset := marksTo_set l k hlt
        have HS : Hid (∀ w2, Below wr.heap.size wr w2 → w2.cell? ⟨g, k, none⟩ = some (.string ((marksTo l k)[k]'(by rw [marksTo_len l k hk]; exact hlt))) ∧ w2.frozen? ⟨g, k, none⟩ = false ∧ (w2.setCell ⟨g, k, none⟩ (.string (markB (k + 1)))).ownsRow base 9 1 (.slice (some ⟨g, 0, none⟩) l.length cap) l.length (strRow (marksTo l (k + 1))) ∧ w.grownBy (w2.setCell ⟨g, k, none⟩ (.string (markB (k + 1)))) (some g)) := by
          intro w2 hb
          have ho2 := ownS_below hown.out hb
          refine ⟨?_, ho2.frozenAt k, ?_, ?_⟩
          · rw [ho2.cellAt k (by omega)]; simp [strRow, marksTo_len l k hk, hlt]
          · have := (ho2.stored k (.string (markB (k + 1)))).1
            have e : (strRow (marksTo l k)).set k (.string (markB (k + 1))) = strRow (marksTo l (k + 1)) := by rw [← hset]; simp [strRow, List.map_set]
            rw [e] at this; exact this
          · have a := hgr.out
            refine ⟨hb.os.trans a.os, hb.tape.trans a.tape, hb.output.trans a.output, ?_, ?_⟩
            · simpa [World.setCell] using Nat.le_trans a.size hb.size
            · intro q hq hne
              have hqg : g ≠ q := fun e => hne (by rw [e])
              rw [show (w2.setCell ⟨g, k, none⟩ (.string (markB (k + 1)))).heap[q]? = w2.heap[q]? by simp [World.setCell, Array.getElem?_modify, hqg]]
              exact (hb.block q (Nat.lt_of_lt_of_le hq a.size)).trans (a.block q hq hne)
        rw [show ((k + 1 : Nat) : Int) = (k : Int) + 1 by omega] at hm
        generalize markB (k + 1) = M at *
        generalize (marksTo l k)[k]'_ = M0 at *
        clear hset
        go_wp2_with fail
        refine hm.mono ?_
        rintro e w2 ⟨rfl, b2⟩
        obtain ⟨c2, f2, o2, g2⟩ := HS.out w2 b2
        have HO2 : Hid ((w2.setCell ⟨g, k, none⟩ (.string M)).ownsRow base 9 1 (.slice (some ⟨g, 0, none⟩) l.length cap) l.length (strRow (marksTo l (k + 1)))) := o2
        have HG2 : Hid (w.grownBy (w2.setCell ⟨g, k, none⟩ (.string M)) (some g)) := g2
        clear o2 g2
        go_wp2_with fail
        go_roundw
        case rel => exact ⟨k + 1, by omega, by go_num, by go_num, HO2, HG2⟩
        case measure => simp [intOf]; omega
      · obtain rfl : k = l.length := by omega
        have HO2 : Hid (wr.ownsRow base 9 1 (.slice (some ⟨g, 0, none⟩) l.length cap) l.length (strRow (marksL l.length))) := by
          show World.ownsRow _ _ _ _ _ _ _
          rw [← marksTo_all]; exact hown.out
        go_wp2
        go_ret
        exact ⟨rfl, HO2.out, hgr.out⟩

set_option maxHeartbeats 1000000 in
theorem held_any (p : Option Addr) (cap n : Nat) (w : World) (hp : TxtAt w p (marksL n)) (hn : n ≤ 1048576) (hcap : n ≤ cap) :
    Calls Tryz.prog 8 #[.slice p n cap, .int .i64 1] w fun e w' => e = .returned (.int .i64 ((n : Int) + 1)) ∧ Below w.heap.size w w' := by
  have HP : Hid (TxtAt w p (marksL n)) := hp
  have HL : Hid ((marksL n).length = n) := by show _ = _; simp [marksL]
  clear hp
  go_enter Tryz.func8, Tryz.ntmps8
  go_wp2
  go_loopw [5, 1] (fun i x wr => ∃ k : Nat, k ≤ n ∧ i = .int .i64 k ∧ x = .int .i64 ((k : Int) + 1) ∧ Hid (Below w.heap.size w wr)) (fun i _ _ => n - (intOf i).toNat)
  case atStart => exact ⟨0, Nat.zero_le _, rfl, rfl, Below.refl _ _⟩
  case round =>
    obtain ⟨k, hk, rfl, rfl, hB⟩ := hrel
    by_cases hlt : k < n
    · obtain ⟨b, off, rfl, hb, hck⟩ := HP.out k (by rw [HL.out]; exact hlt)
      have hc1 : wr.cell? ⟨b, off + k, none⟩ = some (.string (markB (k + 1))) := by
        rw [hB.out.cell (p := ⟨b, off + k, none⟩) hb, hck]; simp [marksL]
      have hbw : b < wr.heap.size := Nat.lt_of_lt_of_le hb hB.out.size
      have HM : Hid (∀ w', Below wr.heap.size wr w' → Calls Tryz.prog 10 #[.int .i64 ((k : Int) + 1)] w' fun e w'' => e = .returned (.string (markB (k + 1))) ∧ Below w'.heap.size w' w'') := by
        intro w' _
        have := markText_any (k + 1) w' (by omega) (by omega)
        rwa [show ((k + 1 : Nat) : Int) = (k : Int) + 1 by omega] at this
      clear hck
      generalize markB (k + 1) = M at *
      have j5 : (k : Int) < n := by omega
      go_wp2_with fail
      go_region_with (go_at_call 10; refine (HM.out _ ((Below.refl _ _).drew)).mono ?_; rintro e w2 ⟨rfl, b2⟩; have b2 := chainB ((Below.refl _ _).drew) b2; have c2 := (b2.cell (p := ⟨b, off + k, none⟩) hbw).trans hc1)
      all_goals
        have HB2 : Hid (Below w.heap.size w w2) := chainB hB.out b2
        go_wp2_with fail
        go_roundw
        case rel => exact ⟨k + 1, by omega, by go_num, by go_num, HB2⟩
        case measure => simp [intOf]; omega
    · obtain rfl : k = n := by omega
      go_wp2
      go_ret
      exact ⟨rfl, hB.out⟩
end Go.Proofs.YteiffjpmccbcoaaGreatDoor
