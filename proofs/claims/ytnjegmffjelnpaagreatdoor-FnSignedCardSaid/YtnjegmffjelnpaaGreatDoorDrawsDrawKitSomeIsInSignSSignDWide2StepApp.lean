/-
  Parts of one proof, laid as one text: Draws, DrawKit, Some, IsIn, SignS, SignD, Wide2, StepApp; what each says stands at its head.
-/
import Derived.Test.YtnjegmffjelnpaaGreatDoorRows
import Derived.Test.YtnjegmffjelnpaaGreatDoorPutNumAppSSrc
import Derived.Handy
import Derived.WalkSpells
import Derived.RegionTactic
import Derived.BigRegion
import Derived.Deep.QuietTactic
import Derived.BigQuiet
import Derived.Deep.AppendLies
import Derived.Laws.BytesArg
import Derived.Test.YtnjegmffjelnpaaGreatDoorBytesDigMathTurnIWholeR
import Derived.Test.YtnjegmffjelnpaaGreatDoorSlABxKSlBOwnSSgnBOwnBPadI
import Derived.OwnWalk
import Derived.Test.YtnjegmffjelnpaaGreatDoorAll2LeafNode
import Derived.Test.YtnjegmffjelnpaaGreatDoorMacMathPutMathJoinedDigITurn2
import Derived.Test.YtnjegmffjelnpaaGreatDoorTakePathConMathProofLawSignMathMac2
import Derived.Test.YtnjegmffjelnpaaGreatDoorPowerHalvesTreeTree2TreeHPathMathIncMathTaker
import Derived.Test.YtnjegmffjelnpaaGreatDoorTreeMath
import Derived.Deep.RegionLaw
/-
  What the draws' functions answer: n: a number from 0 to below most; one: a bool; bytes: a text of n bytes; edge: a number. The source's block alone is written; new memory apart nothing else turns.
  Conditions: the source is one ('Src').
-/
namespace Go.Proofs.YtnjegmffjelnpaaGreatDoor
open Go.RowKit
set_option linter.unusedVariables false

/-- What n answers. -/
def nAns (most r : Int) : Prop := 0 ≤ r ∧ (1 < most → r < most) ∧ (most ≤ 1 → r = 0)

set_option maxHeartbeats 4000000 in
theorem n_any (B p : Nat) (a : Option Addr) (len cap : Nat) (most : Int) (w : World) (hs : Src 59 B p a len cap w) (hm2 : most ≤ 9223372036854775807) :
    Calls Tryz.prog 15 #[.pointer (some ⟨p, 0, none⟩), .int .i64 most] w fun e w' =>
      (∃ r, e = .returned (.int .i64 r) ∧ nAns most r) ∧ Src 59 B p a len cap w' ∧ w.grownBy w' (some p) := by
  by_cases hm : most ≤ 1
  · have HS : Hid (Src 59 B p a len cap w) := hs
    clear hs
    go_enter Tryz.func15, Tryz.ntmps15
    go_wp2
    go_ret
    exact ⟨⟨0, rfl, Int.le_refl _, fun h => by omega, fun _ => rfl⟩, HS.out, World.grownBy.refl _ _⟩
  have hm1 : 1 < most := by omega
  have HS : Hid (Src 59 B p a len cap w) := hs
  obtain ⟨hB, hlen, ⟨at0, mix, sz, hat, m0, m1, hz, hrow⟩, hcode⟩ := hs
  obtain ⟨h0, h1, h2, h3⟩ := hrow.cell
  have f1 := hrow.free 1
  have f2 := hrow.free 2
  have HR : Hid (SrcRow 59 p (.slice a len cap) at0 mix sz w) := hrow
  have hset := fun (W : World) (v : Value) => cell_set W p 2 v
  clear hrow h3
  by_cases hlt : at0 < len
  · rcases hcode with hc | ⟨xb, xo, ha, hxB, hcell⟩
    · omega
    subst ha
    obtain ⟨c, c0, c1, hx⟩ := hcell at0 hlt
    clear hcell
    have i1 : (at0 : Int) < (len : Int) := by omega
    have i0 : (0 : Int) ≤ (at0 : Int) := by omega
    go_enter Tryz.func15, Tryz.ntmps15
    go_wp2
    go_quiet (fail)
    go_wp2
    go_quiet (fail)
    go_wp2
    go_region
    go_wp2
    go_region
    go_wp2
    go_region
    go_wp2
    go_ret
    refine ⟨⟨_, rfl, (draw_bd _ most hm1 hm2).1, fun _ => (draw_bd _ most hm1 hm2).2, fun h => by omega⟩, HS.out.step ?_ (at0 := at0 + 1) (by omega) (bits_lo_u64 _ _ _) (bits_hi_u64 _ _ _) hz ((((((HR.out.drewN _).set1 _).set2 _).set2 _).set2 _).drew.drew.drew), ?_⟩
    all_goals exact touch_drew (touch_drew (touch_drew (touch_set (touch_set (touch_set (touch_set (touch_drewN (World.grownBy.refl _ _)) _ _) _ _) _ _) _ _)))
  · have i1 : ¬ (at0 : Int) < (len : Int) := by omega
    have d1 : decide ((at0 : Int) < (len : Int)) = false := by simp; omega
    clear hcode
    go_enter Tryz.func15, Tryz.ntmps15
    go_wp2
    go_quiet (fail)
    go_wp2
    go_region
    go_wp2
    go_region
    go_wp2
    go_region
    go_wp2
    go_ret
    refine ⟨⟨_, rfl, (draw_bd _ most hm1 hm2).1, fun _ => (draw_bd _ most hm1 hm2).2, fun h => by omega⟩, HS.out.step ?_ (at0 := at0) hat (bits_lo_u64 _ _ _) (bits_hi_u64 _ _ _) hz (((((HR.out.drewN _).set2 _).set2 _).set2 _).drew.drew), ?_⟩
    all_goals exact touch_drew (touch_drew (touch_set (touch_set (touch_set (touch_drewN (World.grownBy.refl _ _)) _ _) _ _) _ _))

set_option maxHeartbeats 1000000 in
theorem one_any (B p : Nat) (a : Option Addr) (len cap : Nat) (most : Int) (w : World) (hs : Src 59 B p a len cap w) (hm2 : most ≤ 9223372036854775807) :
    Calls Tryz.prog 36 #[.pointer (some ⟨p, 0, none⟩), .int .i64 most] w fun e w' =>
      (∃ r, e = .returned (.bool r)) ∧ Src 59 B p a len cap w' ∧ w.grownBy w' (some p) := by
  have HS : Hid (Src 59 B p a len cap w) := hs
  clear hs
  go_enter Tryz.func36, Tryz.ntmps36
  go_wp2_with fail
  refine (n_any B p a len cap _ _ HS.out hm2).mono ?_
  rintro e w1 ⟨⟨r, rfl, hr⟩, hs1, hg1⟩
  have H1 : Hid (Src 59 B p a len cap w1) := hs1
  clear hs1 hr
  go_wp2
  go_ret
  exact ⟨⟨_, rfl⟩, H1.out, hg1⟩

theorem infoU8d : (Tryz.prog.info? 5).map (fun i => (i.zero, i.size, i.bytes)) = some (some (.int .u8 0), 1, 1) := by kernel_rfl
theorem own_convD {w : World} {base g k cap : Nat} {xs : List Int} (h : w.ownsRow base 5 1 (.slice (some ⟨g, 0, none⟩) k cap) k (xs.map (Value.int .u8))) (hl : xs.length = k) :
    (convert 22 9 (.slice (some ⟨g, 0, none⟩) k cap)).run Tryz.prog w = .ok (.string (strOfNums xs)) w :=
  run_convert_bytes_arg (P := Tryz.prog) w 22 5 Tryz.underlying22 Tryz.underlying5 g 0 k cap xs hl (fun i hi => by
    rw [Nat.zero_add, h.cellAt i (by omega)]
    have : i < xs.length := by omega
    simp [List.getD, List.getElem?_eq_getElem this]) 9 Tryz.underlying9

set_option maxHeartbeats 2000000 in
theorem bytes_any (B p : Nat) (a : Option Addr) (len cap : Nat) (n : Int) (w : World) (hs : Src 59 B p a len cap w) (hn : n ≤ 1048576) :
    Calls Tryz.prog 113 #[.pointer (some ⟨p, 0, none⟩), .int .i64 n] w fun e w' =>
      (∃ t : ByteArray, e = .returned (.string t) ∧ t.size = n.toNat) ∧ Src 59 B p a len cap w' ∧ w.grownBy w' (some p) := by
  obtain ⟨i0, hi, hz0, hz1, hz2⟩ := info_parts infoU8d
  have hp := hs.lt
  have HS : Hid (Src 59 B p a len cap w) := hs
  clear hs
  go_enter Tryz.func113, Tryz.ntmps113
  go_wp2
  go_loopw [5, 6] (fun v i wr => ∃ (k : Nat) (pre : List Int) (g cp : Nat), i = .int .i64 k ∧ (k : Int) ≤ max n 0 ∧ v = .slice (some ⟨g, 0, none⟩) k cp ∧ Hid (pre.length = k) ∧ wr.ownsRow w.heap.size 5 1 (.slice (some ⟨g, 0, none⟩) k cp) k (pre.map (Value.int .u8)) ∧ Hid (Src 59 B p a len cap wr) ∧ w.grownBy wr (some p)) (fun _ i _ => (n - Go.RowKit.intOf i).toNat)
  case atStart =>
    exact ⟨0, [], w.heap.size, 0, rfl, by omega, rfl, rfl, World.ownsRow_made w #[] 0 (Nat.le_refl _) (by unfold maxLen; omega) rfl, HS.out.below ((Below.refl _ _).alloc (Nat.le_refl _) _), World.grownBy_alloc _ _ _⟩
  case round =>
    obtain ⟨k, pre, g, cp, rfl, hk, rfl, HL, hown, HS1, hg1⟩ := hrel
    have hsz : w.heap.size ≤ wr.heap.size := hg1.size
    by_cases hlt : (k : Int) < n
    · go_wp2_with fail
      refine (n_any B p a len cap 256 _ HS1.out (by omega)).mono ?_
      rintro e w1 ⟨⟨r, rfl, hr0, hr1, _⟩, hs1, hg2⟩
      have hr2 : r < 256 := hr1 (by omega)
      have hgl := (hown.lt g rfl).1
      have hown1 := hown.kept hg2 (.inr (by show some g ≠ some p; simp; omega))
      have H1 : Hid (Src 59 B p a len cap w1) := hs1
      have hg3 := touch_trans hg1 hg2
      have hsz1 : w.heap.size ≤ w1.heap.size := hg3.size
      clear hs1 hr1 HS1 hown hg1 hg2
      go_wp2_with (at_builtin; refine wpList_append_lies _ rfl _ _ 22 rfl w.heap.size 5 i0 (.int .u8 0) 1 1 Tryz.underlying22 hi hz0 hz1 hz2 rfl (by omega) _ k _ rfl (hown1.alloc _) ⟨w1.heap.size, 0, none⟩ 1 1 [.int .u8 r] rfl rfl (World.news_of_block (cs := #[.int .u8 r]) (t := 5) (fr := (0, 0)) (heap_alloc_new w1 _)) (by simp [Value.oneCell']) (by omega) (by unfold maxLen; omega) (by omega) (by simp; omega) (w1.heap.size + 1) (by simp) ?_; intro g2 cap2 w2 hown2 hgrow hat hltg)
      have hrow : ∀ j, (Value.slice (some ⟨g, 0, none⟩) k cp).ownBlock = some j → w.heap.size ≤ j := fun j hj => (hown1.lt j hj).1
      have hs2 : Src 59 B p a len cap w2 := (H1.out.below ((Below.refl _ _).alloc (Nat.le_refl _) _)).other hgrow (fun j hj => by have := hrow j hj; omega)
      have hg4 : w.grownBy w2 (some p) := touch_own (touch_below hg3 ((Below.refl _ _).alloc (Nat.le_refl _) _)) hgrow hrow
      have ho2 : w2.ownsRow w.heap.size 5 1 (.slice (some ⟨g2, 0, none⟩) (k + 1) cap2) (k + 1) ((pre ++ [r]).map (Value.int .u8)) := by rw [List.map_append]; exact hown2
      go_roundw
      case rel => exact ⟨k + 1, pre ++ [r], g2, cap2, by go_num, by omega, rfl, by show _ = _; rw [List.length_append, HL.out]; rfl, ho2, hs2, hg4⟩
      case measure => simp [Go.RowKit.intOf]; omega
    · have hconv := own_convD (xs := pre) hown HL.out
      have hkn : k = n.toNat := by omega
      have HK : Hid (k = n.toNat) := hkn
      clear hkn
      go_wp2
      go_ret
      exact ⟨⟨_, rfl, by rw [strOfNums_size, HL.out, HK.out]⟩, HS1.out, hg1⟩

theorem edge_at : ∀ k : Nat, k < 14 → ∃ v : Int, (#[.int .i64 0, .int .i64 1, .int .i64 (-1), .int .i64 2, .int .i64 1000, .int .i64 1001, .int .i64 2147483648, .int .i64 2147483647, .int .i64 (-2147483648), .int .i64 4611686018427387904, .int .i64 9223372036854775807, .int .i64 (-9223372036854775808), .int .i64 1000000, .int .i64 1000001] : Array Value)[k]? = some (.int .i64 v) ∧ -9223372036854775808 ≤ v ∧ v ≤ 9223372036854775807
  | 0, _ => ⟨_, rfl, by omega, by omega⟩
  | 1, _ => ⟨_, rfl, by omega, by omega⟩
  | 2, _ => ⟨_, rfl, by omega, by omega⟩
  | 3, _ => ⟨_, rfl, by omega, by omega⟩
  | 4, _ => ⟨_, rfl, by omega, by omega⟩
  | 5, _ => ⟨_, rfl, by omega, by omega⟩
  | 6, _ => ⟨_, rfl, by omega, by omega⟩
  | 7, _ => ⟨_, rfl, by omega, by omega⟩
  | 8, _ => ⟨_, rfl, by omega, by omega⟩
  | 9, _ => ⟨_, rfl, by omega, by omega⟩
  | 10, _ => ⟨_, rfl, by omega, by omega⟩
  | 11, _ => ⟨_, rfl, by omega, by omega⟩
  | 12, _ => ⟨_, rfl, by omega, by omega⟩
  | 13, _ => ⟨_, rfl, by omega, by omega⟩
  | k + 14, h => by omega

set_option maxHeartbeats 2000000 in
theorem edge_any (B p : Nat) (a : Option Addr) (len cap : Nat) (w : World) (hs : Src 59 B p a len cap w) :
    Calls Tryz.prog 37 #[.pointer (some ⟨p, 0, none⟩)] w fun e w' =>
      (∃ r, e = .returned (.int .i64 r) ∧ -9223372036854775808 ≤ r ∧ r ≤ 9223372036854775807) ∧ Src 59 B p a len cap w' ∧ w.grownBy w' (some p) := by
  have HS : Hid (Src 59 B p a len cap w) := hs
  have hp := hs.lt
  clear hs
  go_enter Tryz.func37, Tryz.ntmps37
  go_wp2_with fail
  refine (n_any B p a len cap 14 _ (HS.out.below ((Below.refl _ _).alloc (Nat.le_refl _) _)) (by omega)).mono ?_
  rintro e w1 ⟨⟨r, rfl, hr0, hr1, _⟩, hs1, hg1⟩
  have hr2 : r < 14 := hr1 (by omega)
  obtain ⟨k, rfl⟩ := Int.eq_ofNat_of_zero_le hr0
  obtain ⟨v, hv, v0, v1⟩ := edge_at k (by omega)
  have hcell := hg1.cell_far ⟨w.heap.size, k, none⟩ (by simp) (by simp; omega)
  rw [World.cell?_alloc_mark, hv] at hcell
  have H1 : Hid (Src 59 B p a len cap w1) := hs1
  have hg2 : w.grownBy w1 (some p) := touch_trans (World.grownBy_alloc _ _ _) hg1
  clear hs1 hr1 hg1 hv
  go_wp2_with fail
  go_ret
  exact ⟨⟨v, rfl, v0, v1⟩, H1.out, hg2⟩

theorem wrapU_bd (x : Int) : 0 ≤ IntKind.u64.wrap x ∧ IntKind.u64.wrap x ≤ 18446744073709551615 := by
  simp [IntKind.wrap, IntKind.bits, IntKind.signed]; omega

set_option maxHeartbeats 2000000 in
theorem source_any (B : Nat) (a : Option Addr) (len cap : Nat) (w : World) (hlen : len ≤ 1048576) (hB : B ≤ w.heap.size)
    (hcode : len = 0 ∨ ∃ xb xo, a = some ⟨xb, xo, none⟩ ∧ xb < B ∧ ∀ i, i < len → ∃ c : Int, 0 ≤ c ∧ c ≤ 255 ∧ w.cell? ⟨xb, xo + i, none⟩ = some (.int .u8 c)) :
    Calls Tryz.prog 12 #[.slice a len cap] w fun e w' =>
      e = .returned (.pointer (some ⟨w.heap.size, 0, none⟩)) ∧ Src 59 B w.heap.size a len cap w' ∧ Below w.heap.size w w' := by
  have HC : Hid (len = 0 ∨ ∃ xb xo, a = some ⟨xb, xo, none⟩ ∧ xb < B ∧ ∀ i, i < len → ∃ c : Int, 0 ≤ c ∧ c ≤ 255 ∧ w.cell? ⟨xb, xo + i, none⟩ = some (.int .u8 c)) := hcode
  clear hcode
  go_enter Tryz.func12, Tryz.ntmps12
  go_wp2
  go_loopw [4] (fun i wr => ∃ (k : Nat) (mix : Int), i = .int .i64 k ∧ k ≤ len ∧ k ≤ 64 ∧ 0 ≤ mix ∧ mix ≤ 18446744073709551615 ∧ Hid (SrcRow 59 w.heap.size (.slice a len cap) 0 mix 0 wr) ∧ Below w.heap.size w wr) (fun i _ => 64 - (Go.RowKit.intOf i).toNat)
  case atStart => exact ⟨0, 88172645463325252, rfl, Nat.zero_le _, by omega, by omega, by omega, (MapKept.heap_alloc w _).1, (Below.refl _ _).alloc (Nat.le_refl _) _⟩
  case round =>
    obtain ⟨k, mix, rfl, hk, hk64, m0, m1, HR, hnx⟩ := hrel
    obtain ⟨h0, h1, h2, h3⟩ := HR.out.cell
    have f2 := HR.out.free 2
    have f3 := HR.out.free 3
    have hsz : w.heap.size < wr.heap.size := HR.out.lt
    by_cases hlt : k < len ∧ k < 64
    · obtain ⟨hkl, hk6⟩ := hlt
      rcases HC.out with hc | ⟨xb, xo, ha, hxB, hcell⟩
      · omega
      obtain ⟨c, c0, c1, hx0⟩ := hcell k hkl
      have hx : wr.cell? ⟨xb, xo + k, none⟩ = some (.int .u8 c) := by rw [hnx.cell (p := ⟨xb, xo + k, none⟩) (by show xb < _; omega)]; exact hx0
      clear hcell hx0
      subst ha
      have i1 : (k : Int) < (len : Int) := by omega
      have i0 : (0 : Int) ≤ (k : Int) := by omega
      have d1 : decide ((k : Int) < (len : Int)) = true := by simp; omega
      go_wp2
      go_region
      go_wp2
      go_roundw
      case rel => exact ⟨k + 1, _, by go_num, by omega, by omega, (wrapU_bd _).1, (wrapU_bd _).2, (HR.out.set2 _).drew, (hnx.setCell (Nat.le_refl _) _).drew⟩
      case measure => simp [Go.RowKit.intOf]; omega
    · have HEnd : Hid (∀ w' z, 0 ≤ z ∧ z ≤ 12 → Below w.heap.size w w' → SrcRow 59 w.heap.size (.slice a len cap) 0 mix z w' → Src 59 B w.heap.size a len cap w') := fun w' z hz hb hr =>
        ⟨hB, hlen, ⟨0, mix, z, Nat.zero_le _, m0, m1, hz, hr⟩, by
          rcases HC.out with hc | ⟨xb, xo, ha, hxB, hcell⟩
          · exact .inl hc
          · refine .inr ⟨xb, xo, ha, hxB, fun i hi => ?_⟩
            obtain ⟨c, c0, c1, hci⟩ := hcell i hi
            exact ⟨c, c0, c1, by rw [hb.cell (p := ⟨xb, xo + i, none⟩) (by show xb < _; omega)]; exact hci⟩⟩
      have hset := fun (W : World) (v : Value) => cell_set W w.heap.size 3 v
      by_cases hkl : k < len
      · have d1 : decide ((k : Int) < (len : Int)) = true := by simp; omega
        have d2 : decide ((k : Int) < 64) = false := by simp; omega
        clear hlt
        by_cases hq : 12 < (len : Int) / 20
        · go_wp2
          go_ret
          exact ⟨rfl, HEnd.out _ _ (by omega) ((hnx.setCell (Nat.le_refl _) _).setCell (Nat.le_refl _) _) ((HR.out.set3 _).set3 _), (hnx.setCell (Nat.le_refl _) _).setCell (Nat.le_refl _) _⟩
        · go_wp2
          go_ret
          exact ⟨rfl, HEnd.out _ _ (by constructor <;> go_num) (hnx.setCell (Nat.le_refl _) _) (HR.out.set3 _), hnx.setCell (Nat.le_refl _) _⟩
      · have d1 : decide ((k : Int) < (len : Int)) = false := by simp; omega
        clear hlt
        by_cases hq : 12 < (len : Int) / 20
        · exfalso; omega
        · go_wp2
          go_ret
          exact ⟨rfl, HEnd.out _ _ (by constructor <;> go_num) (hnx.setCell (Nat.le_refl _) _) (HR.out.set3 _), hnx.setCell (Nat.le_refl _) _⟩
end Go.Proofs.YtnjegmffjelnpaaGreatDoor
/-
  What all drawn laws share: a new row of zeros as a text; the code's bytes ('CodeAt'); what a step on a source of the call's own leaves.
-/
namespace Go.Proofs.YtnjegmffjelnpaaGreatDoor
open Go.RowKit Go.Lib
set_option linter.unusedVariables false

theorem infoU8s : (Tryz.prog.info? 5).map (fun i => (i.zero, i.size, i.bytes)) = some (some (.int .u8 0), 1, 1) := by kernel_rfl
theorem run_make_u8s (n : Nat) (hn : n ≤ 281474976710656) (w : World) :
    (Instr.makeSlice 22 (.int .i64 (n : Int)) (.int .i64 (n : Int))).run Tryz.prog w = .ok (.slice (some ⟨w.heap.size, 0, none⟩) n n) (w.alloc (.cells (zrow n).toArray 5)) := by
  obtain ⟨i0, hi, hz0, hz1, hz2⟩ := info_parts infoU8s
  have := run_make (P := Tryz.prog) w 22 5 i0 (.int .u8 0) Tryz.underlying22 hi hz0 .i64 .i64 (n : Int) (n : Int) (by omega) (by omega) (by rw [hz2]; omega) (by omega)
  rw [this, hz1]
  simp only [Int.toNat_natCast, Nat.mul_one]
  rw [← madeZ]; rfl
theorem zconv (n : Nat) (w : World) :
    (convert 22 9 (.slice (some ⟨w.heap.size, 0, none⟩) n n)).run Tryz.prog (w.alloc (.cells (zrow n).toArray 5)) = .ok (.string (strOfNums (List.replicate n 0))) (w.alloc (.cells (zrow n).toArray 5)) :=
  run_convert_bytes_arg (P := Tryz.prog) _ 22 5 Tryz.underlying22 Tryz.underlying5 w.heap.size 0 n n (List.replicate n 0) (by simp) (fun i hi => by
    rw [World.cell?_alloc_mark]; simp [zrow, hi]) 9 Tryz.underlying9

/-- The code's bytes lie there, below B. -/
def CodeAt (B : Nat) (a : Option Addr) (len : Nat) (w : World) : Prop :=
  len = 0 ∨ ∃ xb xo, a = some ⟨xb, xo, none⟩ ∧ xb < B ∧ ∀ i, i < len → ∃ c : Int, 0 ≤ c ∧ c ≤ 255 ∧ w.cell? ⟨xb, xo + i, none⟩ = some (.int .u8 c)
theorem CodeAt.below {B : Nat} {a : Option Addr} {len : Nat} {w w' : World} (h : CodeAt B a len w) (hb : Below B w w') : CodeAt B a len w' := by
  rcases h with h | ⟨xb, xo, ha, hx, hc⟩
  · exact .inl h
  · refine .inr ⟨xb, xo, ha, hx, fun i hi => ?_⟩
    obtain ⟨c, c0, c1, hci⟩ := hc i hi
    exact ⟨c, c0, c1, by rw [hb.cell (p := ⟨xb, xo + i, none⟩) hx]; exact hci⟩
/-- What a step on a source of the call's own leaves. -/
theorem below_touch {w w1 w2 : World} {p : Nat} (h : Below w.heap.size w w1) (k : w1.grownBy w2 (some p)) (hp : w.heap.size ≤ p) : Below w.heap.size w w2 :=
  h.grown k h.size (fun j hj => by cases hj; exact hp)
theorem results_tmp5 {fn : Func} {t u v x y : Tmp} (h : fn.results = #[.tmp t, .tmp u, .tmp v, .tmp x, .tmp y]) (tmps : Array Value) (P : Program) (w : World) :
    (results fn tmps).run P w = .ok (.tuple #[tmps.getD t undef, tmps.getD u undef, tmps.getD v undef, tmps.getD x undef, tmps.getD y undef]) w := by
  simp [results, h]
theorem edge4 (a b r : Int) (a0 : -9223372036854775808 ≤ a) (a1 : a ≤ 9223372036854775807) (b0 : -9223372036854775808 ≤ b) (b1 : b ≤ 9223372036854775807) (r0 : -9223372036854775808 ≤ r) (r1 : r ≤ 9223372036854775807) : ∀ k : Nat, k < 4 → ∃ v : Int, (#[.int .i64 a, .int .i64 b, .int .i64 r, .int .i64 4611686018427387904] : Array Value)[k]? = some (.int .i64 v) ∧ -9223372036854775808 ≤ v ∧ v ≤ 9223372036854775807
  | 0, _ => ⟨_, rfl, a0, a1⟩
  | 1, _ => ⟨_, rfl, b0, b1⟩
  | 2, _ => ⟨_, rfl, r0, r1⟩
  | 3, _ => ⟨_, rfl, by omega, by omega⟩
  | k + 4, h => by omega
end Go.Proofs.YtnjegmffjelnpaaGreatDoor
/-
  What l03Some draws: at most 30 texts of at most 101 bytes each, in a row that the call owns. The source's block alone is written.
  Conditions: the source is one ('Src').
-/
namespace Go.Proofs.YtnjegmffjelnpaaGreatDoor
open Go.RowKit Go.Lib
set_option linter.unusedVariables false
set_option maxRecDepth 20000

theorem BlkS.touch {w w' : World} {g p : Nat} {l : List ByteArray} (h : BlkS w g l) (hg : w.grownBy w' (some p)) (hne : g ≠ p) : BlkS w' g l := by
  unfold BlkS at *; rw [hg.block g (lt_of_block h) (fun e => hne (by cases e; rfl))]; exact h
theorem append_size (s t : ByteArray) : (s ++ t).size = s.size + t.size := by simp

set_option maxHeartbeats 1000000 in
theorem pick_any (B p : Nat) (a : Option Addr) (len cap : Nat) (g : Nat) (ss : List ByteArray) (w : World) (hs : Src 59 B p a len cap w) (hb : BlkS w g ss) (hne : g ≠ p) (h0 : 0 < ss.length) (hn : ss.length ≤ 1048576) :
    Calls Tryz.prog 41 #[.pointer (some ⟨p, 0, none⟩), .slice (some ⟨g, 0, none⟩) ss.length ss.length] w fun e w' =>
      (∃ t ∈ ss, e = .returned (.string t)) ∧ Src 59 B p a len cap w' ∧ w.grownBy w' (some p) := by
  have HS : Hid (Src 59 B p a len cap w) := hs
  have HB : Hid (BlkS w g ss) := hb
  clear hs hb
  go_enter Tryz.func41, Tryz.ntmps41
  go_wp2_with fail
  refine (n_any B p a len cap _ _ HS.out (by omega)).mono ?_
  rintro e w1 ⟨⟨r, rfl, hr0, hr1, hr2⟩, hs1, hg1⟩
  obtain ⟨k, rfl⟩ := Int.eq_ofNat_of_zero_le hr0
  have hk : k < ss.length := by
    by_cases h1 : (1 : Int) < ss.length
    · have := hr1 h1; omega
    · have := hr2 (by omega); omega
  have hc := ((HB.out.touch hg1 hne).cell k hk).1
  have HM : Hid (ss[k] ∈ ss) := List.getElem_mem hk
  have H1 : Hid (Src 59 B p a len cap w1) := hs1
  clear hs1 hr1 hr2
  generalize ss[k] = t at *
  have i1 : (k : Int) < ss.length := by omega
  go_wp2
  go_ret
  exact ⟨⟨t, HM.out, rfl⟩, H1.out, hg1⟩

theorem app_one (w : World) (base : Nat) (v : Value) (l : List ByteArray) (own : w.ownsRow base 9 1 v l.length (strRow l)) (T : ByteArray) (hl : l.length + 1 ≤ 1048576) (hbase : base ≤ w.heap.size) :
    ∃ v' w', (Builtin.append_ #[24, 24] 24 #[v, .slice (some ⟨w.heap.size, 0, none⟩) 1 1]).run Tryz.prog (w.alloc (.cells #[.string T] 9)) = .ok v' w' ∧ w'.ownsRow base 9 1 v' (l ++ [T]).length (strRow (l ++ [T])) ∧ (w.alloc (.cells #[.string T] 9)).grownBy w' v.ownBlock :=
  app_texts (w.alloc (.cells #[.string T] 9)) base v l (own.alloc _) (some ⟨w.heap.size, 0, none⟩) 1 [T] (alloc_str w [T]).txt hl (by simp; omega)
/-- What an append to an own row leaves of a source and of what was there. -/
theorem app_leaves {T : TypeId} {B p : Nat} {a : Option Addr} {len cap : Nat} {w0 w w' : World} {e : TypeId} {v : Value} {n : Nat} {xs : List Value} {x : Obj} (own : w.ownsRow w0.heap.size e 1 v n xs) (hs : Src T B p a len cap w) (hp : p < w0.heap.size) (hg : w0.grownBy w (some p)) (h : (w.alloc x).grownBy w' v.ownBlock) :
    Src T B p a len cap w' ∧ w0.grownBy w' (some p) := by
  have hrow : ∀ j, v.ownBlock = some j → w0.heap.size ≤ j := fun j hj => (own.lt j hj).1
  exact ⟨(hs.below ((Below.refl _ _).alloc (Nat.le_refl _) _)).other h (fun j hj => by have := hrow j hj; omega), touch_own (touch_below hg ((Below.refl _ _).alloc (Nat.le_refl _) _)) h hrow⟩

def fourS : List ByteArray := [⟨#[97]⟩, ⟨#[98]⟩, ⟨#[]⟩, ⟨#[101, 110, 116, 114, 121]⟩]
theorem fourS_small : ∀ t ∈ fourS, t.size ≤ 5 := by decide

end Go.Proofs.YtnjegmffjelnpaaGreatDoor
/-
  What the specification's l03Is answers, of any two bounds.
-/
namespace Go.Proofs.YtnjegmffjelnpaaGreatDoor
open Go.RowKit Go.Lib
set_option linter.unusedVariables false
set_option maxRecDepth 20000

theorem isIn_any (n lo hi : Int) (w : World) : Calls Tryz.prog 57 #[.int .i64 n, .int .i64 lo, .int .i64 hi] w fun e w' => e = .returned (.bool (decide (lo ≤ n ∧ n ≤ hi))) ∧ w' = w := by
  by_cases h1 : lo ≤ n
  · have d1 : decide (lo ≤ n) = true := decide_eq_true h1
    by_cases h2 : n ≤ hi
    · have d2 : decide (n ≤ hi) = true := decide_eq_true h2
      have H : Hid (decide (lo ≤ n ∧ n ≤ hi) = true) := decide_eq_true ⟨h1, h2⟩
      rw [H.out]
      clear H
      go_enter Tryz.func57, Tryz.ntmps57
      go_wp2
      go_ret
      exact ⟨rfl, rfl⟩
    · have d2 : decide (n ≤ hi) = false := decide_eq_false h2
      have H : Hid (decide (lo ≤ n ∧ n ≤ hi) = false) := decide_eq_false fun h => h2 h.2
      rw [H.out]
      clear H
      go_enter Tryz.func57, Tryz.ntmps57
      go_wp2
      go_ret
      exact ⟨rfl, rfl⟩
  · have d1 : decide (lo ≤ n) = false := decide_eq_false h1
    have H : Hid (decide (lo ≤ n ∧ n ≤ hi) = false) := decide_eq_false fun h => h1 h.1
    rw [H.out]
    clear H
    go_enter Tryz.func57, Tryz.ntmps57
    go_wp2
    go_ret
    exact ⟨rfl, rfl⟩
end Go.Proofs.YtnjegmffjelnpaaGreatDoor
/-
  What the specification's l03Is, l04Seed, l04Steps, l04Begin, l04Publics and KeyRoot answer.
  Conditions: numbers are int64; a seed has at most 2^20 bytes.
-/
namespace Go.Proofs.YtnjegmffjelnpaaGreatDoor
open Go.RowKit Go.Lib
set_option linter.unusedVariables false
set_option maxRecDepth 20000

theorem specSeed_any (t : ByteArray) (w : World) (ht : t.size ≤ maxLen) : Calls Tryz.prog 29 #[.string t] w fun e w' => e = .returned (.bool (seedB t)) ∧ w' = w := by
  unfold maxLen at ht
  have H0 : Hid (seedB t = decide (1 ≤ t.size ∧ t.size ≤ 64)) := rfl
  by_cases h1 : 1 ≤ t.size
  · have d1 : decide (1 ≤ (t.size : Int)) = true := decide_eq_true (by omega)
    by_cases h2 : t.size ≤ 64
    · have d2 : decide ((t.size : Int) ≤ 64) = true := decide_eq_true (by omega)
      rw [H0.out, decide_eq_true ⟨h1, h2⟩]
      go_enter Tryz.func29, Tryz.ntmps29
      go_wp2
      go_ret
      exact ⟨rfl, rfl⟩
    · have d2 : decide ((t.size : Int) ≤ 64) = false := decide_eq_false (by omega)
      rw [H0.out, decide_eq_false (fun h => h2 h.2)]
      go_enter Tryz.func29, Tryz.ntmps29
      go_wp2
      go_ret
      exact ⟨rfl, rfl⟩
  · have d1 : decide (1 ≤ (t.size : Int)) = false := decide_eq_false (by omega)
    rw [H0.out, decide_eq_false (fun h => h1 h.1)]
    go_enter Tryz.func29, Tryz.ntmps29
    go_wp2
    go_ret
    exact ⟨rfl, rfl⟩

set_option maxHeartbeats 1000000 in
theorem specSteps_any (t : ByteArray) (n : Nat) (w : World) (ht : t.size ≤ 1099511627776) (hn : n ≤ 1000) :
    Calls Tryz.prog 70 #[.string t, .int .i64 (n : Int)] w fun e w' => e = .returned (.string (stepsB n t)) ∧ Below w.heap.size w w' := by
  obtain ⟨R, hR⟩ : ∃ R, R = stepsB n t := ⟨_, rfl⟩
  rw [← hR]
  have HR : Hid (R = stepsB n t) := hR
  clear hR
  go_enter Tryz.func70, Tryz.ntmps70
  go_wp2_with fail
  go_loopw [0, 1] (fun s i wr => ∃ (k : Nat) (u : ByteArray), s = .string u ∧ i = .int .i64 k ∧ k ≤ 1000 ∧ u.size ≤ 1099511627776 ∧ Hid (R = stepsB k u) ∧ Hid (Below w.heap.size w wr)) (fun _ i _ => (Go.RowKit.intOf i).toNat)
  case atStart => exact ⟨n, t, rfl, rfl, hn, ht, HR, Below.refl _ _⟩
  case round =>
    clear HR
    obtain ⟨k, u, rfl, rfl, hk, hu, HR, HB⟩ := hrel
    by_cases hlt : 0 < k
    · have d1 : decide (0 < (k : Int)) = true := decide_eq_true (by omega)
      obtain ⟨m, rfl⟩ : ∃ m, k = m + 1 := ⟨k - 1, by omega⟩
      have HR2 : Hid (R = stepsB m (digB u)) := HR.out
      have hs := digB_size u
      clear HR
      go_wp2_with fail
      refine (specAll_any u wr hu).mono ?_
      rintro e w1 ⟨rfl, b1⟩
      generalize digB u = D at *
      have HB1 : Hid (Below w.heap.size w w1) := chainB HB.out b1
      clear b1 HB
      go_wp2_with fail
      go_roundw
      case rel => exact ⟨m, D, rfl, by go_num, by omega, by omega, HR2, HB1⟩
      case measure => simp [Go.RowKit.intOf]
    · obtain rfl : k = 0 := by omega
      have HR2 : Hid (R = u) := HR.out
      clear HR
      go_wp2_with fail
      go_ret
      exact ⟨ret_str HR2.out.symm, HB.out⟩

set_option maxHeartbeats 1000000 in
theorem specBegin_any (seed : ByteArray) (i j : Int) (w : World) (hs : seed.size ≤ 1048576) (i0 : -9223372036854775808 ≤ i) (i1 : i ≤ 9223372036854775807) (j0 : -9223372036854775808 ≤ j) (j1 : j ≤ 9223372036854775807) :
    Calls Tryz.prog 71 #[.string seed, .int .i64 i, .int .i64 j] w fun e w' => e = .returned (.string (begB seed i j)) ∧ Below w.heap.size w w' := by
  have H : Hid (begB seed i j = macB seed (putB i ++ putB j)) := rfl
  go_enter Tryz.func71, Tryz.ntmps71
  go_wp2_with fail
  refine (specPutNum_any i w i0 i1).mono ?_
  rintro e w1 ⟨rfl, b1⟩
  go_wp2_with fail
  refine (specPutNum_any j w1 j0 j1).mono ?_
  rintro e w2 ⟨rfl, b2⟩
  have b2 := chainB b1 b2
  have hp : (putB i ++ putB j).size ≤ 20 := putB2_size i j
  have h1 := putB_le i
  have h2 := putB_le j
  clear b1
  go_wp2_with fail
  refine (specMacB_any seed (putB i ++ putB j) w2 (by omega) (by omega)).mono ?_
  rintro e w3 ⟨rfl, b3⟩
  have b3 := chainB b2 b3
  go_wp2_with fail
  go_ret
  exact ⟨ret_str H.out.symm, b3⟩

/-- The first k public texts, in a row of the call's own. -/
def PubsRow (seed : ByteArray) (w0 : World) (k : Nat) (v : Value) (w : World) : Prop := w.ownsRow w0.heap.size 9 1 v k (strRow (pubsTo seed k))
theorem PubsRow.form {seed : ByteArray} {w0 w : World} {k : Nat} {v : Value} (h : PubsRow seed w0 k v w) : ∃ q c, v = .slice q k c ∧ k ≤ c := by
  have h' : w.ownsRow w0.heap.size 9 1 v (pubsTo seed k).length (strRow (pubsTo seed k)) := by rw [pubsTo_len]; exact h
  obtain ⟨q, c, h1, h2, _⟩ := ownS_form h'
  rw [pubsTo_len] at h1 h2
  exact ⟨q, c, h1, h2⟩
theorem PubsRow.below {seed : ByteArray} {w0 w w' : World} {k : Nat} {v : Value} (h : PubsRow seed w0 k v w) (hb : Below w.heap.size w w') : PubsRow seed w0 k v w' := ownS_below h hb
theorem PubsRow.more {seed : ByteArray} {w0 w : World} {k : Nat} {v : Value} (h : PubsRow seed w0 k v w) (hB : Below w0.heap.size w0 w) (hk : k ≤ 4) :
    ∃ v' w', (Builtin.append_ #[24, 24] 24 #[v, .slice (some ⟨w.heap.size, 0, none⟩) 1 1]).run Tryz.prog (w.alloc (.cells #[.string (pubB seed k)] 9)) = .ok v' w' ∧ PubsRow seed w0 (k + 1) v' w' ∧ Below w0.heap.size w0 w' := by
  have h' : w.ownsRow w0.heap.size 9 1 v (pubsTo seed k).length (strRow (pubsTo seed k)) := by rw [pubsTo_len]; exact h
  obtain ⟨v', w', hr, ho, hg⟩ := app_one w w0.heap.size v (pubsTo seed k) h' (pubB seed k) (by rw [pubsTo_len]; omega) hB.size
  rw [← pubsTo_step, pubsTo_len] at ho
  exact ⟨v', w', hr, ho, (hB.alloc hB.size _).grown hg (by have := hB.size; simp; omega) (fun j hj => (h'.lt j hj).1)⟩

set_option maxHeartbeats 4000000 in
theorem specPublics_any (seed : ByteArray) (w : World) (hs : seed.size ≤ 1048576) :
    Calls Tryz.prog 31 #[.string seed] w fun e w' => ∃ v, e = .returned v ∧ w'.ownsRow w.heap.size 9 1 v (pubsB seed).length (strRow (pubsB seed)) ∧ Below w.heap.size w w' := by
  have HO : Hid (∀ (wr : World) (v : Value), PubsRow seed w 4 v wr → wr.ownsRow w.heap.size 9 1 v (pubsB seed).length (strRow (pubsB seed))) := fun wr v h => by rw [pubsB_len]; exact h
  have O0 : Hid (PubsRow seed w 0 (.slice (some ⟨w.heap.size, 0, none⟩) 0 0) (w.alloc (.cells #[] 9))) := ownS_none w
  have B0 : Hid (Below w.heap.size w (w.alloc (.cells #[] 9))) := (Below.refl _ _).alloc (Nat.le_refl _) _
  go_enter Tryz.func31, Tryz.ntmps31
  go_wp2_with fail
  go_loopw [3, 4] (fun v i wr => ∃ (k : Nat) (v0 : Value), v0 = v ∧ i = .int .i64 k ∧ k ≤ 4 ∧ Hid (PubsRow seed w k v0 wr) ∧ Hid (Below w.heap.size w wr)) (fun _ i _ => 4 - (Go.RowKit.intOf i).toNat)
  case atStart => exact ⟨0, _, rfl, rfl, by omega, O0, B0⟩
  case round =>
    clear O0 B0
    obtain ⟨k, v, rfl, rfl, hk, HV, HB⟩ := hrel
    obtain ⟨q, cq, rfl, hcq⟩ := HV.out.form
    by_cases hlt : k < 4
    · have d1 : decide ((k : Int) < 4) = true := decide_eq_true (by omega)
      have HP : Hid (pubB seed k = digB (catB (topB seed k) 6)) := rfl
      go_wp2_with fail
      go_loopw [5, 6] (fun s i wr => ∃ (j : Nat) (T : ByteArray), s = .string T ∧ i = .int .i64 j ∧ j ≤ 6 ∧ T.size ≤ 192 ∧ Hid (T = catB (topB seed k) j) ∧ Hid (PubsRow seed w k (.slice q k cq) wr) ∧ Hid (Below w.heap.size w wr)) (fun _ i _ => 6 - (Go.RowKit.intOf i).toNat)
      case atStart => exact ⟨0, ByteArray.empty, rfl, rfl, by omega, by simp, rfl, HV, HB⟩
      case round =>
        clear HV HB
        obtain ⟨j, T, rfl, rfl, hj, hT, HC, HV, HB⟩ := hrel
        by_cases hjl : j < 6
        · have d2 : decide ((j : Int) < 6) = true := decide_eq_true (by omega)
          have HC2 : Hid (T ++ stepsB 15 (begB seed k j) = catB (topB seed k) (j + 1)) := by show _ = _; rw [HC.out]; rfl
          have HS2 : Hid ((T ++ stepsB 15 (begB seed k j)).size ≤ 192) := by
            show _ ≤ _
            rw [HC2.out, catB_size _ _ (fun j _ => topB_size seed k j)]; omega
          go_wp2_with fail
          refine (specBegin_any seed k j wr hs (by omega) (by omega) (by omega) (by omega)).mono ?_
          rintro e w1 ⟨rfl, b1⟩
          have hb := begB_size seed k j
          have hb2 := stepsB_size 15 _ hb
          have HV1 := HV.out.below b1
          have HB1 := chainB HB.out b1
          generalize begB seed (k : Int) (j : Int) = G at *
          have hS := specSteps_any G 15 w1 (by omega) (by omega)
          rw [show ((15 : Nat) : Int) = (15 : Int) from rfl] at hS
          clear b1 HV HB HC
          go_wp2_with fail
          refine hS.mono ?_
          rintro e w2 ⟨rfl, b2⟩
          have HV2 : Hid (PubsRow seed w k (.slice q k cq) w2) := HV1.below b2
          have HB2 : Hid (Below w.heap.size w w2) := chainB HB1 b2
          generalize stepsB 15 G = E at *
          have hE : E.size ≤ 32 := by omega
          clear hS b2 HV1 HB1 hb hb2
          go_wp2_with fail
          go_roundw
          case rel => exact ⟨j + 1, T ++ E, rfl, by go_num, by omega, HS2.out, HC2, HV2, HB2⟩
          case measure => simp [Go.RowKit.intOf]; omega
        · obtain rfl : j = 6 := by omega
          rw [show ((6 : Nat) : Int) = (6 : Int) from rfl]
          rw [← HC.out] at HP
          clear HC
          go_wp2_with fail
          refine (specAll_any T wr (by omega)).mono ?_
          rintro e w1 ⟨rfl, b1⟩
          rw [← HP.out]
          have HB1 := chainB HB.out b1
          obtain ⟨v', w2, hr2, ho2, hb2⟩ := (HV.out.below b1).more HB1 (by omega)
          have HO2 : Hid (PubsRow seed w (k + 1) v' w2) := ho2
          have HB2 : Hid (Below w.heap.size w w2) := hb2
          clear ho2 hb2 HV HB HB1 b1 HP
          generalize pubB seed k = D at *
          go_wp2_with (at_builtin; refine wpList_append_run rfl _ _ _ rfl _ _ _ _ rfl rfl hr2 ?_)
          go_roundw
          case rel => exact ⟨k + 1, _, rfl, by go_num, by omega, HO2, HB2⟩
          case measure => simp [Go.RowKit.intOf]; omega
    · obtain rfl : k = 4 := by omega
      have HV2 := HO.out _ _ HV.out
      clear HV
      go_wp2_with fail
      go_ret
      exact ⟨_, rfl, HV2, HB.out⟩
end Go.Proofs.YtnjegmffjelnpaaGreatDoor
/-
  What the specification's KeyRoot and l04Digits answer.
-/
namespace Go.Proofs.YtnjegmffjelnpaaGreatDoor
open Go.RowKit Go.Lib
set_option linter.unusedVariables false
set_option maxRecDepth 20000

set_option maxHeartbeats 1000000 in
theorem specKeyRoot_any (seed : ByteArray) (w : World) (hs : seed.size ≤ 1048576) :
    Calls Tryz.prog 10 #[.string seed] w fun e w' => e = .returned (.string (rootA seed)) ∧ Below w.heap.size w w' := by
  have hS := specSeed_any seed w (by unfold maxLen; omega)
  cases h : seedB seed with
  | false =>
    have H : Hid (rootA seed = ByteArray.empty) := if_neg (by rw [h]; exact Bool.false_ne_true)
    rw [h] at hS
    clear h
    go_enter Tryz.func10, Tryz.ntmps10
    go_wp2_with fail
    refine hS.mono ?_
    rintro e w1 ⟨rfl, rfl⟩
    go_wp2_with fail
    go_ret
    exact ⟨ret_str H.out.symm, Below.refl _ _⟩
  | true =>
    have H : Hid (rootA seed = treeB (pubsB seed)) := if_pos h
    rw [h] at hS
    clear h
    go_enter Tryz.func10, Tryz.ntmps10
    go_wp2_with fail
    refine hS.mono ?_
    rintro e w1 ⟨rfl, rfl⟩
    go_wp2_with fail
    refine (specPublics_any seed w1 hs).mono ?_
    rintro e w2 ⟨v, rfl, o2, b2⟩
    obtain ⟨q, c, rfl, hc, ht⟩ := ownS_form o2
    have hT := tree2_any 4 q c (pubsB seed) w2 (pubsB_len seed) ht (by rw [pubsB_len]; omega) hc (fun x hx => by rw [pubsTo_wide seed 4 x hx]; omega)
    go_wp2_with fail
    refine hT.mono ?_
    rintro e w3 ⟨rfl, b3⟩
    have b3 := chainB b2 b3
    go_wp2_with fail
    go_ret
    exact ⟨ret_str H.out.symm, b3⟩

theorem infoI64s : (Tryz.prog.info? 2).map (fun i => (i.zero, i.size, i.bytes)) = some (some (.int .i64 0), 1, 8) := by kernel_rfl
theorem own4 (w : World) (a b c d : Int) : (w.alloc (.cells #[.int .i64 a, .int .i64 b, .int .i64 c, .int .i64 d] 2)).ownsRow w.heap.size 2 1 (.slice (some ⟨w.heap.size, 0, none⟩) 4 4) 4 [.int .i64 a, .int .i64 b, .int .i64 c, .int .i64 d] :=
  ⟨rfl, .inr ⟨w.heap.size, 4, #[.int .i64 a, .int .i64 b, .int .i64 c, .int .i64 d], rfl, Nat.le_refl _, (MapKept.heap_alloc w _).1, Nat.le_refl _, by unfold maxLen; omega, rfl, rfl⟩⟩
set_option maxHeartbeats 2000000 in
theorem specDigits_any (t : ByteArray) (w : World) (ht : t.size ≤ 1048576) :
    Calls Tryz.prog 102 #[.string t] w fun e w' => ∃ v, e = .returned v ∧ w'.ownsRow w.heap.size 2 1 v 6 ((digsI t).map (Value.int .i64)) ∧ Below w.heap.size w w' := by
  obtain ⟨i0, hi, hz0, hz1, hz2⟩ := info_parts infoI64s
  obtain ⟨D, hD⟩ : ∃ D, D = digB t := ⟨_, rfl⟩
  have hA := specAll_any t w (by omega)
  rw [← hD] at hA
  have hs : D.size = 32 := by rw [hD]; exact digB_size t
  have h0 : 0 < D.size := by omega
  have h1 : 1 < D.size := by omega
  have e0 : byteAt D 0 = ((D[0]'h0).toNat : Int) := by
    unfold byteAt; simp [List.getD_eq_getElem?_getD]; rw [Array.getElem?_eq_getElem h0]; rfl
  have e1 : byteAt D 1 = ((D[1]'h1).toNat : Int) := by
    unfold byteAt; simp [List.getD_eq_getElem?_getD]; rw [Array.getElem?_eq_getElem h1]; rfl
  have c0 : ((D[0]'h0).toNat : Int) ≤ 255 := by have := (D[0]'h0).toNat_lt; omega
  have c1 : ((D[1]'h1).toNat : Int) ≤ 255 := by have := (D[1]'h1).toNat_lt; omega
  have H : Hid (digsI t = [((D[0]'h0).toNat : Int) / 16, ((D[0]'h0).toNat : Int) % 16, ((D[1]'h1).toNat : Int) / 16, ((D[1]'h1).toNat : Int) % 16, (60 - ((D[0]'h0).toNat : Int) / 16 - ((D[0]'h0).toNat : Int) % 16 - ((D[1]'h1).toNat : Int) / 16 - ((D[1]'h1).toNat : Int) % 16) / 16, (60 - ((D[0]'h0).toNat : Int) / 16 - ((D[0]'h0).toNat : Int) % 16 - ((D[1]'h1).toNat : Int) / 16 - ((D[1]'h1).toNat : Int) % 16) % 16]) := by
    show _ = _
    rw [← e0, ← e1, hD]; rfl
  clear hD e0 e1
  go_enter Tryz.func102, Tryz.ntmps102
  go_wp2_with fail
  refine hA.mono ?_
  rintro e w1 ⟨rfl, b1⟩
  go_wp2_with fail
  go_region
  have n0 : 0 ≤ ((D[0]'h0).toNat : Int) := by omega
  have n1 : 0 ≤ ((D[1]'h1).toNat : Int) := by omega
  generalize ((D[0]'h0).toNat : Int) = A at *
  generalize ((D[1]'h1).toNat : Int) = B at *
  have HA : 0 ≤ A / 16 ∧ A / 16 ≤ 15 ∧ 0 ≤ A % 16 ∧ A % 16 ≤ 15 := by omega
  have HB : 0 ≤ B / 16 ∧ B / 16 ≤ 15 ∧ 0 ≤ B % 16 ∧ B % 16 ≤ 15 := by omega
  generalize A / 16 = d0 at *
  generalize A % 16 = d1 at *
  generalize B / 16 = d2 at *
  generalize B % 16 = d3 at *
  obtain ⟨a0, a1, a2, a3⟩ := HA
  obtain ⟨a4, a5, a6, a7⟩ := HB
  have O1 := own4 w1 d0 d1 d2 d3
  have B1 : Below w.heap.size w (w1.alloc (.cells #[.int .i64 d0, .int .i64 d1, .int .i64 d2, .int .i64 d3] 2)) := b1.alloc b1.size _
  go_wp2_with fail
  go_quiet (fail)
  obtain ⟨W, hW⟩ : ∃ W, W = (((w1.alloc (.cells #[.int .i64 d0, .int .i64 d1, .int .i64 d2, .int .i64 d3] 2)).drew.drewN nq) : World) := ⟨_, rfl⟩
  rw [← hW]
  have O2 : Hid (W.ownsRow w1.heap.size 2 1 (.slice (some ⟨w1.heap.size, 0, none⟩) 4 4) 4 [.int .i64 d0, .int .i64 d1, .int .i64 d2, .int .i64 d3]) := by rw [hW]; exact ownS_below O1 ⟨rfl, rfl, rfl, Nat.le_refl _, fun _ _ => rfl⟩
  have B2 : Hid (Below w.heap.size w W) := by rw [hW]; exact ⟨B1.os, B1.tape, B1.output, B1.size, B1.block⟩
  have hsz : w1.heap.size ≤ W.heap.size := by rw [hW]; show w1.heap.size ≤ (w1.alloc _).heap.size; simp
  have hR : 0 ≤ 60 - d0 - d1 - d2 - d3 ∧ 60 - d0 - d1 - d2 - d3 ≤ 60 := by omega
  clear hW O1 B1
  generalize 60 - d0 - d1 - d2 - d3 = R at *
  obtain ⟨R0, R1⟩ := hR
  have B3 := B2.out.alloc B2.out.size (.cells #[.int .i64 (R / 16), .int .i64 (R % 16)] 2)
  have hb1 := b1.size
  clear a0 a1 a2 a3 a4 a5 a6 a7 c0 c1 n0 n1
  go_wp2_with (at_builtin; refine wpList_append_lies _ rfl _ _ 110 rfl w1.heap.size 2 i0 (.int .i64 0) 1 8 Tryz.underlying110 hi hz0 hz1 hz2 rfl (by omega) _ 4 [.int .i64 d0, .int .i64 d1, .int .i64 d2, .int .i64 d3] rfl (O2.out.alloc _) ⟨W.heap.size, 0, none⟩ 2 2 [.int .i64 (R / 16), .int .i64 (R % 16)] rfl rfl (World.news_of_block (cs := #[.int .i64 (R / 16), .int .i64 (R % 16)]) (t := 2) (fr := (0, 0)) (MapKept.heap_alloc W _).1) (by simp [Value.oneCell']) (by omega) (by unfold maxLen; omega) (by omega) (by simp; omega) (W.heap.size + 1) (by simp) ?_; intro g2 cap2 w5 hown2 hgrow hat hltg)
  have HO5 : Hid (w5.ownsRow w.heap.size 2 1 (.slice (some ⟨g2, 0, none⟩) 6 cap2) 6 ((digsI t).map (Value.int .i64))) := by rw [H.out]; exact ownS_mono hown2 hb1
  have HB5 : Hid (Below w.heap.size w w5) := B3.grown hgrow (by have := B2.out.size; simp; omega) (fun j hj => by have := (O2.out.lt j hj).1; omega)
  clear hown2 hgrow B3 H O2 B2
  go_wp2_with fail
  go_ret
  exact ⟨_, rfl, HO5.out, HB5.out⟩
end Go.Proofs.YtnjegmffjelnpaaGreatDoor
/-
  What the specification's l03Wide answers.
  Conditions: the slice's cells hold those texts; it is at most 2^47 long.
-/
namespace Go.Proofs.YtnjegmffjelnpaaGreatDoor
open Go.RowKit Go.Lib
set_option linter.unusedVariables false

end Go.Proofs.YtnjegmffjelnpaaGreatDoor
/-
  An append in a region that draws its order, by its run.
-/
namespace Go.Proofs.YtnjegmffjelnpaaGreatDoor
open Go.RowKit
set_option linter.unusedVariables false

theorem step_append_run {P : Program} {w : World} {ops : Array Oper} {o : Oper} {a : Act} {K : Act → World → Prop} {Q : Exit → Act → World → Prop} {E : Prop} (hgd : o.guard = none) (s x : Operand) (t : TypeId)
    (ho : o.op = .call { callee := .builtin .append, args := #[s, x], argTypes := #[t, t] }) (v1 v2 v' : Value) (w' : World) (hs : a.eval s = v1) (hx : a.eval x = v2)
    (hr : (Builtin.append_ #[t, t] o.type #[v1, v2]).run P w = .ok v' w') (h : K (a.put o.dst v') w') :
    if Region.wanted o (yielded ops a.tmps) = true then Oper.wp P o a w K Q else E := by
  have hw : Region.wanted o (yielded ops a.tmps) = true := by simp [Region.wanted, hgd]
  rw [if_pos hw]
  unfold Oper.wp execOp
  simp only [ho, resolve, invoke, builtin, Sem.run_bind, Sem.run_pure, Result.andThen_ok, List.map_toArray, List.map_cons, List.map_nil, hs, hx, hr]
  exact h
end Go.Proofs.YtnjegmffjelnpaaGreatDoor
