/-
  Parts of one proof, laid as one text: Draws, DrawKit; what each says stands at its head.
-/
import Derived.Test.YtnomkcbcjaagmabGreatDoorRows
import Derived.Test.YtnomkcbcjaagmabGreatDoorBxKGrKTakesSrc
import Derived.Handy
import Derived.WalkSpells
import Derived.RegionTactic
import Derived.BigRegion
import Derived.Deep.QuietTactic
import Derived.BigQuiet
import Derived.Deep.AppendLies
import Derived.Laws.BytesArg
import Derived.Test.YtnomkcbcjaagmabGreatDoorBytesDigMath
/-
  What the draws' functions answer: n: a number from 0 to below most; one: a bool; bytes: a text of n bytes; edge: a number. The source's block alone is written; new memory apart nothing else turns.
  Conditions: the source is one ('Src').
-/
namespace Go.Proofs.YtnomkcbcjaagmabGreatDoor
open Go.RowKit
set_option linter.unusedVariables false

/-- What n answers. -/
def nAns (most r : Int) : Prop := 0 ≤ r ∧ (1 < most → r < most) ∧ (most ≤ 1 → r = 0)

set_option maxHeartbeats 4000000 in
theorem n_any (B p : Nat) (a : Option Addr) (len cap : Nat) (most : Int) (w : World) (hs : Src 133 B p a len cap w) (hm2 : most ≤ 9223372036854775807) :
    Calls Tryz.prog 39 #[.pointer (some ⟨p, 0, none⟩), .int .i64 most] w fun e w' =>
      (∃ r, e = .returned (.int .i64 r) ∧ nAns most r) ∧ Src 133 B p a len cap w' ∧ w.grownBy w' (some p) := by
  by_cases hm : most ≤ 1
  · have HS : Hid (Src 133 B p a len cap w) := hs
    clear hs
    go_enter Tryz.func39, Tryz.ntmps39
    go_wp2
    go_ret
    exact ⟨⟨0, rfl, Int.le_refl _, fun h => by omega, fun _ => rfl⟩, HS.out, World.grownBy.refl _ _⟩
  have hm1 : 1 < most := by omega
  have HS : Hid (Src 133 B p a len cap w) := hs
  obtain ⟨hB, hlen, ⟨at0, mix, sz, hat, m0, m1, hz, hrow⟩, hcode⟩ := hs
  obtain ⟨h0, h1, h2, h3⟩ := hrow.cell
  have f1 := hrow.free 1
  have f2 := hrow.free 2
  have HR : Hid (SrcRow 133 p (.slice a len cap) at0 mix sz w) := hrow
  have hset := fun (W : World) (v : Value) => cell_set W p 2 v
  clear hrow h3
  by_cases hlt : at0 < len
  · rcases hcode with hc | ⟨xb, xo, ha, hxB, hcell⟩
    · omega
    subst ha
    obtain ⟨c, c0, c1, hx⟩ := hcell at0 hlt
    clear hcell
    have i1 : (at0 : Int) < (len : Int) := by omega
    have i0 : (0 : Int) ≤ (at0 : Int) := by omega
    go_enter Tryz.func39, Tryz.ntmps39
    go_wp2
    go_quiet (fail)
    go_wp2
    go_quiet (fail)
    go_wp2
    go_region
    go_wp2
    go_region
    go_wp2
    go_region
    go_wp2
    go_ret
    refine ⟨⟨_, rfl, (draw_bd _ most hm1 hm2).1, fun _ => (draw_bd _ most hm1 hm2).2, fun h => by omega⟩, HS.out.step ?_ (at0 := at0 + 1) (by omega) (bits_lo_u64 _ _ _) (bits_hi_u64 _ _ _) hz ((((((HR.out.drewN _).set1 _).set2 _).set2 _).set2 _).drew.drew.drew), ?_⟩
    all_goals exact touch_drew (touch_drew (touch_drew (touch_set (touch_set (touch_set (touch_set (touch_drewN (World.grownBy.refl _ _)) _ _) _ _) _ _) _ _)))
  · have i1 : ¬ (at0 : Int) < (len : Int) := by omega
    have d1 : decide ((at0 : Int) < (len : Int)) = false := by simp; omega
    clear hcode
    go_enter Tryz.func39, Tryz.ntmps39
    go_wp2
    go_quiet (fail)
    go_wp2
    go_region
    go_wp2
    go_region
    go_wp2
    go_region
    go_wp2
    go_ret
    refine ⟨⟨_, rfl, (draw_bd _ most hm1 hm2).1, fun _ => (draw_bd _ most hm1 hm2).2, fun h => by omega⟩, HS.out.step ?_ (at0 := at0) hat (bits_lo_u64 _ _ _) (bits_hi_u64 _ _ _) hz (((((HR.out.drewN _).set2 _).set2 _).set2 _).drew.drew), ?_⟩
    all_goals exact touch_drew (touch_drew (touch_set (touch_set (touch_set (touch_drewN (World.grownBy.refl _ _)) _ _) _ _) _ _))

set_option maxHeartbeats 1000000 in
theorem one_any (B p : Nat) (a : Option Addr) (len cap : Nat) (most : Int) (w : World) (hs : Src 133 B p a len cap w) (hm2 : most ≤ 9223372036854775807) :
    Calls Tryz.prog 40 #[.pointer (some ⟨p, 0, none⟩), .int .i64 most] w fun e w' =>
      (∃ r, e = .returned (.bool r)) ∧ Src 133 B p a len cap w' ∧ w.grownBy w' (some p) := by
  have HS : Hid (Src 133 B p a len cap w) := hs
  clear hs
  go_enter Tryz.func40, Tryz.ntmps40
  go_wp2_with fail
  refine (n_any B p a len cap _ _ HS.out hm2).mono ?_
  rintro e w1 ⟨⟨r, rfl, hr⟩, hs1, hg1⟩
  have H1 : Hid (Src 133 B p a len cap w1) := hs1
  clear hs1 hr
  go_wp2
  go_ret
  exact ⟨⟨_, rfl⟩, H1.out, hg1⟩

theorem infoU8d : (Tryz.prog.info? 5).map (fun i => (i.zero, i.size, i.bytes)) = some (some (.int .u8 0), 1, 1) := by kernel_rfl
theorem own_convD {w : World} {base g k cap : Nat} {xs : List Int} (h : w.ownsRow base 5 1 (.slice (some ⟨g, 0, none⟩) k cap) k (xs.map (Value.int .u8))) (hl : xs.length = k) :
    (convert 22 9 (.slice (some ⟨g, 0, none⟩) k cap)).run Tryz.prog w = .ok (.string (strOfNums xs)) w :=
  run_convert_bytes_arg (P := Tryz.prog) w 22 5 Tryz.underlying22 Tryz.underlying5 g 0 k cap xs hl (fun i hi => by
    rw [Nat.zero_add, h.cellAt i (by omega)]
    have : i < xs.length := by omega
    simp [List.getD, List.getElem?_eq_getElem this]) 9 Tryz.underlying9

set_option maxHeartbeats 2000000 in
theorem bytes_any (B p : Nat) (a : Option Addr) (len cap : Nat) (n : Int) (w : World) (hs : Src 133 B p a len cap w) (hn : n ≤ 1048576) :
    Calls Tryz.prog 38 #[.pointer (some ⟨p, 0, none⟩), .int .i64 n] w fun e w' =>
      (∃ t : ByteArray, e = .returned (.string t) ∧ t.size = n.toNat) ∧ Src 133 B p a len cap w' ∧ w.grownBy w' (some p) := by
  obtain ⟨i0, hi, hz0, hz1, hz2⟩ := info_parts infoU8d
  have hp := hs.lt
  have HS : Hid (Src 133 B p a len cap w) := hs
  clear hs
  go_enter Tryz.func38, Tryz.ntmps38
  go_wp2
  go_loopw [5, 6] (fun v i wr => ∃ (k : Nat) (pre : List Int) (g cp : Nat), i = .int .i64 k ∧ (k : Int) ≤ max n 0 ∧ v = .slice (some ⟨g, 0, none⟩) k cp ∧ Hid (pre.length = k) ∧ wr.ownsRow w.heap.size 5 1 (.slice (some ⟨g, 0, none⟩) k cp) k (pre.map (Value.int .u8)) ∧ Hid (Src 133 B p a len cap wr) ∧ w.grownBy wr (some p)) (fun _ i _ => (n - intOf i).toNat)
  case atStart =>
    exact ⟨0, [], w.heap.size, 0, rfl, by omega, rfl, rfl, World.ownsRow_made w #[] 0 (Nat.le_refl _) (by unfold maxLen; omega) rfl, HS.out.below ((Below.refl _ _).alloc (Nat.le_refl _) _), World.grownBy_alloc _ _ _⟩
  case round =>
    obtain ⟨k, pre, g, cp, rfl, hk, rfl, HL, hown, HS1, hg1⟩ := hrel
    have hsz : w.heap.size ≤ wr.heap.size := hg1.size
    by_cases hlt : (k : Int) < n
    · go_wp2_with fail
      refine (n_any B p a len cap 256 _ HS1.out (by omega)).mono ?_
      rintro e w1 ⟨⟨r, rfl, hr0, hr1, _⟩, hs1, hg2⟩
      have hr2 : r < 256 := hr1 (by omega)
      have hgl := (hown.lt g rfl).1
      have hown1 := hown.kept hg2 (.inr (by show some g ≠ some p; simp; omega))
      have H1 : Hid (Src 133 B p a len cap w1) := hs1
      have hg3 := touch_trans hg1 hg2
      have hsz1 : w.heap.size ≤ w1.heap.size := hg3.size
      clear hs1 hr1 HS1 hown hg1 hg2
      go_wp2_with (at_builtin; refine wpList_append_lies _ rfl _ _ 22 rfl w.heap.size 5 i0 (.int .u8 0) 1 1 Tryz.underlying22 hi hz0 hz1 hz2 rfl (by omega) _ k _ rfl (hown1.alloc _) ⟨w1.heap.size, 0, none⟩ 1 1 [.int .u8 r] rfl rfl (World.news_of_block (cs := #[.int .u8 r]) (t := 5) (fr := (0, 0)) (heap_alloc_new w1 _)) (by simp [Value.oneCell']) (by omega) (by unfold maxLen; omega) (by omega) (by simp; omega) (w1.heap.size + 1) (by simp) ?_; intro g2 cap2 w2 hown2 hgrow hat hltg)
      have hrow : ∀ j, (Value.slice (some ⟨g, 0, none⟩) k cp).ownBlock = some j → w.heap.size ≤ j := fun j hj => (hown1.lt j hj).1
      have hs2 : Src 133 B p a len cap w2 := (H1.out.below ((Below.refl _ _).alloc (Nat.le_refl _) _)).other hgrow (fun j hj => by have := hrow j hj; omega)
      have hg4 : w.grownBy w2 (some p) := touch_own (touch_below hg3 ((Below.refl _ _).alloc (Nat.le_refl _) _)) hgrow hrow
      have ho2 : w2.ownsRow w.heap.size 5 1 (.slice (some ⟨g2, 0, none⟩) (k + 1) cap2) (k + 1) ((pre ++ [r]).map (Value.int .u8)) := by rw [List.map_append]; exact hown2
      go_roundw
      case rel => exact ⟨k + 1, pre ++ [r], g2, cap2, by go_num, by omega, rfl, by show _ = _; rw [List.length_append, HL.out]; rfl, ho2, hs2, hg4⟩
      case measure => simp [intOf]; omega
    · have hconv := own_convD (xs := pre) hown HL.out
      have hkn : k = n.toNat := by omega
      have HK : Hid (k = n.toNat) := hkn
      clear hkn
      go_wp2
      go_ret
      exact ⟨⟨_, rfl, by rw [strOfNums_size, HL.out, HK.out]⟩, HS1.out, hg1⟩

theorem edge_at : ∀ k : Nat, k < 14 → ∃ v : Int, (#[.int .i64 0, .int .i64 1, .int .i64 (-1), .int .i64 2, .int .i64 1000, .int .i64 1001, .int .i64 2147483648, .int .i64 2147483647, .int .i64 (-2147483648), .int .i64 4611686018427387904, .int .i64 9223372036854775807, .int .i64 (-9223372036854775808), .int .i64 1000000, .int .i64 1000001] : Array Value)[k]? = some (.int .i64 v) ∧ -9223372036854775808 ≤ v ∧ v ≤ 9223372036854775807
  | 0, _ => ⟨_, rfl, by omega, by omega⟩
  | 1, _ => ⟨_, rfl, by omega, by omega⟩
  | 2, _ => ⟨_, rfl, by omega, by omega⟩
  | 3, _ => ⟨_, rfl, by omega, by omega⟩
  | 4, _ => ⟨_, rfl, by omega, by omega⟩
  | 5, _ => ⟨_, rfl, by omega, by omega⟩
  | 6, _ => ⟨_, rfl, by omega, by omega⟩
  | 7, _ => ⟨_, rfl, by omega, by omega⟩
  | 8, _ => ⟨_, rfl, by omega, by omega⟩
  | 9, _ => ⟨_, rfl, by omega, by omega⟩
  | 10, _ => ⟨_, rfl, by omega, by omega⟩
  | 11, _ => ⟨_, rfl, by omega, by omega⟩
  | 12, _ => ⟨_, rfl, by omega, by omega⟩
  | 13, _ => ⟨_, rfl, by omega, by omega⟩
  | k + 14, h => by omega

set_option maxHeartbeats 2000000 in
theorem edge_any (B p : Nat) (a : Option Addr) (len cap : Nat) (w : World) (hs : Src 133 B p a len cap w) :
    Calls Tryz.prog 112 #[.pointer (some ⟨p, 0, none⟩)] w fun e w' =>
      (∃ r, e = .returned (.int .i64 r) ∧ -9223372036854775808 ≤ r ∧ r ≤ 9223372036854775807) ∧ Src 133 B p a len cap w' ∧ w.grownBy w' (some p) := by
  have HS : Hid (Src 133 B p a len cap w) := hs
  have hp := hs.lt
  clear hs
  go_enter Tryz.func112, Tryz.ntmps112
  go_wp2_with fail
  refine (n_any B p a len cap 14 _ (HS.out.below ((Below.refl _ _).alloc (Nat.le_refl _) _)) (by omega)).mono ?_
  rintro e w1 ⟨⟨r, rfl, hr0, hr1, _⟩, hs1, hg1⟩
  have hr2 : r < 14 := hr1 (by omega)
  obtain ⟨k, rfl⟩ := Int.eq_ofNat_of_zero_le hr0
  obtain ⟨v, hv, v0, v1⟩ := edge_at k (by omega)
  have hcell := hg1.cell_far ⟨w.heap.size, k, none⟩ (by simp) (by simp; omega)
  rw [World.cell?_alloc_mark, hv] at hcell
  have H1 : Hid (Src 133 B p a len cap w1) := hs1
  have hg2 : w.grownBy w1 (some p) := touch_trans (World.grownBy_alloc _ _ _) hg1
  clear hs1 hr1 hg1 hv
  go_wp2_with fail
  go_ret
  exact ⟨⟨v, rfl, v0, v1⟩, H1.out, hg2⟩

theorem wrapU_bd (x : Int) : 0 ≤ IntKind.u64.wrap x ∧ IntKind.u64.wrap x ≤ 18446744073709551615 := by
  simp [IntKind.wrap, IntKind.bits, IntKind.signed]; omega

set_option maxHeartbeats 2000000 in
theorem source_any (B : Nat) (a : Option Addr) (len cap : Nat) (w : World) (hlen : len ≤ 1048576) (hB : B ≤ w.heap.size)
    (hcode : len = 0 ∨ ∃ xb xo, a = some ⟨xb, xo, none⟩ ∧ xb < B ∧ ∀ i, i < len → ∃ c : Int, 0 ≤ c ∧ c ≤ 255 ∧ w.cell? ⟨xb, xo + i, none⟩ = some (.int .u8 c)) :
    Calls Tryz.prog 36 #[.slice a len cap] w fun e w' =>
      e = .returned (.pointer (some ⟨w.heap.size, 0, none⟩)) ∧ Src 133 B w.heap.size a len cap w' ∧ Below w.heap.size w w' := by
  have HC : Hid (len = 0 ∨ ∃ xb xo, a = some ⟨xb, xo, none⟩ ∧ xb < B ∧ ∀ i, i < len → ∃ c : Int, 0 ≤ c ∧ c ≤ 255 ∧ w.cell? ⟨xb, xo + i, none⟩ = some (.int .u8 c)) := hcode
  clear hcode
  go_enter Tryz.func36, Tryz.ntmps36
  go_wp2
  go_loopw [4] (fun i wr => ∃ (k : Nat) (mix : Int), i = .int .i64 k ∧ k ≤ len ∧ k ≤ 64 ∧ 0 ≤ mix ∧ mix ≤ 18446744073709551615 ∧ Hid (SrcRow 133 w.heap.size (.slice a len cap) 0 mix 0 wr) ∧ Below w.heap.size w wr) (fun i _ => 64 - (intOf i).toNat)
  case atStart => exact ⟨0, 88172645463325252, rfl, Nat.zero_le _, by omega, by omega, by omega, (MapKept.heap_alloc w _).1, (Below.refl _ _).alloc (Nat.le_refl _) _⟩
  case round =>
    obtain ⟨k, mix, rfl, hk, hk64, m0, m1, HR, hnx⟩ := hrel
    obtain ⟨h0, h1, h2, h3⟩ := HR.out.cell
    have f2 := HR.out.free 2
    have f3 := HR.out.free 3
    have hsz : w.heap.size < wr.heap.size := HR.out.lt
    by_cases hlt : k < len ∧ k < 64
    · obtain ⟨hkl, hk6⟩ := hlt
      rcases HC.out with hc | ⟨xb, xo, ha, hxB, hcell⟩
      · omega
      obtain ⟨c, c0, c1, hx0⟩ := hcell k hkl
      have hx : wr.cell? ⟨xb, xo + k, none⟩ = some (.int .u8 c) := by rw [hnx.cell (p := ⟨xb, xo + k, none⟩) (by show xb < _; omega)]; exact hx0
      clear hcell hx0
      subst ha
      have i1 : (k : Int) < (len : Int) := by omega
      have i0 : (0 : Int) ≤ (k : Int) := by omega
      have d1 : decide ((k : Int) < (len : Int)) = true := by simp; omega
      go_wp2
      go_region
      go_wp2
      go_roundw
      case rel => exact ⟨k + 1, _, by go_num, by omega, by omega, (wrapU_bd _).1, (wrapU_bd _).2, (HR.out.set2 _).drew, (hnx.setCell (Nat.le_refl _) _).drew⟩
      case measure => simp [intOf]; omega
    · have HEnd : Hid (∀ w' z, 0 ≤ z ∧ z ≤ 12 → Below w.heap.size w w' → SrcRow 133 w.heap.size (.slice a len cap) 0 mix z w' → Src 133 B w.heap.size a len cap w') := fun w' z hz hb hr =>
        ⟨hB, hlen, ⟨0, mix, z, Nat.zero_le _, m0, m1, hz, hr⟩, by
          rcases HC.out with hc | ⟨xb, xo, ha, hxB, hcell⟩
          · exact .inl hc
          · refine .inr ⟨xb, xo, ha, hxB, fun i hi => ?_⟩
            obtain ⟨c, c0, c1, hci⟩ := hcell i hi
            exact ⟨c, c0, c1, by rw [hb.cell (p := ⟨xb, xo + i, none⟩) (by show xb < _; omega)]; exact hci⟩⟩
      have hset := fun (W : World) (v : Value) => cell_set W w.heap.size 3 v
      by_cases hkl : k < len
      · have d1 : decide ((k : Int) < (len : Int)) = true := by simp; omega
        have d2 : decide ((k : Int) < 64) = false := by simp; omega
        clear hlt
        by_cases hq : 12 < (len : Int) / 20
        · go_wp2
          go_ret
          exact ⟨rfl, HEnd.out _ _ (by omega) ((hnx.setCell (Nat.le_refl _) _).setCell (Nat.le_refl _) _) ((HR.out.set3 _).set3 _), (hnx.setCell (Nat.le_refl _) _).setCell (Nat.le_refl _) _⟩
        · go_wp2
          go_ret
          exact ⟨rfl, HEnd.out _ _ (by constructor <;> go_num) (hnx.setCell (Nat.le_refl _) _) (HR.out.set3 _), hnx.setCell (Nat.le_refl _) _⟩
      · have d1 : decide ((k : Int) < (len : Int)) = false := by simp; omega
        clear hlt
        by_cases hq : 12 < (len : Int) / 20
        · exfalso; omega
        · go_wp2
          go_ret
          exact ⟨rfl, HEnd.out _ _ (by constructor <;> go_num) (hnx.setCell (Nat.le_refl _) _) (HR.out.set3 _), hnx.setCell (Nat.le_refl _) _⟩
end Go.Proofs.YtnomkcbcjaagmabGreatDoor
/-
  What all drawn laws share: a new row of zeros as a text; the code's bytes ('CodeAt'); what a step on a source of the call's own leaves.
-/
namespace Go.Proofs.YtnomkcbcjaagmabGreatDoor
open Go.RowKit Go.Lib
set_option linter.unusedVariables false

theorem infoU8s : (Tryz.prog.info? 5).map (fun i => (i.zero, i.size, i.bytes)) = some (some (.int .u8 0), 1, 1) := by kernel_rfl
theorem run_make_u8s (n : Nat) (hn : n ≤ 281474976710656) (w : World) :
    (Instr.makeSlice 22 (.int .i64 (n : Int)) (.int .i64 (n : Int))).run Tryz.prog w = .ok (.slice (some ⟨w.heap.size, 0, none⟩) n n) (w.alloc (.cells (zrow n).toArray 5)) := by
  obtain ⟨i0, hi, hz0, hz1, hz2⟩ := info_parts infoU8s
  have := run_make (P := Tryz.prog) w 22 5 i0 (.int .u8 0) Tryz.underlying22 hi hz0 .i64 .i64 (n : Int) (n : Int) (by omega) (by omega) (by rw [hz2]; omega) (by omega)
  rw [this, hz1]
  simp only [Int.toNat_natCast, Nat.mul_one]
  rw [← madeZ]; rfl
theorem zconv (n : Nat) (w : World) :
    (convert 22 9 (.slice (some ⟨w.heap.size, 0, none⟩) n n)).run Tryz.prog (w.alloc (.cells (zrow n).toArray 5)) = .ok (.string (strOfNums (List.replicate n 0))) (w.alloc (.cells (zrow n).toArray 5)) :=
  run_convert_bytes_arg (P := Tryz.prog) _ 22 5 Tryz.underlying22 Tryz.underlying5 w.heap.size 0 n n (List.replicate n 0) (by simp) (fun i hi => by
    rw [World.cell?_alloc_mark]; simp [zrow, hi]) 9 Tryz.underlying9

/-- The code's bytes lie there, below B. -/
def CodeAt (B : Nat) (a : Option Addr) (len : Nat) (w : World) : Prop :=
  len = 0 ∨ ∃ xb xo, a = some ⟨xb, xo, none⟩ ∧ xb < B ∧ ∀ i, i < len → ∃ c : Int, 0 ≤ c ∧ c ≤ 255 ∧ w.cell? ⟨xb, xo + i, none⟩ = some (.int .u8 c)
theorem CodeAt.below {B : Nat} {a : Option Addr} {len : Nat} {w w' : World} (h : CodeAt B a len w) (hb : Below B w w') : CodeAt B a len w' := by
  rcases h with h | ⟨xb, xo, ha, hx, hc⟩
  · exact .inl h
  · refine .inr ⟨xb, xo, ha, hx, fun i hi => ?_⟩
    obtain ⟨c, c0, c1, hci⟩ := hc i hi
    exact ⟨c, c0, c1, by rw [hb.cell (p := ⟨xb, xo + i, none⟩) hx]; exact hci⟩
/-- What a step on a source of the call's own leaves. -/
theorem below_touch {w w1 w2 : World} {p : Nat} (h : Below w.heap.size w w1) (k : w1.grownBy w2 (some p)) (hp : w.heap.size ≤ p) : Below w.heap.size w w2 :=
  h.grown k h.size (fun j hj => by cases hj; exact hp)
theorem results_tmp5 {fn : Func} {t u v x y : Tmp} (h : fn.results = #[.tmp t, .tmp u, .tmp v, .tmp x, .tmp y]) (tmps : Array Value) (P : Program) (w : World) :
    (results fn tmps).run P w = .ok (.tuple #[tmps.getD t undef, tmps.getD u undef, tmps.getD v undef, tmps.getD x undef, tmps.getD y undef]) w := by
  simp [results, h]
theorem edge4 (a b r : Int) (a0 : -9223372036854775808 ≤ a) (a1 : a ≤ 9223372036854775807) (b0 : -9223372036854775808 ≤ b) (b1 : b ≤ 9223372036854775807) (r0 : -9223372036854775808 ≤ r) (r1 : r ≤ 9223372036854775807) : ∀ k : Nat, k < 4 → ∃ v : Int, (#[.int .i64 a, .int .i64 b, .int .i64 r, .int .i64 4611686018427387904] : Array Value)[k]? = some (.int .i64 v) ∧ -9223372036854775808 ≤ v ∧ v ≤ 9223372036854775807
  | 0, _ => ⟨_, rfl, a0, a1⟩
  | 1, _ => ⟨_, rfl, b0, b1⟩
  | 2, _ => ⟨_, rfl, r0, r1⟩
  | 3, _ => ⟨_, rfl, by omega, by omega⟩
  | k + 4, h => by omega
end Go.Proofs.YtnomkcbcjaagmabGreatDoor
