/-
  What the draws' functions answer: n: a number from 0 to below most; one: a bool; bytes: a text of n bytes; edge: a number. The source's block alone is written; new memory apart nothing else turns.
  Conditions: the source is one ('Src').
-/
import Derived.Test.YtbgpkngnlfafcaaRows
import Derived.Test.YtbgpkngnlfafcaaSrc
import Derived.Handy
import Derived.WalkSpells
import Derived.RegionTactic
import Derived.BigRegion
import Derived.Deep.QuietTactic
import Derived.BigQuiet
import Derived.Deep.AppendLies
import Derived.Laws.BytesArg
namespace Go.Proofs.Ytbgpkngnlfafcaa
open Go.RowKit
set_option linter.unusedVariables false

/-- What n answers. -/
def nAns (most r : Int) : Prop := 0 ≤ r ∧ (1 < most → r < most) ∧ (most ≤ 1 → r = 0)

set_option maxHeartbeats 4000000 in
theorem n_any (B p : Nat) (a : Option Addr) (len cap : Nat) (most : Int) (w : World) (hs : Src 68 B p a len cap w) (hm2 : most ≤ 9223372036854775807) :
    Calls Try.prog 28 #[.pointer (some ⟨p, 0, none⟩), .int .i64 most] w fun e w' =>
      (∃ r, e = .returned (.int .i64 r) ∧ nAns most r) ∧ Src 68 B p a len cap w' ∧ w.grownBy w' (some p) := by
  by_cases hm : most ≤ 1
  · have HS : Hid (Src 68 B p a len cap w) := hs
    clear hs
    go_enter Try.func28, Try.ntmps28
    go_wp2
    go_ret
    exact ⟨⟨0, rfl, Int.le_refl _, fun h => by omega, fun _ => rfl⟩, HS.out, World.grownBy.refl _ _⟩
  have hm1 : 1 < most := by omega
  have HS : Hid (Src 68 B p a len cap w) := hs
  obtain ⟨hB, hlen, ⟨at0, mix, sz, hat, m0, m1, hz, hrow⟩, hcode⟩ := hs
  obtain ⟨h0, h1, h2, h3⟩ := hrow.cell
  have f1 := hrow.free 1
  have f2 := hrow.free 2
  have HR : Hid (SrcRow 68 p (.slice a len cap) at0 mix sz w) := hrow
  have hset := fun (W : World) (v : Value) => cell_set W p 2 v
  clear hrow h3
  by_cases hlt : at0 < len
  · rcases hcode with hc | ⟨xb, xo, ha, hxB, hcell⟩
    · omega
    subst ha
    obtain ⟨c, c0, c1, hx⟩ := hcell at0 hlt
    clear hcell
    have i1 : (at0 : Int) < (len : Int) := by omega
    have i0 : (0 : Int) ≤ (at0 : Int) := by omega
    go_enter Try.func28, Try.ntmps28
    go_wp2
    go_quiet (fail)
    go_wp2
    go_quiet (fail)
    go_wp2
    go_region
    go_wp2
    go_region
    go_wp2
    go_region
    go_wp2
    go_ret
    refine ⟨⟨_, rfl, (draw_bd _ most hm1 hm2).1, fun _ => (draw_bd _ most hm1 hm2).2, fun h => by omega⟩, HS.out.step ?_ (at0 := at0 + 1) (by omega) (bits_lo_u64 _ _ _) (bits_hi_u64 _ _ _) hz ((((((HR.out.drewN _).set1 _).set2 _).set2 _).set2 _).drew.drew.drew), ?_⟩
    all_goals exact touch_drew (touch_drew (touch_drew (touch_set (touch_set (touch_set (touch_set (touch_drewN (World.grownBy.refl _ _)) _ _) _ _) _ _) _ _)))
  · have i1 : ¬ (at0 : Int) < (len : Int) := by omega
    have d1 : decide ((at0 : Int) < (len : Int)) = false := by simp; omega
    clear hcode
    go_enter Try.func28, Try.ntmps28
    go_wp2
    go_quiet (fail)
    go_wp2
    go_region
    go_wp2
    go_region
    go_wp2
    go_region
    go_wp2
    go_ret
    refine ⟨⟨_, rfl, (draw_bd _ most hm1 hm2).1, fun _ => (draw_bd _ most hm1 hm2).2, fun h => by omega⟩, HS.out.step ?_ (at0 := at0) hat (bits_lo_u64 _ _ _) (bits_hi_u64 _ _ _) hz (((((HR.out.drewN _).set2 _).set2 _).set2 _).drew.drew), ?_⟩
    all_goals exact touch_drew (touch_drew (touch_set (touch_set (touch_set (touch_drewN (World.grownBy.refl _ _)) _ _) _ _) _ _))

set_option maxHeartbeats 1000000 in
theorem one_any (B p : Nat) (a : Option Addr) (len cap : Nat) (most : Int) (w : World) (hs : Src 68 B p a len cap w) (hm2 : most ≤ 9223372036854775807) :
    Calls Try.prog 27 #[.pointer (some ⟨p, 0, none⟩), .int .i64 most] w fun e w' =>
      (∃ r, e = .returned (.bool r)) ∧ Src 68 B p a len cap w' ∧ w.grownBy w' (some p) := by
  have HS : Hid (Src 68 B p a len cap w) := hs
  clear hs
  go_enter Try.func27, Try.ntmps27
  go_wp2_with fail
  refine (n_any B p a len cap _ _ HS.out hm2).mono ?_
  rintro e w1 ⟨⟨r, rfl, hr⟩, hs1, hg1⟩
  have H1 : Hid (Src 68 B p a len cap w1) := hs1
  clear hs1 hr
  go_wp2
  go_ret
  exact ⟨⟨_, rfl⟩, H1.out, hg1⟩

theorem infoU8d : (Try.prog.info? 5).map (fun i => (i.zero, i.size, i.bytes)) = some (some (.int .u8 0), 1, 1) := by kernel_rfl
theorem own_convD {w : World} {base g k cap : Nat} {xs : List Int} (h : w.ownsRow base 5 1 (.slice (some ⟨g, 0, none⟩) k cap) k (xs.map (Value.int .u8))) (hl : xs.length = k) :
    (convert 22 9 (.slice (some ⟨g, 0, none⟩) k cap)).run Try.prog w = .ok (.string (strOfNums xs)) w :=
  run_convert_bytes_arg (P := Try.prog) w 22 5 Try.underlying22 Try.underlying5 g 0 k cap xs hl (fun i hi => by
    rw [Nat.zero_add, h.cellAt i (by omega)]
    have : i < xs.length := by omega
    simp [List.getD, List.getElem?_eq_getElem this]) 9 Try.underlying9

theorem edge_at : ∀ k : Nat, k < 14 → ∃ v : Int, (#[.int .i64 0, .int .i64 1, .int .i64 (-1), .int .i64 2, .int .i64 1000, .int .i64 1001, .int .i64 2147483648, .int .i64 2147483647, .int .i64 (-2147483648), .int .i64 4611686018427387904, .int .i64 9223372036854775807, .int .i64 (-9223372036854775808), .int .i64 1000000, .int .i64 1000001] : Array Value)[k]? = some (.int .i64 v) ∧ -9223372036854775808 ≤ v ∧ v ≤ 9223372036854775807
  | 0, _ => ⟨_, rfl, by omega, by omega⟩
  | 1, _ => ⟨_, rfl, by omega, by omega⟩
  | 2, _ => ⟨_, rfl, by omega, by omega⟩
  | 3, _ => ⟨_, rfl, by omega, by omega⟩
  | 4, _ => ⟨_, rfl, by omega, by omega⟩
  | 5, _ => ⟨_, rfl, by omega, by omega⟩
  | 6, _ => ⟨_, rfl, by omega, by omega⟩
  | 7, _ => ⟨_, rfl, by omega, by omega⟩
  | 8, _ => ⟨_, rfl, by omega, by omega⟩
  | 9, _ => ⟨_, rfl, by omega, by omega⟩
  | 10, _ => ⟨_, rfl, by omega, by omega⟩
  | 11, _ => ⟨_, rfl, by omega, by omega⟩
  | 12, _ => ⟨_, rfl, by omega, by omega⟩
  | 13, _ => ⟨_, rfl, by omega, by omega⟩
  | k + 14, h => by omega

set_option maxHeartbeats 2000000 in
theorem edge_any (B p : Nat) (a : Option Addr) (len cap : Nat) (w : World) (hs : Src 68 B p a len cap w) :
    Calls Try.prog 45 #[.pointer (some ⟨p, 0, none⟩)] w fun e w' =>
      (∃ r, e = .returned (.int .i64 r) ∧ -9223372036854775808 ≤ r ∧ r ≤ 9223372036854775807) ∧ Src 68 B p a len cap w' ∧ w.grownBy w' (some p) := by
  have HS : Hid (Src 68 B p a len cap w) := hs
  have hp := hs.lt
  clear hs
  go_enter Try.func45, Try.ntmps45
  go_wp2_with fail
  refine (n_any B p a len cap 14 _ (HS.out.below ((Below.refl _ _).alloc (Nat.le_refl _) _)) (by omega)).mono ?_
  rintro e w1 ⟨⟨r, rfl, hr0, hr1, _⟩, hs1, hg1⟩
  have hr2 : r < 14 := hr1 (by omega)
  obtain ⟨k, rfl⟩ := Int.eq_ofNat_of_zero_le hr0
  obtain ⟨v, hv, v0, v1⟩ := edge_at k (by omega)
  have hcell := hg1.cell_far ⟨w.heap.size, k, none⟩ (by simp) (by simp; omega)
  rw [World.cell?_alloc_mark, hv] at hcell
  have H1 : Hid (Src 68 B p a len cap w1) := hs1
  have hg2 : w.grownBy w1 (some p) := touch_trans (World.grownBy_alloc _ _ _) hg1
  clear hs1 hr1 hg1 hv
  go_wp2_with fail
  go_ret
  exact ⟨⟨v, rfl, v0, v1⟩, H1.out, hg2⟩

theorem wrapU_bd (x : Int) : 0 ≤ IntKind.u64.wrap x ∧ IntKind.u64.wrap x ≤ 18446744073709551615 := by
  simp [IntKind.wrap, IntKind.bits, IntKind.signed]; omega

set_option maxHeartbeats 2000000 in
theorem source_any (B : Nat) (a : Option Addr) (len cap : Nat) (w : World) (hlen : len ≤ 1048576) (hB : B ≤ w.heap.size)
    (hcode : len = 0 ∨ ∃ xb xo, a = some ⟨xb, xo, none⟩ ∧ xb < B ∧ ∀ i, i < len → ∃ c : Int, 0 ≤ c ∧ c ≤ 255 ∧ w.cell? ⟨xb, xo + i, none⟩ = some (.int .u8 c)) :
    Calls Try.prog 19 #[.slice a len cap] w fun e w' =>
      e = .returned (.pointer (some ⟨w.heap.size, 0, none⟩)) ∧ Src 68 B w.heap.size a len cap w' ∧ Below w.heap.size w w' := by
  have HC : Hid (len = 0 ∨ ∃ xb xo, a = some ⟨xb, xo, none⟩ ∧ xb < B ∧ ∀ i, i < len → ∃ c : Int, 0 ≤ c ∧ c ≤ 255 ∧ w.cell? ⟨xb, xo + i, none⟩ = some (.int .u8 c)) := hcode
  clear hcode
  go_enter Try.func19, Try.ntmps19
  go_wp2
  go_loopw [4] (fun i wr => ∃ (k : Nat) (mix : Int), i = .int .i64 k ∧ k ≤ len ∧ k ≤ 64 ∧ 0 ≤ mix ∧ mix ≤ 18446744073709551615 ∧ Hid (SrcRow 68 w.heap.size (.slice a len cap) 0 mix 0 wr) ∧ Below w.heap.size w wr) (fun i _ => 64 - (intOf i).toNat)
  case atStart => exact ⟨0, 88172645463325252, rfl, Nat.zero_le _, by omega, by omega, by omega, (MapKept.heap_alloc w _).1, (Below.refl _ _).alloc (Nat.le_refl _) _⟩
  case round =>
    obtain ⟨k, mix, rfl, hk, hk64, m0, m1, HR, hnx⟩ := hrel
    obtain ⟨h0, h1, h2, h3⟩ := HR.out.cell
    have f2 := HR.out.free 2
    have f3 := HR.out.free 3
    have hsz : w.heap.size < wr.heap.size := HR.out.lt
    by_cases hlt : k < len ∧ k < 64
    · obtain ⟨hkl, hk6⟩ := hlt
      rcases HC.out with hc | ⟨xb, xo, ha, hxB, hcell⟩
      · omega
      obtain ⟨c, c0, c1, hx0⟩ := hcell k hkl
      have hx : wr.cell? ⟨xb, xo + k, none⟩ = some (.int .u8 c) := by rw [hnx.cell (p := ⟨xb, xo + k, none⟩) (by show xb < _; omega)]; exact hx0
      clear hcell hx0
      subst ha
      have i1 : (k : Int) < (len : Int) := by omega
      have i0 : (0 : Int) ≤ (k : Int) := by omega
      have d1 : decide ((k : Int) < (len : Int)) = true := by simp; omega
      go_wp2
      go_region
      go_wp2
      go_roundw
      case rel => exact ⟨k + 1, _, by go_num, by omega, by omega, (wrapU_bd _).1, (wrapU_bd _).2, (HR.out.set2 _).drew, (hnx.setCell (Nat.le_refl _) _).drew⟩
      case measure => simp [intOf]; omega
    · have HEnd : Hid (∀ w' z, 0 ≤ z ∧ z ≤ 12 → Below w.heap.size w w' → SrcRow 68 w.heap.size (.slice a len cap) 0 mix z w' → Src 68 B w.heap.size a len cap w') := fun w' z hz hb hr =>
        ⟨hB, hlen, ⟨0, mix, z, Nat.zero_le _, m0, m1, hz, hr⟩, by
          rcases HC.out with hc | ⟨xb, xo, ha, hxB, hcell⟩
          · exact .inl hc
          · refine .inr ⟨xb, xo, ha, hxB, fun i hi => ?_⟩
            obtain ⟨c, c0, c1, hci⟩ := hcell i hi
            exact ⟨c, c0, c1, by rw [hb.cell (p := ⟨xb, xo + i, none⟩) (by show xb < _; omega)]; exact hci⟩⟩
      have hset := fun (W : World) (v : Value) => cell_set W w.heap.size 3 v
      by_cases hkl : k < len
      · have d1 : decide ((k : Int) < (len : Int)) = true := by simp; omega
        have d2 : decide ((k : Int) < 64) = false := by simp; omega
        clear hlt
        by_cases hq : 12 < (len : Int) / 20
        · go_wp2
          go_ret
          exact ⟨rfl, HEnd.out _ _ (by omega) ((hnx.setCell (Nat.le_refl _) _).setCell (Nat.le_refl _) _) ((HR.out.set3 _).set3 _), (hnx.setCell (Nat.le_refl _) _).setCell (Nat.le_refl _) _⟩
        · go_wp2
          go_ret
          exact ⟨rfl, HEnd.out _ _ (by constructor <;> go_num) (hnx.setCell (Nat.le_refl _) _) (HR.out.set3 _), hnx.setCell (Nat.le_refl _) _⟩
      · have d1 : decide ((k : Int) < (len : Int)) = false := by simp; omega
        clear hlt
        by_cases hq : 12 < (len : Int) / 20
        · exfalso; omega
        · go_wp2
          go_ret
          exact ⟨rfl, HEnd.out _ _ (by constructor <;> go_num) (hnx.setCell (Nat.le_refl _) _) (HR.out.set3 _), hnx.setCell (Nat.le_refl _) _⟩
end Go.Proofs.Ytbgpkngnlfafcaa
