/-
  What cmp.Or answers for numbers, and the program's compareRules.
-/
import Derived.Test.YtbgpkngnlfafcaaRows
import Derived.Test.YtbgpkngnlfafcaaBytes
import Derived.Test.YtbgpkngnlfafcaaIntK
import Derived.Test.YtbgpkngnlfafcaaBxK
import Derived.Test.YtbgpkngnlfafcaaRulMath
import Derived.Test.YtbgpkngnlfafcaaCmpS
import Derived.Handy
import Derived.WalkSpells
import Derived.OwnWalk
import Derived.Deep.RegionHeld3
namespace Go.Proofs.Ytbgpkngnlfafcaa
open Go.RowKit Go.Lib
set_option linter.unusedVariables false
set_option maxRecDepth 20000

/-- The first number that is not 0, or 0. -/
def orI : List Int → Int
  | [] => 0
  | x :: l => if x = 0 then orI l else x
theorem orI_drop (ks : List Int) (k : Nat) (h : k < ks.length) : orI (ks.drop k) = if ks[k] = 0 then orI (ks.drop (k + 1)) else ks[k] := by
  rw [List.drop_eq_getElem_cons h]; rfl
set_option maxHeartbeats 1000000 in
theorem or_any (p : Option Addr) (cap : Nat) (ks : List Int) (w : World) (hp : IntAt w p ks) (hn : ks.length ≤ 1000) :
    Calls Try.prog 62 #[.slice p ks.length cap] w fun e w' => e = .returned (.int .i64 (orI ks)) ∧ w' = w := by
  have HP : Hid (IntAt w p ks) := hp
  clear hp
  go_enter Try.func62, Try.ntmps62
  go_wp2_with fail
  go_loopw [8] (fun i wr => ∃ k : Nat, k ≤ ks.length ∧ i = .int .i64 k ∧ Hid (orI (ks.drop k) = orI ks) ∧ Hid (wr = w)) (fun i _ => ks.length - (intOf i).toNat)
  case atStart => exact ⟨0, Nat.zero_le _, rfl, by show _ = _; rfl, rfl⟩
  case round =>
    obtain ⟨k, hk, rfl, HO, HW⟩ := hrel
    have HW := HW.out
    subst HW
    by_cases hlt : k < ks.length
    · obtain ⟨b, off, rfl, hb, hc⟩ := HP.out k hlt
      have j5 : (k : Int) < ks.length := by omega
      have HD : Hid (orI (ks.drop k) = if ks[k] = 0 then orI (ks.drop (k + 1)) else ks[k]) := orI_drop ks k hlt
      rw [HO.out] at HD
      generalize ks[k] = x at *
      by_cases hx : x = 0
      · subst hx
        rw [if_pos rfl] at HD
        go_wp2_with fail
        go_roundw
        case rel => exact ⟨k + 1, by omega, by go_num, HD.out.symm, trivial⟩
        case measure => simp [intOf]; omega
      · rw [if_neg hx] at HD
        have d1 : (x == 0) = false := by simpa using hx
        have d2 : (x != 0) = true := by simpa using hx
        clear HO hx
        go_wp2_with fail
        go_ret
        exact ⟨by rw [HD.out]; rfl, rfl⟩
    · have hkk : k = ks.length := by omega
      have HE : Hid (orI ks = 0) := by have := HO.out; rw [hkk, List.drop_length] at this; exact this.symm
      go_wp2_with fail
      go_ret
      exact ⟨by rw [HE.out]; rfl, rfl⟩
theorem orI_two (a b : Int) : orI [a, b] = if a = 0 then b else a := by
  unfold orI orI orI
  by_cases h : a = 0
  · rw [if_pos h, if_pos h]; by_cases h2 : b = 0
    · rw [if_pos h2, h2]
    · rw [if_neg h2]
  · rw [if_neg h, if_neg h]
theorem intAt_two (a b : Int) (w : World) : IntAt (w.alloc (.cells #[.int .i64 a, .int .i64 b] 3)) (some ⟨w.heap.size, 0, none⟩) [a, b] := by
  have hc := (MapKept.heap_alloc w (.cells #[.int .i64 a, .int .i64 b] 3)).1
  have hb : Bxs (w.alloc (.cells #[.int .i64 a, .int .i64 b] 3)) w.heap.size 3 #[.int .i64 a, .int .i64 b] := hc
  intro i hi
  refine ⟨w.heap.size, 0, rfl, Bxs.lt hb, ?_⟩
  rw [Bxs.cell hb]
  match i, hi with
  | 0, _ => rfl
  | 1, _ => rfl
set_option maxHeartbeats 4000000 in
theorem compareRules_any (ak af : ByteArray) (al am : Int) (bk bf : ByteArray) (bl bm : Int) (w : World) :
    Calls Try.prog 49 #[.agg #[.string ak, .string af, .int .i64 al, .int .i64 am], .agg #[.string bk, .string bf, .int .i64 bl, .int .i64 bm]] w fun e w' => e = .returned (.int .i64 (crI ak af bk bf)) ∧ Below w.heap.size w w' := by
  obtain ⟨W1, hW1⟩ : ∃ W1, W1 = (w.alloc (.cells #[.string ak, .string af, .int .i64 al, .int .i64 am] 28)).alloc (.cells #[.string bk, .string bf, .int .i64 bl, .int .i64 bm] 28) := ⟨_, rfl⟩
  have HW1 : Hid (W1 = (w.alloc (.cells #[.string ak, .string af, .int .i64 al, .int .i64 am] 28)).alloc (.cells #[.string bk, .string bf, .int .i64 bl, .int .i64 bm] 28)) := hW1
  have B1 : Hid (Below w.heap.size w W1) := by rw [hW1]; exact alB (alB (Below.refl _ _) _) _
  have X1 : Bxs W1 w.heap.size 28 #[.string ak, .string af, .int .i64 al, .int .i64 am] := by
    rw [hW1]; exact (show Bxs _ _ _ _ from (MapKept.heap_alloc w _).1).below ((Below.refl _ _).alloc (Nat.le_refl _) _)
  have X2 : Bxs W1 (w.heap.size + 1) 28 #[.string bk, .string bf, .int .i64 bl, .int .i64 bm] := by
    have h := (MapKept.heap_alloc (w.alloc (.cells #[.string ak, .string af, .int .i64 al, .int .i64 am] 28)) (.cells #[.string bk, .string bf, .int .i64 bl, .int .i64 bm] 28)).1
    rw [hW1]
    have e : (w.alloc (.cells #[.string ak, .string af, .int .i64 al, .int .i64 am] 28)).heap.size = w.heap.size + 1 := by simp
    rw [e] at h; exact h
  have HX : Hid (∀ x, Below W1.heap.size W1 x → x.cell? ⟨w.heap.size, 0, none⟩ = some (.string ak) ∧ x.cell? ⟨w.heap.size, 1, none⟩ = some (.string af) ∧ x.cell? ⟨w.heap.size + 1, 0, none⟩ = some (.string bk) ∧ x.cell? ⟨w.heap.size + 1, 1, none⟩ = some (.string bf)) := fun x hb => by
    have h1 := X1.below hb
    have h2 := X2.below hb
    exact ⟨by rw [h1.cell]; rfl, by rw [h1.cell]; rfl, by rw [h2.cell]; rfl, by rw [h2.cell]; rfl⟩
  have Q1 : Hid (∀ x, Below W1.heap.size W1 x → Calls Try.prog 63 #[.string ak, .string bk] x fun e x1 => e = .returned (.int .i64 (cmpI ak bk)) ∧ Below W1.heap.size W1 x1) := fun x hb => (compare_any ak bk x).mono (by rintro e x1 ⟨rfl, rfl⟩; exact ⟨rfl, hb⟩)
  have Q2 : Hid (∀ x, Below W1.heap.size W1 x → Calls Try.prog 63 #[.string af, .string bf] x fun e x1 => e = .returned (.int .i64 (cmpI af bf)) ∧ Below W1.heap.size W1 x1) := fun x hb => (compare_any af bf x).mono (by rintro e x1 ⟨rfl, rfl⟩; exact ⟨rfl, hb⟩)
  have QO : Hid (∀ x, Below W1.heap.size W1 x → Calls Try.prog 62 #[.slice (some ⟨x.heap.size, 0, none⟩) 2 2] (x.alloc (.cells #[.int .i64 (cmpI ak bk), .int .i64 (cmpI af bf)] 3)) fun e x1 => e = .returned (.int .i64 (crI ak af bk bf)) ∧ Below W1.heap.size W1 x1) := fun x hb => by
    have h := or_any (some ⟨x.heap.size, 0, none⟩) 2 [cmpI ak bk, cmpI af bf] _ (intAt_two (cmpI ak bk) (cmpI af bf) x) (by simp)
    rw [orI_two] at h
    refine h.mono ?_
    rintro e x1 ⟨rfl, rfl⟩
    exact ⟨rfl, alB hb _⟩
  have QO2 : Hid (∀ x, Below W1.heap.size W1 x → Calls Try.prog 62 #[.slice (some ⟨x.heap.size, 0, none⟩) 2 2] (x.alloc (.cells #[.int .i64 (cmpI ak bk), .int .i64 (cmpI af bf)] 3)).drew fun e x1 => e = .returned (.int .i64 (crI ak af bk bf)) ∧ Below W1.heap.size W1 x1) := fun x hb => QO.out x.drew hb.drew
  have BR : Hid (Below W1.heap.size W1 W1) := Below.refl _ _
  generalize crI ak af bk bf = O at *
  generalize cmpI ak bk = C1 at *
  generalize cmpI af bf = C2 at *
  clear X1 X2 hW1
  go_enter Try.func49, Try.ntmps49
  go_wp2_with fail
  rw [← HW1.out]
  first
    | (go_region_held3 (fun w' => w'.cell? ⟨w.heap.size, 0, none⟩ = some (.string ak) ∧ w'.cell? ⟨w.heap.size, 1, none⟩ = some (.string af) ∧ w'.cell? ⟨w.heap.size + 1, 0, none⟩ = some (.string bk) ∧ w'.cell? ⟨w.heap.size + 1, 1, none⟩ = some (.string bf)) ((refine HX.out _ ?hT; (case hT => (with_reducible repeat (first | assumption | exact BR.out | refine Below.drew ?_ | refine alB ?_ _))))) (first
      | (go_at_call 63; with_reducible refine (Q1.out _ ?hB).mono ?_; (case hB => first | exact BR.out | exact BR.out.drew); rintro e x1 ⟨rfl, y1⟩)
      | (go_at_call 63; with_reducible refine (Q2.out _ ?hB).mono ?_; (case hB => first | exact y1 | exact y1.drew); rintro e x2 ⟨rfl, y2⟩)
      | (go_at_call 62; (first | with_reducible refine (QO.out _ ?hB).mono ?_ | with_reducible refine (QO2.out _ ?hB).mono ?_); (case hB => first | exact y2 | exact y2.drew); rintro e x3 ⟨rfl, y3⟩)))
    | fail
  all_goals
    have y6 := chainB B1.out y3
    go_wp2_with fail
    go_ret
    exact ⟨rfl, y6⟩
end Go.Proofs.Ytbgpkngnlfafcaa
