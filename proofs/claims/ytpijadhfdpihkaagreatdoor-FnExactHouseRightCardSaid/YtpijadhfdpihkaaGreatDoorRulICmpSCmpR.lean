/-
  Parts of one proof, laid as one text: RulI, CmpS, CmpR; what each says stands at its head.
-/
import Derived.Test.YtpijadhfdpihkaaGreatDoorRows
import Derived.Test.YtpijadhfdpihkaaGreatDoorBytesDigMath
import Derived.Test.YtpijadhfdpihkaaGreatDoorNameRight
import Derived.Test.YtpijadhfdpihkaaGreatDoorTimeBPutMathPutNum
import Derived.Test.YtpijadhfdpihkaaGreatDoorAsDAs2CodeOfTimeIGrK
import Derived.Test.YtpijadhfdpihkaaGreatDoorRwBlkBlNotRulMathIntKPolMathTakes
import Derived.Handy
import Derived.WalkSpells
import Derived.OwnWalk
import Derived.Laws.Cover1
import Derived.Test.YtpijadhfdpihkaaGreatDoorSlASlBBxKOwnS
import Derived.Deep.RegionHeld3
/-
  What the program's ruleRight and heldRowRight answer.
-/
namespace Go.Proofs.YtpijadhfdpihkaaGreatDoor
open Go.RowKit Go.Lib
set_option linter.unusedVariables false
set_option maxRecDepth 20000

set_option maxHeartbeats 2000000 in
theorem ruleRight_any (k f : ByteArray) (l m : Int) (w : World) (hk : k.size ≤ maxLen) (hf : f.size ≤ maxLen) :
    Calls Tryz.prog 54 #[.agg #[.string k, .string f, .int .i64 l, .int .i64 m]] w fun e w' => e = .returned (.bool (rulB k f l m)) ∧ Below w.heap.size w w' := by
  have B1 : Below w.heap.size w (w.alloc (.cells #[.string k, .string f, .int .i64 l, .int .i64 m] 67)) := (Below.refl _ _).alloc (Nat.le_refl _) _
  have h1 := implNameRight_any k (w.alloc (.cells #[.string k, .string f, .int .i64 l, .int .i64 m] 67)) hk
  have h2 := implNameRight_any f (w.alloc (.cells #[.string k, .string f, .int .i64 l, .int .i64 m] 67)) hf
  have h3 := timeRight_any l (w.alloc (.cells #[.string k, .string f, .int .i64 l, .int .i64 m] 67))
  have h4 := timeRight_any m (w.alloc (.cells #[.string k, .string f, .int .i64 l, .int .i64 m] 67))
  unfold rulB
  generalize nrB k = b1 at *
  generalize nrB f = b2 at *
  generalize timeB l = b3 at *
  generalize timeB m = b4 at *
  cases b1
  · go_enter Tryz.func54, Tryz.ntmps54
    go_wp2_with fail
    refine h1.mono ?_
    rintro e w1 ⟨rfl, rfl⟩
    go_wp2_with fail
    go_ret
    exact ⟨rfl, B1⟩
  · skip
    cases b2
    · go_enter Tryz.func54, Tryz.ntmps54
      go_wp2_with fail
      refine h1.mono ?_
      rintro e w1 ⟨rfl, rfl⟩
      go_wp2_with fail
      refine h2.mono ?_
      rintro e w2 ⟨rfl, rfl⟩
      go_wp2_with fail
      go_ret
      exact ⟨rfl, B1⟩
    · skip
      cases b3
      · go_enter Tryz.func54, Tryz.ntmps54
        go_wp2_with fail
        refine h1.mono ?_
        rintro e w1 ⟨rfl, rfl⟩
        go_wp2_with fail
        refine h2.mono ?_
        rintro e w2 ⟨rfl, rfl⟩
        go_wp2_with fail
        refine h3.mono ?_
        rintro e w3 ⟨rfl, rfl⟩
        go_wp2_with fail
        go_ret
        exact ⟨rfl, B1⟩
      · skip
        cases b4
        · go_enter Tryz.func54, Tryz.ntmps54
          go_wp2_with fail
          refine h1.mono ?_
          rintro e w1 ⟨rfl, rfl⟩
          go_wp2_with fail
          refine h2.mono ?_
          rintro e w2 ⟨rfl, rfl⟩
          go_wp2_with fail
          refine h3.mono ?_
          rintro e w3 ⟨rfl, rfl⟩
          go_wp2_with fail
          refine h4.mono ?_
          rintro e w4 ⟨rfl, rfl⟩
          go_wp2_with fail
          go_ret
          exact ⟨rfl, B1⟩
        · skip
          by_cases hd : l ≤ m
          · have d1 : decide (l ≤ m) = true := decide_eq_true hd
            rw [d1]
            clear hd
            go_enter Tryz.func54, Tryz.ntmps54
            go_wp2_with fail
            refine h1.mono ?_
            rintro e w1 ⟨rfl, rfl⟩
            go_wp2_with fail
            refine h2.mono ?_
            rintro e w2 ⟨rfl, rfl⟩
            go_wp2_with fail
            refine h3.mono ?_
            rintro e w3 ⟨rfl, rfl⟩
            go_wp2_with fail
            refine h4.mono ?_
            rintro e w4 ⟨rfl, rfl⟩
            go_wp2_with fail
            go_ret
            exact ⟨rfl, B1⟩
          · have d1 : decide (l ≤ m) = false := decide_eq_false hd
            rw [d1]
            clear hd
            go_enter Tryz.func54, Tryz.ntmps54
            go_wp2_with fail
            refine h1.mono ?_
            rintro e w1 ⟨rfl, rfl⟩
            go_wp2_with fail
            refine h2.mono ?_
            rintro e w2 ⟨rfl, rfl⟩
            go_wp2_with fail
            refine h3.mono ?_
            rintro e w3 ⟨rfl, rfl⟩
            go_wp2_with fail
            refine h4.mono ?_
            rintro e w4 ⟨rfl, rfl⟩
            go_wp2_with fail
            go_ret
            exact ⟨rfl, B1⟩

theorem heldRowRight_any (n : Int) (w : World) : Calls Tryz.prog 56 #[.int .i64 n] w fun e w' => e = .returned (.bool (decide (0 ≤ n ∧ n ≤ 5))) ∧ w' = w := by
  by_cases h1 : 0 ≤ n
  · have d1 : decide (0 ≤ n) = true := decide_eq_true h1
    by_cases h2 : n ≤ 5
    · have d2 : decide (n < 6) = true := decide_eq_true (by omega)
      rw [decide_eq_true (And.intro h1 h2)]
      clear h1 h2
      go_enter Tryz.func56, Tryz.ntmps56
      go_wp2_with fail
      go_ret
      exact ⟨rfl, rfl⟩
    · have d2 : decide (n < 6) = false := decide_eq_false (by omega)
      rw [decide_eq_false (fun h => h2 h.2)]
      clear h1 h2
      go_enter Tryz.func56, Tryz.ntmps56
      go_wp2_with fail
      go_ret
      exact ⟨rfl, rfl⟩
  · have d1 : decide (0 ≤ n) = false := decide_eq_false h1
    rw [decide_eq_false (fun h => h1 h.1)]
    clear h1
    go_enter Tryz.func56, Tryz.ntmps56
    go_wp2_with fail
    go_ret
    exact ⟨rfl, rfl⟩
end Go.Proofs.YtpijadhfdpihkaaGreatDoor
/-
  What cmp.Compare answers for two texts.
-/
namespace Go.Proofs.YtpijadhfdpihkaaGreatDoor
open Go.RowKit Go.Lib
set_option linter.unusedVariables false
set_option maxRecDepth 20000

theorem isNaN_any (s : ByteArray) (w : World) : Calls Tryz.prog 92 #[.string s] w fun e w' => e = .returned (.bool false) ∧ w' = w := by
  go_enter Tryz.func92, Tryz.ntmps92
  go_wp2_with fail
  go_ret
  exact ⟨rfl, rfl⟩
set_option maxHeartbeats 2000000 in
theorem compare_any (a b : ByteArray) (w : World) : Calls Tryz.prog 74 #[.string a, .string b] w fun e w' => e = .returned (.int .i64 (cmpI a b)) ∧ w' = w := by
  have h1 := isNaN_any a w
  have h2 := isNaN_any b w
  rcases cmpI_cases a b with ⟨g1, g2⟩ | ⟨g1, g3, g4, g2⟩ | ⟨g1, g4, g2⟩
  · rw [g2]
    clear g2
    go_enter Tryz.func74, Tryz.ntmps74
    go_wp2_with fail
    refine h1.mono ?_
    rintro e w1 ⟨rfl, rfl⟩
    go_wp2_with fail
    refine h2.mono ?_
    rintro e w1 ⟨rfl, rfl⟩
    go_wp2_with fail
    go_ret
    exact ⟨rfl, rfl⟩
  · rw [g2]
    clear g2
    go_enter Tryz.func74, Tryz.ntmps74
    go_wp2_with fail
    refine h1.mono ?_
    rintro e w1 ⟨rfl, rfl⟩
    go_wp2_with fail
    refine h2.mono ?_
    rintro e w1 ⟨rfl, rfl⟩
    go_wp2_with fail
    go_ret
    exact ⟨rfl, rfl⟩
  · rw [g2]
    have g3 : Op.bytesLess b.toList a.toList = false := by
      have n1 := bl_not a.toList b.toList
      have e1 : a.toList = b.toList := by simpa using g4
      rw [e1] at g1 ⊢; exact g1
    clear g2
    go_enter Tryz.func74, Tryz.ntmps74
    go_wp2_with fail
    refine h1.mono ?_
    rintro e w1 ⟨rfl, rfl⟩
    go_wp2_with fail
    refine h2.mono ?_
    rintro e w1 ⟨rfl, rfl⟩
    go_wp2_with fail
    go_ret
    exact ⟨rfl, rfl⟩
end Go.Proofs.YtpijadhfdpihkaaGreatDoor
/-
  What cmp.Or answers for numbers, and the program's compareRules.
-/
namespace Go.Proofs.YtpijadhfdpihkaaGreatDoor
open Go.RowKit Go.Lib
set_option linter.unusedVariables false
set_option maxRecDepth 20000

/-- The first number that is not 0, or 0. -/
def orI : List Int → Int
  | [] => 0
  | x :: l => if x = 0 then orI l else x
theorem orI_drop (ks : List Int) (k : Nat) (h : k < ks.length) : orI (ks.drop k) = if ks[k] = 0 then orI (ks.drop (k + 1)) else ks[k] := by
  rw [List.drop_eq_getElem_cons h]; rfl
set_option maxHeartbeats 1000000 in
theorem or_any (p : Option Addr) (cap : Nat) (ks : List Int) (w : World) (hp : IntAt w p ks) (hn : ks.length ≤ 1000) :
    Calls Tryz.prog 73 #[.slice p ks.length cap] w fun e w' => e = .returned (.int .i64 (orI ks)) ∧ w' = w := by
  have HP : Hid (IntAt w p ks) := hp
  clear hp
  go_enter Tryz.func73, Tryz.ntmps73
  go_wp2_with fail
  go_loopw [8] (fun i wr => ∃ k : Nat, k ≤ ks.length ∧ i = .int .i64 k ∧ Hid (orI (ks.drop k) = orI ks) ∧ Hid (wr = w)) (fun i _ => ks.length - (Go.RowKit.intOf i).toNat)
  case atStart => exact ⟨0, Nat.zero_le _, rfl, by show _ = _; rfl, rfl⟩
  case round =>
    obtain ⟨k, hk, rfl, HO, HW⟩ := hrel
    have HW := HW.out
    subst HW
    by_cases hlt : k < ks.length
    · obtain ⟨b, off, rfl, hb, hc⟩ := HP.out k hlt
      have j5 : (k : Int) < ks.length := by omega
      have HD : Hid (orI (ks.drop k) = if ks[k] = 0 then orI (ks.drop (k + 1)) else ks[k]) := orI_drop ks k hlt
      rw [HO.out] at HD
      generalize ks[k] = x at *
      by_cases hx : x = 0
      · subst hx
        rw [if_pos rfl] at HD
        go_wp2_with fail
        go_roundw
        case rel => exact ⟨k + 1, by omega, by go_num, HD.out.symm, trivial⟩
        case measure => simp [Go.RowKit.intOf]; omega
      · rw [if_neg hx] at HD
        have d1 : (x == 0) = false := by simpa using hx
        have d2 : (x != 0) = true := by simpa using hx
        clear HO hx
        go_wp2_with fail
        go_ret
        exact ⟨by rw [HD.out]; rfl, rfl⟩
    · have hkk : k = ks.length := by omega
      have HE : Hid (orI ks = 0) := by have := HO.out; rw [hkk, List.drop_length] at this; exact this.symm
      go_wp2_with fail
      go_ret
      exact ⟨by rw [HE.out]; rfl, rfl⟩
theorem orI_two (a b : Int) : orI [a, b] = if a = 0 then b else a := by
  unfold orI orI orI
  by_cases h : a = 0
  · rw [if_pos h, if_pos h]; by_cases h2 : b = 0
    · rw [if_pos h2, h2]
    · rw [if_neg h2]
  · rw [if_neg h, if_neg h]
theorem intAt_two (a b : Int) (w : World) : IntAt (w.alloc (.cells #[.int .i64 a, .int .i64 b] 3)) (some ⟨w.heap.size, 0, none⟩) [a, b] := by
  have hc := (MapKept.heap_alloc w (.cells #[.int .i64 a, .int .i64 b] 3)).1
  have hb : Bxs (w.alloc (.cells #[.int .i64 a, .int .i64 b] 3)) w.heap.size 3 #[.int .i64 a, .int .i64 b] := hc
  intro i hi
  refine ⟨w.heap.size, 0, rfl, Bxs.lt hb, ?_⟩
  rw [Bxs.cell hb]
  match i, hi with
  | 0, _ => rfl
  | 1, _ => rfl
set_option maxHeartbeats 4000000 in
theorem compareRules_any (ak af : ByteArray) (al am : Int) (bk bf : ByteArray) (bl bm : Int) (w : World) :
    Calls Tryz.prog 55 #[.agg #[.string ak, .string af, .int .i64 al, .int .i64 am], .agg #[.string bk, .string bf, .int .i64 bl, .int .i64 bm]] w fun e w' => e = .returned (.int .i64 (crI ak af bk bf)) ∧ Below w.heap.size w w' := by
  obtain ⟨W1, hW1⟩ : ∃ W1, W1 = (w.alloc (.cells #[.string ak, .string af, .int .i64 al, .int .i64 am] 67)).alloc (.cells #[.string bk, .string bf, .int .i64 bl, .int .i64 bm] 67) := ⟨_, rfl⟩
  have HW1 : Hid (W1 = (w.alloc (.cells #[.string ak, .string af, .int .i64 al, .int .i64 am] 67)).alloc (.cells #[.string bk, .string bf, .int .i64 bl, .int .i64 bm] 67)) := hW1
  have B1 : Hid (Below w.heap.size w W1) := by rw [hW1]; exact alB (alB (Below.refl _ _) _) _
  have X1 : Bxs W1 w.heap.size 67 #[.string ak, .string af, .int .i64 al, .int .i64 am] := by
    rw [hW1]; exact (show Bxs _ _ _ _ from (MapKept.heap_alloc w _).1).below ((Below.refl _ _).alloc (Nat.le_refl _) _)
  have X2 : Bxs W1 (w.heap.size + 1) 67 #[.string bk, .string bf, .int .i64 bl, .int .i64 bm] := by
    have h := (MapKept.heap_alloc (w.alloc (.cells #[.string ak, .string af, .int .i64 al, .int .i64 am] 67)) (.cells #[.string bk, .string bf, .int .i64 bl, .int .i64 bm] 67)).1
    rw [hW1]
    have e : (w.alloc (.cells #[.string ak, .string af, .int .i64 al, .int .i64 am] 67)).heap.size = w.heap.size + 1 := by simp
    rw [e] at h; exact h
  have HX : Hid (∀ x, Below W1.heap.size W1 x → x.cell? ⟨w.heap.size, 0, none⟩ = some (.string ak) ∧ x.cell? ⟨w.heap.size, 1, none⟩ = some (.string af) ∧ x.cell? ⟨w.heap.size + 1, 0, none⟩ = some (.string bk) ∧ x.cell? ⟨w.heap.size + 1, 1, none⟩ = some (.string bf)) := fun x hb => by
    have h1 := X1.below hb
    have h2 := X2.below hb
    exact ⟨by rw [h1.cell]; rfl, by rw [h1.cell]; rfl, by rw [h2.cell]; rfl, by rw [h2.cell]; rfl⟩
  have Q1 : Hid (∀ x, Below W1.heap.size W1 x → Calls Tryz.prog 74 #[.string ak, .string bk] x fun e x1 => e = .returned (.int .i64 (cmpI ak bk)) ∧ Below W1.heap.size W1 x1) := fun x hb => (compare_any ak bk x).mono (by rintro e x1 ⟨rfl, rfl⟩; exact ⟨rfl, hb⟩)
  have Q2 : Hid (∀ x, Below W1.heap.size W1 x → Calls Tryz.prog 74 #[.string af, .string bf] x fun e x1 => e = .returned (.int .i64 (cmpI af bf)) ∧ Below W1.heap.size W1 x1) := fun x hb => (compare_any af bf x).mono (by rintro e x1 ⟨rfl, rfl⟩; exact ⟨rfl, hb⟩)
  have QO : Hid (∀ x, Below W1.heap.size W1 x → Calls Tryz.prog 73 #[.slice (some ⟨x.heap.size, 0, none⟩) 2 2] (x.alloc (.cells #[.int .i64 (cmpI ak bk), .int .i64 (cmpI af bf)] 3)) fun e x1 => e = .returned (.int .i64 (crI ak af bk bf)) ∧ Below W1.heap.size W1 x1) := fun x hb => by
    have h := or_any (some ⟨x.heap.size, 0, none⟩) 2 [cmpI ak bk, cmpI af bf] _ (intAt_two (cmpI ak bk) (cmpI af bf) x) (by simp)
    rw [orI_two] at h
    refine h.mono ?_
    rintro e x1 ⟨rfl, rfl⟩
    exact ⟨rfl, alB hb _⟩
  have QO2 : Hid (∀ x, Below W1.heap.size W1 x → Calls Tryz.prog 73 #[.slice (some ⟨x.heap.size, 0, none⟩) 2 2] (x.alloc (.cells #[.int .i64 (cmpI ak bk), .int .i64 (cmpI af bf)] 3)).drew fun e x1 => e = .returned (.int .i64 (crI ak af bk bf)) ∧ Below W1.heap.size W1 x1) := fun x hb => QO.out x.drew hb.drew
  have BR : Hid (Below W1.heap.size W1 W1) := Below.refl _ _
  generalize crI ak af bk bf = O at *
  generalize cmpI ak bk = C1 at *
  generalize cmpI af bf = C2 at *
  clear X1 X2 hW1
  go_enter Tryz.func55, Tryz.ntmps55
  go_wp2_with fail
  rw [← HW1.out]
  first
    | (go_region_held3 (fun w' => w'.cell? ⟨w.heap.size, 0, none⟩ = some (.string ak) ∧ w'.cell? ⟨w.heap.size, 1, none⟩ = some (.string af) ∧ w'.cell? ⟨w.heap.size + 1, 0, none⟩ = some (.string bk) ∧ w'.cell? ⟨w.heap.size + 1, 1, none⟩ = some (.string bf)) ((refine HX.out _ ?hT; (case hT => (with_reducible repeat (first | assumption | exact BR.out | refine Below.drew ?_ | refine alB ?_ _))))) (first
      | (go_at_call 74; with_reducible refine (Q1.out _ ?hB).mono ?_; (case hB => first | exact BR.out | exact BR.out.drew); rintro e x1 ⟨rfl, y1⟩)
      | (go_at_call 74; with_reducible refine (Q2.out _ ?hB).mono ?_; (case hB => first | exact y1 | exact y1.drew); rintro e x2 ⟨rfl, y2⟩)
      | (go_at_call 73; (first | with_reducible refine (QO.out _ ?hB).mono ?_ | with_reducible refine (QO2.out _ ?hB).mono ?_); (case hB => first | exact y2 | exact y2.drew); rintro e x3 ⟨rfl, y3⟩)))
    | fail
  all_goals
    have y6 := chainB B1.out y3
    go_wp2_with fail
    go_ret
    exact ⟨rfl, y6⟩
end Go.Proofs.YtpijadhfdpihkaaGreatDoor
