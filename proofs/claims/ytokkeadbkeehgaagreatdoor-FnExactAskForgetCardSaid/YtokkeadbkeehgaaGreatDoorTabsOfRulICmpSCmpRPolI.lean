/-
  Parts of one proof, laid as one text: TabsOf, RulI, CmpS, CmpR, PolI; what each says stands at its head.
-/
import Derived.Test.YtokkeadbkeehgaaGreatDoorRows
import Derived.Test.YtokkeadbkeehgaaGreatDoorBytesDigMathTreeMathSlASlBBxKOwnSTakesLTillTwo
import Derived.Test.YtokkeadbkeehgaaGreatDoorTurnIWholeRNumsIBlockI
import Derived.Lib.LaidTab
import Derived.Lib.LaidU8
import Derived.Test.YtokkeadbkeehgaaGreatDoorNameRight
import Derived.Test.YtokkeadbkeehgaaGreatDoorTimeBPutMathPutNumJoinedPutTextFldMathFldRiseScanMath
import Derived.Test.YtokkeadbkeehgaaGreatDoorAsDAs2CodeOfScopesReadBitsRdNumIGetNumITimeIImplTbImplCb
import Derived.Test.YtokkeadbkeehgaaGreatDoorLgAtKShwKOneKFldGFldBlkRwBlkIntKLawILawOGLawImBlNotRulMathAppS
import Derived.Handy
import Derived.WalkSpells
import Derived.OwnWalk
import Derived.Laws.Cover1
import Derived.Deep.RegionHeld3
import Derived.Test.YtokkeadbkeehgaaGreatDoorLawRmLawPoMTakesLawFLawFRLawSG
import Derived.Test.YtokkeadbkeehgaaGreatDoorLawSwLfMathLaMathLfSumPolMathPolIdxRulIdxPolO
import Derived.Deep.RegionWith
import Derived.Deep.Cut
import Derived.Deep.CutRange
/-
  What the two listed tables give a walk: 'Tabs'.
-/
namespace Go.Proofs.YtokkeadbkeehgaaGreatDoor
open Go.RowKit Go.Lib
set_option linter.unusedVariables false

theorem g0 : Tryz.prog.globalNamed "loop.example/g00633/impl.firstState" = some 0 := by kernel_rfl
theorem g1 : Tryz.prog.globalNamed "loop.example/g00633/impl.roundNums" = some 2 := by kernel_rfl
theorem tab_of {W : World} {name : String} {zs : List Int} {g : Nat} {t : TypeId} {n : Nat} (hg : Tryz.prog.globalNamed name = some g) (hty : (Tryz.prog.globals[g]?).map (·.type) = some t) (ht : Tryz.prog.underlying t = some (.array n 162)) (hct : Tryz.prog.cellsOf t = n)
    (h : VarReads Tryz.prog W name (tabData .u32 zs)) (i : Nat) (hi : i < zs.length) : W.cell? ⟨g, i, none⟩ = some (.int .u32 (zs.getD i 0)) := by
  obtain ⟨g', t', cs, fuel, p, h1, h2, h3, h4⟩ := h
  obtain rfl := Option.some.inj (hg.symm.trans h1)
  obtain rfl := Option.some.inj (hty.symm.trans h2)
  refine TabIs.cell (P := Tryz.prog) (name := name) ?_ hg i hi
  unfold TabIs
  rw [h3, ← cells_of_tab ht Tryz.underlying162 (by kernel_rfl) hct h4]
theorem tabs_of {W : World} (h : laidMet Tryz.prog [("loop.example/g00633/impl.firstState", Rows.laid_loop_example_g00633_impl_firstState), ("loop.example/g00633/impl.roundNums", Rows.laid_loop_example_g00633_impl_roundNums)] W) : Tabs W := by
  have r0 : VarReads Tryz.prog W "loop.example/g00633/impl.firstState" (tabData .u32 startN) := laidMet.reads h (.head _)
  have r1 : VarReads Tryz.prog W "loop.example/g00633/impl.roundNums" (tabData .u32 keysN) := laidMet.reads h (.tail _ (.head _))
  have c0 := tab_of g0 (by kernel_rfl) (t := 258) (n := 8) (by kernel_rfl) (by kernel_rfl) r0
  have c1 := tab_of g1 (by kernel_rfl) (t := 276) (n := 64) (by kernel_rfl) (by kernel_rfl) r1
  exact ⟨World.block_lt_of_cell? W ⟨2, 0, none⟩ (c1 0 (by decide)), fun i hi => c1 i hi, fun i hi => c0 i hi⟩
end Go.Proofs.YtokkeadbkeehgaaGreatDoor
/-
  What the program's ruleRight and heldRowRight answer.
-/
namespace Go.Proofs.YtokkeadbkeehgaaGreatDoor
open Go.RowKit Go.Lib
set_option linter.unusedVariables false
set_option maxRecDepth 20000

set_option maxHeartbeats 2000000 in
theorem ruleRight_any (k f : ByteArray) (l m : Int) (w : World) (hk : k.size ≤ maxLen) (hf : f.size ≤ maxLen) :
    Calls Tryz.prog 104 #[.agg #[.string k, .string f, .int .i64 l, .int .i64 m]] w fun e w' => e = .returned (.bool (rulB k f l m)) ∧ Below w.heap.size w w' := by
  have B1 : Below w.heap.size w (w.alloc (.cells #[.string k, .string f, .int .i64 l, .int .i64 m] 101)) := (Below.refl _ _).alloc (Nat.le_refl _) _
  have h1 := implNameRight_any k (w.alloc (.cells #[.string k, .string f, .int .i64 l, .int .i64 m] 101)) hk
  have h2 := implNameRight_any f (w.alloc (.cells #[.string k, .string f, .int .i64 l, .int .i64 m] 101)) hf
  have h3 := timeRight_any l (w.alloc (.cells #[.string k, .string f, .int .i64 l, .int .i64 m] 101))
  have h4 := timeRight_any m (w.alloc (.cells #[.string k, .string f, .int .i64 l, .int .i64 m] 101))
  unfold rulB
  generalize nrB k = b1 at *
  generalize nrB f = b2 at *
  generalize timeB l = b3 at *
  generalize timeB m = b4 at *
  cases b1
  · go_enter Tryz.func104, Tryz.ntmps104
    go_wp2_with fail
    refine h1.mono ?_
    rintro e w1 ⟨rfl, rfl⟩
    go_wp2_with fail
    go_ret
    exact ⟨rfl, B1⟩
  · skip
    cases b2
    · go_enter Tryz.func104, Tryz.ntmps104
      go_wp2_with fail
      refine h1.mono ?_
      rintro e w1 ⟨rfl, rfl⟩
      go_wp2_with fail
      refine h2.mono ?_
      rintro e w2 ⟨rfl, rfl⟩
      go_wp2_with fail
      go_ret
      exact ⟨rfl, B1⟩
    · skip
      cases b3
      · go_enter Tryz.func104, Tryz.ntmps104
        go_wp2_with fail
        refine h1.mono ?_
        rintro e w1 ⟨rfl, rfl⟩
        go_wp2_with fail
        refine h2.mono ?_
        rintro e w2 ⟨rfl, rfl⟩
        go_wp2_with fail
        refine h3.mono ?_
        rintro e w3 ⟨rfl, rfl⟩
        go_wp2_with fail
        go_ret
        exact ⟨rfl, B1⟩
      · skip
        cases b4
        · go_enter Tryz.func104, Tryz.ntmps104
          go_wp2_with fail
          refine h1.mono ?_
          rintro e w1 ⟨rfl, rfl⟩
          go_wp2_with fail
          refine h2.mono ?_
          rintro e w2 ⟨rfl, rfl⟩
          go_wp2_with fail
          refine h3.mono ?_
          rintro e w3 ⟨rfl, rfl⟩
          go_wp2_with fail
          refine h4.mono ?_
          rintro e w4 ⟨rfl, rfl⟩
          go_wp2_with fail
          go_ret
          exact ⟨rfl, B1⟩
        · skip
          by_cases hd : l ≤ m
          · have d1 : decide (l ≤ m) = true := decide_eq_true hd
            rw [d1]
            clear hd
            go_enter Tryz.func104, Tryz.ntmps104
            go_wp2_with fail
            refine h1.mono ?_
            rintro e w1 ⟨rfl, rfl⟩
            go_wp2_with fail
            refine h2.mono ?_
            rintro e w2 ⟨rfl, rfl⟩
            go_wp2_with fail
            refine h3.mono ?_
            rintro e w3 ⟨rfl, rfl⟩
            go_wp2_with fail
            refine h4.mono ?_
            rintro e w4 ⟨rfl, rfl⟩
            go_wp2_with fail
            go_ret
            exact ⟨rfl, B1⟩
          · have d1 : decide (l ≤ m) = false := decide_eq_false hd
            rw [d1]
            clear hd
            go_enter Tryz.func104, Tryz.ntmps104
            go_wp2_with fail
            refine h1.mono ?_
            rintro e w1 ⟨rfl, rfl⟩
            go_wp2_with fail
            refine h2.mono ?_
            rintro e w2 ⟨rfl, rfl⟩
            go_wp2_with fail
            refine h3.mono ?_
            rintro e w3 ⟨rfl, rfl⟩
            go_wp2_with fail
            refine h4.mono ?_
            rintro e w4 ⟨rfl, rfl⟩
            go_wp2_with fail
            go_ret
            exact ⟨rfl, B1⟩

theorem heldRowRight_any (n : Int) (w : World) : Calls Tryz.prog 106 #[.int .i64 n] w fun e w' => e = .returned (.bool (decide (0 ≤ n ∧ n ≤ 5))) ∧ w' = w := by
  by_cases h1 : 0 ≤ n
  · have d1 : decide (0 ≤ n) = true := decide_eq_true h1
    by_cases h2 : n ≤ 5
    · have d2 : decide (n < 6) = true := decide_eq_true (by omega)
      rw [decide_eq_true (And.intro h1 h2)]
      clear h1 h2
      go_enter Tryz.func106, Tryz.ntmps106
      go_wp2_with fail
      go_ret
      exact ⟨rfl, rfl⟩
    · have d2 : decide (n < 6) = false := decide_eq_false (by omega)
      rw [decide_eq_false (fun h => h2 h.2)]
      clear h1 h2
      go_enter Tryz.func106, Tryz.ntmps106
      go_wp2_with fail
      go_ret
      exact ⟨rfl, rfl⟩
  · have d1 : decide (0 ≤ n) = false := decide_eq_false h1
    rw [decide_eq_false (fun h => h1 h.1)]
    clear h1
    go_enter Tryz.func106, Tryz.ntmps106
    go_wp2_with fail
    go_ret
    exact ⟨rfl, rfl⟩
end Go.Proofs.YtokkeadbkeehgaaGreatDoor
/-
  What cmp.Compare answers for two texts.
-/
namespace Go.Proofs.YtokkeadbkeehgaaGreatDoor
open Go.RowKit Go.Lib
set_option linter.unusedVariables false
set_option maxRecDepth 20000

theorem isNaN_any (s : ByteArray) (w : World) : Calls Tryz.prog 174 #[.string s] w fun e w' => e = .returned (.bool false) ∧ w' = w := by
  go_enter Tryz.func174, Tryz.ntmps174
  go_wp2_with fail
  go_ret
  exact ⟨rfl, rfl⟩
set_option maxHeartbeats 2000000 in
theorem compare_any (a b : ByteArray) (w : World) : Calls Tryz.prog 146 #[.string a, .string b] w fun e w' => e = .returned (.int .i64 (cmpI a b)) ∧ w' = w := by
  have h1 := isNaN_any a w
  have h2 := isNaN_any b w
  rcases cmpI_cases a b with ⟨g1, g2⟩ | ⟨g1, g3, g4, g2⟩ | ⟨g1, g4, g2⟩
  · rw [g2]
    clear g2
    go_enter Tryz.func146, Tryz.ntmps146
    go_wp2_with fail
    refine h1.mono ?_
    rintro e w1 ⟨rfl, rfl⟩
    go_wp2_with fail
    refine h2.mono ?_
    rintro e w1 ⟨rfl, rfl⟩
    go_wp2_with fail
    go_ret
    exact ⟨rfl, rfl⟩
  · rw [g2]
    clear g2
    go_enter Tryz.func146, Tryz.ntmps146
    go_wp2_with fail
    refine h1.mono ?_
    rintro e w1 ⟨rfl, rfl⟩
    go_wp2_with fail
    refine h2.mono ?_
    rintro e w1 ⟨rfl, rfl⟩
    go_wp2_with fail
    go_ret
    exact ⟨rfl, rfl⟩
  · rw [g2]
    have g3 : Op.bytesLess b.toList a.toList = false := by
      have n1 := bl_not a.toList b.toList
      have e1 : a.toList = b.toList := by simpa using g4
      rw [e1] at g1 ⊢; exact g1
    clear g2
    go_enter Tryz.func146, Tryz.ntmps146
    go_wp2_with fail
    refine h1.mono ?_
    rintro e w1 ⟨rfl, rfl⟩
    go_wp2_with fail
    refine h2.mono ?_
    rintro e w1 ⟨rfl, rfl⟩
    go_wp2_with fail
    go_ret
    exact ⟨rfl, rfl⟩
end Go.Proofs.YtokkeadbkeehgaaGreatDoor
/-
  What cmp.Or answers for numbers, and the program's compareRules.
-/
namespace Go.Proofs.YtokkeadbkeehgaaGreatDoor
open Go.RowKit Go.Lib
set_option linter.unusedVariables false
set_option maxRecDepth 20000

/-- The first number that is not 0, or 0. -/
def orI : List Int → Int
  | [] => 0
  | x :: l => if x = 0 then orI l else x
theorem orI_drop (ks : List Int) (k : Nat) (h : k < ks.length) : orI (ks.drop k) = if ks[k] = 0 then orI (ks.drop (k + 1)) else ks[k] := by
  rw [List.drop_eq_getElem_cons h]; rfl
set_option maxHeartbeats 1000000 in
theorem or_any (p : Option Addr) (cap : Nat) (ks : List Int) (w : World) (hp : IntAt w p ks) (hn : ks.length ≤ 1000) :
    Calls Tryz.prog 79 #[.slice p ks.length cap] w fun e w' => e = .returned (.int .i64 (orI ks)) ∧ w' = w := by
  have HP : Hid (IntAt w p ks) := hp
  clear hp
  go_enter Tryz.func79, Tryz.ntmps79
  go_wp2_with fail
  go_loopw [8] (fun i wr => ∃ k : Nat, k ≤ ks.length ∧ i = .int .i64 k ∧ Hid (orI (ks.drop k) = orI ks) ∧ Hid (wr = w)) (fun i _ => ks.length - (Go.RowKit.intOf i).toNat)
  case atStart => exact ⟨0, Nat.zero_le _, rfl, by show _ = _; rfl, rfl⟩
  case round =>
    obtain ⟨k, hk, rfl, HO, HW⟩ := hrel
    have HW := HW.out
    subst HW
    by_cases hlt : k < ks.length
    · obtain ⟨b, off, rfl, hb, hc⟩ := HP.out k hlt
      have j5 : (k : Int) < ks.length := by omega
      have HD : Hid (orI (ks.drop k) = if ks[k] = 0 then orI (ks.drop (k + 1)) else ks[k]) := orI_drop ks k hlt
      rw [HO.out] at HD
      generalize ks[k] = x at *
      by_cases hx : x = 0
      · subst hx
        rw [if_pos rfl] at HD
        go_wp2_with fail
        go_roundw
        case rel => exact ⟨k + 1, by omega, by go_num, HD.out.symm, trivial⟩
        case measure => simp [Go.RowKit.intOf]; omega
      · rw [if_neg hx] at HD
        have d1 : (x == 0) = false := by simpa using hx
        have d2 : (x != 0) = true := by simpa using hx
        clear HO hx
        go_wp2_with fail
        go_ret
        exact ⟨by rw [HD.out]; rfl, rfl⟩
    · have hkk : k = ks.length := by omega
      have HE : Hid (orI ks = 0) := by have := HO.out; rw [hkk, List.drop_length] at this; exact this.symm
      go_wp2_with fail
      go_ret
      exact ⟨by rw [HE.out]; rfl, rfl⟩
theorem orI_two (a b : Int) : orI [a, b] = if a = 0 then b else a := by
  unfold orI orI orI
  by_cases h : a = 0
  · rw [if_pos h, if_pos h]; by_cases h2 : b = 0
    · rw [if_pos h2, h2]
    · rw [if_neg h2]
  · rw [if_neg h, if_neg h]
theorem intAt_two (a b : Int) (w : World) : IntAt (w.alloc (.cells #[.int .i64 a, .int .i64 b] 3)) (some ⟨w.heap.size, 0, none⟩) [a, b] := by
  have hc := (MapKept.heap_alloc w (.cells #[.int .i64 a, .int .i64 b] 3)).1
  have hb : Bxs (w.alloc (.cells #[.int .i64 a, .int .i64 b] 3)) w.heap.size 3 #[.int .i64 a, .int .i64 b] := hc
  intro i hi
  refine ⟨w.heap.size, 0, rfl, Bxs.lt hb, ?_⟩
  rw [Bxs.cell hb]
  match i, hi with
  | 0, _ => rfl
  | 1, _ => rfl
set_option maxHeartbeats 4000000 in
theorem compareRules_any (ak af : ByteArray) (al am : Int) (bk bf : ByteArray) (bl bm : Int) (w : World) :
    Calls Tryz.prog 105 #[.agg #[.string ak, .string af, .int .i64 al, .int .i64 am], .agg #[.string bk, .string bf, .int .i64 bl, .int .i64 bm]] w fun e w' => e = .returned (.int .i64 (crI ak af bk bf)) ∧ Below w.heap.size w w' := by
  obtain ⟨W1, hW1⟩ : ∃ W1, W1 = (w.alloc (.cells #[.string ak, .string af, .int .i64 al, .int .i64 am] 101)).alloc (.cells #[.string bk, .string bf, .int .i64 bl, .int .i64 bm] 101) := ⟨_, rfl⟩
  have HW1 : Hid (W1 = (w.alloc (.cells #[.string ak, .string af, .int .i64 al, .int .i64 am] 101)).alloc (.cells #[.string bk, .string bf, .int .i64 bl, .int .i64 bm] 101)) := hW1
  have B1 : Hid (Below w.heap.size w W1) := by rw [hW1]; exact alB (alB (Below.refl _ _) _) _
  have X1 : Bxs W1 w.heap.size 101 #[.string ak, .string af, .int .i64 al, .int .i64 am] := by
    rw [hW1]; exact (show Bxs _ _ _ _ from (MapKept.heap_alloc w _).1).below ((Below.refl _ _).alloc (Nat.le_refl _) _)
  have X2 : Bxs W1 (w.heap.size + 1) 101 #[.string bk, .string bf, .int .i64 bl, .int .i64 bm] := by
    have h := (MapKept.heap_alloc (w.alloc (.cells #[.string ak, .string af, .int .i64 al, .int .i64 am] 101)) (.cells #[.string bk, .string bf, .int .i64 bl, .int .i64 bm] 101)).1
    rw [hW1]
    have e : (w.alloc (.cells #[.string ak, .string af, .int .i64 al, .int .i64 am] 101)).heap.size = w.heap.size + 1 := by simp
    rw [e] at h; exact h
  have HX : Hid (∀ x, Below W1.heap.size W1 x → x.cell? ⟨w.heap.size, 0, none⟩ = some (.string ak) ∧ x.cell? ⟨w.heap.size, 1, none⟩ = some (.string af) ∧ x.cell? ⟨w.heap.size + 1, 0, none⟩ = some (.string bk) ∧ x.cell? ⟨w.heap.size + 1, 1, none⟩ = some (.string bf)) := fun x hb => by
    have h1 := X1.below hb
    have h2 := X2.below hb
    exact ⟨by rw [h1.cell]; rfl, by rw [h1.cell]; rfl, by rw [h2.cell]; rfl, by rw [h2.cell]; rfl⟩
  have Q1 : Hid (∀ x, Below W1.heap.size W1 x → Calls Tryz.prog 146 #[.string ak, .string bk] x fun e x1 => e = .returned (.int .i64 (cmpI ak bk)) ∧ Below W1.heap.size W1 x1) := fun x hb => (compare_any ak bk x).mono (by rintro e x1 ⟨rfl, rfl⟩; exact ⟨rfl, hb⟩)
  have Q2 : Hid (∀ x, Below W1.heap.size W1 x → Calls Tryz.prog 146 #[.string af, .string bf] x fun e x1 => e = .returned (.int .i64 (cmpI af bf)) ∧ Below W1.heap.size W1 x1) := fun x hb => (compare_any af bf x).mono (by rintro e x1 ⟨rfl, rfl⟩; exact ⟨rfl, hb⟩)
  have QO : Hid (∀ x, Below W1.heap.size W1 x → Calls Tryz.prog 79 #[.slice (some ⟨x.heap.size, 0, none⟩) 2 2] (x.alloc (.cells #[.int .i64 (cmpI ak bk), .int .i64 (cmpI af bf)] 3)) fun e x1 => e = .returned (.int .i64 (crI ak af bk bf)) ∧ Below W1.heap.size W1 x1) := fun x hb => by
    have h := or_any (some ⟨x.heap.size, 0, none⟩) 2 [cmpI ak bk, cmpI af bf] _ (intAt_two (cmpI ak bk) (cmpI af bf) x) (by simp)
    rw [orI_two] at h
    refine h.mono ?_
    rintro e x1 ⟨rfl, rfl⟩
    exact ⟨rfl, alB hb _⟩
  have QO2 : Hid (∀ x, Below W1.heap.size W1 x → Calls Tryz.prog 79 #[.slice (some ⟨x.heap.size, 0, none⟩) 2 2] (x.alloc (.cells #[.int .i64 (cmpI ak bk), .int .i64 (cmpI af bf)] 3)).drew fun e x1 => e = .returned (.int .i64 (crI ak af bk bf)) ∧ Below W1.heap.size W1 x1) := fun x hb => QO.out x.drew hb.drew
  have BR : Hid (Below W1.heap.size W1 W1) := Below.refl _ _
  generalize crI ak af bk bf = O at *
  generalize cmpI ak bk = C1 at *
  generalize cmpI af bf = C2 at *
  clear X1 X2 hW1
  go_enter Tryz.func105, Tryz.ntmps105
  go_wp2_with fail
  rw [← HW1.out]
  first
    | (go_region_held3 (fun w' => w'.cell? ⟨w.heap.size, 0, none⟩ = some (.string ak) ∧ w'.cell? ⟨w.heap.size, 1, none⟩ = some (.string af) ∧ w'.cell? ⟨w.heap.size + 1, 0, none⟩ = some (.string bk) ∧ w'.cell? ⟨w.heap.size + 1, 1, none⟩ = some (.string bf)) ((refine HX.out _ ?hT; (case hT => (with_reducible repeat (first | assumption | exact BR.out | refine Below.drew ?_ | refine alB ?_ _))))) (first
      | (go_at_call 146; with_reducible refine (Q1.out _ ?hB).mono ?_; (case hB => first | exact BR.out | exact BR.out.drew); rintro e x1 ⟨rfl, y1⟩)
      | (go_at_call 146; with_reducible refine (Q2.out _ ?hB).mono ?_; (case hB => first | exact y1 | exact y1.drew); rintro e x2 ⟨rfl, y2⟩)
      | (go_at_call 79; (first | with_reducible refine (QO.out _ ?hB).mono ?_ | with_reducible refine (QO2.out _ ?hB).mono ?_); (case hB => first | exact y2 | exact y2.drew); rintro e x3 ⟨rfl, y3⟩)))
    | fail
  all_goals
    have y6 := chainB B1.out y3
    go_wp2_with fail
    go_ret
    exact ⟨rfl, y6⟩
end Go.Proofs.YtokkeadbkeehgaaGreatDoor
/-
  What the program's PolicyRight answers.
  Conditions: the cells of Rules and Held hold the rules and numbers.
-/
namespace Go.Proofs.YtokkeadbkeehgaaGreatDoor
open Go.RowKit Go.Lib
set_option linter.unusedVariables false
set_option maxRecDepth 20000

def rusB (rs : List Rul) : Bool := decide (rs.length ≤ 6) && okL ruB ruLt rs
theorem rusB_not_all {rs : List Rul} {i : Nat} (hi : i < rs.length) (h : ruB rs[i] = false) : rusB rs = false := by unfold rusB; rw [okL_not_all hi h]; simp
theorem rusB_not_rise {rs : List Rul} {i : Nat} (h0 : 0 < i) (hi : i < rs.length) (h : ruLt (rs[i - 1]'(by omega)) rs[i] = false) : rusB rs = false := by unfold rusB; rw [okL_not_rise h0 hi h]; simp
set_option maxHeartbeats 8000000 in
theorem rulesRight_any (p1 : Option Addr) (c1 : Nat) (rs : List Rul) (w : World) (hr : RulAt w p1 rs) (hn1 : rs.length ≤ 1048576) (hc1 : rs.length ≤ c1) (hz : RulsLe rs) :
    Calls Tryz.prog 73 #[.slice p1 rs.length c1] w fun e w' => e = .returned (.bool (rusB rs)) ∧ Below w.heap.size w w' := by
  have HT : Hid (RulAt w p1 rs) := hr
  clear hr
  by_cases h6 : 6 < rs.length
  · have d1 : decide (6 < (rs.length : Int)) = true := decide_eq_true (by omega)
    have HV : Hid (rusB rs = false) := by show _ = _; unfold rusB; rw [decide_eq_false (by omega)]; rfl
    rw [HV.out]
    go_enter Tryz.func73, Tryz.ntmps73
    go_wp2_with fail
    go_ret
    exact ⟨rfl, Below.refl _ _⟩
  have d1 : decide (6 < (rs.length : Int)) = false := decide_eq_false (by omega)
  go_enter Tryz.func73, Tryz.ntmps73
  go_wp2_with fail
  go_loopw [10] (fun i wr => ∃ k : Nat, k ≤ rs.length ∧ i = .int .i64 k ∧ Hid (Below w.heap.size w wr) ∧ Hid (∀ j (h : j < rs.length), j < k → ruB rs[j] = true) ∧ Hid (∀ j (h0 : 0 < j) (h : j < rs.length), j < k → ruLt (rs[j - 1]'(by omega)) rs[j] = true)) (fun i _ => rs.length - (Go.RowKit.intOf i).toNat)
  case atStart => exact ⟨0, Nat.zero_le _, rfl, Below.refl _ _, fun j h hk => by omega, fun j h0 h hk => by omega⟩
  case round =>
    obtain ⟨i, hi, rfl, HB, HF, HG⟩ := hrel
    by_cases hlt : i < rs.length
    · have i1 : (i : Int) < rs.length := by omega
      obtain ⟨b, off, rfl, hb0⟩ := HT.out.some_of (by omega)
      have hzi := hz _ (List.getElem_mem hlt)
      have HC : Hid (∀ x, Below wr.heap.size wr x → x.cell? ⟨b, off + i * 4, none⟩ = some (.string rs[i].k) ∧ x.cell? ⟨b, off + i * 4 + 1, none⟩ = some (.string rs[i].f) ∧ x.cell? ⟨b, off + i * 4 + 2, none⟩ = some (.int .i64 rs[i].l) ∧ x.cell? ⟨b, off + i * 4 + 3, none⟩ = some (.int .i64 rs[i].m)) := fun x hx => ((HT.out.below HB.out).below hx).at i hlt
      have HQ : Hid (∀ x, Calls Tryz.prog 104 #[.agg #[.string rs[i].k, .string rs[i].f, .int .i64 rs[i].l, .int .i64 rs[i].m]] x fun e w' => e = .returned (.bool (rulB rs[i].k rs[i].f rs[i].l rs[i].m)) ∧ Below x.heap.size x w') := fun x => ruleRight_any rs[i].k rs[i].f rs[i].l rs[i].m x hzi.1 hzi.2
      
      have HF1 : Hid (ruB rs[i] = true → ∀ j (h : j < rs.length), j < i + 1 → ruB rs[j] = true) := fun h0 j h hj => if he : j = i then by subst he; exact h0 else HF.out j h (by omega)
      have HN1 : Hid (ruB rs[i] = false → rusB rs = false) := fun h0 => rusB_not_all hlt h0
      have HE : Hid (ruB rs[i] = rulB rs[i].k rs[i].f rs[i].l rs[i].m) := rfl
      cases hfd : ruB rs[i] with
      | false =>
        have HV : Hid (rusB rs = false) := HN1.out hfd
        rw [← HE.out, hfd] at HQ
        generalize rs[i].k = fk at *
        generalize rs[i].f = ff at *
        generalize rs[i].l = fl at *
        generalize rs[i].m = fm at *
        clear HF1 HN1 HF HG hfd hzi HE
        obtain ⟨c0, c1, c2, c3⟩ := HC.out wr (Below.refl _ _)
        go_upto_region 6 with fail
        obtain ⟨y0, hy0⟩ : ∃ y0, y0 = wr.alloc (.cells #[.string fk, .string ff, .int .i64 fl, .int .i64 fm] 101) := ⟨_, rfl⟩
        rw [← hy0]
        have BY : Hid (Below wr.heap.size wr y0) := by rw [hy0]; exact (Below.refl _ _).alloc (Nat.le_refl _) _
        have KY : Hid (Bxs y0 wr.heap.size 101 #[.string fk, .string ff, .int .i64 fl, .int .i64 fm]) := by rw [hy0]; exact Bxs.new _ _ _
        have HY : Hid (∀ x, Below y0.heap.size y0 x → x.cell? ⟨wr.heap.size, 0, none⟩ = some (.string fk) ∧ x.cell? ⟨wr.heap.size, 1, none⟩ = some (.string ff) ∧ x.cell? ⟨wr.heap.size, 2, none⟩ = some (.int .i64 fl) ∧ x.cell? ⟨wr.heap.size, 3, none⟩ = some (.int .i64 fm)) := fun x hx => ⟨(KY.out.below hx).cell 0, (KY.out.below hx).cell 1, (KY.out.below hx).cell 2, (KY.out.below hx).cell 3⟩
        have BR : Hid (Below y0.heap.size y0 y0.drew) := (Below.refl _ _).drew
        clear hy0 c0 c1 c2 c3
        refine wp_region_held_drew (S := (fun w' => w'.cell? ⟨wr.heap.size, 0, none⟩ = some (Value.string fk) ∧ w'.cell? ⟨wr.heap.size, 1, none⟩ = some (.string ff) ∧ w'.cell? ⟨wr.heap.size, 2, none⟩ = some (.int .i64 fl) ∧ w'.cell? ⟨wr.heap.size, 3, none⟩ = some (.int .i64 fm))) (by kernel_rfl) (HY.out _ BR.out) (fun hHeld => ?_)
        refine take_at 0 (v := ?_) rfl (by kernel_rfl) (by kernel_rfl) (by kernel_rfl) (fun _ _ _ h => h) hHeld (Or.inl ⟨by rfl, ?_⟩) ?_
        rotate_left
        · (intro w hSw; (try dsimp only at hSw); go_simp; try with_reducible rfl)
        simp only [Act.put, List.setIfInBounds_toArray, List.set_cons_zero, List.set_cons_succ]
        refine ready_at 1 rfl (by kernel_rfl) (fun K hK => ?_)
        go_simp
        (go_at_call 104; with_reducible refine (HQ.out _).mono ?_; rintro e y1 ⟨rfl, z0⟩; have z1 : Below y0.heap.size y0 y1 := chainB BR.out z0)
        refine hK.out _ _ (HY.out _ z1) (fun hHeld => ?_)
        clear hK K
        try simp only [Act.put, List.setIfInBounds_toArray, List.set_cons_zero, List.set_cons_succ]
        refine take_at 2 (v := ?_) rfl (by kernel_rfl) (by kernel_rfl) (by kernel_rfl) (fun _ _ _ h => h) hHeld (Or.inl ⟨by rfl, ?_⟩) ?_
        rotate_left
        · (intro w hSw; (try dsimp only at hSw); go_simp; try with_reducible rfl)
        simp only [Act.put, List.setIfInBounds_toArray, List.set_cons_zero, List.set_cons_succ]
        refine take_at 3 (v := ?_) rfl (by kernel_rfl) (by kernel_rfl) (by kernel_rfl) (fun _ _ _ h => h) hHeld (Or.inl ⟨by rfl, ?_⟩) ?_
        rotate_left
        · (intro w hSw; (try dsimp only at hSw); go_simp; try with_reducible rfl)
        simp only [Act.put, List.setIfInBounds_toArray, List.set_cons_zero, List.set_cons_succ]
        refine take_at 4 (v := undef) rfl (by kernel_rfl) (by kernel_rfl) (by kernel_rfl) (fun _ _ _ h => h) hHeld (Or.inr ⟨by rfl, rfl⟩) ?_
        simp only [Act.put, List.setIfInBounds_toArray, List.set_cons_zero, List.set_cons_succ]
        refine take_at 5 (v := undef) rfl (by kernel_rfl) (by kernel_rfl) (by kernel_rfl) (fun _ _ _ h => h) hHeld (Or.inr ⟨by rfl, rfl⟩) ?_
        simp only [Act.put, List.setIfInBounds_toArray, List.set_cons_zero, List.set_cons_succ]
        refine take_at 6 (v := undef) rfl (by kernel_rfl) (by kernel_rfl) (by kernel_rfl) (fun _ _ _ h => h) hHeld (Or.inr ⟨by rfl, rfl⟩) ?_
        simp only [Act.put, List.setIfInBounds_toArray, List.set_cons_zero, List.set_cons_succ]
        refine take_at 7 (v := undef) rfl (by kernel_rfl) (by kernel_rfl) (by kernel_rfl) (fun _ _ _ h => h) hHeld (Or.inr ⟨by rfl, rfl⟩) ?_
        simp only [Act.put, List.setIfInBounds_toArray, List.set_cons_zero, List.set_cons_succ]
        refine take_at 8 (v := undef) rfl (by kernel_rfl) (by kernel_rfl) (by kernel_rfl) (fun _ _ _ h => h) hHeld (Or.inr ⟨by rfl, rfl⟩) ?_
        simp only [Act.put, List.setIfInBounds_toArray, List.set_cons_zero, List.set_cons_succ]
        refine take_at 9 (v := undef) rfl (by kernel_rfl) (by kernel_rfl) (by kernel_rfl) (fun _ _ _ h => h) hHeld (Or.inr ⟨by rfl, rfl⟩) ?_
        simp only [Act.put, List.setIfInBounds_toArray, List.set_cons_zero, List.set_cons_succ]
        refine take_at 10 (v := undef) rfl (by kernel_rfl) (by kernel_rfl) (by kernel_rfl) (fun _ _ _ h => h) hHeld (Or.inr ⟨by rfl, rfl⟩) ?_
        simp only [Act.put, List.setIfInBounds_toArray, List.set_cons_zero, List.set_cons_succ]
        refine take_at 11 (v := undef) rfl (by kernel_rfl) (by kernel_rfl) (by kernel_rfl) (fun _ _ _ h => h) hHeld (Or.inr ⟨by rfl, rfl⟩) ?_
        simp only [Act.put, List.setIfInBounds_toArray, List.set_cons_zero, List.set_cons_succ]
        refine take_at 12 (v := undef) rfl (by kernel_rfl) (by kernel_rfl) (by kernel_rfl) (fun _ _ _ h => h) hHeld (Or.inr ⟨by rfl, rfl⟩) ?_
        simp only [Act.put, List.setIfInBounds_toArray, List.set_cons_zero, List.set_cons_succ]
        refine take_at 13 (v := undef) rfl (by kernel_rfl) (by kernel_rfl) (by kernel_rfl) (fun _ _ _ h => h) hHeld (Or.inr ⟨by rfl, rfl⟩) ?_
        simp only [Act.put, List.setIfInBounds_toArray, List.set_cons_zero, List.set_cons_succ]
        refine take_at 14 (v := undef) rfl (by kernel_rfl) (by kernel_rfl) (by kernel_rfl) (fun _ _ _ h => h) hHeld (Or.inr ⟨by rfl, rfl⟩) ?_
        simp only [Act.put, List.setIfInBounds_toArray, List.set_cons_zero, List.set_cons_succ]
        refine take_at 15 (v := undef) rfl (by kernel_rfl) (by kernel_rfl) (by kernel_rfl) (fun _ _ _ h => h) hHeld (Or.inr ⟨by rfl, rfl⟩) ?_
        simp only [Act.put, List.setIfInBounds_toArray, List.set_cons_zero, List.set_cons_succ]
        refine take_at 16 (v := ?_) rfl (by kernel_rfl) (by kernel_rfl) (by kernel_rfl) (fun _ _ _ h => h) hHeld (Or.inl ⟨by rfl, ?_⟩) ?_
        rotate_left
        · (intro w hSw; (try dsimp only at hSw); go_simp; try with_reducible rfl)
        simp only [Act.put, List.setIfInBounds_toArray, List.set_cons_zero, List.set_cons_succ]
        refine wpAnyH_done (by kernel_rfl) ?_ _
        go_wp2_with fail
        go_ret
        exact ⟨ret_bool HV.out.symm, chainB HB.out (chainB BY.out z1)⟩
      | true =>
      have HF2 : Hid (∀ j (h : j < rs.length), j < i + 1 → ruB rs[j] = true) := HF1.out hfd
      rw [← HE.out, hfd] at HQ
      by_cases h0 : i = 0
      · have HG2 : Hid (∀ j (h0 : 0 < j) (h : j < rs.length), j < i + 1 → ruLt (rs[j - 1]'(by omega)) rs[j] = true) := fun j h1 h hj => by omega
        have hd0 : decide (0 < (i : Int)) = false := decide_eq_false (by omega)
        have hd0n : decide (0 < i) = false := decide_eq_false (by omega)
        generalize rs[i].k = fk at *
        generalize rs[i].f = ff at *
        generalize rs[i].l = fl at *
        generalize rs[i].m = fm at *
        clear HF1 HN1 HF HG hfd hzi h0 HE
        obtain ⟨c0, c1, c2, c3⟩ := HC.out wr (Below.refl _ _)
        go_upto_region 6 with fail
        obtain ⟨y0, hy0⟩ : ∃ y0, y0 = wr.alloc (.cells #[.string fk, .string ff, .int .i64 fl, .int .i64 fm] 101) := ⟨_, rfl⟩
        rw [← hy0]
        have BY : Hid (Below wr.heap.size wr y0) := by rw [hy0]; exact (Below.refl _ _).alloc (Nat.le_refl _) _
        have KY : Hid (Bxs y0 wr.heap.size 101 #[.string fk, .string ff, .int .i64 fl, .int .i64 fm]) := by rw [hy0]; exact Bxs.new _ _ _
        have HY : Hid (∀ x, Below y0.heap.size y0 x → x.cell? ⟨wr.heap.size, 0, none⟩ = some (.string fk) ∧ x.cell? ⟨wr.heap.size, 1, none⟩ = some (.string ff) ∧ x.cell? ⟨wr.heap.size, 2, none⟩ = some (.int .i64 fl) ∧ x.cell? ⟨wr.heap.size, 3, none⟩ = some (.int .i64 fm)) := fun x hx => ⟨(KY.out.below hx).cell 0, (KY.out.below hx).cell 1, (KY.out.below hx).cell 2, (KY.out.below hx).cell 3⟩
        have BR : Hid (Below y0.heap.size y0 y0.drew) := (Below.refl _ _).drew
        clear hy0 c0 c1 c2 c3
        refine wp_region_held_drew (S := (fun w' => w'.cell? ⟨wr.heap.size, 0, none⟩ = some (Value.string fk) ∧ w'.cell? ⟨wr.heap.size, 1, none⟩ = some (.string ff) ∧ w'.cell? ⟨wr.heap.size, 2, none⟩ = some (.int .i64 fl) ∧ w'.cell? ⟨wr.heap.size, 3, none⟩ = some (.int .i64 fm))) (by kernel_rfl) (HY.out _ BR.out) (fun hHeld => ?_)
        refine take_at 0 (v := ?_) rfl (by kernel_rfl) (by kernel_rfl) (by kernel_rfl) (fun _ _ _ h => h) hHeld (Or.inl ⟨by rfl, ?_⟩) ?_
        rotate_left
        · (intro w hSw; (try dsimp only at hSw); go_simp; try with_reducible rfl)
        simp only [Act.put, List.setIfInBounds_toArray, List.set_cons_zero, List.set_cons_succ]
        refine ready_at 1 rfl (by kernel_rfl) (fun K hK => ?_)
        go_simp
        (go_at_call 104; with_reducible refine (HQ.out _).mono ?_; rintro e y1 ⟨rfl, z0⟩; have z1 : Below y0.heap.size y0 y1 := chainB BR.out z0)
        refine hK.out _ _ (HY.out _ z1) (fun hHeld => ?_)
        clear hK K
        try simp only [Act.put, List.setIfInBounds_toArray, List.set_cons_zero, List.set_cons_succ]
        refine take_at 2 (v := ?_) rfl (by kernel_rfl) (by kernel_rfl) (by kernel_rfl) (fun _ _ _ h => h) hHeld (Or.inl ⟨by rfl, ?_⟩) ?_
        rotate_left
        · (intro w hSw; (try dsimp only at hSw); go_simp; try with_reducible rfl)
        simp only [Act.put, List.setIfInBounds_toArray, List.set_cons_zero, List.set_cons_succ]
        refine take_at 3 (v := ?_) rfl (by kernel_rfl) (by kernel_rfl) (by kernel_rfl) (fun _ _ _ h => h) hHeld (Or.inl ⟨by rfl, ?_⟩) ?_
        rotate_left
        · (intro w hSw; (try dsimp only at hSw); go_simp; try with_reducible rfl)
        simp only [Act.put, List.setIfInBounds_toArray, List.set_cons_zero, List.set_cons_succ]
        refine take_at 4 (v := ?_) rfl (by kernel_rfl) (by kernel_rfl) (by kernel_rfl) (fun _ _ _ h => h) hHeld (Or.inl ⟨by rfl, ?_⟩) ?_
        rotate_left
        · (intro w hSw; (try dsimp only at hSw); go_simp; try with_reducible rfl)
        simp only [Act.put, List.setIfInBounds_toArray, List.set_cons_zero, List.set_cons_succ]
        refine take_at 5 (v := ?_) rfl (by kernel_rfl) (by kernel_rfl) (by kernel_rfl) (fun _ _ _ h => h) hHeld (Or.inl ⟨by rfl, ?_⟩) ?_
        rotate_left
        · (intro w hSw; (try dsimp only at hSw); go_simp; try with_reducible rfl)
        simp only [Act.put, List.setIfInBounds_toArray, List.set_cons_zero, List.set_cons_succ]
        refine take_at 6 (v := ?_) rfl (by kernel_rfl) (by kernel_rfl) (by kernel_rfl) (fun _ _ _ h => h) hHeld (Or.inl ⟨by rfl, ?_⟩) ?_
        rotate_left
        · (intro w hSw; (try dsimp only at hSw); go_simp; try with_reducible rfl)
        simp only [Act.put, List.setIfInBounds_toArray, List.set_cons_zero, List.set_cons_succ]
        refine take_at 7 (v := undef) rfl (by kernel_rfl) (by kernel_rfl) (by kernel_rfl) (fun _ _ _ h => h) hHeld (Or.inr ⟨by rfl, rfl⟩) ?_
        simp only [Act.put, List.setIfInBounds_toArray, List.set_cons_zero, List.set_cons_succ]
        refine take_at 8 (v := undef) rfl (by kernel_rfl) (by kernel_rfl) (by kernel_rfl) (fun _ _ _ h => h) hHeld (Or.inr ⟨by rfl, rfl⟩) ?_
        simp only [Act.put, List.setIfInBounds_toArray, List.set_cons_zero, List.set_cons_succ]
        refine take_at 9 (v := undef) rfl (by kernel_rfl) (by kernel_rfl) (by kernel_rfl) (fun _ _ _ h => h) hHeld (Or.inr ⟨by rfl, rfl⟩) ?_
        simp only [Act.put, List.setIfInBounds_toArray, List.set_cons_zero, List.set_cons_succ]
        refine take_at 10 (v := undef) rfl (by kernel_rfl) (by kernel_rfl) (by kernel_rfl) (fun _ _ _ h => h) hHeld (Or.inr ⟨by rfl, rfl⟩) ?_
        simp only [Act.put, List.setIfInBounds_toArray, List.set_cons_zero, List.set_cons_succ]
        refine take_at 11 (v := undef) rfl (by kernel_rfl) (by kernel_rfl) (by kernel_rfl) (fun _ _ _ h => h) hHeld (Or.inr ⟨by rfl, rfl⟩) ?_
        simp only [Act.put, List.setIfInBounds_toArray, List.set_cons_zero, List.set_cons_succ]
        refine take_at 12 (v := undef) rfl (by kernel_rfl) (by kernel_rfl) (by kernel_rfl) (fun _ _ _ h => h) hHeld (Or.inr ⟨by rfl, rfl⟩) ?_
        simp only [Act.put, List.setIfInBounds_toArray, List.set_cons_zero, List.set_cons_succ]
        refine take_at 13 (v := undef) rfl (by kernel_rfl) (by kernel_rfl) (by kernel_rfl) (fun _ _ _ h => h) hHeld (Or.inr ⟨by rfl, rfl⟩) ?_
        simp only [Act.put, List.setIfInBounds_toArray, List.set_cons_zero, List.set_cons_succ]
        refine take_at 14 (v := undef) rfl (by kernel_rfl) (by kernel_rfl) (by kernel_rfl) (fun _ _ _ h => h) hHeld (Or.inr ⟨by rfl, rfl⟩) ?_
        simp only [Act.put, List.setIfInBounds_toArray, List.set_cons_zero, List.set_cons_succ]
        refine take_at 15 (v := ?_) rfl (by kernel_rfl) (by kernel_rfl) (by kernel_rfl) (fun _ _ _ h => h) hHeld (Or.inl ⟨by rfl, ?_⟩) ?_
        rotate_left
        · (intro w hSw; (try dsimp only at hSw); go_simp; try with_reducible rfl)
        simp only [Act.put, List.setIfInBounds_toArray, List.set_cons_zero, List.set_cons_succ]
        refine take_at 16 (v := ?_) rfl (by kernel_rfl) (by kernel_rfl) (by kernel_rfl) (fun _ _ _ h => h) hHeld (Or.inl ⟨by rfl, ?_⟩) ?_
        rotate_left
        · (intro w hSw; (try dsimp only at hSw); go_simp; try with_reducible rfl)
        simp only [Act.put, List.setIfInBounds_toArray, List.set_cons_zero, List.set_cons_succ]
        refine wpAnyH_done (by kernel_rfl) ?_ _
        have HB2 : Hid (Below w.heap.size w y1) := chainB HB.out (chainB BY.out z1)
        go_wp2_with fail
        go_roundw
        case rel => exact ⟨i + 1, by omega, by go_num, HB2, HF2, HG2⟩
        case measure => simp [Go.RowKit.intOf]; omega
      · have hd0 : decide (0 < (i : Int)) = true := decide_eq_true (by omega)
        have hd0n : decide (0 < i) = true := decide_eq_true (by omega)
        have HG1 : Hid (ruLt (rs[i - 1]'(by omega)) rs[i] = true → ∀ j (h0 : 0 < j) (h : j < rs.length), j < i + 1 → ruLt (rs[j - 1]'(by omega)) rs[j] = true) := fun h1 j h2 h hj => if he : j = i then by subst he; exact h1 else HG.out j h2 h (by omega)
        have HN2 : Hid (ruLt (rs[i - 1]'(by omega)) rs[i] = false → rusB rs = false) := fun h1 => rusB_not_rise (by omega) hlt h1
        obtain ⟨m, hm⟩ : ∃ m, i = m + 1 := ⟨i - 1, by omega⟩
        have him : m < rs.length := by omega
        have hwr : IntKind.i64.wrap ((i : Int) - 1) = (m : Int) := by rw [IntKind.wrap_i64]; omega
        have im1 : (m : Int) < rs.length := by omega
        have HG1 : Hid (ruLt rs[m] rs[i] = true → ∀ j (h0 : 0 < j) (h : j < rs.length), j < i + 1 → ruLt (rs[j - 1]'(by omega)) rs[j] = true) := fun h1 => HG1.out (by simpa only [hm, Nat.add_sub_cancel] using h1)
        have HN2 : Hid (ruLt rs[m] rs[i] = false → rusB rs = false) := fun h1 => HN2.out (by simpa only [hm, Nat.add_sub_cancel] using h1)
        have HCm : Hid (∀ x, Below wr.heap.size wr x → x.cell? ⟨b, off + m * 4, none⟩ = some (.string rs[m].k) ∧ x.cell? ⟨b, off + m * 4 + 1, none⟩ = some (.string rs[m].f) ∧ x.cell? ⟨b, off + m * 4 + 2, none⟩ = some (.int .i64 rs[m].l) ∧ x.cell? ⟨b, off + m * 4 + 3, none⟩ = some (.int .i64 rs[m].m)) := fun x hx => ((HT.out.below HB.out).below hx).at m him
        have HQL : Hid (∀ x, Calls Tryz.prog 105 #[.agg #[.string rs[m].k, .string rs[m].f, .int .i64 rs[m].l, .int .i64 rs[m].m], .agg #[.string rs[i].k, .string rs[i].f, .int .i64 rs[i].l, .int .i64 rs[i].m]] x fun e w' => e = .returned (.int .i64 (crI rs[m].k rs[m].f rs[i].k rs[i].f)) ∧ Below x.heap.size x w') := fun x => compareRules_any _ _ _ _ _ _ _ _ x
        have HL : Hid (ruLt rs[m] rs[i] = rlLess rs[m].k rs[m].f rs[i].k rs[i].f) := rfl
        cases hls : ruLt rs[m] rs[i] with
        | true =>
          have HG2 : Hid (∀ j (h0 : 0 < j) (h : j < rs.length), j < i + 1 → ruLt (rs[j - 1]'(by omega)) rs[j] = true) := HG1.out hls
          have hls2 : rlLess rs[m].k rs[m].f rs[i].k rs[i].f = true := hls
          have hci : decide (0 ≤ crI rs[m].k rs[m].f rs[i].k rs[i].f) = false := by rw [crI_less, hls2]; rfl
          generalize crI rs[m].k rs[m].f rs[i].k rs[i].f = cr at *
          generalize rs[m].k = gk at *
          generalize rs[m].f = gf at *
          generalize rs[m].l = gl at *
          generalize rs[m].m = gm at *
          generalize rs[i].k = fk at *
          generalize rs[i].f = ff at *
          generalize rs[i].l = fl at *
          generalize rs[i].m = fm at *
          clear HF1 HN1 HF HG hfd hzi h0 HE hls hls2 HL HG1 HN2 hm
          obtain ⟨c0, c1, c2, c3⟩ := HC.out wr (Below.refl _ _)
          go_upto_region 6 with fail
          obtain ⟨y0, hy0⟩ : ∃ y0, y0 = wr.alloc (.cells #[.string fk, .string ff, .int .i64 fl, .int .i64 fm] 101) := ⟨_, rfl⟩
          rw [← hy0]
          have BY : Hid (Below wr.heap.size wr y0) := by rw [hy0]; exact (Below.refl _ _).alloc (Nat.le_refl _) _
          have KY : Hid (Bxs y0 wr.heap.size 101 #[.string fk, .string ff, .int .i64 fl, .int .i64 fm]) := by rw [hy0]; exact Bxs.new _ _ _
          have HY : Hid (∀ x, Below y0.heap.size y0 x → x.cell? ⟨wr.heap.size, 0, none⟩ = some (.string fk) ∧ x.cell? ⟨wr.heap.size, 1, none⟩ = some (.string ff) ∧ x.cell? ⟨wr.heap.size, 2, none⟩ = some (.int .i64 fl) ∧ x.cell? ⟨wr.heap.size, 3, none⟩ = some (.int .i64 fm)) := fun x hx => ⟨(KY.out.below hx).cell 0, (KY.out.below hx).cell 1, (KY.out.below hx).cell 2, (KY.out.below hx).cell 3⟩
          have BR : Hid (Below y0.heap.size y0 y0.drew) := (Below.refl _ _).drew
          clear hy0 c0 c1 c2 c3
          refine wp_region_held_drew (S := (fun w' => (w'.cell? ⟨b, off + m * 4, none⟩ = some (Value.string gk) ∧ w'.cell? ⟨b, off + m * 4 + 1, none⟩ = some (.string gf) ∧ w'.cell? ⟨b, off + m * 4 + 2, none⟩ = some (.int .i64 gl) ∧ w'.cell? ⟨b, off + m * 4 + 3, none⟩ = some (.int .i64 gm)) ∧ w'.cell? ⟨wr.heap.size, 0, none⟩ = some (Value.string fk) ∧ w'.cell? ⟨wr.heap.size, 1, none⟩ = some (.string ff) ∧ w'.cell? ⟨wr.heap.size, 2, none⟩ = some (.int .i64 fl) ∧ w'.cell? ⟨wr.heap.size, 3, none⟩ = some (.int .i64 fm))) (by kernel_rfl) (⟨HCm.out _ (chainB BY.out BR.out), HY.out _ BR.out⟩) (fun hHeld => ?_)
          refine take_at 0 (v := ?_) rfl (by kernel_rfl) (by kernel_rfl) (by kernel_rfl) (fun _ _ _ h => h) hHeld (Or.inl ⟨by rfl, ?_⟩) ?_
          rotate_left
          · (intro w hSw; (try dsimp only at hSw); go_simp; try with_reducible rfl)
          simp only [Act.put, List.setIfInBounds_toArray, List.set_cons_zero, List.set_cons_succ]
          refine ready_at 1 rfl (by kernel_rfl) (fun K hK => ?_)
          go_simp
          (go_at_call 104; with_reducible refine (HQ.out _).mono ?_; rintro e y1 ⟨rfl, z0⟩; have z1 : Below y0.heap.size y0 y1 := chainB BR.out z0)
          refine hK.out _ _ (⟨HCm.out _ (chainB BY.out z1), HY.out _ z1⟩) (fun hHeld => ?_)
          clear hK K
          try simp only [Act.put, List.setIfInBounds_toArray, List.set_cons_zero, List.set_cons_succ]
          refine take_at 2 (v := ?_) rfl (by kernel_rfl) (by kernel_rfl) (by kernel_rfl) (fun _ _ _ h => h) hHeld (Or.inl ⟨by rfl, ?_⟩) ?_
          rotate_left
          · (intro w hSw; (try dsimp only at hSw); go_simp; try with_reducible rfl)
          simp only [Act.put, List.setIfInBounds_toArray, List.set_cons_zero, List.set_cons_succ]
          refine take_at 3 (v := ?_) rfl (by kernel_rfl) (by kernel_rfl) (by kernel_rfl) (fun _ _ _ h => h) hHeld (Or.inl ⟨by rfl, ?_⟩) ?_
          rotate_left
          · (intro w hSw; (try dsimp only at hSw); go_simp; try with_reducible rfl)
          simp only [Act.put, List.setIfInBounds_toArray, List.set_cons_zero, List.set_cons_succ]
          refine take_at 4 (v := ?_) rfl (by kernel_rfl) (by kernel_rfl) (by kernel_rfl) (fun _ _ _ h => h) hHeld (Or.inl ⟨by rfl, ?_⟩) ?_
          rotate_left
          · (intro w hSw; (try dsimp only at hSw); go_simp; try with_reducible rfl)
          simp only [Act.put, List.setIfInBounds_toArray, List.set_cons_zero, List.set_cons_succ]
          refine take_at 5 (v := ?_) rfl (by kernel_rfl) (by kernel_rfl) (by kernel_rfl) (fun _ _ _ h => h) hHeld (Or.inl ⟨by rfl, ?_⟩) ?_
          rotate_left
          · (intro w hSw; (try dsimp only at hSw); go_simp; try with_reducible rfl)
          simp only [Act.put, List.setIfInBounds_toArray, List.set_cons_zero, List.set_cons_succ]
          refine take_at 6 (v := ?_) rfl (by kernel_rfl) (by kernel_rfl) (by kernel_rfl) (fun _ _ _ h => h) hHeld (Or.inl ⟨by rfl, ?_⟩) ?_
          rotate_left
          · (intro w hSw; (try dsimp only at hSw); go_simp; try with_reducible rfl)
          simp only [Act.put, List.setIfInBounds_toArray, List.set_cons_zero, List.set_cons_succ]
          refine take_at 7 (v := ?_) rfl (by kernel_rfl) (by kernel_rfl) (by kernel_rfl) (fun _ _ _ h => h) hHeld (Or.inl ⟨by rfl, ?_⟩) ?_
          rotate_left
          · (intro w hSw; (try dsimp only at hSw); go_simp; try with_reducible rfl)
          simp only [Act.put, List.setIfInBounds_toArray, List.set_cons_zero, List.set_cons_succ]
          refine take_at 8 (v := ?_) rfl (by kernel_rfl) (by kernel_rfl) (by kernel_rfl) (fun _ _ _ h => h) hHeld (Or.inl ⟨by rfl, ?_⟩) ?_
          rotate_left
          · (intro w hSw; (try dsimp only at hSw); go_simp; try with_reducible rfl)
          simp only [Act.put, List.setIfInBounds_toArray, List.set_cons_zero, List.set_cons_succ]
          refine take_at 9 (v := ?_) rfl (by kernel_rfl) (by kernel_rfl) (by kernel_rfl) (fun _ _ _ h => h) hHeld (Or.inl ⟨by rfl, ?_⟩) ?_
          rotate_left
          · (intro w hSw; (try dsimp only at hSw); go_simp; try with_reducible rfl)
          simp only [Act.put, List.setIfInBounds_toArray, List.set_cons_zero, List.set_cons_succ]
          refine take_at 10 (v := ?_) rfl (by kernel_rfl) (by kernel_rfl) (by kernel_rfl) (fun _ _ _ h => h) hHeld (Or.inl ⟨by rfl, ?_⟩) ?_
          rotate_left
          · (intro w hSw; (try dsimp only at hSw); go_simp; try with_reducible rfl)
          simp only [Act.put, List.setIfInBounds_toArray, List.set_cons_zero, List.set_cons_succ]
          refine take_at 11 (v := ?_) rfl (by kernel_rfl) (by kernel_rfl) (by kernel_rfl) (fun _ _ _ h => h) hHeld (Or.inl ⟨by rfl, ?_⟩) ?_
          rotate_left
          · (intro w hSw; (try dsimp only at hSw); go_simp; try with_reducible rfl)
          simp only [Act.put, List.setIfInBounds_toArray, List.set_cons_zero, List.set_cons_succ]
          refine take_at 12 (v := ?_) rfl (by kernel_rfl) (by kernel_rfl) (by kernel_rfl) (fun _ _ _ h => h) hHeld (Or.inl ⟨by rfl, ?_⟩) ?_
          rotate_left
          · (intro w hSw; (try dsimp only at hSw); go_simp; try with_reducible rfl)
          simp only [Act.put, List.setIfInBounds_toArray, List.set_cons_zero, List.set_cons_succ]
          refine ready_at 13 rfl (by kernel_rfl) (fun K hK => ?_)
          go_simp
          (go_at_call 105; with_reducible refine (HQL.out _).mono ?_; rintro e y2 ⟨rfl, z3⟩; have z2 : Below y0.heap.size y0 y2 := chainB z1 z3)
          refine hK.out _ _ (⟨HCm.out _ (chainB BY.out z2), HY.out _ z2⟩) (fun hHeld => ?_)
          clear hK K
          try simp only [Act.put, List.setIfInBounds_toArray, List.set_cons_zero, List.set_cons_succ]
          refine take_at 14 (v := ?_) rfl (by kernel_rfl) (by kernel_rfl) (by kernel_rfl) (fun _ _ _ h => h) hHeld (Or.inl ⟨by rfl, ?_⟩) ?_
          rotate_left
          · (intro w hSw; (try dsimp only at hSw); go_simp; try with_reducible rfl)
          simp only [Act.put, List.setIfInBounds_toArray, List.set_cons_zero, List.set_cons_succ]
          refine take_at 15 (v := ?_) rfl (by kernel_rfl) (by kernel_rfl) (by kernel_rfl) (fun _ _ _ h => h) hHeld (Or.inl ⟨by rfl, ?_⟩) ?_
          rotate_left
          · (intro w hSw; (try dsimp only at hSw); go_simp; try with_reducible rfl)
          simp only [Act.put, List.setIfInBounds_toArray, List.set_cons_zero, List.set_cons_succ]
          refine take_at 16 (v := ?_) rfl (by kernel_rfl) (by kernel_rfl) (by kernel_rfl) (fun _ _ _ h => h) hHeld (Or.inl ⟨by rfl, ?_⟩) ?_
          rotate_left
          · (intro w hSw; (try dsimp only at hSw); go_simp; try with_reducible rfl)
          simp only [Act.put, List.setIfInBounds_toArray, List.set_cons_zero, List.set_cons_succ]
          refine wpAnyH_done (by kernel_rfl) ?_ _
          have HB2 : Hid (Below w.heap.size w y2) := chainB HB.out (chainB BY.out z2)
          go_wp2_with fail
          go_roundw
          case rel => exact ⟨i + 1, by omega, by go_num, HB2, HF2, HG2⟩
          case measure => simp [Go.RowKit.intOf]; omega
        | false =>
          have HV : Hid (rusB rs = false) := HN2.out hls
          have hls2 : rlLess rs[m].k rs[m].f rs[i].k rs[i].f = false := hls
          have hci : decide (0 ≤ crI rs[m].k rs[m].f rs[i].k rs[i].f) = true := by rw [crI_less, hls2]; rfl
          generalize crI rs[m].k rs[m].f rs[i].k rs[i].f = cr at *
          generalize rs[m].k = gk at *
          generalize rs[m].f = gf at *
          generalize rs[m].l = gl at *
          generalize rs[m].m = gm at *
          generalize rs[i].k = fk at *
          generalize rs[i].f = ff at *
          generalize rs[i].l = fl at *
          generalize rs[i].m = fm at *
          clear HF1 HN1 HF HG hfd hzi h0 HE hls hls2 HL HG1 HN2 hm
          obtain ⟨c0, c1, c2, c3⟩ := HC.out wr (Below.refl _ _)
          go_upto_region 6 with fail
          obtain ⟨y0, hy0⟩ : ∃ y0, y0 = wr.alloc (.cells #[.string fk, .string ff, .int .i64 fl, .int .i64 fm] 101) := ⟨_, rfl⟩
          rw [← hy0]
          have BY : Hid (Below wr.heap.size wr y0) := by rw [hy0]; exact (Below.refl _ _).alloc (Nat.le_refl _) _
          have KY : Hid (Bxs y0 wr.heap.size 101 #[.string fk, .string ff, .int .i64 fl, .int .i64 fm]) := by rw [hy0]; exact Bxs.new _ _ _
          have HY : Hid (∀ x, Below y0.heap.size y0 x → x.cell? ⟨wr.heap.size, 0, none⟩ = some (.string fk) ∧ x.cell? ⟨wr.heap.size, 1, none⟩ = some (.string ff) ∧ x.cell? ⟨wr.heap.size, 2, none⟩ = some (.int .i64 fl) ∧ x.cell? ⟨wr.heap.size, 3, none⟩ = some (.int .i64 fm)) := fun x hx => ⟨(KY.out.below hx).cell 0, (KY.out.below hx).cell 1, (KY.out.below hx).cell 2, (KY.out.below hx).cell 3⟩
          have BR : Hid (Below y0.heap.size y0 y0.drew) := (Below.refl _ _).drew
          clear hy0 c0 c1 c2 c3
          refine wp_region_held_drew (S := (fun w' => (w'.cell? ⟨b, off + m * 4, none⟩ = some (Value.string gk) ∧ w'.cell? ⟨b, off + m * 4 + 1, none⟩ = some (.string gf) ∧ w'.cell? ⟨b, off + m * 4 + 2, none⟩ = some (.int .i64 gl) ∧ w'.cell? ⟨b, off + m * 4 + 3, none⟩ = some (.int .i64 gm)) ∧ w'.cell? ⟨wr.heap.size, 0, none⟩ = some (Value.string fk) ∧ w'.cell? ⟨wr.heap.size, 1, none⟩ = some (.string ff) ∧ w'.cell? ⟨wr.heap.size, 2, none⟩ = some (.int .i64 fl) ∧ w'.cell? ⟨wr.heap.size, 3, none⟩ = some (.int .i64 fm))) (by kernel_rfl) (⟨HCm.out _ (chainB BY.out BR.out), HY.out _ BR.out⟩) (fun hHeld => ?_)
          refine take_at 0 (v := ?_) rfl (by kernel_rfl) (by kernel_rfl) (by kernel_rfl) (fun _ _ _ h => h) hHeld (Or.inl ⟨by rfl, ?_⟩) ?_
          rotate_left
          · (intro w hSw; (try dsimp only at hSw); go_simp; try with_reducible rfl)
          simp only [Act.put, List.setIfInBounds_toArray, List.set_cons_zero, List.set_cons_succ]
          refine ready_at 1 rfl (by kernel_rfl) (fun K hK => ?_)
          go_simp
          (go_at_call 104; with_reducible refine (HQ.out _).mono ?_; rintro e y1 ⟨rfl, z0⟩; have z1 : Below y0.heap.size y0 y1 := chainB BR.out z0)
          refine hK.out _ _ (⟨HCm.out _ (chainB BY.out z1), HY.out _ z1⟩) (fun hHeld => ?_)
          clear hK K
          try simp only [Act.put, List.setIfInBounds_toArray, List.set_cons_zero, List.set_cons_succ]
          refine take_at 2 (v := ?_) rfl (by kernel_rfl) (by kernel_rfl) (by kernel_rfl) (fun _ _ _ h => h) hHeld (Or.inl ⟨by rfl, ?_⟩) ?_
          rotate_left
          · (intro w hSw; (try dsimp only at hSw); go_simp; try with_reducible rfl)
          simp only [Act.put, List.setIfInBounds_toArray, List.set_cons_zero, List.set_cons_succ]
          refine take_at 3 (v := ?_) rfl (by kernel_rfl) (by kernel_rfl) (by kernel_rfl) (fun _ _ _ h => h) hHeld (Or.inl ⟨by rfl, ?_⟩) ?_
          rotate_left
          · (intro w hSw; (try dsimp only at hSw); go_simp; try with_reducible rfl)
          simp only [Act.put, List.setIfInBounds_toArray, List.set_cons_zero, List.set_cons_succ]
          refine take_at 4 (v := ?_) rfl (by kernel_rfl) (by kernel_rfl) (by kernel_rfl) (fun _ _ _ h => h) hHeld (Or.inl ⟨by rfl, ?_⟩) ?_
          rotate_left
          · (intro w hSw; (try dsimp only at hSw); go_simp; try with_reducible rfl)
          simp only [Act.put, List.setIfInBounds_toArray, List.set_cons_zero, List.set_cons_succ]
          refine take_at 5 (v := ?_) rfl (by kernel_rfl) (by kernel_rfl) (by kernel_rfl) (fun _ _ _ h => h) hHeld (Or.inl ⟨by rfl, ?_⟩) ?_
          rotate_left
          · (intro w hSw; (try dsimp only at hSw); go_simp; try with_reducible rfl)
          simp only [Act.put, List.setIfInBounds_toArray, List.set_cons_zero, List.set_cons_succ]
          refine take_at 6 (v := ?_) rfl (by kernel_rfl) (by kernel_rfl) (by kernel_rfl) (fun _ _ _ h => h) hHeld (Or.inl ⟨by rfl, ?_⟩) ?_
          rotate_left
          · (intro w hSw; (try dsimp only at hSw); go_simp; try with_reducible rfl)
          simp only [Act.put, List.setIfInBounds_toArray, List.set_cons_zero, List.set_cons_succ]
          refine take_at 7 (v := ?_) rfl (by kernel_rfl) (by kernel_rfl) (by kernel_rfl) (fun _ _ _ h => h) hHeld (Or.inl ⟨by rfl, ?_⟩) ?_
          rotate_left
          · (intro w hSw; (try dsimp only at hSw); go_simp; try with_reducible rfl)
          simp only [Act.put, List.setIfInBounds_toArray, List.set_cons_zero, List.set_cons_succ]
          refine take_at 8 (v := ?_) rfl (by kernel_rfl) (by kernel_rfl) (by kernel_rfl) (fun _ _ _ h => h) hHeld (Or.inl ⟨by rfl, ?_⟩) ?_
          rotate_left
          · (intro w hSw; (try dsimp only at hSw); go_simp; try with_reducible rfl)
          simp only [Act.put, List.setIfInBounds_toArray, List.set_cons_zero, List.set_cons_succ]
          refine take_at 9 (v := ?_) rfl (by kernel_rfl) (by kernel_rfl) (by kernel_rfl) (fun _ _ _ h => h) hHeld (Or.inl ⟨by rfl, ?_⟩) ?_
          rotate_left
          · (intro w hSw; (try dsimp only at hSw); go_simp; try with_reducible rfl)
          simp only [Act.put, List.setIfInBounds_toArray, List.set_cons_zero, List.set_cons_succ]
          refine take_at 10 (v := ?_) rfl (by kernel_rfl) (by kernel_rfl) (by kernel_rfl) (fun _ _ _ h => h) hHeld (Or.inl ⟨by rfl, ?_⟩) ?_
          rotate_left
          · (intro w hSw; (try dsimp only at hSw); go_simp; try with_reducible rfl)
          simp only [Act.put, List.setIfInBounds_toArray, List.set_cons_zero, List.set_cons_succ]
          refine take_at 11 (v := ?_) rfl (by kernel_rfl) (by kernel_rfl) (by kernel_rfl) (fun _ _ _ h => h) hHeld (Or.inl ⟨by rfl, ?_⟩) ?_
          rotate_left
          · (intro w hSw; (try dsimp only at hSw); go_simp; try with_reducible rfl)
          simp only [Act.put, List.setIfInBounds_toArray, List.set_cons_zero, List.set_cons_succ]
          refine take_at 12 (v := ?_) rfl (by kernel_rfl) (by kernel_rfl) (by kernel_rfl) (fun _ _ _ h => h) hHeld (Or.inl ⟨by rfl, ?_⟩) ?_
          rotate_left
          · (intro w hSw; (try dsimp only at hSw); go_simp; try with_reducible rfl)
          simp only [Act.put, List.setIfInBounds_toArray, List.set_cons_zero, List.set_cons_succ]
          refine ready_at 13 rfl (by kernel_rfl) (fun K hK => ?_)
          go_simp
          (go_at_call 105; with_reducible refine (HQL.out _).mono ?_; rintro e y2 ⟨rfl, z3⟩; have z2 : Below y0.heap.size y0 y2 := chainB z1 z3)
          refine hK.out _ _ (⟨HCm.out _ (chainB BY.out z2), HY.out _ z2⟩) (fun hHeld => ?_)
          clear hK K
          try simp only [Act.put, List.setIfInBounds_toArray, List.set_cons_zero, List.set_cons_succ]
          refine take_at 14 (v := ?_) rfl (by kernel_rfl) (by kernel_rfl) (by kernel_rfl) (fun _ _ _ h => h) hHeld (Or.inl ⟨by rfl, ?_⟩) ?_
          rotate_left
          · (intro w hSw; (try dsimp only at hSw); go_simp; try with_reducible rfl)
          simp only [Act.put, List.setIfInBounds_toArray, List.set_cons_zero, List.set_cons_succ]
          refine take_at 15 (v := ?_) rfl (by kernel_rfl) (by kernel_rfl) (by kernel_rfl) (fun _ _ _ h => h) hHeld (Or.inl ⟨by rfl, ?_⟩) ?_
          rotate_left
          · (intro w hSw; (try dsimp only at hSw); go_simp; try with_reducible rfl)
          simp only [Act.put, List.setIfInBounds_toArray, List.set_cons_zero, List.set_cons_succ]
          refine take_at 16 (v := ?_) rfl (by kernel_rfl) (by kernel_rfl) (by kernel_rfl) (fun _ _ _ h => h) hHeld (Or.inl ⟨by rfl, ?_⟩) ?_
          rotate_left
          · (intro w hSw; (try dsimp only at hSw); go_simp; try with_reducible rfl)
          simp only [Act.put, List.setIfInBounds_toArray, List.set_cons_zero, List.set_cons_succ]
          refine wpAnyH_done (by kernel_rfl) ?_ _
          go_wp2_with fail
          go_ret
          exact ⟨ret_bool HV.out.symm, chainB HB.out (chainB BY.out z2)⟩
    · have HV : Hid (rusB rs = true) := by show _ = _; unfold rusB; rw [okL_true (fun j h => HF.out j h (by omega)) (fun j h0 h => HG.out j h0 h (by omega)), decide_eq_true (by omega)]; rfl
      obtain rfl : i = rs.length := by omega
      clear HF HG
      go_wp2_with fail
      go_ret
      exact ⟨ret_bool HV.out.symm, HB.out⟩
set_option maxHeartbeats 2000000 in
theorem heldRight_any (p2 : Option Addr) (c2 : Nat) (hs : List Int) (w : World) (hh : IntAt w p2 hs) (hn2 : hs.length ≤ 1048576) (hc2 : hs.length ≤ c2) :
    Calls Tryz.prog 74 #[.slice p2 hs.length c2] w fun e w' => e = .returned (.bool (okL heB heLt hs)) ∧ Below w.heap.size w w' := by
  have HI : Hid (IntAt w p2 hs) := hh
  clear hh
  go_enter Tryz.func74, Tryz.ntmps74
  go_wp2_with fail
  go_loopw [7] (fun i wr => ∃ k : Nat, k ≤ hs.length ∧ i = .int .i64 k ∧ Hid (Below w.heap.size w wr) ∧ Hid (∀ j (h : j < hs.length), j < k → heB hs[j] = true) ∧ Hid (∀ j (h0 : 0 < j) (h : j < hs.length), j < k → heLt (hs[j - 1]'(by omega)) hs[j] = true)) (fun i _ => hs.length - (Go.RowKit.intOf i).toNat)
  case atStart => exact ⟨0, Nat.zero_le _, rfl, Below.refl _ _, fun j h hk => by omega, fun j h0 h hk => by omega⟩
  case round =>
    obtain ⟨i, hi, rfl, HB, HF, HG⟩ := hrel
    by_cases hlt : i < hs.length
    · have i1 : (i : Int) < hs.length := by omega
      obtain ⟨d, of2, rfl, hb0⟩ := HI.out.some_of (by omega)
      have hc := (HI.out.below HB.out).at i hlt
      have HQ : Hid (∀ x, Calls Tryz.prog 106 #[.int .i64 hs[i]] x fun e w' => e = .returned (.bool (heB hs[i])) ∧ w' = x) := fun x => heldRowRight_any hs[i] x
      have HF1 : Hid (heB hs[i] = true → ∀ j (h : j < hs.length), j < i + 1 → heB hs[j] = true) := fun h0 j h hj => if he : j = i then by subst he; exact h0 else HF.out j h (by omega)
      have HN1 : Hid (heB hs[i] = false → okL heB heLt hs = false) := fun h0 => okL_not_all hlt h0
      cases hfd : heB hs[i] with
      | false =>
        have HV : Hid (okL heB heLt hs = false) := HN1.out hfd
        rw [hfd] at HQ
        generalize hs[i] = fx at *
        clear HF1 HN1 HF HG hfd
        go_wp2_with fail
        refine (HQ.out wr).mono ?_
        rintro e y1 ⟨rfl, rfl⟩
        go_wp2_with fail
        go_ret
        exact ⟨ret_bool HV.out.symm, HB.out⟩
      | true =>
      have HF2 : Hid (∀ j (h : j < hs.length), j < i + 1 → heB hs[j] = true) := HF1.out hfd
      rw [hfd] at HQ
      by_cases h0 : i = 0
      · have HG2 : Hid (∀ j (h0 : 0 < j) (h : j < hs.length), j < i + 1 → heLt (hs[j - 1]'(by omega)) hs[j] = true) := fun j h1 h hj => by omega
        have hd0 : decide (0 < (i : Int)) = false := decide_eq_false (by omega)
        have hd0n : decide (0 < i) = false := decide_eq_false (by omega)
        generalize hs[i] = fx at *
        clear HF1 HN1 HF HG hfd h0
        go_wp2_with fail
        refine (HQ.out wr).mono ?_
        rintro e y1 ⟨rfl, rfl⟩
        go_wp2_with fail
        go_roundw
        case rel => exact ⟨i + 1, by omega, by go_num, HB, HF2, HG2⟩
        case measure => simp [Go.RowKit.intOf]; omega
      · have hd0 : decide (0 < (i : Int)) = true := decide_eq_true (by omega)
        have hd0n : decide (0 < i) = true := decide_eq_true (by omega)
        have HG1 : Hid (heLt (hs[i - 1]'(by omega)) hs[i] = true → ∀ j (h0 : 0 < j) (h : j < hs.length), j < i + 1 → heLt (hs[j - 1]'(by omega)) hs[j] = true) := fun h1 j h2 h hj => if he : j = i then by subst he; exact h1 else HG.out j h2 h (by omega)
        have HN2 : Hid (heLt (hs[i - 1]'(by omega)) hs[i] = false → okL heB heLt hs = false) := fun h1 => okL_not_rise (by omega) hlt h1
        obtain ⟨m, hm⟩ : ∃ m, i = m + 1 := ⟨i - 1, by omega⟩
        have him : m < hs.length := by omega
        have hwr : IntKind.i64.wrap ((i : Int) - 1) = (m : Int) := by rw [IntKind.wrap_i64]; omega
        have im1 : (m : Int) < hs.length := by omega
        have HG1 : Hid (heLt hs[m] hs[i] = true → ∀ j (h0 : 0 < j) (h : j < hs.length), j < i + 1 → heLt (hs[j - 1]'(by omega)) hs[j] = true) := fun h1 => HG1.out (by simpa only [hm, Nat.add_sub_cancel] using h1)
        have HN2 : Hid (heLt hs[m] hs[i] = false → okL heB heLt hs = false) := fun h1 => HN2.out (by simpa only [hm, Nat.add_sub_cancel] using h1)
        have hcm := (HI.out.below HB.out).at m him
        cases hls : heLt hs[m] hs[i] with
        | true =>
          have HG2 : Hid (∀ j (h0 : 0 < j) (h : j < hs.length), j < i + 1 → heLt (hs[j - 1]'(by omega)) hs[j] = true) := HG1.out hls
          have q1 : hs[m] < hs[i] := by simpa [heLt] using hls
          generalize hs[m] = gx at *
          generalize hs[i] = fx at *
          have dq : decide (fx ≤ gx) = false := decide_eq_false (by omega)
          clear HF1 HN1 HF HG hfd h0 hls HG1 HN2 hm q1
          go_wp2_with fail
          refine (HQ.out wr).mono ?_
          rintro e y1 ⟨rfl, rfl⟩
          go_wp2_with fail
          go_roundw
          case rel => exact ⟨i + 1, by omega, by go_num, HB, HF2, HG2⟩
          case measure => simp [Go.RowKit.intOf]; omega
        | false =>
          have HV : Hid (okL heB heLt hs = false) := HN2.out hls
          have q1 : ¬ hs[m] < hs[i] := by simpa [heLt] using hls
          generalize hs[m] = gx at *
          generalize hs[i] = fx at *
          have dq : decide (fx ≤ gx) = true := decide_eq_true (by omega)
          clear HF1 HN1 HF HG hfd h0 hls HG1 HN2 hm q1
          go_wp2_with fail
          refine (HQ.out wr).mono ?_
          rintro e y1 ⟨rfl, rfl⟩
          go_wp2_with fail
          go_ret
          exact ⟨ret_bool HV.out.symm, HB.out⟩
    · have HV : Hid (okL heB heLt hs = true) := okL_true (fun j h => HF.out j h (by omega)) (fun j h0 h => HG.out j h0 h (by omega))
      obtain rfl : i = hs.length := by omega
      clear HF HG
      go_wp2_with fail
      go_ret
      exact ⟨ret_bool HV.out.symm, HB.out⟩
set_option maxHeartbeats 2000000 in
theorem implPolicyRight_any (p1 p2 : Option Addr) (c1 c2 : Nat) (rs : List Rul) (hs : List Int) (w : World) (hr : RulAt w p1 rs) (hh : IntAt w p2 hs) (hn1 : rs.length ≤ 1048576) (hn2 : hs.length ≤ 1048576) (hc1 : rs.length ≤ c1) (hc2 : hs.length ≤ c2) (hz : RulsLe rs) :
    Calls Tryz.prog 38 #[.agg #[.slice p1 rs.length c1, .slice p2 hs.length c2]] w fun e w' => e = .returned (.bool (polB rs hs)) ∧ Below w.heap.size w w' := by
  obtain ⟨W1, hW1⟩ : ∃ W1, W1 = w.alloc (.cells #[.slice p1 rs.length c1, .slice p2 hs.length c2] 40) := ⟨_, rfl⟩
  have HW1 : Hid (W1 = w.alloc (.cells #[.slice p1 rs.length c1, .slice p2 hs.length c2] 40)) := hW1
  have B1 : Hid (Below w.heap.size w W1) := by rw [hW1]; exact (Below.refl _ _).alloc (Nat.le_refl _) _
  have K1 : Bxs W1 w.heap.size 40 #[.slice p1 rs.length c1, .slice p2 hs.length c2] := by rw [hW1]; exact Bxs.new _ _ _
  have h1 := rulesRight_any p1 c1 rs W1 (hr.below B1.out) hn1 hc1 hz
  have HQ2 : Hid (∀ x, Below W1.heap.size W1 x → Calls Tryz.prog 74 #[.slice p2 hs.length c2] x fun e w' => e = .returned (.bool (okL heB heLt hs)) ∧ Below x.heap.size x w') := fun x hx => heldRight_any p2 c2 hs x ((hh.below B1.out).below hx) hn2 hc2
  have x0 : W1.cell? ⟨w.heap.size, 0, none⟩ = some (.slice p1 rs.length c1) := K1.cell 0
  have y0 := x0
  rw [hW1] at y0
  have HX : Hid (∀ x, Below W1.heap.size W1 x → x.cell? ⟨w.heap.size, 1, none⟩ = some (.slice p2 hs.length c2)) := fun x hb => (K1.below hb).cell 1
  have HR : Hid (polB rs hs = (rusB rs && okL heB heLt hs)) := by show _ = _; unfold polB rusB; rw [Bool.and_assoc]
  rw [HR.out]
  clear hW1 hr hh hz K1 HR
  generalize rusB rs = b1 at *
  generalize okL heB heLt hs = b2 at *
  cases b1 with
  | false =>
    go_enter Tryz.func38, Tryz.ntmps38
    go_wp2_with fail
    rw [← HW1.out]
    refine h1.mono ?_
    rintro e w1 ⟨rfl, z1⟩
    go_wp2_with fail
    go_ret
    exact ⟨rfl, chainB B1.out z1⟩
  | true =>
    go_enter Tryz.func38, Tryz.ntmps38
    go_wp2_with fail
    rw [← HW1.out]
    refine h1.mono ?_
    rintro e w1 ⟨rfl, z1⟩
    have x1 := HX.out w1 z1
    go_wp2_with fail
    refine (HQ2.out w1 z1).mono ?_
    rintro e w2 ⟨rfl, z2⟩
    go_wp2_with fail
    go_ret
    exact ⟨rfl, chainB B1.out (chainB z1 z2)⟩
end Go.Proofs.YtokkeadbkeehgaaGreatDoor
