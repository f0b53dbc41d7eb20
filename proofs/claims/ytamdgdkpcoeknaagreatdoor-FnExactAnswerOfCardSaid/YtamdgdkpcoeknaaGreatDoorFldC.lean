/-
  What the specification's l07Is, l07Time, l07Commit, CommitOf and FieldRight answer.
-/
import Derived.Test.YtamdgdkpcoeknaaGreatDoorRows
import Derived.Test.YtamdgdkpcoeknaaGreatDoorBytesDigMath
import Derived.Test.YtamdgdkpcoeknaaGreatDoorTreeMathSlASlBBxKOwnS
import Derived.Test.YtamdgdkpcoeknaaGreatDoorAll2LeafNodeTree2Path2
import Derived.Test.YtamdgdkpcoeknaaGreatDoorNameRight
import Derived.Test.YtamdgdkpcoeknaaGreatDoorTimeBPutMathPutNumJoinedPutTextFldMath
import Derived.Test.YtamdgdkpcoeknaaGreatDoorFldIsTimeIGrKSpecGNSpecGTTillTwoFldN
import Derived.Handy
import Derived.WalkSpells
import Derived.OwnWalk
import Derived.Deep.RegionHeld3
import Derived.Deep.RegionWith
namespace Go.Proofs.YtamdgdkpcoeknaaGreatDoor
open Go.RowKit Go.Lib
set_option linter.unusedVariables false
set_option maxRecDepth 20000

theorem l07Commit_any (n s v : ByteArray) (w : World) (hn : n.size ≤ 1000) (hs : s.size ≤ 1000) (hv : v.size ≤ 1000) : Calls Tryz.prog 142 #[.string n, .string s, .string v] w fun e w' => e = .returned (.string (digB (cmT n s v))) ∧ Below w.heap.size w w' := by
  have t1 := putTextB_le n (by omega)
  have t2 := putTextB_le s (by omega)
  have t3 := putTextB_le v (by omega)
  have HN : Hid (∀ x, Calls Tryz.prog 117 #[.string n] x fun e w' => e = .returned (.string (putTextB n)) ∧ Below x.heap.size x w') := fun x => specPutText_any n x (by unfold maxLen; omega)
  have HS : Hid (∀ x, Calls Tryz.prog 117 #[.string s] x fun e w' => e = .returned (.string (putTextB s)) ∧ Below x.heap.size x w') := fun x => specPutText_any s x (by unfold maxLen; omega)
  have HV : Hid (∀ x, Calls Tryz.prog 117 #[.string v] x fun e w' => e = .returned (.string (putTextB v)) ∧ Below x.heap.size x w') := fun x => specPutText_any v x (by unfold maxLen; omega)
  have HT : Hid (cmT n s v = (⟨#[2]⟩ : ByteArray) ++ putTextB n ++ putTextB s ++ putTextB v) := rfl
  have hA := fun x => specAll_any (cmT n s v) x (by rw [HT.out]; simp only [ByteArray.size_append]; show 1 + _ + _ + _ ≤ _; omega)
  have HA : Hid (∀ x, Calls Tryz.prog 119 #[.string ((⟨#[2]⟩ : ByteArray) ++ putTextB n ++ putTextB s ++ putTextB v)] x fun e w' => e = .returned (.string (digB (cmT n s v))) ∧ Below x.heap.size x w') := fun x => by rw [← HT.out]; exact hA x
  generalize digB (cmT n s v) = O at *
  clear HT hA
  generalize putTextB n = A at *
  generalize putTextB s = B at *
  generalize putTextB v = C at *
  have z1 : ((⟨#[2]⟩ : ByteArray) ++ A).size ≤ 2000 := by rw [ByteArray.size_append]; show 1 + _ ≤ _; omega
  have z2 : ((⟨#[2]⟩ : ByteArray) ++ A ++ B).size ≤ 4000 := by rw [ByteArray.size_append]; omega
  go_enter Tryz.func142, Tryz.ntmps142
  go_wp2_with fail
  refine (HN.out w).mono ?_
  rintro e w1 ⟨rfl, b1⟩
  go_wp2_with fail
  refine (HS.out w1).mono ?_
  rintro e w2 ⟨rfl, b2⟩
  have b2 := chainB b1 b2
  go_wp2_with fail
  refine (HV.out w2).mono ?_
  rintro e w3 ⟨rfl, b3⟩
  have b3 := chainB b2 b3
  go_wp2_with fail
  refine (HA.out w3).mono ?_
  rintro e w4 ⟨rfl, b4⟩
  have b4 := chainB b3 b4
  go_wp2_with fail
  go_ret
  exact ⟨rfl, b4⟩
set_option maxHeartbeats 1000000 in
theorem specCommitOf_any (n s v : ByteArray) (w : World) (hn : n.size ≤ maxLen) (hs : s.size ≤ maxLen) (hv : v.size ≤ maxLen) : Calls Tryz.prog 116 #[.string n, .string s, .string v] w fun e w' => e = .returned (.string (cmB n s v)) ∧ Below w.heap.size w w' := by
  have hN := specNameRight_any n w hn
  unfold maxLen at hn hs hv
  cases hk : nrB n with
  | false =>
    have HV : Hid (cmB n s v = ByteArray.empty) := if_neg (by unfold cmOk; rw [hk]; exact Bool.false_ne_true)
    rw [hk] at hN
    rw [HV.out]
    go_enter Tryz.func116, Tryz.ntmps116
    go_wp2_with fail
    refine hN.mono ?_
    rintro e w1 ⟨rfl, rfl⟩
    go_wp2_with fail
    go_ret
    exact ⟨rfl, Below.refl _ _⟩
  | true =>
  rw [hk] at hN
  by_cases h1 : s.size < 1
  · have HV : Hid (cmB n s v = ByteArray.empty) := if_neg (by unfold cmOk; rw [decide_eq_false (by omega)]; simp)
    have d1 : decide ((s.size : Int) < 1) = true := decide_eq_true (by omega)
    rw [HV.out]
    go_enter Tryz.func116, Tryz.ntmps116
    go_wp2_with fail
    refine hN.mono ?_
    rintro e w1 ⟨rfl, rfl⟩
    go_wp2_with fail
    go_ret
    exact ⟨rfl, Below.refl _ _⟩
  have d1 : decide ((s.size : Int) < 1) = false := decide_eq_false (by omega)
  by_cases h2 : 8 < s.size
  · have HV : Hid (cmB n s v = ByteArray.empty) := if_neg (by unfold cmOk; rw [decide_eq_false (p := 1 ≤ s.size ∧ s.size ≤ 8) (by omega)]; simp)
    have d2 : decide (8 < (s.size : Int)) = true := decide_eq_true (by omega)
    rw [HV.out]
    go_enter Tryz.func116, Tryz.ntmps116
    go_wp2_with fail
    refine hN.mono ?_
    rintro e w1 ⟨rfl, rfl⟩
    go_wp2_with fail
    go_ret
    exact ⟨rfl, Below.refl _ _⟩
  have d2 : decide (8 < (s.size : Int)) = false := decide_eq_false (by omega)
  by_cases h3 : 16 < v.size
  · have HV : Hid (cmB n s v = ByteArray.empty) := if_neg (by unfold cmOk; rw [decide_eq_false (p := v.size ≤ 16) (by omega)]; simp)
    have d3 : decide (16 < (v.size : Int)) = true := decide_eq_true (by omega)
    rw [HV.out]
    go_enter Tryz.func116, Tryz.ntmps116
    go_wp2_with fail
    refine hN.mono ?_
    rintro e w1 ⟨rfl, rfl⟩
    go_wp2_with fail
    go_ret
    exact ⟨rfl, Below.refl _ _⟩
  have d3 : decide (16 < (v.size : Int)) = false := decide_eq_false (by omega)
  have HV : Hid (cmB n s v = digB (cmT n s v)) := if_pos (by unfold cmOk; rw [hk, decide_eq_true (p := 1 ≤ s.size ∧ s.size ≤ 8) (by omega), decide_eq_true (p := v.size ≤ 16) (by omega)]; rfl)
  have hC := l07Commit_any n s v w (by have := nrB_le hk; omega) (by omega) (by omega)
  rw [HV.out]
  clear hk h1 h2 h3
  go_enter Tryz.func116, Tryz.ntmps116
  go_wp2_with fail
  refine hN.mono ?_
  rintro e w1 ⟨rfl, rfl⟩
  go_wp2_with fail
  refine hC.mono ?_
  rintro e w2 ⟨rfl, b2⟩
  go_wp2_with fail
  go_ret
  exact ⟨rfl, b2⟩
set_option maxHeartbeats 2000000 in
theorem specFieldRight_any (f : Fld) (w : World) (h1 : f.n.size ≤ maxLen) (h2 : f.c.size ≤ maxLen) (h3 : f.s.size ≤ maxLen) (h4 : f.v.size ≤ maxLen) : Calls Tryz.prog 89 #[.agg #[.string f.n, .string f.c, .string f.s, .string f.v, .bool f.g]] w fun e w' => e = .returned (.bool (fdB f)) ∧ Below w.heap.size w w' := by
  obtain ⟨n, c, s, v, g⟩ := f
  show Calls Tryz.prog 89 #[.agg #[.string n, .string c, .string s, .string v, .bool g]] w _
  have h1 : n.size ≤ maxLen := h1
  have h2 : c.size ≤ maxLen := h2
  have h3 : s.size ≤ maxLen := h3
  have h4 : v.size ≤ maxLen := h4
  obtain ⟨W1, hW1⟩ : ∃ W1, W1 = w.alloc (.cells #[.string n, .string c, .string s, .string v, .bool g] 112) := ⟨_, rfl⟩
  have HW1 : Hid (W1 = w.alloc (.cells #[.string n, .string c, .string s, .string v, .bool g] 112)) := hW1
  have B1 : Hid (Below w.heap.size w W1) := by rw [hW1]; exact (Below.refl _ _).alloc (Nat.le_refl _) _
  have K1 : Hid (Bxs W1 w.heap.size 112 #[.string n, .string c, .string s, .string v, .bool g]) := by rw [hW1]; exact Bxs.new _ _ _
  have hN := specNameRight_any n W1 h1
  have HC : Hid (∀ x, Calls Tryz.prog 116 #[.string n, .string s, .string v] x fun e w' => e = .returned (.string (cmB n s v)) ∧ Below x.heap.size x w') := fun x => specCommitOf_any n s v x h1 h3 h4
  have HF : Hid (fdB ⟨n, c, s, v, g⟩ = (nrB n && (decide (c.size = 32) && (if g = true then emB s && emB v else c.toList == (cmB n s v).toList)))) := rfl
  have HX : Hid (∀ x, Below W1.heap.size W1 x → x.cell? ⟨w.heap.size, 0, none⟩ = some (.string n) ∧ x.cell? ⟨w.heap.size, 1, none⟩ = some (.string c) ∧ x.cell? ⟨w.heap.size, 2, none⟩ = some (.string s) ∧ x.cell? ⟨w.heap.size, 3, none⟩ = some (.string v) ∧ x.cell? ⟨w.heap.size, 4, none⟩ = some (.bool g)) := fun x hb => ⟨(K1.out.below hb).cell 0, (K1.out.below hb).cell 1, (K1.out.below hb).cell 2, (K1.out.below hb).cell 3, (K1.out.below hb).cell 4⟩
  obtain ⟨x0, x1, x2, x3, x4⟩ := HX.out W1 (Below.refl _ _)
  have y0 := x0
  rw [hW1] at y0
  unfold maxLen at h1 h2 h3 h4
  clear hW1
  rw [HF.out]
  cases hk : nrB n with
  | false =>
    rw [hk] at hN
    rw [Bool.false_and]
    go_enter Tryz.func89, Tryz.ntmps89
    go_wp2_with fail
    rw [← HW1.out]
    refine hN.mono ?_
    rintro e w1 ⟨rfl, rfl⟩
    go_wp2_with fail
    go_ret
    exact ⟨rfl, B1.out⟩
  | true =>
  rw [hk] at hN
  rw [Bool.true_and]
  by_cases hc : ¬ c.size = 32
  · have d1 : ((c.size : Int) == 32) = false := beq_eq_false_iff_ne.2 (by omega)
    have d1n : ((c.size : Int) != 32) = true := bne_iff_ne.2 (by omega)
    rw [decide_eq_false hc, Bool.false_and]
    clear hc
    go_enter Tryz.func89, Tryz.ntmps89
    go_wp2_with fail
    rw [← HW1.out]
    refine hN.mono ?_
    rintro e w1 ⟨rfl, rfl⟩
    go_wp2_with fail
    go_ret
    exact ⟨rfl, B1.out⟩
  have hc : c.size = 32 := Decidable.byContradiction hc
  have d1 : ((c.size : Int) == 32) = true := beq_iff_eq.2 (by omega)
  have d1n : ((c.size : Int) != 32) = false := by unfold bne; rw [d1]; rfl
  rw [decide_eq_true hc, Bool.true_and]
  clear hc
  cases g with
  | true =>
    rw [if_pos rfl]
    cases hs : emB s with
    | false =>
      have ds : s.toList.isEmpty = false := (emB_isEmpty s).trans hs
      rw [Bool.false_and]
      go_enter Tryz.func89, Tryz.ntmps89
      go_wp2_with fail
      rw [← HW1.out]
      refine hN.mono ?_
      rintro e w1 ⟨rfl, rfl⟩
      go_wp2_with fail
      go_ret
      exact ⟨rfl, B1.out⟩
    | true =>
      have ds : s.toList.isEmpty = true := (emB_isEmpty s).trans hs
      rw [Bool.true_and]
      cases hv : emB v with
      | false =>
        have dv : v.toList.isEmpty = false := (emB_isEmpty v).trans hv
        go_enter Tryz.func89, Tryz.ntmps89
        go_wp2_with fail
        rw [← HW1.out]
        refine hN.mono ?_
        rintro e w1 ⟨rfl, rfl⟩
        go_wp2_with fail
        go_ret
        exact ⟨rfl, B1.out⟩
      | true =>
        have dv : v.toList.isEmpty = true := (emB_isEmpty v).trans hv
        go_enter Tryz.func89, Tryz.ntmps89
        go_wp2_with fail
        rw [← HW1.out]
        refine hN.mono ?_
        rintro e w1 ⟨rfl, rfl⟩
        go_wp2_with fail
        go_ret
        exact ⟨rfl, B1.out⟩
  | false =>
    rw [if_neg (by exact Bool.false_ne_true)]
    obtain ⟨C, hC⟩ : ∃ C, C = cmB n s v := ⟨_, rfl⟩
    rw [← hC] at HC ⊢
    clear hC HF
    go_enter Tryz.func89, Tryz.ntmps89
    go_wp2_with fail
    rw [← HW1.out]
    refine hN.mono ?_
    rintro e w1 ⟨rfl, rfl⟩
    have BR : Hid (Below w1.heap.size w1 w1.drew) := (Below.refl _ _).drew
    go_wp2_with fail
    go_region_held3 (fun w' => w'.cell? ⟨w.heap.size, 0, none⟩ = some (.string n) ∧ w'.cell? ⟨w.heap.size, 1, none⟩ = some (.string c) ∧ w'.cell? ⟨w.heap.size, 2, none⟩ = some (.string s) ∧ w'.cell? ⟨w.heap.size, 3, none⟩ = some (.string v) ∧ w'.cell? ⟨w.heap.size, 4, none⟩ = some (.bool false)) ((first | exact HX.out _ BR.out | exact HX.out _ z1)) (first
      | (go_at_call 116; with_reducible refine (HC.out _).mono ?_; rintro e x9 ⟨rfl, z0⟩; have z1 : Below w1.heap.size w1 x9 := chainB BR.out z0))
    all_goals
      go_wp2_with fail
      go_ret
      exact ⟨rfl, chainB B1.out z1⟩
end Go.Proofs.YtamdgdkpcoeknaaGreatDoor
