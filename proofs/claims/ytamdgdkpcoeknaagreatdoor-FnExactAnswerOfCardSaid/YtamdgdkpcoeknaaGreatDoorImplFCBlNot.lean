/-
  Parts of one proof, laid as one text: ImplFC, BlNot; what each says stands at its head.
-/
import Derived.Test.YtamdgdkpcoeknaaGreatDoorRows
import Derived.Test.YtamdgdkpcoeknaaGreatDoorBytesDigMath
import Derived.Test.YtamdgdkpcoeknaaGreatDoorTreeMathSlASlBBxKOwnS
import Derived.Test.YtamdgdkpcoeknaaGreatDoorBlockIPadIDigITurn2
import Derived.Test.YtamdgdkpcoeknaaGreatDoorTimeBPutMathPutNumJoinedPutTextFldMath
import Derived.Test.YtamdgdkpcoeknaaGreatDoorNameRight
import Derived.Test.YtamdgdkpcoeknaaGreatDoorFldTbFldTrDigAll
import Derived.Test.YtamdgdkpcoeknaaGreatDoorFldIsTimeIGrKSpecGNSpecGTTillTwoFldN
import Derived.Handy
import Derived.WalkSpells
import Derived.OwnWalk
import Derived.Laws.StructEq
import Derived.Deep.RegionHeld3
import Derived.Deep.RegionWith
/-
  What the program's goneField, presentField, timeRight, CommitOf and FieldRight answer; two fields compared as wholes.
  Conditions: the two tables of the digest lie as laid.
-/
namespace Go.Proofs.YtamdgdkpcoeknaaGreatDoor
open Go.RowKit Go.Lib
set_option linter.unusedVariables false
set_option maxRecDepth 20000

/-- A field as a value. -/
def fv5 (n c s v : ByteArray) (g : Bool) : Value := .agg #[.string n, .string c, .string s, .string v, .bool g]
def eqF (n c s v : ByteArray) (g : Bool) (n' c' s' v' : ByteArray) (g' : Bool) : Bool := (n.toList == n'.toList) && ((c.toList == c'.toList) && ((s.toList == s'.toList) && ((v.toList == v'.toList) && (g == g'))))
theorem eql_fld (n c s v : ByteArray) (g : Bool) (n' c' s' v' : ByteArray) (g' : Bool) (w : World) : (binOp .eql 112 (.agg #[.string n, .string c, .string s, .string v, .bool g]) (.agg #[.string n', .string c', .string s', .string v', .bool g'])).run Tryz.prog w = .ok (.bool (eqF n c s v g n' c' s' v' g')) w := by
  unfold eqF
  rw [run_eql_struct, run_equalIn_agg w 9999 112 _ _ (by kernel_rfl) (by kernel_rfl)]
  have hF : Tryz.prog.fieldsOf 112 = Tryz.prog.fieldsOf 112 := rfl
  conv at hF => rhs; simp only [Program.fieldsOf, Tryz.underlying112]
  rw [hF]
  cases h1 : n.toList == n'.toList <;> cases h2 : c.toList == c'.toList <;> cases h3 : s.toList == s'.toList <;> cases h4 : v.toList == v'.toList <;> cases h5 : g == g' <;>
    simp [go_sem, Op.eqFields, h1, h2, h3, h4, h5]
theorem eqF_gone (n c s v : ByteArray) : eqF n c s v true n c ByteArray.empty ByteArray.empty true = (emB s && emB v) := by
  unfold eqF emB; simp
theorem eqF_there (n c s v C : ByteArray) : eqF n c s v false n C s v false = (c.toList == C.toList) := by
  unfold eqF; simp
theorem Tabs.to {w w' : World} (h : Tabs w) (hb : Below w.heap.size w w') : Tabs w' := h.below hb h.1
theorem goneField_any (n c : ByteArray) (w : World) : Calls Tryz.prog 160 #[.string n, .string c] w fun e w' => e = .returned (.agg #[.string n, .string c, .string ByteArray.empty, .string ByteArray.empty, .bool true]) ∧ Below w.heap.size w w' := by
  have B1 : Below w.heap.size w (w.alloc (.cells #[.string n, .string c, .string ByteArray.empty, .string ByteArray.empty, .bool true] 112)) := (Below.refl _ _).alloc (Nat.le_refl _) _
  go_enter Tryz.func160, Tryz.ntmps160
  go_wp2_with fail
  refine bodyPost_ret (v := .agg #[.string n, .string c, .string ByteArray.empty, .string ByteArray.empty, .bool true]) (by simp [results, Tryz.results160, go_sem]; rfl) rfl ?_
  exact ⟨rfl, B1⟩
theorem digFour_any (A B C : ByteArray) (w : World) (hT : Tabs w) (h1 : A.size ≤ 2000) (h2 : B.size ≤ 2000) (h3 : C.size ≤ 2000) :
    Calls Tryz.prog 187 #[.slice (some ⟨w.heap.size, 0, none⟩) 4 4] (w.alloc (.cells #[.string ⟨#[2]⟩, .string A, .string B, .string C] 9)) fun e w' => e = .returned (.string (digB (two1 ++ A ++ B ++ C))) ∧ Below w.heap.size w w' := by
  have hc : cat [two1, A, B, C] = two1 ++ A ++ B ++ C := by apply ByteArray.ext; simp [cat]
  have hb : BlkS (w.alloc (.cells #[.string ⟨#[2]⟩, .string A, .string B, .string C] 9)) w.heap.size [two1, A, B, C] := alloc_str w [two1, A, B, C]
  have b1 : Below w.heap.size w (w.alloc (.cells #[.string ⟨#[2]⟩, .string A, .string B, .string C] 9)) := (Below.refl _ _).alloc (Nat.le_refl _) _
  have h := digAll_any w.heap.size 4 [two1, A, B, C] _ (hT.to b1) hb (by simp) (by simp) (by rw [hc]; simp only [ByteArray.size_append]; show 1 + _ + _ + _ ≤ _; omega)
  rw [hc] at h
  refine Calls.mono h ?_
  rintro e w' ⟨he, hb'⟩
  exact ⟨he, chainB b1 hb'⟩
set_option maxHeartbeats 1000000 in
theorem implCommitOf_any (n s v : ByteArray) (w : World) (hT : Tabs w) (hn : n.size ≤ maxLen) (hs : s.size ≤ maxLen) (hv : v.size ≤ maxLen) : Calls Tryz.prog 177 #[.string n, .string s, .string v] w fun e w' => e = .returned (.string (cmB n s v)) ∧ Below w.heap.size w w' := by
  have hN := implNameRight_any n w hn
  have HTb : Hid (Tabs w) := hT
  clear hT
  unfold maxLen at hn hs hv
  cases hk : nrB n with
  | false =>
    have HV : Hid (cmB n s v = ByteArray.empty) := if_neg (by unfold cmOk; rw [hk]; exact Bool.false_ne_true)
    rw [hk] at hN
    rw [HV.out]
    go_enter Tryz.func177, Tryz.ntmps177
    go_wp2_with fail
    refine hN.mono ?_
    rintro e w1 ⟨rfl, rfl⟩
    go_wp2_with fail
    go_ret
    exact ⟨rfl, Below.refl _ _⟩
  | true =>
  rw [hk] at hN
  by_cases h1 : s.size < 1
  · have HV : Hid (cmB n s v = ByteArray.empty) := if_neg (by unfold cmOk; rw [decide_eq_false (by omega)]; simp)
    have d1 : decide ((s.size : Int) < 1) = true := decide_eq_true (by omega)
    rw [HV.out]
    go_enter Tryz.func177, Tryz.ntmps177
    go_wp2_with fail
    refine hN.mono ?_
    rintro e w1 ⟨rfl, rfl⟩
    go_wp2_with fail
    go_ret
    exact ⟨rfl, Below.refl _ _⟩
  have d1 : decide ((s.size : Int) < 1) = false := decide_eq_false (by omega)
  by_cases h2 : 8 < s.size
  · have HV : Hid (cmB n s v = ByteArray.empty) := if_neg (by unfold cmOk; rw [decide_eq_false (p := 1 ≤ s.size ∧ s.size ≤ 8) (by omega)]; simp)
    have d2 : decide (8 < (s.size : Int)) = true := decide_eq_true (by omega)
    rw [HV.out]
    go_enter Tryz.func177, Tryz.ntmps177
    go_wp2_with fail
    refine hN.mono ?_
    rintro e w1 ⟨rfl, rfl⟩
    go_wp2_with fail
    go_ret
    exact ⟨rfl, Below.refl _ _⟩
  have d2 : decide (8 < (s.size : Int)) = false := decide_eq_false (by omega)
  by_cases h3 : 16 < v.size
  · have HV : Hid (cmB n s v = ByteArray.empty) := if_neg (by unfold cmOk; rw [decide_eq_false (p := v.size ≤ 16) (by omega)]; simp)
    have d3 : decide (16 < (v.size : Int)) = true := decide_eq_true (by omega)
    rw [HV.out]
    go_enter Tryz.func177, Tryz.ntmps177
    go_wp2_with fail
    refine hN.mono ?_
    rintro e w1 ⟨rfl, rfl⟩
    go_wp2_with fail
    go_ret
    exact ⟨rfl, Below.refl _ _⟩
  have d3 : decide (16 < (v.size : Int)) = false := decide_eq_false (by omega)
  have HV : Hid (cmB n s v = digB (cmT n s v)) := if_pos (by unfold cmOk; rw [hk, decide_eq_true (p := 1 ≤ s.size ∧ s.size ≤ 8) (by omega), decide_eq_true (p := v.size ≤ 16) (by omega)]; rfl)
  have hn20 := nrB_le hk
  have t1 := putTextB_le n (by omega)
  have t2 := putTextB_le s (by omega)
  have t3 := putTextB_le v (by omega)
  have HN : Hid (∀ x, Calls Tryz.prog 186 #[.string n] x fun e w' => e = .returned (.string (putTextB n)) ∧ Below x.heap.size x w') := fun x => implPutText_any n x (by unfold maxLen; omega)
  have HS : Hid (∀ x, Calls Tryz.prog 186 #[.string s] x fun e w' => e = .returned (.string (putTextB s)) ∧ Below x.heap.size x w') := fun x => implPutText_any s x (by unfold maxLen; omega)
  have HVv : Hid (∀ x, Calls Tryz.prog 186 #[.string v] x fun e w' => e = .returned (.string (putTextB v)) ∧ Below x.heap.size x w') := fun x => implPutText_any v x (by unfold maxLen; omega)
  have HT : Hid (cmT n s v = two1 ++ putTextB n ++ putTextB s ++ putTextB v) := rfl
  have HD : Hid (∀ x, Tabs x → Calls Tryz.prog 187 #[.slice (some ⟨x.heap.size, 0, none⟩) 4 4] (x.alloc (.cells #[.string ⟨#[2]⟩, .string (putTextB n), .string (putTextB s), .string (putTextB v)] 9)) fun e w' => e = .returned (.string (digB (cmT n s v))) ∧ Below x.heap.size x w') := fun x hx => by
    rw [HT.out]
    exact digFour_any _ _ _ x hx (by omega) (by omega) (by omega)
  rw [HV.out]
  clear HT HV
  generalize digB (cmT n s v) = O at *
  generalize putTextB n = A at *
  generalize putTextB s = B at *
  generalize putTextB v = C at *
  clear hk h1 h2 h3 hn20 t1 t2 t3
  go_enter Tryz.func177, Tryz.ntmps177
  go_wp2_with fail
  refine hN.mono ?_
  rintro e w1 ⟨rfl, rfl⟩
  go_wp2_with fail
  refine (HN.out w1).mono ?_
  rintro e w2 ⟨rfl, b2⟩
  go_wp2_with fail
  refine (HS.out w2).mono ?_
  rintro e w3 ⟨rfl, b3⟩
  have b3 := chainB b2 b3
  go_wp2_with fail
  refine (HVv.out w3).mono ?_
  rintro e w4 ⟨rfl, b4⟩
  have b4 := chainB b3 b4
  go_wp2_with fail
  refine (HD.out w4 (HTb.out.to b4)).mono ?_
  rintro e w5 ⟨rfl, b5⟩
  have b5 := chainB b4 b5
  go_wp2_with fail
  go_ret
  exact ⟨rfl, b5⟩
set_option maxHeartbeats 1000000 in
theorem presentField_any (n s v : ByteArray) (w : World) (hT : Tabs w) (hn : n.size ≤ maxLen) (hs : s.size ≤ maxLen) (hv : v.size ≤ maxLen) : Calls Tryz.prog 165 #[.string n, .string s, .string v] w fun e w' => e = .returned (.agg #[.string n, .string (cmB n s v), .string s, .string v, .bool false]) ∧ Below w.heap.size w w' := by
  obtain ⟨W1, hW1⟩ : ∃ W1, W1 = w.alloc (.cells #[.string ⟨#[]⟩, .string ⟨#[]⟩, .string ⟨#[]⟩, .string ⟨#[]⟩, .bool false] 112) := ⟨_, rfl⟩
  have HW1 : Hid (W1 = w.alloc (.cells #[.string ⟨#[]⟩, .string ⟨#[]⟩, .string ⟨#[]⟩, .string ⟨#[]⟩, .bool false] 112)) := hW1
  have B1 : Hid (Below w.heap.size w W1) := by rw [hW1]; exact (Below.refl _ _).alloc (Nat.le_refl _) _
  have K1 : Hid (Bxs W1 w.heap.size 112 #[.string ⟨#[]⟩, .string ⟨#[]⟩, .string ⟨#[]⟩, .string ⟨#[]⟩, .bool false]) := by rw [hW1]; exact Bxs.new _ _ _
  have hC := implCommitOf_any n s v W1 (hT.to B1.out) hn hs hv
  have HP : Hid (∀ y x0 x1 x2 x3 x4, Below W1.heap.size W1 y → Below w.heap.size w (((((y.setCell ⟨w.heap.size, 0, none⟩ x0).setCell ⟨w.heap.size, 1, none⟩ x1).setCell ⟨w.heap.size, 2, none⟩ x2).setCell ⟨w.heap.size, 3, none⟩ x3).setCell ⟨w.heap.size, 4, none⟩ x4)) := fun y x0 x1 x2 x3 x4 hb => below_set5 (chainB B1.out hb) (Nat.le_refl _) x0 x1 x2 x3 x4
  clear hW1 hT
  generalize cmB n s v = O at *
  go_enter Tryz.func165, Tryz.ntmps165
  go_wp2_with fail
  rw [← HW1.out]
  refine hC.mono ?_
  rintro e y ⟨rfl, b1⟩
  have K2 := K1.out.below b1
  obtain ⟨k0, k1, k2, k3, k4⟩ := K2.five
  have f0 := K2.fr 0
  have f1 := K2.fr 1
  have f2 := K2.fr 2
  have f3 := K2.fr 3
  have f4 := K2.fr 4
  have HE := fun x0 x1 x2 x3 x4 => HP.out y x0 x1 x2 x3 x4 b1
  clear K2 HP b1
  go_wp2_with fail
  refine bodyPost_ret (v := .agg #[.string n, .string O, .string s, .string v, .bool false]) (by simp [results, Tryz.results165, go_sem, k0, k1, k2, k3, k4]) rfl ?_
  exact ⟨rfl, HE _ _ _ _ _⟩
/-- areDigests of one text, laid into a new row. -/
theorem areOne_any (c : ByteArray) (w : World) : Calls Tryz.prog 81 #[.slice (some ⟨w.heap.size, 0, none⟩) 1 1] (w.alloc (.cells #[.string c] 9)) fun e w' => e = .returned (.bool (decide (c.size = 32))) ∧ Below w.heap.size w w' := by
  have hb : BlkS (w.alloc (.cells #[.string c] 9)) w.heap.size [c] := alloc_str w [c]
  have b1 : Below w.heap.size w (w.alloc (.cells #[.string c] 9)) := (Below.refl _ _).alloc (Nat.le_refl _) _
  have h := areD_any (some ⟨w.heap.size, 0, none⟩) 1 [c] _ hb.txt (by simp) (by simp)
  have e1 : wideB [c] = decide (c.size = 32) := by
    unfold wideB
    by_cases h : c.size = 32
    · rw [decide_eq_true h]; simp [h]
    · rw [decide_eq_false h]; simp [h]
  rw [e1] at h
  refine Calls.mono h ?_
  rintro e w' ⟨he, rfl⟩
  exact ⟨he, b1⟩
set_option maxHeartbeats 2000000 in
theorem implFieldRight_any (f : Fld) (w : World) (hT : Tabs w) (h1 : f.n.size ≤ maxLen) (h2 : f.c.size ≤ maxLen) (h3 : f.s.size ≤ maxLen) (h4 : f.v.size ≤ maxLen) : Calls Tryz.prog 149 #[.agg #[.string f.n, .string f.c, .string f.s, .string f.v, .bool f.g]] w fun e w' => e = .returned (.bool (fdB f)) ∧ Below w.heap.size w w' := by
  obtain ⟨n, c, s, v, g⟩ := f
  show Calls Tryz.prog 149 #[.agg #[.string n, .string c, .string s, .string v, .bool g]] w _
  have h1 : n.size ≤ maxLen := h1
  have h2 : c.size ≤ maxLen := h2
  have h3 : s.size ≤ maxLen := h3
  have h4 : v.size ≤ maxLen := h4
  obtain ⟨W1, hW1⟩ : ∃ W1, W1 = w.alloc (.cells #[.string n, .string c, .string s, .string v, .bool g] 112) := ⟨_, rfl⟩
  have HW1 : Hid (W1 = w.alloc (.cells #[.string n, .string c, .string s, .string v, .bool g] 112)) := hW1
  have B1 : Hid (Below w.heap.size w W1) := by rw [hW1]; exact (Below.refl _ _).alloc (Nat.le_refl _) _
  have K1 : Hid (Bxs W1 w.heap.size 112 #[.string n, .string c, .string s, .string v, .bool g]) := by rw [hW1]; exact Bxs.new _ _ _
  have HTb : Hid (Tabs W1) := hT.to B1.out
  have hN := implNameRight_any n W1 h1
  have hA := areOne_any c W1
  have HG : Hid (∀ x, Calls Tryz.prog 160 #[.string n, .string c] x fun e w' => e = .returned (.agg #[.string n, .string c, .string ByteArray.empty, .string ByteArray.empty, .bool true]) ∧ Below x.heap.size x w') := fun x => goneField_any n c x
  have HC : Hid (∀ x, Tabs x → Calls Tryz.prog 165 #[.string n, .string s, .string v] x fun e w' => e = .returned (.agg #[.string n, .string (cmB n s v), .string s, .string v, .bool false]) ∧ Below x.heap.size x w') := fun x hx => presentField_any n s v x hx h1 h3 h4
  have HF : Hid (fdB ⟨n, c, s, v, g⟩ = (nrB n && (decide (c.size = 32) && (if g = true then emB s && emB v else c.toList == (cmB n s v).toList)))) := rfl
  have HX : Hid (∀ x, Below W1.heap.size W1 x → x.cell? ⟨w.heap.size, 0, none⟩ = some (.string n) ∧ x.cell? ⟨w.heap.size, 1, none⟩ = some (.string c) ∧ x.cell? ⟨w.heap.size, 2, none⟩ = some (.string s) ∧ x.cell? ⟨w.heap.size, 3, none⟩ = some (.string v) ∧ x.cell? ⟨w.heap.size, 4, none⟩ = some (.bool g)) := fun x hb => ⟨(K1.out.below hb).cell 0, (K1.out.below hb).cell 1, (K1.out.below hb).cell 2, (K1.out.below hb).cell 3, (K1.out.below hb).cell 4⟩
  obtain ⟨x0, x1, x2, x3, x4⟩ := HX.out W1 (Below.refl _ _)
  have y0 := x0
  rw [hW1] at y0
  unfold maxLen at h1 h2 h3 h4
  clear hW1 hT
  rw [HF.out]
  cases hk : nrB n with
  | false =>
    rw [hk] at hN
    rw [Bool.false_and]
    go_enter Tryz.func149, Tryz.ntmps149
    go_wp2_with fail
    rw [← HW1.out]
    refine hN.mono ?_
    rintro e w1 ⟨rfl, rfl⟩
    go_wp2_with fail
    go_ret
    exact ⟨rfl, B1.out⟩
  | true =>
  rw [hk] at hN
  rw [Bool.true_and]
  generalize decide (c.size = 32) = bc at *
  cases bc with
  | false =>
    rw [Bool.false_and]
    go_enter Tryz.func149, Tryz.ntmps149
    go_wp2_with fail
    rw [← HW1.out]
    refine hN.mono ?_
    rintro e w1 ⟨rfl, rfl⟩
    go_wp2_with fail
    refine hA.mono ?_
    rintro e w2 ⟨rfl, b2⟩
    go_wp2_with fail
    go_ret
    exact ⟨rfl, chainB B1.out b2⟩
  | true =>
  rw [Bool.true_and]
  cases g with
  | true =>
    rw [if_pos rfl]
    have EQ : ∀ w, (binOp .eql 112 (.agg #[.string n, .string c, .string s, .string v, .bool true]) (.agg #[.string n, .string c, .string ByteArray.empty, .string ByteArray.empty, .bool true])).run Tryz.prog w = .ok (.bool (emB s && emB v)) w := fun w => by rw [eql_fld, eqF_gone]
    generalize (emB s && emB v) = R at *
    go_enter Tryz.func149, Tryz.ntmps149
    go_wp2_with fail
    rw [← HW1.out]
    refine hN.mono ?_
    rintro e w1 ⟨rfl, rfl⟩
    go_wp2_with fail
    refine hA.mono ?_
    rintro e w2 ⟨rfl, b2⟩
    clear x0 x1 x2 x3 x4 y0
    obtain ⟨x0, x1, x2, x3, x4⟩ := HX.out w2 b2
    have BR : Hid (Below w1.heap.size w1 w2.drew) := b2.drew
    go_wp2_with fail
    go_region_held3 (fun w' => w'.cell? ⟨w.heap.size, 0, none⟩ = some (.string n) ∧ w'.cell? ⟨w.heap.size, 1, none⟩ = some (.string c) ∧ w'.cell? ⟨w.heap.size, 2, none⟩ = some (.string s) ∧ w'.cell? ⟨w.heap.size, 3, none⟩ = some (.string v) ∧ w'.cell? ⟨w.heap.size, 4, none⟩ = some (.bool true)) ((first | exact HX.out _ BR.out | exact HX.out _ z1)) (first
      | (go_at_call 160; with_reducible refine (HG.out _).mono ?_; rintro e x9 ⟨rfl, z0⟩; have z1 : Below w1.heap.size w1 x9 := chainB BR.out z0))
    all_goals
      go_wp2_with fail
      go_ret
      exact ⟨rfl, chainB B1.out z1⟩
  | false =>
    rw [if_neg (by exact Bool.false_ne_true)]
    obtain ⟨C, hC⟩ : ∃ C, C = cmB n s v := ⟨_, rfl⟩
    rw [← hC] at HC ⊢
    clear hC HF
    have EQ : ∀ w, (binOp .eql 112 (.agg #[.string n, .string c, .string s, .string v, .bool false]) (.agg #[.string n, .string C, .string s, .string v, .bool false])).run Tryz.prog w = .ok (.bool (c.toList == C.toList)) w := fun w => by rw [eql_fld, eqF_there]
    generalize (c.toList == C.toList) = R at *
    go_enter Tryz.func149, Tryz.ntmps149
    go_wp2_with fail
    rw [← HW1.out]
    refine hN.mono ?_
    rintro e w1 ⟨rfl, rfl⟩
    go_wp2_with fail
    refine hA.mono ?_
    rintro e w2 ⟨rfl, b2⟩
    clear x0 x1 x2 x3 x4 y0
    obtain ⟨x0, x1, x2, x3, x4⟩ := HX.out w2 b2
    have BR : Hid (Below w1.heap.size w1 w2.drew) := b2.drew
    go_wp2_with fail
    go_region_held3 (fun w' => w'.cell? ⟨w.heap.size, 0, none⟩ = some (.string n) ∧ w'.cell? ⟨w.heap.size, 1, none⟩ = some (.string c) ∧ w'.cell? ⟨w.heap.size, 2, none⟩ = some (.string s) ∧ w'.cell? ⟨w.heap.size, 3, none⟩ = some (.string v) ∧ w'.cell? ⟨w.heap.size, 4, none⟩ = some (.bool false)) ((first | exact HX.out _ BR.out | exact HX.out _ z1)) (first
      | (go_at_call 165; with_reducible refine (HC.out _ (HTb.out.to BR.out)).mono ?_; rintro e x9 ⟨rfl, z0⟩; have z1 : Below w1.heap.size w1 x9 := chainB BR.out z0))
    all_goals
      go_wp2_with fail
      go_ret
      exact ⟨rfl, chainB B1.out z1⟩
end Go.Proofs.YtamdgdkpcoeknaaGreatDoor
/-
  Of two texts: not less is less the other way round, or alike.
-/
namespace Go.Proofs.YtamdgdkpcoeknaaGreatDoor
open Go.RowKit
set_option linter.unusedVariables false

theorem bl_not : ∀ (x y : List UInt8), (Op.bytesLess y x || y == x) = !Op.bytesLess x y
  | [], [] => rfl
  | [], b :: y => by simp [Op.bytesLess]
  | a :: x, [] => by simp [Op.bytesLess]
  | a :: x, b :: y => by
    have ih := bl_not x y
    simp only [Op.bytesLess]
    by_cases h1 : a < b
    · have h2 : ¬ b < a := UInt8.lt_asymm h1
      have h3 : ¬ b = a := fun h => by subst h; exact UInt8.lt_irrefl _ h1
      simp [h1, h2, h3]
    · by_cases h2 : b < a
      · have h3 : ¬ a = b := fun h => by subst h; exact UInt8.lt_irrefl _ h2
        simp [h1, h2, h3]
      · have h3 : a = b := UInt8.le_antisymm (UInt8.not_lt.1 h2) (UInt8.not_lt.1 h1)
        subst h3
        simpa [h1] using ih
end Go.Proofs.YtamdgdkpcoeknaaGreatDoor
