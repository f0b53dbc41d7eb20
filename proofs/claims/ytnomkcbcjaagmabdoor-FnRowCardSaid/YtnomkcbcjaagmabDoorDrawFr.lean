/-
  What DrawFieldRight draws.
  Conditions: the code's bytes lie there.
-/
import Derived.Test.YtnomkcbcjaagmabDoorRows
import Derived.Test.YtnomkcbcjaagmabDoorBytesDigMath
import Derived.Test.YtnomkcbcjaagmabDoorSlASlBOwnS
import Derived.Test.YtnomkcbcjaagmabDoorBxKGrKTakesSrc
import Derived.Test.YtnomkcbcjaagmabDoorFldGStepAppTakesL
import Derived.Test.YtnomkcbcjaagmabDoorImplFkTillTwo
import Derived.Test.YtnomkcbcjaagmabDoorDrawsDrawKit
import Derived.Test.YtnomkcbcjaagmabDoorSomeDrawFld
import Derived.Test.YtnomkcbcjaagmabDoorFldMath
import Derived.Test.YtnomkcbcjaagmabDoorFldRiseOwnBTurn2
import Derived.Test.YtnomkcbcjaagmabDoorOneKFldOM
import Derived.Test.YtnomkcbcjaagmabDoorFldO
import Derived.Test.YtnomkcbcjaagmabDoorDrawRow
import Derived.Test.YtnomkcbcjaagmabDoorDrawSm
import Derived.Test.YtnomkcbcjaagmabDoorDrawRw
import Derived.Handy
import Derived.WalkSpells
import Derived.OwnWalk
import Derived.Deep.RegionHeld3
import Derived.Deep.Cut
import Derived.Deep.CutRange
namespace Go.Proofs.YtnomkcbcjaagmabDoor
open Go.RowKit Go.Lib
set_option linter.unusedVariables false
set_option maxRecDepth 20000

/-- A field's box beside them. -/
def DfF (w1 : World) (B p : Nat) (a : Option Addr) (len cap : Nat) (X : Nat) (f : Fld) (x : World) : Prop := Src 100 B p a len cap x ∧ w1.grownBy x (some p) ∧ Bxs x X 26 #[.string f.n, .string f.c, .string f.s, .string f.v, .bool f.g] ∧ w1.heap.size ≤ X ∧ p < w1.heap.size
theorem Bxs.set5 {x : World} {X : Nat} {c0 c1 c2 c3 c4 u0 u1 u2 u3 u4 : Value} {T : TypeId} (h : Bxs x X T #[c0, c1, c2, c3, c4]) : Bxs (((((x.setCell ⟨X, 0, none⟩ u0).setCell ⟨X, 1, none⟩ u1).setCell ⟨X, 2, none⟩ u2).setCell ⟨X, 3, none⟩ u3).setCell ⟨X, 4, none⟩ u4) X T #[u0, u1, u2, u3, u4] := ((((h.set 0 u0).set 1 u1).set 2 u2).set 3 u3).set 4 u4
theorem put5 {w1 x : World} {B p : Nat} {a : Option Addr} {len cap X : Nat} (hs : Src 100 B p a len cap x) (hg : w1.grownBy x (some p)) (hp : p < w1.heap.size) (hX : w1.heap.size ≤ X) {c0 c1 c2 c3 c4 : Value} (hb : Bxs x X 26 #[c0, c1, c2, c3, c4]) (f : Fld) : DfF w1 B p a len cap X f (((((x.setCell ⟨X, 0, none⟩ (.string f.n)).setCell ⟨X, 1, none⟩ (.string f.c)).setCell ⟨X, 2, none⟩ (.string f.s)).setCell ⟨X, 3, none⟩ (.string f.v)).setCell ⟨X, 4, none⟩ (.bool f.g)) := by
  have hr : ∀ j, some X = some j → p < j := fun j hj => by cases hj; omega
  have hr2 : ∀ j, some X = some j → w1.heap.size ≤ j := fun j hj => by cases hj; omega
  exact ⟨((((hs.other (set_grown _ X 0 _) hr).other (set_grown _ X 1 _) hr).other (set_grown _ X 2 _) hr).other (set_grown _ X 3 _) hr).other (set_grown _ X 4 _) hr, touch_own (touch_own (touch_own (touch_own (touch_own hg (set_grown _ X 0 _) hr2) (set_grown _ X 1 _) hr2) (set_grown _ X 2 _) hr2) (set_grown _ X 3 _) hr2) (set_grown _ X 4 _) hr2, hb.set5, hX, hp⟩
set_option maxHeartbeats 8000000 in
theorem drawFieldRight_any (B : Nat) (a : Option Addr) (len cap : Nat) (w : World) (hlen : len ≤ 1048576) (hB : B ≤ w.heap.size) (hc : CodeAt B a len w) :
    Calls Tryd.prog 6 #[.slice a len cap] w fun e w' => (∃ f : Fld, e = .returned (.agg #[.string f.n, .string f.c, .string f.s, .string f.v, .bool f.g]) ∧ FldOk f) ∧ Below w.heap.size w w' := by
  obtain ⟨W1, hW1⟩ : ∃ W1, W1 = w.alloc (.cells #[.string ⟨#[]⟩, .string ⟨#[]⟩, .string ⟨#[]⟩, .string ⟨#[]⟩, .bool false] 26) := ⟨_, rfl⟩
  have HW : Hid (W1 = w.alloc (.cells #[.string ⟨#[]⟩, .string ⟨#[]⟩, .string ⟨#[]⟩, .string ⟨#[]⟩, .bool false] 26)) := hW1
  have b1 : Hid (Below w.heap.size w W1) := by rw [hW1]; exact (Below.refl _ _).alloc (Nat.le_refl _) _
  have R1 : Hid (Bxs W1 w.heap.size 26 #[.string ByteArray.empty, .string ByteArray.empty, .string ByteArray.empty, .string ByteArray.empty, .bool false]) := by rw [hW1]; exact Bxs.new _ _ _
  have HZ1 : Hid (W1.heap.size = w.heap.size + 1) := by rw [hW1]; exact szA _ _
  have hB1 : B ≤ W1.heap.size := Nat.le_trans hB b1.out.size
  have HC : Hid (CodeAt B a len W1) := hc.below (b1.out.mono hB)
  clear hW1 hc
  go_enter Tryd.func6, Tryd.ntmps6
  go_wp2_with fail
  rw [← HW.out]
  clear HW
  refine (source_any B a len cap W1 hlen hB1 HC.out).mono ?_
  rintro e y1 ⟨rfl, s1, bs1⟩
  obtain ⟨P, hP⟩ : ∃ P, P = W1.heap.size := ⟨_, rfl⟩
  rw [← hP] at s1 ⊢
  have HPe : Hid (P = W1.heap.size) := hP
  clear hP
  go_wp2_with fail
  refine (l07Some_any B P a len cap y1 s1).mono ?_
  rintro e y2 ⟨⟨k, at_, fs, v, rfl, own, ok⟩, s2, g2⟩
  obtain ⟨bq, cq, rfl, -⟩ := ownF_one own ok.2.2.1.1
  go_upto_region 3 with fail
  obtain ⟨y3, hy3⟩ : ∃ y3, y3 = y2.alloc (.cells #[.string k, .int .i64 at_, .slice (some ⟨bq, 0, none⟩) fs.length cq] 33) := ⟨_, rfl⟩
  rw [← hy3]
  obtain ⟨Z, hZ⟩ : ∃ Z, Z = y2.heap.size := ⟨_, rfl⟩
  rw [← hZ]
  have S3 : Hid (DfS y1 B P a len cap Z k at_ (.slice (some ⟨bq, 0, none⟩) fs.length cq) fs y3) := by rw [hy3, hZ]; exact DfS.new s2 g2 s1.lt own
  have HOk : Hid (SmOk 4 k at_ fs) := ok
  have hl1 : 1 ≤ fs.length := ok.2.2.1.1
  have HRes : Hid (∀ x, y1.grownBy x (some P) → Bxs x w.heap.size 26 #[.string ByteArray.empty, .string ByteArray.empty, .string ByteArray.empty, .string ByteArray.empty, .bool false]) := fun x hx => by
    have e1 := HZ1.out
    have e2 := HPe.out
    exact (R1.out.below bs1).grown hx (fun e => by cases e; omega)
  have HBl : Hid (∀ x, y1.grownBy x (some P) → Below w.heap.size w x) := fun x hx => by
    have e1 := HZ1.out
    have e2 := HPe.out
    exact below_touch (chainB b1.out bs1) hx (by omega)
  have HY1 : Hid (w.heap.size + 1 ≤ y1.heap.size) := by show _ ≤ _; have := HZ1.out; have := bs1.size; omega
  clear hy3 hZ own ok s2 g2 s1 bs1 HZ1 b1 R1 HC
  have hl4 : fs.length ≤ 4 := HOk.out.2.2.1.2
  have QN : Hid (∀ x, DfS y1 B P a len cap Z k at_ (.slice (some ⟨bq, 0, none⟩) fs.length cq) fs x → Calls Tryd.prog 39 #[.pointer (some ⟨P, 0, none⟩), .int .i64 (fs.length : Int)] x fun e x1 => ∃ Q : Nat, e = .returned (.int .i64 (Q : Int)) ∧ Q < fs.length ∧ DfS y1 B P a len cap Z k at_ (.slice (some ⟨bq, 0, none⟩) fs.length cq) fs x1 ∧ x.grownBy x1 (some P)) := fun x hx => by
    refine (n_any B P a len cap (fs.length : Int) x hx.src (by omega)).mono ?_
    rintro e x1 ⟨⟨q, rfl, q0, q1, q2⟩, s1, g1⟩
    obtain ⟨Q, rfl⟩ := Int.eq_ofNat_of_zero_le q0
    refine ⟨Q, rfl, ?_, hx.draw s1 g1, g1⟩
    by_cases h2 : 1 < (fs.length : Int)
    · have := q1 h2; omega
    · have := q2 (by omega); omega
  have BR : Hid (Below y3.heap.size y3 y3.drew) := (Below.refl _ _).drew
  have S4 : Hid (DfS y1 B P a len cap Z k at_ (.slice (some ⟨bq, 0, none⟩) fs.length cq) fs y3.drew) := S3.out.below BR.out
  have c2 : y3.cell? ⟨Z, 2, none⟩ = some (.slice (some ⟨bq, 0, none⟩) fs.length cq) := S3.out.box.cell 2
  have HF : Hid (∀ (x : World) (Q : Nat) (hQ : Q < fs.length), DfS y1 B P a len cap Z k at_ (.slice (some ⟨bq, 0, none⟩) fs.length cq) fs x → x.cell? ⟨bq, Q * 5, none⟩ = some (.string fs[Q].n) ∧ x.cell? ⟨bq, Q * 5 + 1, none⟩ = some (.string fs[Q].c) ∧ x.cell? ⟨bq, Q * 5 + 2, none⟩ = some (.string fs[Q].s) ∧ x.cell? ⟨bq, Q * 5 + 3, none⟩ = some (.string fs[Q].v) ∧ x.cell? ⟨bq, Q * 5 + 4, none⟩ = some (.bool fs[Q].g)) := fun x Q hQ hx => by
    have hr := fldRow_at fs Q hQ
    rw [← hx.own.cellAt (Q * 5) (by omega), ← hx.own.cellAt (Q * 5 + 1) (by omega), ← hx.own.cellAt (Q * 5 + 2) (by omega), ← hx.own.cellAt (Q * 5 + 3) (by omega), ← hx.own.cellAt (Q * 5 + 4) (by omega)] at hr
    exact hr
  clear S3
  go_cut [5] from 10 to 18 (fun s5 wx => ∃ (X : Nat) (f : Fld), s5 = .pointer (some ⟨X, 0, none⟩) ∧ Hid (DfF y1 B P a len cap X f wx) ∧ Hid (FldOk f))
  case first =>
    refine region_till (fun w' => w'.cell? ⟨Z, 2, none⟩ = some (.slice (some ⟨bq, 0, none⟩) fs.length cq)) 10 (by kernel_rfl) (S4.out.box.cell 2) (fun hHeld => ?_)
    refine till_take 0 (v := ?_) rfl (by kernel_rfl) (by kernel_rfl) (by kernel_rfl) (by kernel_rfl) (fun _ _ _ h => h) hHeld (Or.inl ⟨by rfl, ?_⟩) ?_
    rotate_left
    · (intro w hSw; (try dsimp only at hSw); go_simp; try with_reducible rfl)
    simp only [Act.put, List.setIfInBounds_toArray, List.set_cons_zero, List.set_cons_succ]
    refine till_take 1 (v := ?_) rfl (by kernel_rfl) (by kernel_rfl) (by kernel_rfl) (by kernel_rfl) (fun _ _ _ h => h) hHeld (Or.inl ⟨by rfl, ?_⟩) ?_
    rotate_left
    · (intro w hSw; (try dsimp only at hSw); go_simp; try with_reducible rfl)
    simp only [Act.put, List.setIfInBounds_toArray, List.set_cons_zero, List.set_cons_succ]
    refine till_take 2 (v := ?_) rfl (by kernel_rfl) (by kernel_rfl) (by kernel_rfl) (by kernel_rfl) (fun _ _ _ h => h) hHeld (Or.inl ⟨by rfl, ?_⟩) ?_
    rotate_left
    · (intro w hSw; (try dsimp only at hSw); go_simp; try with_reducible rfl)
    simp only [Act.put, List.setIfInBounds_toArray, List.set_cons_zero, List.set_cons_succ]
    refine till_take 3 (v := ?_) rfl (by kernel_rfl) (by kernel_rfl) (by kernel_rfl) (by kernel_rfl) (fun _ _ _ h => h) hHeld (Or.inl ⟨by rfl, ?_⟩) ?_
    rotate_left
    · (intro w hSw; (try dsimp only at hSw); go_simp; try with_reducible rfl)
    simp only [Act.put, List.setIfInBounds_toArray, List.set_cons_zero, List.set_cons_succ]
    refine till_take 4 (v := ?_) rfl (by kernel_rfl) (by kernel_rfl) (by kernel_rfl) (by kernel_rfl) (fun _ _ _ h => h) hHeld (Or.inl ⟨by rfl, ?_⟩) ?_
    rotate_left
    · (intro w hSw; (try dsimp only at hSw); go_simp; try with_reducible rfl)
    simp only [Act.put, List.setIfInBounds_toArray, List.set_cons_zero, List.set_cons_succ]
    refine till_take 5 (v := ?_) rfl (by kernel_rfl) (by kernel_rfl) (by kernel_rfl) (by kernel_rfl) (fun _ _ _ h => h) hHeld (Or.inl ⟨by rfl, ?_⟩) ?_
    rotate_left
    · (intro w hSw; (try dsimp only at hSw); go_simp; try with_reducible rfl)
    simp only [Act.put, List.setIfInBounds_toArray, List.set_cons_zero, List.set_cons_succ]
    refine till_ready2 6 9 rfl rfl (by kernel_rfl) (fun K hK => ?_) (fun K hK => ?_)
    · go_simp
      (go_at_call 39; with_reducible refine (QN.out _ S4.out).mono ?_; rintro e z ⟨Q, rfl, hQ, T1, gz⟩)
      have i1 : (Q : Int) < fs.length := by omega
      obtain ⟨k0, k1, k2, k3, k4⟩ := HF.out z Q hQ T1
      refine hK.out _ _ (T1.box.cell 2) (fun hHeld => ?_)
      clear hK K
      try simp only [Act.put, List.setIfInBounds_toArray, List.set_cons_zero, List.set_cons_succ]
      refine till_take 7 (v := ?_) rfl (by kernel_rfl) (by kernel_rfl) (by kernel_rfl) (by kernel_rfl) (fun _ _ _ h => h) hHeld (Or.inl ⟨by rfl, ?_⟩) ?_
      rotate_left
      · (intro w hSw; (try dsimp only at hSw); go_simp; try with_reducible rfl)
      simp only [Act.put, List.setIfInBounds_toArray, List.set_cons_zero, List.set_cons_succ]
      refine till_ready2 8 9 rfl rfl (by kernel_rfl) (fun K hK => ?_) (fun K hK => ?_)
      · go_simp
        refine hK.out _ _ (T1.box.cell 2) (fun hHeld => ?_)
        clear hK K
        try simp only [Act.put, List.setIfInBounds_toArray, List.set_cons_zero, List.set_cons_succ]
        refine till_ready 9 rfl (by kernel_rfl) (fun K hK => ?_)
        go_simp
        have T2 : DfS y1 B P a len cap Z k at_ (.slice (some ⟨bq, 0, none⟩) fs.length cq) fs (z.alloc (.cells #[.string ⟨#[]⟩, .string ⟨#[]⟩, .string ⟨#[]⟩, .string ⟨#[]⟩, .bool false] 26)) := T1.below ((Below.refl _ _).alloc (Nat.le_refl _) _)
        have X2 : Bxs (z.alloc (.cells #[.string ⟨#[]⟩, .string ⟨#[]⟩, .string ⟨#[]⟩, .string ⟨#[]⟩, .bool false] 26)) z.heap.size 26 #[.string ByteArray.empty, .string ByteArray.empty, .string ByteArray.empty, .string ByteArray.empty, .bool false] := Bxs.new _ _ _
        have hXz : y1.heap.size ≤ z.heap.size := T1.gr.size
        refine hK.out _ _ (T2.box.cell 2) (fun hHeld => ?_)
        clear hK K k0 k1 k2 k3 k4
        try simp only [Act.put, List.setIfInBounds_toArray, List.set_cons_zero, List.set_cons_succ]
        generalize z.alloc (.cells #[.string ⟨#[]⟩, .string ⟨#[]⟩, .string ⟨#[]⟩, .string ⟨#[]⟩, .bool false] 26) = u at *
        generalize z.heap.size = X at *
        have HP : Hid (DfF y1 B P a len cap X fs[Q] (((((u.setCell ⟨X, 0, none⟩ (.string fs[Q].n)).setCell ⟨X, 1, none⟩ (.string fs[Q].c)).setCell ⟨X, 2, none⟩ (.string fs[Q].s)).setCell ⟨X, 3, none⟩ (.string fs[Q].v)).setCell ⟨X, 4, none⟩ (.bool fs[Q].g))) := put5 T2.src T2.gr T2.hp hXz X2 fs[Q]
        have HOf : Hid (FldOk fs[Q]) := HOk.out.2.2.2 _ (List.getElem_mem hQ)
        obtain ⟨m0, m1, m2, m3, m4⟩ := X2.five
        have n0 := X2.fr 0
        have n1 := X2.fr 1
        have n2 := X2.fr 2
        have n3 := X2.fr 3
        have n4 := X2.fr 4
        refine till_last rfl (by kernel_rfl) (by kernel_rfl) (fun K hK => ?_)
        go_simp
        refine hK.out _ _ ?_
        clear hK K
        clear m0 m1 m2 m3 m4 n0 n1 n2 n3 n4 X2 T2 hHeld
        go_wp2_with fail
        go_meet
        exact ⟨_, fs[Q], rfl, HP, HOf⟩
      · go_simp
        have T2 : DfS y1 B P a len cap Z k at_ (.slice (some ⟨bq, 0, none⟩) fs.length cq) fs (z.alloc (.cells #[.string ⟨#[]⟩, .string ⟨#[]⟩, .string ⟨#[]⟩, .string ⟨#[]⟩, .bool false] 26)) := T1.below ((Below.refl _ _).alloc (Nat.le_refl _) _)
        have X2 : Bxs (z.alloc (.cells #[.string ⟨#[]⟩, .string ⟨#[]⟩, .string ⟨#[]⟩, .string ⟨#[]⟩, .bool false] 26)) z.heap.size 26 #[.string ByteArray.empty, .string ByteArray.empty, .string ByteArray.empty, .string ByteArray.empty, .bool false] := Bxs.new _ _ _
        have hXz : y1.heap.size ≤ z.heap.size := T1.gr.size
        refine hK.out _ _ (T2.box.cell 2) (fun hHeld => ?_)
        clear hK K k0 k1 k2 k3 k4
        try simp only [Act.put, List.setIfInBounds_toArray, List.set_cons_zero, List.set_cons_succ]
        generalize z.alloc (.cells #[.string ⟨#[]⟩, .string ⟨#[]⟩, .string ⟨#[]⟩, .string ⟨#[]⟩, .bool false] 26) = u at *
        generalize z.heap.size = X at *
        obtain ⟨k0, k1, k2, k3, k4⟩ := HF.out _ Q hQ T2
        refine till_ready 8 rfl (by kernel_rfl) (fun K hK => ?_)
        go_simp
        refine hK.out _ _ (T2.box.cell 2) (fun hHeld => ?_)
        clear hK K
        try simp only [Act.put, List.setIfInBounds_toArray, List.set_cons_zero, List.set_cons_succ]
        clear k0 k1 k2 k3 k4
        have HP : Hid (DfF y1 B P a len cap X fs[Q] (((((u.setCell ⟨X, 0, none⟩ (.string fs[Q].n)).setCell ⟨X, 1, none⟩ (.string fs[Q].c)).setCell ⟨X, 2, none⟩ (.string fs[Q].s)).setCell ⟨X, 3, none⟩ (.string fs[Q].v)).setCell ⟨X, 4, none⟩ (.bool fs[Q].g))) := put5 T2.src T2.gr T2.hp hXz X2 fs[Q]
        have HOf : Hid (FldOk fs[Q]) := HOk.out.2.2.2 _ (List.getElem_mem hQ)
        obtain ⟨m0, m1, m2, m3, m4⟩ := X2.five
        have n0 := X2.fr 0
        have n1 := X2.fr 1
        have n2 := X2.fr 2
        have n3 := X2.fr 3
        have n4 := X2.fr 4
        refine till_last rfl (by kernel_rfl) (by kernel_rfl) (fun K hK => ?_)
        go_simp
        refine hK.out _ _ ?_
        clear hK K
        clear m0 m1 m2 m3 m4 n0 n1 n2 n3 n4 X2 T2 hHeld
        go_wp2_with fail
        go_meet
        exact ⟨_, fs[Q], rfl, HP, HOf⟩
    · go_simp
      have T0 : DfS y1 B P a len cap Z k at_ (.slice (some ⟨bq, 0, none⟩) fs.length cq) fs ((y3.alloc (.cells #[.string ⟨#[]⟩, .string ⟨#[]⟩, .string ⟨#[]⟩, .string ⟨#[]⟩, .bool false] 26)).drew) := S4.out.below ((Below.refl y3.drew.heap.size y3.drew).alloc (Nat.le_refl _) (.cells #[.string ⟨#[]⟩, .string ⟨#[]⟩, .string ⟨#[]⟩, .string ⟨#[]⟩, .bool false] 26))
      have X0 : Bxs ((y3.alloc (.cells #[.string ⟨#[]⟩, .string ⟨#[]⟩, .string ⟨#[]⟩, .string ⟨#[]⟩, .bool false] 26)).drew) y3.heap.size 26 #[.string ByteArray.empty, .string ByteArray.empty, .string ByteArray.empty, .string ByteArray.empty, .bool false] := (Bxs.new y3 _ _ : Bxs (y3.alloc (.cells #[.string ⟨#[]⟩, .string ⟨#[]⟩, .string ⟨#[]⟩, .string ⟨#[]⟩, .bool false] 26)) _ _ _)
      have hXz : y1.heap.size ≤ y3.heap.size := S4.out.gr.size
      have hPy : P < y3.heap.size := S4.out.src.lt
      refine hK.out _ _ (T0.box.cell 2) (fun hHeld => ?_)
      clear hK K
      try simp only [Act.put, List.setIfInBounds_toArray, List.set_cons_zero, List.set_cons_succ]
      refine till_ready 6 rfl (by kernel_rfl) (fun K hK => ?_)
      go_simp
      (go_at_call 39; with_reducible refine (QN.out _ T0).mono ?_; rintro e z ⟨Q, rfl, hQ, T2, gz⟩)
      have i1 : (Q : Int) < fs.length := by omega
      have X2 := X0.grown gz (fun e => by cases e; omega)
      obtain ⟨k0, k1, k2, k3, k4⟩ := HF.out z Q hQ T2
      refine hK.out _ _ (T2.box.cell 2) (fun hHeld => ?_)
      clear hK K
      try simp only [Act.put, List.setIfInBounds_toArray, List.set_cons_zero, List.set_cons_succ]
      refine till_take 7 (v := ?_) rfl (by kernel_rfl) (by kernel_rfl) (by kernel_rfl) (by kernel_rfl) (fun _ _ _ h => h) hHeld (Or.inl ⟨by rfl, ?_⟩) ?_
      rotate_left
      · (intro w hSw; (try dsimp only at hSw); go_simp; try with_reducible rfl)
      simp only [Act.put, List.setIfInBounds_toArray, List.set_cons_zero, List.set_cons_succ]
      refine till_ready 8 rfl (by kernel_rfl) (fun K hK => ?_)
      go_simp
      refine hK.out _ _ (T2.box.cell 2) (fun hHeld => ?_)
      clear hK K
      try simp only [Act.put, List.setIfInBounds_toArray, List.set_cons_zero, List.set_cons_succ]
      clear k0 k1 k2 k3 k4 X0 T0 c2
      generalize y3.heap.size = X at *
      have HP : Hid (DfF y1 B P a len cap X fs[Q] (((((z.setCell ⟨X, 0, none⟩ (.string fs[Q].n)).setCell ⟨X, 1, none⟩ (.string fs[Q].c)).setCell ⟨X, 2, none⟩ (.string fs[Q].s)).setCell ⟨X, 3, none⟩ (.string fs[Q].v)).setCell ⟨X, 4, none⟩ (.bool fs[Q].g))) := put5 T2.src T2.gr T2.hp hXz X2 fs[Q]
      have HOf : Hid (FldOk fs[Q]) := HOk.out.2.2.2 _ (List.getElem_mem hQ)
      obtain ⟨m0, m1, m2, m3, m4⟩ := X2.five
      have n0 := X2.fr 0
      have n1 := X2.fr 1
      have n2 := X2.fr 2
      have n3 := X2.fr 3
      have n4 := X2.fr 4
      refine till_last rfl (by kernel_rfl) (by kernel_rfl) (fun K hK => ?_)
      go_simp
      refine hK.out _ _ ?_
      clear hK K
      clear m0 m1 m2 m3 m4 n0 n1 n2 n3 n4 X2 T2 hHeld
      go_wp2_with fail
      go_meet
      exact ⟨_, fs[Q], rfl, HP, HOf⟩
  case rest =>
    obtain ⟨X, f, rfl, HD, HOf⟩ := hcut
    obtain ⟨w7, rfl⟩ : ∃ w7 : World, w7 = wc := ⟨_, rfl⟩
    obtain ⟨hs7, hg7, hx7, hX7, hp7⟩ := HD.out
    clear HD S4 BR QN HF c2 HOk
    go_wp2_with fail
    refine (one_any B P a len cap 4 w7 hs7 (by omega)).mono ?_
    rintro e y8 ⟨⟨bo, rfl⟩, hs8, hg8⟩
    have x8 : Bxs y8 X 26 #[.string f.n, .string f.c, .string f.s, .string f.v, .bool f.g] := hx7.grown hg8 (fun e => by cases e; omega)
    have g8 : y1.grownBy y8 (some P) := touch_trans hg7 hg8
    have HB8 : Hid (Below w.heap.size w y8) := HBl.out y8 g8
    have R8 := HRes.out y8 g8
    have hne : w.heap.size ≠ X := by have := HY1.out; omega
    clear hs7 hg7 hx7 hs8 hg8 HBl HRes
    obtain ⟨c0, c1, c2, c3, c4⟩ := x8.five
    obtain ⟨d0, d1, d2, d3, d4⟩ := R8.five
    have f0 := R8.fr 0
    have f1 := R8.fr 1
    have f2 := R8.fr 2
    have f3 := R8.fr 3
    have f4 := R8.fr 4
    cases bo
    · have HB : Hid (∀ x0 x1 x2 x3 x4 : Value, Below w.heap.size w (((((y8.setCell ⟨w.heap.size, 0, none⟩ x0).setCell ⟨w.heap.size, 1, none⟩ x1).setCell ⟨w.heap.size, 2, none⟩ x2).setCell ⟨w.heap.size, 3, none⟩ x3).setCell ⟨w.heap.size, 4, none⟩ x4)) := fun x0 x1 x2 x3 x4 => below_set5 HB8.out (Nat.le_refl _) _ _ _ _ _
      clear x8 R8 g8
      go_wp2_with fail
      refine bodyPost_ret (v := .agg #[.string f.n, .string f.c, .string f.s, .string f.v, .bool f.g]) (by simp [results, Tryd.results6, go_sem, d0, d1, d2, d3, d4]) rfl ?_
      exact ⟨⟨f, rfl, HOf.out⟩, HB.out _ _ _ _ _⟩
    · have h4 := x8.fr 4
      obtain ⟨y9, hy9⟩ : ∃ y9, y9 = y8.setCell ⟨X, 4, none⟩ (.bool (!f.g)) := ⟨_, rfl⟩
      have x9 : Bxs y9 X 26 #[.string f.n, .string f.c, .string f.s, .string f.v, .bool (!f.g)] := by rw [hy9]; exact x8.set 4 _
      have R9 := R8.other X 4 (Ne.symm hne) (.bool (!f.g))
      rw [← hy9] at R9
      have HB9 : Hid (Below w.heap.size w y9) := by rw [hy9]; exact HB8.out.setCell (show w.heap.size ≤ X by have := HY1.out; omega) _
      have HB : Hid (∀ x0 x1 x2 x3 x4 : Value, Below w.heap.size w (((((y9.setCell ⟨w.heap.size, 0, none⟩ x0).setCell ⟨w.heap.size, 1, none⟩ x1).setCell ⟨w.heap.size, 2, none⟩ x2).setCell ⟨w.heap.size, 3, none⟩ x3).setCell ⟨w.heap.size, 4, none⟩ x4)) := fun x0 x1 x2 x3 x4 => below_set5 HB9.out (Nat.le_refl _) _ _ _ _ _
      have HY9 : Hid (y9 = y8.setCell ⟨X, 4, none⟩ (.bool (!f.g))) := hy9
      have HO9 : Hid (FldOk (⟨f.n, f.c, f.s, f.v, !f.g⟩ : Fld)) := HOf.out
      clear x8 R8 g8 hy9 d0 d1 d2 d3 d4 f0 f1 f2 f3 f4
      go_upto_region 6 with fail
      rw [← HY9.out]
      obtain ⟨c0, c1, c2, c3, c4⟩ := x9.five
      obtain ⟨d0, d1, d2, d3, d4⟩ := R9.five
      have f0 := R9.fr 0
      have f1 := R9.fr 1
      have f2 := R9.fr 2
      have f3 := R9.fr 3
      have f4 := R9.fr 4
      clear HY9 x9 R9
      go_wp2_with fail
      refine bodyPost_ret (v := .agg #[.string f.n, .string f.c, .string f.s, .string f.v, .bool (!f.g)]) (by simp [results, Tryd.results6, go_sem, d0, d1, d2, d3, d4]) rfl ?_
      exact ⟨⟨⟨f.n, f.c, f.s, f.v, !f.g⟩, rfl, HO9.out⟩, HB.out _ _ _ _ _⟩
end Go.Proofs.YtnomkcbcjaagmabDoor
