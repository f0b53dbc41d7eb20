/-
  Parts of one proof, laid as one text: DrawRw, DrawPut; what each says stands at its head.
-/
import Derived.Test.YtnomkcbcjaagmabGreatDoorRows
import Derived.Test.YtnomkcbcjaagmabGreatDoorBytesDigMath
import Derived.Test.YtnomkcbcjaagmabGreatDoorSlASlBOwnS
import Derived.Test.YtnomkcbcjaagmabGreatDoorBxKGrKTakesSrc
import Derived.Test.YtnomkcbcjaagmabGreatDoorFldHStepAppTakesLOwnBTurn2
import Derived.Test.YtnomkcbcjaagmabGreatDoorSpecGTTillTwoFldRd
import Derived.Test.YtnomkcbcjaagmabGreatDoorDrawsDrawKit
import Derived.Test.YtnomkcbcjaagmabGreatDoorLwShwSomeDrawFld
import Derived.Test.YtnomkcbcjaagmabGreatDoorJoinedPutTextFldMath
import Derived.Test.YtnomkcbcjaagmabGreatDoorFldRiseFldGShwK
import Derived.Test.YtnomkcbcjaagmabGreatDoorOneKFldOM
import Derived.Test.YtnomkcbcjaagmabGreatDoorFldO
import Derived.Test.YtnomkcbcjaagmabGreatDoorDrawRow
import Derived.Test.YtnomkcbcjaagmabGreatDoorDrawSm
import Derived.Handy
import Derived.WalkSpells
import Derived.OwnWalk
import Derived.Deep.RegionHeld3
import Derived.Deep.Cut
import Derived.Deep.CutRange
import Derived.Test.YtnomkcbcjaagmabGreatDoorAppSImplFT
/-
  What DrawCommitOf, DrawForget and DrawFieldRight draw.
  Conditions: the code's bytes lie there.
-/
namespace Go.Proofs.YtnomkcbcjaagmabGreatDoor
open Go.RowKit Go.Lib
set_option linter.unusedVariables false
set_option maxRecDepth 20000

/-- A source of the call's own, a row's box, its fields of its own. -/
structure DfS (w1 : World) (B p : Nat) (a : Option Addr) (len cap : Nat) (Z : Nat) (k : ByteArray) (at_ : Int) (v : Value) (fs : List Fld) (x : World) : Prop where
  src : Src 133 B p a len cap x
  gr : w1.grownBy x (some p)
  box : Bxs x Z 44 #[.string k, .int .i64 at_, v]
  own : x.ownsRow w1.heap.size 59 5 v fs.length (fldRow fs)
  hp : p < w1.heap.size
  hZ : w1.heap.size ≤ Z
section
variable {w1 : World} {B p : Nat} {a : Option Addr} {len cap Z : Nat} {k : ByteArray} {at_ : Int} {v : Value} {fs : List Fld} {x y : World}
theorem DfS.draw (h : DfS w1 B p a len cap Z k at_ v fs x) (hs : Src 133 B p a len cap y) (g : x.grownBy y (some p)) : DfS w1 B p a len cap Z k at_ v fs y := by
  have hp := h.hp
  have hZ := h.hZ
  exact ⟨hs, touch_trans h.gr g, h.box.grown g (fun e => by cases e; omega), ownR_grown h.own g (fun j hj e => by have := (h.own.lt j hj).1; cases e; omega), hp, hZ⟩
theorem DfS.below (h : DfS w1 B p a len cap Z k at_ v fs x) (b : Below x.heap.size x y) : DfS w1 B p a len cap Z k at_ v fs y :=
  ⟨h.src.below b, touch_below h.gr b, h.box.below b, ownS_below h.own b, h.hp, h.hZ⟩
/-- A row that was drawn, put into a box. -/
theorem DfS.new (hs : Src 133 B p a len cap x) (hg : w1.grownBy x (some p)) (hp : p < w1.heap.size) (own : x.ownsRow w1.heap.size 59 5 v fs.length (fldRow fs)) : DfS w1 B p a len cap x.heap.size k at_ v fs (x.alloc (.cells #[.string k, .int .i64 at_, v] 44)) := by
  have ba : Below x.heap.size x (x.alloc (.cells #[.string k, .int .i64 at_, v] 44)) := (Below.refl _ _).alloc (Nat.le_refl _) _
  exact ⟨hs.below ba, touch_below hg ba, Bxs.new _ _ _, ownS_below own ba, hp, hg.size⟩
end
set_option maxHeartbeats 4000000 in
theorem drawForget_any (B : Nat) (a : Option Addr) (len cap : Nat) (w : World) (hlen : len ≤ 1048576) (hB : B ≤ w.heap.size) (hc : CodeAt B a len w) :
    Calls Tryz.prog 65 #[.slice a len cap] w fun e w' => (∃ (k : ByteArray) (at_ : Int) (fs : List Fld) (v : Value) (q : Int), e = .returned (.tuple #[.agg #[.string k, .int .i64 at_, v], .int .i64 q]) ∧ w'.ownsRow w.heap.size 59 5 v fs.length (fldRow fs) ∧ SmOk 4 k at_ fs ∧ -1 ≤ q ∧ q ≤ 3) ∧ Below w.heap.size w w' := by
  obtain ⟨W1, hW1⟩ : ∃ W1, W1 = w.alloc (.cells #[.string ⟨#[]⟩, .int .i64 0, .slice none 0 0] 44) := ⟨_, rfl⟩
  have HW : Hid (W1 = w.alloc (.cells #[.string ⟨#[]⟩, .int .i64 0, .slice none 0 0] 44)) := hW1
  have b1 : Hid (Below w.heap.size w W1) := by rw [hW1]; exact (Below.refl _ _).alloc (Nat.le_refl _) _
  have R1 : Hid (Bxs W1 w.heap.size 44 #[.string ByteArray.empty, .int .i64 0, .slice none 0 0]) := by rw [hW1]; exact Bxs.new _ _ _
  have HZ1 : Hid (W1.heap.size = w.heap.size + 1) := by rw [hW1]; exact szA _ _
  have hB1 : B ≤ W1.heap.size := Nat.le_trans hB b1.out.size
  have HC : Hid (CodeAt B a len W1) := hc.below (b1.out.mono hB)
  clear hW1 hc
  go_enter Tryz.func65, Tryz.ntmps65
  go_wp2_with fail
  rw [← HW.out]
  clear HW
  refine (source_any B a len cap W1 hlen hB1 HC.out).mono ?_
  rintro e y1 ⟨rfl, s1, bs1⟩
  obtain ⟨P, hP⟩ : ∃ P, P = W1.heap.size := ⟨_, rfl⟩
  rw [← hP] at s1 ⊢
  have HPe : Hid (P = W1.heap.size) := hP
  clear hP
  go_wp2_with fail
  refine (l07Some_any B P a len cap y1 s1).mono ?_
  rintro e y2 ⟨⟨k, at_, fs, v, rfl, own, ok⟩, s2, g2⟩
  obtain ⟨bq, cq, rfl, -⟩ := ownF_one own ok.2.2.1.1
  go_upto_region 3 with fail
  obtain ⟨y3, hy3⟩ : ∃ y3, y3 = y2.alloc (.cells #[.string k, .int .i64 at_, .slice (some ⟨bq, 0, none⟩) fs.length cq] 44) := ⟨_, rfl⟩
  rw [← hy3]
  obtain ⟨Z, hZ⟩ : ∃ Z, Z = y2.heap.size := ⟨_, rfl⟩
  rw [← hZ]
  have S3 : Hid (DfS y1 B P a len cap Z k at_ (.slice (some ⟨bq, 0, none⟩) fs.length cq) fs y3) := by rw [hy3, hZ]; exact DfS.new s2 g2 s1.lt own
  have HOk : Hid (SmOk 4 k at_ fs) := ok
  have HRes : Hid (∀ x, y1.grownBy x (some P) → Bxs x w.heap.size 44 #[.string ByteArray.empty, .int .i64 0, .slice none 0 0]) := fun x hx => by
    have e1 := HZ1.out
    have e2 := HPe.out
    exact (R1.out.below bs1).grown hx (fun e => by cases e; omega)
  have HBl : Hid (∀ x, y1.grownBy x (some P) → Below w.heap.size w x) := fun x hx => by
    have e1 := HZ1.out
    have e2 := HPe.out
    exact below_touch (chainB b1.out bs1) hx (by omega)
  have HY1 : Hid (w.heap.size + 1 ≤ y1.heap.size) := by show _ ≤ _; have := HZ1.out; have := bs1.size; omega
  clear hy3 hZ own ok s2 g2 s1 bs1 HZ1 b1 R1 HC
  have QN : Hid (∀ x, DfS y1 B P a len cap Z k at_ (.slice (some ⟨bq, 0, none⟩) fs.length cq) fs x → Calls Tryz.prog 39 #[.pointer (some ⟨P, 0, none⟩), .int .i64 5] x fun e x1 => ∃ q : Int, e = .returned (.int .i64 q) ∧ 0 ≤ q ∧ q < 5 ∧ DfS y1 B P a len cap Z k at_ (.slice (some ⟨bq, 0, none⟩) fs.length cq) fs x1) := fun x hx => by
    refine (n_any B P a len cap 5 x hx.src (by omega)).mono ?_
    rintro e x1 ⟨⟨q, rfl, q0, q1, -⟩, s1, g1⟩
    exact ⟨q, rfl, q0, q1 (by omega), hx.draw s1 g1⟩
  have BR : Hid (Below y3.heap.size y3 y3.drew) := (Below.refl _ _).drew
  have S4 : Hid (DfS y1 B P a len cap Z k at_ (.slice (some ⟨bq, 0, none⟩) fs.length cq) fs y3.drew) := S3.out.below BR.out
  have HEnd : Hid (∀ (x : World) (q : Int) (x0 x1 x2 : Value), DfS y1 B P a len cap Z k at_ (.slice (some ⟨bq, 0, none⟩) fs.length cq) fs x → 0 ≤ q → q < 5 → (∃ (k' : ByteArray) (at' : Int) (fs' : List Fld) (v' : Value) (q' : Int), Ending.returned (.tuple #[.agg #[.string k, .int .i64 at_, .slice (some ⟨bq, 0, none⟩) fs.length cq], .int .i64 (q - 1)]) = .returned (.tuple #[.agg #[.string k', .int .i64 at', v'], .int .i64 q']) ∧ (((x.setCell ⟨w.heap.size, 0, none⟩ x0).setCell ⟨w.heap.size, 1, none⟩ x1).setCell ⟨w.heap.size, 2, none⟩ x2).ownsRow w.heap.size 59 5 v' fs'.length (fldRow fs') ∧ SmOk 4 k' at' fs' ∧ -1 ≤ q' ∧ q' ≤ 3) ∧ Below w.heap.size w (((x.setCell ⟨w.heap.size, 0, none⟩ x0).setCell ⟨w.heap.size, 1, none⟩ x1).setCell ⟨w.heap.size, 2, none⟩ x2)) := by
    intro x q x0 x1 x2 hx q0 q1
    have hn := ownF_ne hx.own (HRes.out x hx.gr) (by decide)
    exact ⟨⟨k, at_, fs, _, q - 1, rfl, ownS_mono (ownsRow_setCell_other (ownsRow_setCell_other (ownsRow_setCell_other hx.own hn _) hn _) hn _) (by have := HY1.out; omega), HOk.out, by omega, by omega⟩, below_set3 (HBl.out x hx.gr) (Nat.le_refl _) _ _ _⟩
  have HX : Hid (∀ x, DfS y1 B P a len cap Z k at_ (.slice (some ⟨bq, 0, none⟩) fs.length cq) fs x → (x.cell? ⟨Z, 0, none⟩ = some (.string k) ∧ x.cell? ⟨Z, 1, none⟩ = some (.int .i64 at_) ∧ x.cell? ⟨Z, 2, none⟩ = some (.slice (some ⟨bq, 0, none⟩) fs.length cq)) ∧ (x.cell? ⟨w.heap.size, 0, none⟩ = some (.string ByteArray.empty) ∧ x.cell? ⟨w.heap.size, 1, none⟩ = some (.int .i64 0) ∧ x.cell? ⟨w.heap.size, 2, none⟩ = some (.slice none 0 0)) ∧ x.frozen? ⟨w.heap.size, 0, none⟩ = false ∧ x.frozen? ⟨w.heap.size, 1, none⟩ = false ∧ x.frozen? ⟨w.heap.size, 2, none⟩ = false) := fun x hx => by
    have r := HRes.out x hx.gr
    exact ⟨⟨hx.box.cell 0, hx.box.cell 1, hx.box.cell 2⟩, ⟨r.cell 0, r.cell 1, r.cell 2⟩, r.fr 0, r.fr 1, r.fr 2⟩
  have HXs : Hid (∀ (x : World) (u0 u1 u2 : Value), DfS y1 B P a len cap Z k at_ (.slice (some ⟨bq, 0, none⟩) fs.length cq) fs x → (((x.setCell ⟨w.heap.size, 0, none⟩ u0).setCell ⟨w.heap.size, 1, none⟩ u1).setCell ⟨w.heap.size, 2, none⟩ u2).cell? ⟨Z, 0, none⟩ = some (.string k) ∧ (((x.setCell ⟨w.heap.size, 0, none⟩ u0).setCell ⟨w.heap.size, 1, none⟩ u1).setCell ⟨w.heap.size, 2, none⟩ u2).cell? ⟨Z, 1, none⟩ = some (.int .i64 at_) ∧ (((x.setCell ⟨w.heap.size, 0, none⟩ u0).setCell ⟨w.heap.size, 1, none⟩ u1).setCell ⟨w.heap.size, 2, none⟩ u2).cell? ⟨Z, 2, none⟩ = some (.slice (some ⟨bq, 0, none⟩) fs.length cq)) := fun x u0 u1 u2 hx => by
    have hne : w.heap.size ≠ Z := by have := HY1.out; have := hx.hZ; omega
    have hb := ((hx.box.other w.heap.size 0 hne u0).other w.heap.size 1 hne u1).other w.heap.size 2 hne u2
    exact ⟨hb.cell 0, hb.cell 1, hb.cell 2⟩
  obtain ⟨⟨c0, c1, c2⟩, ⟨d0, d1, d2⟩, f0, f1, f2⟩ := HX.out _ S3.out
  clear S3 HRes HBl HY1 HOk
  refine wp_region_held_drew (S := fun w' => w'.cell? ⟨Z, 0, none⟩ = some (.string k) ∧ w'.cell? ⟨Z, 1, none⟩ = some (.int .i64 at_) ∧ w'.cell? ⟨Z, 2, none⟩ = some (.slice (some ⟨bq, 0, none⟩) fs.length cq)) (by kernel_rfl) ((HX.out _ S4.out).1) (fun hHeld => ?_)
  refine take_at 0 (v := ?_) rfl (by kernel_rfl) (by kernel_rfl) (by kernel_rfl) (fun _ _ _ h => h) hHeld (Or.inl ⟨by rfl, ?_⟩) ?_
  rotate_left
  · (intro w hSw; (try dsimp only at hSw); go_simp; try with_reducible rfl)
  simp only [Act.put, List.setIfInBounds_toArray, List.set_cons_zero, List.set_cons_succ]
  refine take_at 1 (v := ?_) rfl (by kernel_rfl) (by kernel_rfl) (by kernel_rfl) (fun _ _ _ h => h) hHeld (Or.inl ⟨by rfl, ?_⟩) ?_
  rotate_left
  · (intro w hSw; (try dsimp only at hSw); go_simp; try with_reducible rfl)
  simp only [Act.put, List.setIfInBounds_toArray, List.set_cons_zero, List.set_cons_succ]
  refine ready_at 2 rfl (by kernel_rfl) (fun K hK => ?_)
  go_simp
  (go_at_call 39; with_reducible refine (QN.out _ S4.out).mono ?_; rintro e z1 ⟨q, rfl, q0, q1, T1⟩; obtain ⟨⟨c0, c1, c2⟩, ⟨d0, d1, d2⟩, f0, f1, f2⟩ := HX.out _ T1; have hw : IntKind.i64.wrap (q - 1) = q - 1 := (by rw [IntKind.wrap_i64]; omega))
  refine hK.out _ _ ((HX.out _ T1).1) (fun hHeld => ?_)
  clear hK K
  try simp only [Act.put, List.setIfInBounds_toArray, List.set_cons_zero, List.set_cons_succ]
  refine take_at 3 (v := ?_) rfl (by kernel_rfl) (by kernel_rfl) (by kernel_rfl) (fun _ _ _ h => h) hHeld (Or.inl ⟨by rfl, ?_⟩) ?_
  rotate_left
  · (intro w hSw; (try dsimp only at hSw); go_simp; try with_reducible rfl)
  simp only [Act.put, List.setIfInBounds_toArray, List.set_cons_zero, List.set_cons_succ]
  refine ready_at 4 rfl (by kernel_rfl) (fun K hK => ?_)
  go_simp
  refine hK.out _ _ (HXs.out _ _ _ _ T1) (fun hHeld => ?_)
  clear hK K
  try simp only [Act.put, List.setIfInBounds_toArray, List.set_cons_zero, List.set_cons_succ]
  refine take_at 5 (v := ?_) rfl (by kernel_rfl) (by kernel_rfl) (by kernel_rfl) (fun _ _ _ h => h) hHeld (Or.inl ⟨by rfl, ?_⟩) ?_
  rotate_left
  · (intro w hSw; (try dsimp only at hSw); go_simp; try with_reducible rfl)
  simp only [Act.put, List.setIfInBounds_toArray, List.set_cons_zero, List.set_cons_succ]
  refine wpAnyH_done (by kernel_rfl) ?_ _
  have HE : Hid _ := fun x0 x1 x2 => HEnd.out z1 q x0 x1 x2 T1 q0 q1
  clear HEnd HX QN T1 hHeld
  go_wp2_with fail
  refine bodyPost_ret (v := .tuple #[.agg #[.string k, .int .i64 at_, .slice (some ⟨bq, 0, none⟩) fs.length cq], .int .i64 (q - 1)]) (by simp [results, Tryz.results65, go_sem, d0, d1, d2]) rfl ?_
  exact HE.out _ _ _
end Go.Proofs.YtnomkcbcjaagmabGreatDoor
/-
  What l07Put answers: the text among the others, in its place, once; a row of texts of its own.
  Conditions: the texts lie in a row of one's own.
-/
namespace Go.Proofs.YtnomkcbcjaagmabGreatDoor
open Go.RowKit Go.Lib
set_option linter.unusedVariables false
set_option maxRecDepth 20000

theorem ownS_one {w : World} {base : Nat} {v : Value} {l : List ByteArray} (h : w.ownsRow base 9 1 v l.length (strRow l)) (h0 : 1 ≤ l.length) : ∃ b cap, v = .slice (some ⟨b, 0, none⟩) l.length cap ∧ l.length ≤ cap := by
  rcases h.2 with ⟨rfl, h1⟩ | ⟨g, cap, cur, rfl, h2, h3, h4, -⟩
  · omega
  · exact ⟨g, cap, rfl, h4⟩
theorem size1S (wx : World) : (sizeOf (Tryz.prog.elem 23)).run Tryz.prog wx = .ok 1 wx := by kernel_rfl
theorem elemS : Tryz.prog.underlying 23 = some (.slice (Tryz.prog.elem 23)) := by kernel_rfl
theorem sl_high (q : Option Addr) (n c k : Nat) (hk : k ≤ c) (wx : World) : (Instr.slice 23 (.slice q n c) none (some (.int .i64 (k : Int))) none).run Tryz.prog wx = .ok (.slice q k c) wx := by
  rw [run_slice_h (P := Tryz.prog) wx 23 q n c elemS .i64 (k : Int) (by omega) (by omega), size1S]
  cases q <;> simp [sliced, Result.andThen, Addr.add]
/-- The cells from the k-th on. -/
theorem sl_low (b off n c k : Nat) (hk : k ≤ n) (hn : n ≤ c) : ∃ q : Option Addr, (∀ wx, (Instr.slice 23 (.slice (some ⟨b, off, none⟩) n c) (some (.int .i64 (k : Int))) none none).run Tryz.prog wx = .ok (.slice q (n - k) (c - k)) wx) ∧ (∃ o, q = some ⟨b, o, none⟩) ∧ (k < c → q = some ⟨b, off + k, none⟩) := by
  by_cases h : c = k
  · refine ⟨some ⟨b, off, none⟩, fun wx => ?_, ⟨_, rfl⟩, fun h2 => by omega⟩
    rw [run_slice_l (P := Tryz.prog) wx 23 (some ⟨b, off, none⟩) n c elemS .i64 (k : Int) (by omega) (by omega), size1S]
    simp [sliced, Result.andThen, h]
  · refine ⟨some ⟨b, off + k, none⟩, fun wx => ?_, ⟨_, rfl⟩, fun _ => rfl⟩
    rw [run_slice_l (P := Tryz.prog) wx 23 (some ⟨b, off, none⟩) n c elemS .i64 (k : Int) (by omega) (by omega), size1S]
    simp [sliced, Result.andThen, Addr.add, h]
theorem txt_drop {w : World} {b off : Nat} {l : List ByteArray} (h : TxtAt w (some ⟨b, off, none⟩) l) (k : Nat) {q : Option Addr} (hq : k < l.length → q = some ⟨b, off + k, none⟩) : TxtAt w q (l.drop k) := by
  intro i hi
  have hi' : k + i < l.length := by rw [List.length_drop] at hi; omega
  obtain ⟨b', o', e, h1, h2⟩ := h (k + i) hi'
  cases e
  refine ⟨b, off + k, hq (by omega), h1, ?_⟩
  rw [List.getElem_drop, Nat.add_assoc]; exact h2
theorem txt_take {w : World} {q : Option Addr} {l : List ByteArray} (h : TxtAt w q l) (k : Nat) : TxtAt w q (l.take k) := by
  intro i hi
  have hi' : i < l.length := by rw [List.length_take] at hi; omega
  obtain ⟨b', o', e, h1, h2⟩ := h i hi'
  refine ⟨b', o', e, h1, ?_⟩
  rw [List.getElem_take]; exact h2
/-- The three appends that put a text among others. -/
theorem put_rest (b c k : Nat) (l : List ByteArray) (t : ByteArray) (x : World) (HT : TxtAt x (some ⟨b, 0, none⟩) l) (hk : k ≤ l.length) (hl : l.length ≤ 100) (hc : l.length ≤ c) :
    ∃ (p1 : Option Addr) (d1 : Nat) (y1 : World) (g2 d2 : Nat) (y2 : World) (q : Option Addr) (g3 d3 : Nat) (y3 : World) (l' : List ByteArray),
      (Builtin.append_ #[23, 23] 23 #[.slice (some ⟨x.heap.size, 0, none⟩) 0 0, .slice (some ⟨b, 0, none⟩) k c]).run Tryz.prog (x.alloc (.cells #[] 9)) = .ok (.slice p1 k d1) y1 ∧
      (Builtin.append_ #[23, 23] 23 #[.slice p1 k d1, .slice (some ⟨y1.heap.size, 0, none⟩) 1 1]).run Tryz.prog (y1.alloc (.cells #[.string t] 9)) = .ok (.slice (some ⟨g2, 0, none⟩) (k + 1) d2) y2 ∧
      (∀ wx, (Instr.slice 23 (.slice (some ⟨b, 0, none⟩) l.length c) (some (.int .i64 (k : Int))) none none).run Tryz.prog wx = .ok (.slice q (l.length - k) (c - k)) wx) ∧
      (Builtin.append_ #[23, 23] 23 #[.slice (some ⟨g2, 0, none⟩) (k + 1) d2, .slice q (l.length - k) (c - k)]).run Tryz.prog y2 = .ok (.slice (some ⟨g3, 0, none⟩) l'.length d3) y3 ∧
      y3.ownsRow x.heap.size 9 1 (.slice (some ⟨g3, 0, none⟩) l'.length d3) l'.length (strRow l') ∧ l' = l.take k ++ [t] ++ l.drop k ∧ x.heap.size ≤ g3 ∧ Below x.heap.size x y3 := by
  have a1 : Below x.heap.size x (x.alloc (.cells #[] 9)) := (Below.refl _ _).alloc (Nat.le_refl _) _
  have hk2 : (l.take k).length = k := by rw [List.length_take]; omega
  obtain ⟨v1, y1, r1, o1, g1⟩ := app_texts (x.alloc (.cells #[] 9)) x.heap.size _ [] (ownS_none x) (some ⟨b, 0, none⟩) c (l.take k) (txt_take (HT.below a1) k) (by simp; omega) a1.size
  have b1 : Below x.heap.size x y1 := a1.grown g1 a1.size (fun j hj => by simp [Value.ownBlock] at hj; omega)
  rw [List.nil_append] at o1
  obtain ⟨p1, d1, rfl, hd1, -⟩ := ownS_form o1
  have hb1 := b1.size
  obtain ⟨g2, d2, y2, r2, o2, g2', -⟩ := app_str y1 x.heap.size _ (l.take k) o1 t (by omega) hb1
  have b2 : Below x.heap.size x y2 := (b1.alloc hb1 _).grown g2' (by rw [szA]; omega) (fun j hj => (o1.lt j hj).1)
  obtain ⟨q, rq, -, eq⟩ := sl_low b 0 l.length c k hk hc
  have hq : TxtAt y2 q (l.drop k) := txt_drop (HT.below b2) k (fun h => by rw [eq (by omega)])
  obtain ⟨v3, y3, r3, o3, g3'⟩ := app_texts y2 x.heap.size _ (l.take k ++ [t]) o2 q (c - k) (l.drop k) hq (by simp; omega) b2.size
  have b3 : Below x.heap.size x y3 := b2.grown g3' b2.size (fun j hj => (o2.lt j hj).1)
  obtain ⟨g3, d3, rfl, -⟩ := ownS_one o3 (by simp; omega)
  have hg3 := (o3.lt g3 rfl).1
  rw [hk2] at r1 r2
  rw [hk2, List.length_drop] at r3
  exact ⟨p1, d1, y1, g2, d2, y2, q, g3, d3, y3, _, r1, r2, rq, r3, o3, rfl, hg3, b3⟩
def PutP (base : Nat) (v : Value) (l : List ByteArray) (t : ByteArray) (w : World) (e : Ending) (w' : World) : Prop :=
  ∃ (g c : Nat) (l' : List ByteArray), e = .returned (.slice (some ⟨g, 0, none⟩) l'.length c) ∧ w'.ownsRow base 9 1 (.slice (some ⟨g, 0, none⟩) l'.length c) l'.length (strRow l') ∧ l'.length ≤ l.length + 1 ∧ (∀ x ∈ l', x ∈ l ∨ x = t) ∧ (v.ownBlock = some g ∨ w.heap.size ≤ g) ∧ Below w.heap.size w w'
end Go.Proofs.YtnomkcbcjaagmabGreatDoor
