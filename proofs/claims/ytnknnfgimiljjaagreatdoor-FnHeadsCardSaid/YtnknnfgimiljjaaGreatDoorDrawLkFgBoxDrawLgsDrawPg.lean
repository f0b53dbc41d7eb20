/-
  Parts of one proof, laid as one text: DrawLk, FgBox, DrawLgs, DrawPg; what each says stands at its head.
-/
import Derived.Test.YtnknnfgimiljjaaGreatDoorRows
import Derived.Test.YtnknnfgimiljjaaGreatDoorBytesDigMath
import Derived.Test.YtnknnfgimiljjaaGreatDoorTreeMathSlABxKSlBOwnSJoinedOwnB
import Derived.Test.YtnknnfgimiljjaaGreatDoorLtMathLaMathLfMathTakesLStepAppGrKDigAllTimeIImplFCBlNotTakes
import Derived.Test.YtnknnfgimiljjaaGreatDoorTillTwoPhaseKImplCp
import Derived.Test.YtnknnfgimiljjaaGreatDoorProofLawSrcDrawsDrawKitAppSSomeDrawTree
import Derived.Test.YtnknnfgimiljjaaGreatDoorTimeBPutMathPutNumPutTextFldMathFldRiseScanMath
import Derived.Test.YtnknnfgimiljjaaGreatDoorGetValGetTxtNumMathFldRdNumFromTmbMathLgMath
import Derived.Test.YtnknnfgimiljjaaGreatDoorLgAtKLgAnsLgRtShwKOneKFldGFldBlkRwBlkRowOpsLgO
import Derived.Test.YtnknnfgimiljjaaGreatDoorHeadLawLwPrfLwAtDrawLoDrawFldFldOM
import Derived.Test.YtnknnfgimiljjaaGreatDoorDrawLog
import Derived.Handy
import Derived.WalkSpells
import Derived.OwnWalk
import Derived.Deep.RegionWith
import Derived.Deep.RegionHeld3
import Derived.Deep.Cut
import Derived.Deep.CutRange
import Derived.Test.YtnknnfgimiljjaaGreatDoorProof2ProofIExtLgLgLaw
import Derived.Test.YtnknnfgimiljjaaGreatDoorPowerHalvesTreeTree2TreeHPathMathIncMathTakerTakePathConMathTakeProofConI
import Derived.Test.YtnknnfgimiljjaaGreatDoorSpecRtImplRt
import Derived.Test.YtnknnfgimiljjaaGreatDoorLawLgLawLhLawLzLawLmPrfLs
import Derived.Test.YtnknnfgimiljjaaGreatDoorLaSSpecPlLfSDrawLoMSpoilT
import Derived.Laws.OwnMore
/-
  A drawn log in a box, beside the source and the box of the result: what stays while more is drawn.
-/
namespace Go.Proofs.YtnknnfgimiljjaaGreatDoor
open Go.RowKit Go.Lib
set_option linter.unusedVariables false
set_option maxRecDepth 20000

/-- The log lies in blocks from base on and below top: while these stay, it can be read. -/
def LgTo (base top : Nat) (p : Option Addr) (lv : List ByteArray) (cp : Nat) (q : Option Addr) (rs : List Rw) (cq : Nat) (w : World) : Prop := top ≤ w.heap.size ∧ ∀ x : World, top ≤ x.heap.size → (∀ b, base ≤ b → b < top → x.heap[b]? = w.heap[b]?) → LgAt p lv cp q rs cq x
theorem LgTo.of {base : Nat} {p : Option Addr} {lv : List ByteArray} {cp : Nat} {q : Option Addr} {rs : List Rw} {cq : Nat} {w : World} (h : LgHi base p lv cp q rs cq w) : LgTo base w.heap.size p lv cp q rs cq w := ⟨Nat.le_refl _, h⟩
theorem LgTo.at {base top : Nat} {p : Option Addr} {lv : List ByteArray} {cp : Nat} {q : Option Addr} {rs : List Rw} {cq : Nat} {w : World} (h : LgTo base top p lv cp q rs cq w) : LgAt p lv cp q rs cq w := h.2 w h.1 (fun _ _ _ => rfl)
theorem LgTo.grown {base top : Nat} {p : Option Addr} {lv : List ByteArray} {cp : Nat} {q : Option Addr} {rs : List Rw} {cq : Nat} {w x : World} {row : Option Nat} (h : LgTo base top p lv cp q rs cq w) (k : w.grownBy x row) (hr : ∀ j, row = some j → j < base ∨ top ≤ j) : LgTo base top p lv cp q rs cq x :=
  ⟨Nat.le_trans h.1 k.size, fun y h1 h2 => h.2 y h1 (fun b hb hl => (h2 b hb hl).trans (k.block b (Nat.lt_of_lt_of_le hl h.1) (fun e => by have := hr b e.symm; omega)))⟩
theorem LgTo.below {base top : Nat} {p : Option Addr} {lv : List ByteArray} {cp : Nat} {q : Option Addr} {rs : List Rw} {cq : Nat} {w x : World} (h : LgTo base top p lv cp q rs cq w) (k : Below w.heap.size w x) : LgTo base top p lv cp q rs cq x :=
  ⟨Nat.le_trans h.1 k.size, fun y h1 h2 => h.2 y h1 (fun b hb hl => (h2 b hb hl).trans (k.block b (Nat.lt_of_lt_of_le hl h.1)))⟩
theorem LgTo.hi {base top b : Nat} {p : Option Addr} {lv : List ByteArray} {cp : Nat} {q : Option Addr} {rs : List Rw} {cq : Nat} {w : World} (h : LgTo base top p lv cp q rs cq w) (hb : b ≤ base) : LgHi b p lv cp q rs cq w := fun x hs hx => h.2 x (Nat.le_trans h.1 hs) (fun c hc ht => hx c (by omega) (Nat.lt_of_lt_of_le ht h.1))
theorem LgHi.low {base b : Nat} {p : Option Addr} {lv : List ByteArray} {cp : Nat} {q : Option Addr} {rs : List Rw} {cq : Nat} {w : World} (h : LgHi base p lv cp q rs cq w) (hb : b ≤ base) : LgHi b p lv cp q rs cq w := (LgTo.of h).hi hb
/-- A drawn log in a box at X, the source at p, the result's box ahead of both. -/
structure LdS (w y1 : World) (RT : TypeId) (rc : Array Value) (B p : Nat) (a : Option Addr) (len cap X : Nat) (q : Option Addr) (cq : Nat) (rs : List Rw) (p' : Option Addr) (cp : Nat) (lv : List ByteArray) (now : Int) (x : World) : Prop where
  src : Src 91 B p a len cap x
  bel : Below w.heap.size w x
  gr : y1.grownBy x (some p)
  wp : w.heap.size < p
  hp : p < y1.heap.size
  hX : y1.heap.size ≤ X
  box : Bxs x X 26 #[.slice q rs.length cq, .slice p' lv.length cp, .int .i64 now]
  res : Bxs x w.heap.size RT rc
  hi : LgTo y1.heap.size X p' lv cp q rs cq x
section
variable {w y1 y2 x x' : World} {RT : TypeId} {rc : Array Value} {B p : Nat} {a : Option Addr} {len cap X : Nat} {q : Option Addr} {cq : Nat} {rs : List Rw} {p' : Option Addr} {cp : Nat} {lv : List ByteArray} {now : Int}
theorem LdS.step (h : LdS w y1 RT rc B p a len cap X q cq rs p' cp lv now x) (hs : Src 91 B p a len cap x') (g : x.grownBy x' (some p)) : LdS w y1 RT rc B p a len cap X q cq rs p' cp lv now x' := by
  have h1 := h.wp
  have h2 := h.hp
  have h3 := h.hX
  exact ⟨hs, below_touch h.bel g (by omega), touch_trans h.gr g, h1, h2, h3, h.box.grown g (fun e => by cases e; omega), h.res.grown g (fun e => by cases e; omega), h.hi.grown g (fun j hj => by cases hj; exact .inl h2)⟩
theorem LdS.below (h : LdS w y1 RT rc B p a len cap X q cq rs p' cp lv now x) (b : Below x.heap.size x x') : LdS w y1 RT rc B p a len cap X q cq rs p' cp lv now x' :=
  ⟨h.src.below b, chainB h.bel b, touch_below h.gr b, h.wp, h.hp, h.hX, h.box.below b, h.res.below b, h.hi.below b⟩
theorem LdS.new (hb : Below w.heap.size w y1) (hr : Bxs y1 w.heap.size RT rc) (hs1 : Src 91 B p a len cap y1) (wp : w.heap.size < p) (hs2 : Src 91 B p a len cap y2) (g2 : y1.grownBy y2 (some p)) (hi : LgHi y1.heap.size p' lv cp q rs cq y2) :
    LdS w y1 RT rc B p a len cap y2.heap.size q cq rs p' cp lv now (y2.alloc (.cells #[.slice q rs.length cq, .slice p' lv.length cp, .int .i64 now] 26)) := by
  have b : Below y2.heap.size y2 (y2.alloc (.cells #[.slice q rs.length cq, .slice p' lv.length cp, .int .i64 now] 26)) := (Below.refl _ _).alloc (Nat.le_refl _) _
  exact ⟨hs2.below b, chainB (below_touch hb g2 (by omega)) b, touch_below g2 b, wp, hs1.lt, g2.size, Bxs.new _ _ _, (hr.grown g2 (fun e => by cases e; omega)).below b, (LgTo.of hi).below b⟩
/-- A box that was made later is written. -/
theorem LdS.wrote {Z : Nat} (h : LdS w y1 RT rc B p a len cap X q cq rs p' cp lv now x) (g : x.grownBy x' (some Z)) (hZ : X < Z) : LdS w y1 RT rc B p a len cap X q cq rs p' cp lv now x' := by
  have h1 := h.wp
  have h2 := h.hp
  have h3 := h.hX
  exact ⟨h.src.other g (fun j hj => by cases hj; omega), below_touch h.bel g (by omega), touch_own h.gr g (fun j hj => by cases hj; omega), h1, h2, h3, h.box.grown g (fun e => by cases e; omega), h.res.grown g (fun e => by cases e; omega), h.hi.grown g (fun j hj => by cases hj; exact .inr (by omega))⟩
theorem LdS.at (h : LdS w y1 RT rc B p a len cap X q cq rs p' cp lv now x) : LgAt p' lv cp q rs cq x := h.hi.at
theorem LdS.cells (h : LdS w y1 RT rc B p a len cap X q cq rs p' cp lv now x) : x.cell? ⟨X, 0, none⟩ = some (.slice q rs.length cq) ∧ x.cell? ⟨X, 1, none⟩ = some (.slice p' lv.length cp) ∧ x.cell? ⟨X, 2, none⟩ = some (.int .i64 now) := ⟨h.box.cell 0, h.box.cell 1, h.box.cell 2⟩
theorem LdS.ne (h : LdS w y1 RT rc B p a len cap X q cq rs p' cp lv now x) : w.heap.size ≠ X := by
  have h1 := h.wp
  have h2 := h.hp
  have h3 := h.hX
  omega
/-- A log is put into the result's box, which is of its own type. -/
theorem LdS.done (h : LdS w y1 RT rc B p a len cap X q cq rs p' cp lv now x) (u0 u1 u2 : Value) : LgHi w.heap.size p' lv cp q rs cq (((x.setCell ⟨w.heap.size, 0, none⟩ u0).setCell ⟨w.heap.size, 1, none⟩ u1).setCell ⟨w.heap.size, 2, none⟩ u2) ∧ Below w.heap.size w (((x.setCell ⟨w.heap.size, 0, none⟩ u0).setCell ⟨w.heap.size, 1, none⟩ u1).setCell ⟨w.heap.size, 2, none⟩ u2) := by
  have h1 := h.wp
  have h2 := h.hp
  exact ⟨(h.hi.grown (touch_set (touch_set (set_grw x w.heap.size 0 u0) 1 u1) 2 u2) (fun j hj => by cases hj; exact .inl (by omega))).hi (by omega), below_set3 h.bel (Nat.le_refl _) _ _ _⟩
theorem LdS.stay (h : LdS w y1 RT rc B p a len cap X q cq rs p' cp lv now x) (u0 u1 u2 : Value) : (((x.setCell ⟨w.heap.size, 0, none⟩ u0).setCell ⟨w.heap.size, 1, none⟩ u1).setCell ⟨w.heap.size, 2, none⟩ u2).cell? ⟨X, 0, none⟩ = some (.slice q rs.length cq) ∧ (((x.setCell ⟨w.heap.size, 0, none⟩ u0).setCell ⟨w.heap.size, 1, none⟩ u1).setCell ⟨w.heap.size, 2, none⟩ u2).cell? ⟨X, 1, none⟩ = some (.slice p' lv.length cp) ∧ (((x.setCell ⟨w.heap.size, 0, none⟩ u0).setCell ⟨w.heap.size, 1, none⟩ u1).setCell ⟨w.heap.size, 2, none⟩ u2).cell? ⟨X, 2, none⟩ = some (.int .i64 now) := by
  have hb := ((h.box.other w.heap.size 0 h.ne u0).other w.heap.size 1 h.ne u1).other w.heap.size 2 h.ne u2
  exact ⟨hb.cell 0, hb.cell 1, hb.cell 2⟩
end
theorem lof_m {rs : List Rw} {lv : List ByteArray} {now : Int} (h : LoF rs lv now) : lv.length ≤ 66 := h.2.1
theorem res3 {x : World} {g : Nat} {T : TypeId} {a b c : Value} (h : Bxs x g T #[a, b, c]) : x.cell? ⟨g, 0, none⟩ = some a ∧ x.cell? ⟨g, 1, none⟩ = some b ∧ x.cell? ⟨g, 2, none⟩ = some c ∧ x.frozen? ⟨g, 0, none⟩ = false ∧ x.frozen? ⟨g, 1, none⟩ = false ∧ x.frozen? ⟨g, 2, none⟩ = false := ⟨h.cell 0, h.cell 1, h.cell 2, h.fr 0, h.fr 1, h.fr 2⟩
end Go.Proofs.YtnknnfgimiljjaaGreatDoor
/-
  What LogForget answered, in a LogOut's box: a log that can be read where the code is zero.
-/
namespace Go.Proofs.YtnknnfgimiljjaaGreatDoor
open Go.RowKit Go.Lib
set_option linter.unusedVariables false
set_option maxRecDepth 20000

theorem lof_right {rs : List Rw} {lv : List ByteArray} {now : Int} (h : lgB rs lv now = true) : LoF rs lv now := by
  obtain ⟨h1, h2, h3⟩ := lg_right h
  have ht : timeB now = true := by unfold lgB at h; simp only [Bool.and_eq_true] at h; exact h.2.2.1
  unfold timeB at ht
  have ht2 := of_decide_eq_true ht
  refine ⟨by omega, by omega, fun r hr => ?_, fun t htm => ?_, by omega, by omega⟩
  · exact lo_row_le (k := r.k) (at_ := r.a) (h3 r hr)
  · have := lg_small h t htm
    unfold maxLen; omega
def FgBox (rs : List Rw) (lv : List ByteArray) (now : Int) (W : World) (r f : Int) (Y : Nat) (x : World) : Prop :=
  ∃ (q : Option Addr) (cq : Nat) (p : Option Addr) (cp : Nat), Bxs x Y 45 #[.slice q (lfR rs lv now r f 1).length cq, .slice p (lfL rs lv now r f 1).length cp, .int .i64 (lfN rs lv now r f 1), .int .i64 (lfC rs lv now r f 1)] ∧ (lfC rs lv now r f 1 = 0 → LgAt p (lfL rs lv now r f 1) cp q (lfR rs lv now r f 1) cq x) ∧ Below W.heap.size W x
theorem FgBox.put {rs : List Rw} {lv : List ByteArray} {now : Int} {W y : World} {r f : Int} {Y : Nat} {u1 u2 : Value} {xs : List (Rw × Value)} (k : Bxs y Y 45 #[.slice none 0 0, .slice none 0 0, .int .i64 0, .int .i64 0]) (o : LgO W.heap.size xs (lfL rs lv now r f 1) u1 u2 y) (hx : xs.map (·.1) = lfR rs lv now r f 1) (b : Below W.heap.size W y) (hY : W.heap.size ≤ Y) :
    FgBox rs lv now W r f Y ((((y.setCell ⟨Y, 0, none⟩ u1).setCell ⟨Y, 1, none⟩ u2).setCell ⟨Y, 2, none⟩ (.int .i64 (lfN rs lv now r f 1))).setCell ⟨Y, 3, none⟩ (.int .i64 (lfC rs lv now r f 1))) := by
  have g := touch_set (touch_set (touch_set (set_grw y Y 0 u1) 1 u2) 2 (.int .i64 (lfN rs lv now r f 1))) 3 (.int .i64 (lfC rs lv now r f 1))
  have o2 := o.box k (by decide) (by decide) (by decide) g
  obtain ⟨q, cq, p, cp, e1, e2, -, -, -, -⟩ := lo_at o
  subst e1 e2
  have hl : (lfR rs lv now r f 1).length = xs.length := by rw [← hx, List.length_map]
  refine ⟨q, cq, p, cp, ?_, fun hc => ?_, below_set4 b hY _ _ _ _⟩
  · rw [hl]; exact (((k.set 0 _).set 1 _).set 2 _).set 3 _
  · have hf := lof_right (lf_right hc)
    rw [← hx] at hf ⊢
    exact (LgHi.of o2 hf).at
end Go.Proofs.YtnknnfgimiljjaaGreatDoor
/-
  What is drawn of a log and numbers: a log of few rows and leaves, and the numbers' bounds.
  Conditions: the code is at most 2^20 bytes.
-/
namespace Go.Proofs.YtnknnfgimiljjaaGreatDoor
open Go.RowKit Go.Lib
set_option linter.unusedVariables false
set_option maxRecDepth 20000

set_option maxHeartbeats 4000000 in
theorem drawRootOf_any (B : Nat) (a : Option Addr) (len cap : Nat) (w : World) (hlen : len ≤ 1048576) (hB : B ≤ w.heap.size) (hc : CodeAt B a len w) :
    Calls Tryz.prog 4 #[.slice a len cap] w fun e w' => (∃ (q : Option Addr) (cq : Nat) (rs : List Rw) (p' : Option Addr) (cp : Nat) (lv : List ByteArray) (now : Int) (r : Int), e = .returned (.tuple #[.agg #[.slice q rs.length cq, .slice p' lv.length cp, .int .i64 now], .int .i64 r]) ∧ LgHi w.heap.size p' lv cp q rs cq w' ∧ LoF rs lv now ∧ -1 ≤ r ∧ r ≤ (lv.length : Int) + 1) ∧ Below w.heap.size w w' := by
  obtain ⟨W1, hW1⟩ : ∃ W1, W1 = w.alloc (.cells #[.slice none 0 0, .slice none 0 0, .int .i64 0] 26) := ⟨_, rfl⟩
  have HW : Hid (W1 = w.alloc (.cells #[.slice none 0 0, .slice none 0 0, .int .i64 0] 26)) := hW1
  have b1 : Hid (Below w.heap.size w W1) := by rw [hW1]; exact (Below.refl _ _).alloc (Nat.le_refl _) _
  have R1 : Hid (Bxs W1 w.heap.size 26 #[.slice none 0 0, .slice none 0 0, .int .i64 0]) := by rw [hW1]; exact Bxs.new _ _ _
  have HZ1 : Hid (W1.heap.size = w.heap.size + 1) := by rw [hW1]; exact szA _ _
  have hB1 : B ≤ W1.heap.size := Nat.le_trans hB b1.out.size
  have HC : Hid (CodeAt B a len W1) := hc.below (b1.out.mono hB)
  clear hW1 hc
  go_enter Tryz.func4, Tryz.ntmps4
  go_wp2_with fail
  rw [← HW.out]
  clear HW
  refine (source_any B a len cap W1 hlen hB1 HC.out).mono ?_
  rintro e y1 ⟨rfl, s1, bs1⟩
  obtain ⟨P, hP⟩ : ∃ P, P = W1.heap.size := ⟨_, rfl⟩
  rw [← hP] at s1 ⊢
  have hwP : w.heap.size < P := by rw [hP, HZ1.out]; omega
  clear hP
  have hb1 := chainB b1.out bs1
  have hr1 := R1.out.below bs1
  go_wp2_with fail
  refine (l09Log_drawn B P a len cap y1 s1).mono ?_
  rintro e y2 ⟨⟨q, cq, rs, p', cp, lv, now, rfl, hi, hf⟩, s2, g2⟩
  go_upto_region 3 with fail
  obtain ⟨y3, hy3⟩ : ∃ y3, y3 = y2.alloc (.cells #[.slice q rs.length cq, .slice p' lv.length cp, .int .i64 now] 26) := ⟨_, rfl⟩
  rw [← hy3]
  obtain ⟨X, hX⟩ : ∃ X, X = y2.heap.size := ⟨_, rfl⟩
  rw [← hX]
  have S3 : Hid (LdS w y1 26 #[.slice none 0 0, .slice none 0 0, .int .i64 0] B P a len cap X q cq rs p' cp lv now y3) := by rw [hy3, hX]; exact LdS.new hb1 hr1 s1 hwP s2 g2 hi
  have HF : Hid (LoF rs lv now) := hf
  clear hy3 hX hb1 hr1 s1 hwP s2 g2 hi hf bs1 b1 R1 HZ1 HC
  have S4 : Hid (LdS w y1 26 #[.slice none 0 0, .slice none 0 0, .int .i64 0] B P a len cap X q cq rs p' cp lv now y3.drew) := S3.out.below (Below.refl _ _).drew
  clear S3
  have hwk : IntKind.i64.wrap ((lv.length : Int) + 3) = (lv.length : Int) + 3 := by rw [IntKind.wrap_i64]; have := lof_m HF.out; omega
  refine wp_region_held_drew (S := fun w' => w'.cell? ⟨X, 0, none⟩ = some (.slice q rs.length cq) ∧ w'.cell? ⟨X, 1, none⟩ = some (.slice p' lv.length cp) ∧ w'.cell? ⟨X, 2, none⟩ = some (.int .i64 now)) (by kernel_rfl) (S4.out.cells) (fun hHeld => ?_)
  refine take_at 0 (v := ?_) rfl (by kernel_rfl) (by kernel_rfl) (by kernel_rfl) (fun _ _ _ h => h) hHeld (Or.inl ⟨by rfl, ?_⟩) ?_
  rotate_left
  · (intro w hSw; (try dsimp only at hSw); go_simp; try with_reducible rfl)
  simp only [Act.put, List.setIfInBounds_toArray, List.set_cons_zero, List.set_cons_succ]
  refine take_at 1 (v := ?_) rfl (by kernel_rfl) (by kernel_rfl) (by kernel_rfl) (fun _ _ _ h => h) hHeld (Or.inl ⟨by rfl, ?_⟩) ?_
  rotate_left
  · (intro w hSw; (try dsimp only at hSw); go_simp; try with_reducible rfl)
  simp only [Act.put, List.setIfInBounds_toArray, List.set_cons_zero, List.set_cons_succ]
  refine take_at 2 (v := ?_) rfl (by kernel_rfl) (by kernel_rfl) (by kernel_rfl) (fun _ _ _ h => h) hHeld (Or.inl ⟨by rfl, ?_⟩) ?_
  rotate_left
  · (intro w hSw; (try dsimp only at hSw); go_simp; try with_reducible rfl)
  simp only [Act.put, List.setIfInBounds_toArray, List.set_cons_zero, List.set_cons_succ]
  refine take_at 3 (v := ?_) rfl (by kernel_rfl) (by kernel_rfl) (by kernel_rfl) (fun _ _ _ h => h) hHeld (Or.inl ⟨by rfl, ?_⟩) ?_
  rotate_left
  · (intro w hSw; (try dsimp only at hSw); go_simp; try with_reducible rfl)
  simp only [Act.put, List.setIfInBounds_toArray, List.set_cons_zero, List.set_cons_succ]
  refine take_at 4 (v := ?_) rfl (by kernel_rfl) (by kernel_rfl) (by kernel_rfl) (fun _ _ _ h => h) hHeld (Or.inl ⟨by rfl, ?_⟩) ?_
  rotate_left
  · (intro w hSw; (try dsimp only at hSw); go_simp; try with_reducible rfl)
  simp only [Act.put, List.setIfInBounds_toArray, List.set_cons_zero, List.set_cons_succ]
  refine take_at 5 (v := ?_) rfl (by kernel_rfl) (by kernel_rfl) (by kernel_rfl) (fun _ _ _ h => h) hHeld (Or.inl ⟨by rfl, ?_⟩) ?_
  rotate_left
  · (intro w hSw; (try dsimp only at hSw); go_simp; try with_reducible rfl)
  simp only [Act.put, List.setIfInBounds_toArray, List.set_cons_zero, List.set_cons_succ]
  refine ready_at 6 rfl (by kernel_rfl) (fun K hK => ?_)
  go_simp
  (go_at_call 27; (with_reducible refine (n_any B P a len cap ((lv.length : Int) + 3) _ S4.out.src (by first | omega | (have := lof_m HF.out; omega))).mono ?_); rintro e z1 ⟨⟨m, rfl, m0, m1, -⟩, ss, gg⟩; have T1 := S4.out.step ss gg; clear ss gg; have m2 := m1 (by omega); clear m1; have hw : IntKind.i64.wrap (m - 1) = m - 1 := (by rw [IntKind.wrap_i64]; have := lof_m HF.out; omega))
  refine hK.out _ _ (T1.cells) (fun hHeld => ?_)
  clear hK K
  try simp only [Act.put, List.setIfInBounds_toArray, List.set_cons_zero, List.set_cons_succ]
  refine take_at 7 (v := ?_) rfl (by kernel_rfl) (by kernel_rfl) (by kernel_rfl) (fun _ _ _ h => h) hHeld (Or.inl ⟨by rfl, ?_⟩) ?_
  rotate_left
  · (intro w hSw; (try dsimp only at hSw); go_simp; try with_reducible rfl)
  simp only [Act.put, List.setIfInBounds_toArray, List.set_cons_zero, List.set_cons_succ]
  refine ready_at 8 rfl (by kernel_rfl) (fun K hK => ?_)
  obtain ⟨d0, d1, d2, f0, f1, f2⟩ := res3 T1.res
  go_simp
  refine hK.out _ _ (T1.stay _ _ _) (fun hHeld => ?_)
  clear hK K
  try simp only [Act.put, List.setIfInBounds_toArray, List.set_cons_zero, List.set_cons_succ]
  refine take_at 9 (v := ?_) rfl (by kernel_rfl) (by kernel_rfl) (by kernel_rfl) (fun _ _ _ h => h) hHeld (Or.inl ⟨by rfl, ?_⟩) ?_
  rotate_left
  · (intro w hSw; (try dsimp only at hSw); go_simp; try with_reducible rfl)
  simp only [Act.put, List.setIfInBounds_toArray, List.set_cons_zero, List.set_cons_succ]
  refine wpAnyH_done (by kernel_rfl) ?_ _
  have HE : Hid _ := fun u0 u1 u2 => T1.done u0 u1 u2
  clear T1 hHeld S4
  go_wp2_with fail
  refine bodyPost_ret (v := .tuple #[.agg #[.slice q rs.length cq, .slice p' lv.length cp, .int .i64 now], .int .i64 (m - 1)]) (by simp [results, Tryz.results4, go_sem, d0, d1, d2]) rfl ?_
  obtain ⟨z1, z2⟩ := HE.out (.slice q rs.length cq) (.slice p' lv.length cp) (.int .i64 now)
  exact ⟨⟨q, cq, rs, p', cp, lv, now, m - 1, rfl, z1, HF.out, by omega, by omega⟩, z2⟩
set_option maxHeartbeats 4000000 in
theorem drawProofAt_any (B : Nat) (a : Option Addr) (len cap : Nat) (w : World) (hlen : len ≤ 1048576) (hB : B ≤ w.heap.size) (hc : CodeAt B a len w) :
    Calls Tryz.prog 5 #[.slice a len cap] w fun e w' => (∃ (q : Option Addr) (cq : Nat) (rs : List Rw) (p' : Option Addr) (cp : Nat) (lv : List ByteArray) (now : Int) (r : Int), e = .returned (.tuple #[.agg #[.slice q rs.length cq, .slice p' lv.length cp, .int .i64 now], .int .i64 r]) ∧ LgHi w.heap.size p' lv cp q rs cq w' ∧ LoF rs lv now ∧ -1 ≤ r ∧ r ≤ (lv.length : Int) + 1) ∧ Below w.heap.size w w' := by
  obtain ⟨W1, hW1⟩ : ∃ W1, W1 = w.alloc (.cells #[.slice none 0 0, .slice none 0 0, .int .i64 0] 26) := ⟨_, rfl⟩
  have HW : Hid (W1 = w.alloc (.cells #[.slice none 0 0, .slice none 0 0, .int .i64 0] 26)) := hW1
  have b1 : Hid (Below w.heap.size w W1) := by rw [hW1]; exact (Below.refl _ _).alloc (Nat.le_refl _) _
  have R1 : Hid (Bxs W1 w.heap.size 26 #[.slice none 0 0, .slice none 0 0, .int .i64 0]) := by rw [hW1]; exact Bxs.new _ _ _
  have HZ1 : Hid (W1.heap.size = w.heap.size + 1) := by rw [hW1]; exact szA _ _
  have hB1 : B ≤ W1.heap.size := Nat.le_trans hB b1.out.size
  have HC : Hid (CodeAt B a len W1) := hc.below (b1.out.mono hB)
  clear hW1 hc
  go_enter Tryz.func5, Tryz.ntmps5
  go_wp2_with fail
  rw [← HW.out]
  refine (drawRootOf_any B a len cap W1 hlen hB1 HC.out).mono ?_
  rintro e y1 ⟨⟨q, cq, rs, p', cp, lv, now, r, rfl, hi, hf, r0, r1⟩, bs1⟩
  obtain ⟨d0, d1, d2, f0, f1, f2⟩ := res3 (R1.out.below bs1)
  have HE : Hid (∀ u0 u1 u2 : Value, LgHi w.heap.size p' lv cp q rs cq (((y1.setCell ⟨w.heap.size, 0, none⟩ u0).setCell ⟨w.heap.size, 1, none⟩ u1).setCell ⟨w.heap.size, 2, none⟩ u2) ∧ Below w.heap.size w (((y1.setCell ⟨w.heap.size, 0, none⟩ u0).setCell ⟨w.heap.size, 1, none⟩ u1).setCell ⟨w.heap.size, 2, none⟩ u2)) := fun u0 u1 u2 => ⟨(hi.grown (touch_set (touch_set (set_grw y1 w.heap.size 0 u0) 1 u1) 2 u2) (by rw [HZ1.out]; omega)).low (by rw [HZ1.out]; omega), below_set3 (chainB b1.out bs1) (Nat.le_refl _) _ _ _⟩
  have HF : Hid (LoF rs lv now) := hf
  clear hi hf bs1 b1 R1 HZ1 HC HW
  go_wp2_with fail
  refine bodyPost_ret (v := .tuple #[.agg #[.slice q rs.length cq, .slice p' lv.length cp, .int .i64 now], .int .i64 r]) (by simp [results, Tryz.results5, go_sem, d0, d1, d2]) rfl ?_
  obtain ⟨z1, z2⟩ := HE.out (.slice q rs.length cq) (.slice p' lv.length cp) (.int .i64 now)
  exact ⟨⟨q, cq, rs, p', cp, lv, now, r, rfl, z1, HF.out, r0, r1⟩, z2⟩
set_option maxHeartbeats 4000000 in
theorem drawExtend_any (B : Nat) (a : Option Addr) (len cap : Nat) (w : World) (hlen : len ≤ 1048576) (hB : B ≤ w.heap.size) (hc : CodeAt B a len w) :
    Calls Tryz.prog 7 #[.slice a len cap] w fun e w' => (∃ (q : Option Addr) (cq : Nat) (rs : List Rw) (p' : Option Addr) (cp : Nat) (lv : List ByteArray) (now : Int) (r : Int), e = .returned (.tuple #[.agg #[.slice q rs.length cq, .slice p' lv.length cp, .int .i64 now], .int .i64 r]) ∧ LgHi w.heap.size p' lv cp q rs cq w' ∧ LoF rs lv now ∧ -1 ≤ r ∧ r ≤ (lv.length : Int) + 1) ∧ Below w.heap.size w w' := by
  obtain ⟨W1, hW1⟩ : ∃ W1, W1 = w.alloc (.cells #[.slice none 0 0, .slice none 0 0, .int .i64 0] 26) := ⟨_, rfl⟩
  have HW : Hid (W1 = w.alloc (.cells #[.slice none 0 0, .slice none 0 0, .int .i64 0] 26)) := hW1
  have b1 : Hid (Below w.heap.size w W1) := by rw [hW1]; exact (Below.refl _ _).alloc (Nat.le_refl _) _
  have R1 : Hid (Bxs W1 w.heap.size 26 #[.slice none 0 0, .slice none 0 0, .int .i64 0]) := by rw [hW1]; exact Bxs.new _ _ _
  have HZ1 : Hid (W1.heap.size = w.heap.size + 1) := by rw [hW1]; exact szA _ _
  have hB1 : B ≤ W1.heap.size := Nat.le_trans hB b1.out.size
  have HC : Hid (CodeAt B a len W1) := hc.below (b1.out.mono hB)
  clear hW1 hc
  go_enter Tryz.func7, Tryz.ntmps7
  go_wp2_with fail
  rw [← HW.out]
  refine (drawRootOf_any B a len cap W1 hlen hB1 HC.out).mono ?_
  rintro e y1 ⟨⟨q, cq, rs, p', cp, lv, now, r, rfl, hi, hf, r0, r1⟩, bs1⟩
  obtain ⟨d0, d1, d2, f0, f1, f2⟩ := res3 (R1.out.below bs1)
  have HE : Hid (∀ u0 u1 u2 : Value, LgHi w.heap.size p' lv cp q rs cq (((y1.setCell ⟨w.heap.size, 0, none⟩ u0).setCell ⟨w.heap.size, 1, none⟩ u1).setCell ⟨w.heap.size, 2, none⟩ u2) ∧ Below w.heap.size w (((y1.setCell ⟨w.heap.size, 0, none⟩ u0).setCell ⟨w.heap.size, 1, none⟩ u1).setCell ⟨w.heap.size, 2, none⟩ u2)) := fun u0 u1 u2 => ⟨(hi.grown (touch_set (touch_set (set_grw y1 w.heap.size 0 u0) 1 u1) 2 u2) (by rw [HZ1.out]; omega)).low (by rw [HZ1.out]; omega), below_set3 (chainB b1.out bs1) (Nat.le_refl _) _ _ _⟩
  have HF : Hid (LoF rs lv now) := hf
  clear hi hf bs1 b1 R1 HZ1 HC HW
  go_wp2_with fail
  refine bodyPost_ret (v := .tuple #[.agg #[.slice q rs.length cq, .slice p' lv.length cp, .int .i64 now], .int .i64 r]) (by simp [results, Tryz.results7, go_sem, d0, d1, d2]) rfl ?_
  obtain ⟨z1, z2⟩ := HE.out (.slice q rs.length cq) (.slice p' lv.length cp) (.int .i64 now)
  exact ⟨⟨q, cq, rs, p', cp, lv, now, r, rfl, z1, HF.out, r0, r1⟩, z2⟩
set_option maxHeartbeats 4000000 in
theorem drawHeadText_any (B : Nat) (a : Option Addr) (len cap : Nat) (w : World) (hlen : len ≤ 1048576) (hB : B ≤ w.heap.size) (hc : CodeAt B a len w) :
    Calls Tryz.prog 8 #[.slice a len cap] w fun e w' => (∃ (q : Option Addr) (cq : Nat) (rs : List Rw) (p' : Option Addr) (cp : Nat) (lv : List ByteArray) (now : Int), e = .returned (.agg #[.slice q rs.length cq, .slice p' lv.length cp, .int .i64 now]) ∧ LgHi w.heap.size p' lv cp q rs cq w' ∧ LoF rs lv now) ∧ Below w.heap.size w w' := by
  obtain ⟨W1, hW1⟩ : ∃ W1, W1 = w.alloc (.cells #[.slice none 0 0, .slice none 0 0, .int .i64 0] 26) := ⟨_, rfl⟩
  have HW : Hid (W1 = w.alloc (.cells #[.slice none 0 0, .slice none 0 0, .int .i64 0] 26)) := hW1
  have b1 : Hid (Below w.heap.size w W1) := by rw [hW1]; exact (Below.refl _ _).alloc (Nat.le_refl _) _
  have R1 : Hid (Bxs W1 w.heap.size 26 #[.slice none 0 0, .slice none 0 0, .int .i64 0]) := by rw [hW1]; exact Bxs.new _ _ _
  have HZ1 : Hid (W1.heap.size = w.heap.size + 1) := by rw [hW1]; exact szA _ _
  have hB1 : B ≤ W1.heap.size := Nat.le_trans hB b1.out.size
  have HC : Hid (CodeAt B a len W1) := hc.below (b1.out.mono hB)
  clear hW1 hc
  go_enter Tryz.func8, Tryz.ntmps8
  go_wp2_with fail
  rw [← HW.out]
  clear HW
  refine (source_any B a len cap W1 hlen hB1 HC.out).mono ?_
  rintro e y1 ⟨rfl, s1, bs1⟩
  obtain ⟨P, hP⟩ : ∃ P, P = W1.heap.size := ⟨_, rfl⟩
  rw [← hP] at s1 ⊢
  have hwP : w.heap.size < P := by rw [hP, HZ1.out]; omega
  clear hP
  have hb1 := chainB b1.out bs1
  have hr1 := R1.out.below bs1
  go_wp2_with fail
  refine (l09Log_drawn B P a len cap y1 s1).mono ?_
  rintro e y2 ⟨⟨q, cq, rs, p', cp, lv, now, rfl, hi, hf⟩, s2, g2⟩
  have hz1 := HZ1.out
  have hz2 := bs1.size
  obtain ⟨d0, d1, d2, f0, f1, f2⟩ := res3 (hr1.grown g2 (fun e => by cases e; omega))
  have HE : Hid (∀ u0 u1 u2 : Value, LgHi w.heap.size p' lv cp q rs cq (((y2.setCell ⟨w.heap.size, 0, none⟩ u0).setCell ⟨w.heap.size, 1, none⟩ u1).setCell ⟨w.heap.size, 2, none⟩ u2) ∧ Below w.heap.size w (((y2.setCell ⟨w.heap.size, 0, none⟩ u0).setCell ⟨w.heap.size, 1, none⟩ u1).setCell ⟨w.heap.size, 2, none⟩ u2)) := fun u0 u1 u2 => ⟨(hi.grown (touch_set (touch_set (set_grw y2 w.heap.size 0 u0) 1 u1) 2 u2) (by omega)).low (by omega), below_set3 (below_touch hb1 g2 (by omega)) (Nat.le_refl _) _ _ _⟩
  have HF : Hid (LoF rs lv now) := hf
  clear hi hf bs1 b1 R1 HZ1 HC hz1 hz2 hb1 hr1 s1 s2 g2
  go_wp2_with fail
  refine bodyPost_ret (v := .agg #[.slice q rs.length cq, .slice p' lv.length cp, .int .i64 now]) (by simp [results, Tryz.results8, go_sem, d0, d1, d2]) rfl ?_
  obtain ⟨z1, z2⟩ := HE.out (.slice q rs.length cq) (.slice p' lv.length cp) (.int .i64 now)
  exact ⟨⟨q, cq, rs, p', cp, lv, now, rfl, z1, HF.out⟩, z2⟩
end Go.Proofs.YtnknnfgimiljjaaGreatDoor
/-
  What DrawProofGood draws: a proof of a short path and a root.
  Conditions: the code is at most 2^20 bytes.
-/
namespace Go.Proofs.YtnknnfgimiljjaaGreatDoor
open Go.RowKit Go.Lib
set_option linter.unusedVariables false
set_option maxRecDepth 20000

/-- A proof in a box at Z, the source at p, the result's box ahead of both. -/
structure PgS (w y1 : World) (B p : Nat) (a : Option Addr) (len cap Z : Nat) (lf : ByteArray) (ix sz : Int) (q : Option Addr) (c : Nat) (ss : List ByteArray) (x : World) : Prop where
  src : Src 91 B p a len cap x
  bel : Below w.heap.size w x
  gr : y1.grownBy x (some p)
  wp : w.heap.size < p
  hp : p < y1.heap.size
  hZ : y1.heap.size ≤ Z
  box : Bxs x Z 30 #[.string lf, .int .i64 ix, .int .i64 sz, .slice q ss.length c]
  res : Bxs x w.heap.size 30 #[.string ⟨#[]⟩, .int .i64 0, .int .i64 0, .slice none 0 0]
  own : x.ownsRow y1.heap.size 9 1 (.slice q ss.length c) ss.length (strRow ss)
section
variable {w y1 x x' : World} {B p : Nat} {a : Option Addr} {len cap Z : Nat} {lf : ByteArray} {ix sz : Int} {q : Option Addr} {c : Nat} {ss : List ByteArray}
theorem PgS.step (h : PgS w y1 B p a len cap Z lf ix sz q c ss x) (hs : Src 91 B p a len cap x') (g : x.grownBy x' (some p)) : PgS w y1 B p a len cap Z lf ix sz q c ss x' := by
  have h1 := h.wp
  have h2 := h.hp
  have h3 := h.hZ
  exact ⟨hs, below_touch h.bel g (by omega), touch_trans h.gr g, h1, h2, h3, h.box.grown g (fun e => by cases e; omega), h.res.grown g (fun e => by cases e; omega), h.own.kept g (.inr (fun e => by have := (h.own.lt p e).1; omega))⟩
theorem PgS.below (h : PgS w y1 B p a len cap Z lf ix sz q c ss x) (b : Below x.heap.size x x') : PgS w y1 B p a len cap Z lf ix sz q c ss x' :=
  ⟨h.src.below b, chainB h.bel b, touch_below h.gr b, h.wp, h.hp, h.hZ, h.box.below b, h.res.below b, ownS_below h.own b⟩
/-- The proof's own box is written. -/
theorem PgS.wrote {lf2 : ByteArray} {ix2 sz2 : Int} (h : PgS w y1 B p a len cap Z lf ix sz q c ss x) (g : x.grownBy x' (some Z)) (k : Bxs x' Z 30 #[.string lf2, .int .i64 ix2, .int .i64 sz2, .slice q ss.length c]) : PgS w y1 B p a len cap Z lf2 ix2 sz2 q c ss x' := by
  have h1 := h.wp
  have h2 := h.hp
  have h3 := h.hZ
  exact ⟨h.src.other g (fun j hj => by cases hj; omega), below_touch h.bel g (by omega), touch_own h.gr g (fun j hj => by cases hj; omega), h1, h2, h3, k, h.res.grown g (fun e => by cases e; omega), h.own.kept g (.inr (fun e => own_box h.own h.box (by decide) e))⟩
theorem PgS.set0 (h : PgS w y1 B p a len cap Z lf ix sz q c ss x) (t : ByteArray) : PgS w y1 B p a len cap Z t ix sz q c ss (x.setCell ⟨Z, 0, none⟩ (.string t)) := h.wrote (set_grw x Z 0 _) (h.box.set 0 _)
theorem PgS.set1 (h : PgS w y1 B p a len cap Z lf ix sz q c ss x) (t : Int) : PgS w y1 B p a len cap Z lf t sz q c ss (x.setCell ⟨Z, 1, none⟩ (.int .i64 t)) := h.wrote (set_grw x Z 1 _) (h.box.set 1 _)
theorem PgS.set2 (h : PgS w y1 B p a len cap Z lf ix sz q c ss x) (t : Int) : PgS w y1 B p a len cap Z lf ix t q c ss (x.setCell ⟨Z, 2, none⟩ (.int .i64 t)) := h.wrote (set_grw x Z 2 _) (h.box.set 2 _)
theorem PgS.new {X : Nat} {q1 : Option Addr} {cq : Nat} {rs : List Rw} {p' : Option Addr} {cp : Nat} {lv : List ByteArray} {now : Int} (h : LdS w y1 30 #[.string ⟨#[]⟩, .int .i64 0, .int .i64 0, .slice none 0 0] B p a len cap X q1 cq rs p' cp lv now x) (k : Bxs x Z 30 #[.string ⟨#[]⟩, .int .i64 0, .int .i64 0, .slice none 0 0]) (o : x.ownsRow y1.heap.size 9 1 (.slice q ss.length c) ss.length (strRow ss)) (hX : X < Z) (lf : ByteArray) (ix sz : Int) :
    PgS w y1 B p a len cap Z lf ix sz q c ss ((((x.setCell ⟨Z, 0, none⟩ (.string lf)).setCell ⟨Z, 1, none⟩ (.int .i64 ix)).setCell ⟨Z, 2, none⟩ (.int .i64 sz)).setCell ⟨Z, 3, none⟩ (.slice q ss.length c)) := by
  have h1 := h.wp
  have h2 := h.hp
  have h3 := h.hX
  have g := touch_set (touch_set (touch_set (set_grw x Z 0 (.string lf)) 1 (.int .i64 ix)) 2 (.int .i64 sz)) 3 (.slice q ss.length c)
  exact ⟨h.src.other g (fun j hj => by cases hj; omega), below_touch h.bel g (by omega), touch_own h.gr g (fun j hj => by cases hj; omega), h1, h2, by omega, (((k.set 0 _).set 1 _).set 2 _).set 3 _, h.res.grown g (fun e => by cases e; omega), o.kept g (.inr (fun e => own_box o k (by decide) e))⟩
theorem PgS.cells (h : PgS w y1 B p a len cap Z lf ix sz q c ss x) : x.cell? ⟨Z, 0, none⟩ = some (.string lf) ∧ x.cell? ⟨Z, 1, none⟩ = some (.int .i64 ix) ∧ x.cell? ⟨Z, 2, none⟩ = some (.int .i64 sz) ∧ x.cell? ⟨Z, 3, none⟩ = some (.slice q ss.length c) ∧ (x.frozen? ⟨Z, 0, none⟩ = false ∧ x.frozen? ⟨Z, 1, none⟩ = false ∧ x.frozen? ⟨Z, 2, none⟩ = false) ∧ (x.cell? ⟨w.heap.size, 0, none⟩ = some (.string ⟨#[]⟩) ∧ x.cell? ⟨w.heap.size, 1, none⟩ = some (.int .i64 0) ∧ x.cell? ⟨w.heap.size, 2, none⟩ = some (.int .i64 0) ∧ x.cell? ⟨w.heap.size, 3, none⟩ = some (.slice none 0 0)) ∧ x.frozen? ⟨w.heap.size, 0, none⟩ = false ∧ x.frozen? ⟨w.heap.size, 1, none⟩ = false ∧ x.frozen? ⟨w.heap.size, 2, none⟩ = false ∧ x.frozen? ⟨w.heap.size, 3, none⟩ = false :=
  ⟨h.box.cell 0, h.box.cell 1, h.box.cell 2, h.box.cell 3, ⟨h.box.fr 0, h.box.fr 1, h.box.fr 2⟩, ⟨h.res.cell 0, h.res.cell 1, h.res.cell 2, h.res.cell 3⟩, h.res.fr 0, h.res.fr 1, h.res.fr 2, h.res.fr 3⟩
theorem PgS.done (h : PgS w y1 B p a len cap Z lf ix sz q c ss x) (u0 u1 u2 u3 : Value) : TxtAt ((((x.setCell ⟨w.heap.size, 0, none⟩ u0).setCell ⟨w.heap.size, 1, none⟩ u1).setCell ⟨w.heap.size, 2, none⟩ u2).setCell ⟨w.heap.size, 3, none⟩ u3) q ss ∧ Below w.heap.size w ((((x.setCell ⟨w.heap.size, 0, none⟩ u0).setCell ⟨w.heap.size, 1, none⟩ u1).setCell ⟨w.heap.size, 2, none⟩ u2).setCell ⟨w.heap.size, 3, none⟩ u3) := by
  have h1 := h.wp
  have h2 := h.hp
  have o := h.own.kept (touch_set (touch_set (touch_set (set_grw x w.heap.size 0 u0) 1 u1) 2 u2) 3 u3) (.inr (fun e => by have := (h.own.lt _ e).1; omega))
  obtain ⟨_, _, e, -, ht⟩ := ownS_form o
  cases e
  exact ⟨ht, below_set4 h.bel (Nat.le_refl _) _ _ _ _⟩
end
theorem pf_bounds (rs : List Rw) (lv : List ByteArray) (now i : Int) (h66 : lv.length ≤ 66) : (pfL rs lv now i).size ≤ 100 ∧ (pfP rs lv now i).length ≤ 66 ∧ (0 ≤ pfI rs lv now i ∧ pfI rs lv now i ≤ 66) ∧ (0 ≤ pfS rs lv now i ∧ pfS rs lv now i ≤ 66) := by
  by_cases h : pfOk rs lv now i
  · obtain ⟨h1, h2, h3⟩ := id h
    obtain ⟨I, rfl⟩ := Int.eq_ofNat_of_zero_le h2
    have hl : I < lv.length := by omega
    obtain ⟨e1, e2, e3, e4⟩ := pf_yes h hl
    rw [e1, e2, e3, e4]
    have hn := pathB_len lv I (by omega)
    exact ⟨lg_small h1 _ (List.getElem_mem hl), by omega, by omega, by omega⟩
  · obtain ⟨e1, e2, e3, e4⟩ := pf_no h
    rw [e1, e2, e3, e4]
    exact ⟨by decide, by simp, by omega, by omega⟩
theorem ro_size (rs : List Rw) (lv : List ByteArray) (now r : Int) : (roO rs lv now r).size ≤ 32 := by
  unfold roO; split
  · split
    · rw [treeB_size]; omega
    · simp
  · simp
def DrawnPg (w : World) (e : Ending) (w' : World) : Prop := (∃ (lf : ByteArray) (ix sz : Int) (q : Option Addr) (c : Nat) (ss : List ByteArray) (rt : ByteArray), e = .returned (.tuple #[.agg #[.string lf, .int .i64 ix, .int .i64 sz, .slice q ss.length c], .string rt]) ∧ TxtAt w' q ss ∧ ss.length ≤ 66 ∧ ss.length ≤ c ∧ lf.size ≤ 1000 ∧ (0 ≤ ix ∧ ix ≤ 67) ∧ (0 ≤ sz ∧ sz ≤ 67) ∧ rt.size ≤ 40) ∧ Below w.heap.size w w'
set_option maxHeartbeats 8000000 in
theorem drawProofGood_any (B : Nat) (a : Option Addr) (len cap : Nat) (w : World) (hlen : len ≤ 1048576) (hB : B ≤ w.heap.size) (hc : CodeAt B a len w) :
    Calls Tryz.prog 6 #[.slice a len cap] w (DrawnPg w) := by
  obtain ⟨W1, hW1⟩ : ∃ W1, W1 = w.alloc (.cells #[.string ⟨#[]⟩, .int .i64 0, .int .i64 0, .slice none 0 0] 30) := ⟨_, rfl⟩
  have HW : Hid (W1 = w.alloc (.cells #[.string ⟨#[]⟩, .int .i64 0, .int .i64 0, .slice none 0 0] 30)) := hW1
  have b1 : Hid (Below w.heap.size w W1) := by rw [hW1]; exact (Below.refl _ _).alloc (Nat.le_refl _) _
  have R1 : Hid (Bxs W1 w.heap.size 30 #[.string ⟨#[]⟩, .int .i64 0, .int .i64 0, .slice none 0 0]) := by rw [hW1]; exact Bxs.new _ _ _
  have HZ1 : Hid (W1.heap.size = w.heap.size + 1) := by rw [hW1]; exact szA _ _
  have hB1 : B ≤ W1.heap.size := Nat.le_trans hB b1.out.size
  have HC : Hid (CodeAt B a len W1) := hc.below (b1.out.mono hB)
  clear hW1 hc
  go_enter Tryz.func6, Tryz.ntmps6
  go_wp2_with fail
  rw [← HW.out]
  clear HW
  refine (source_any B a len cap W1 hlen hB1 HC.out).mono ?_
  rintro e y1 ⟨rfl, s1, bs1⟩
  obtain ⟨P, hP⟩ : ∃ P, P = W1.heap.size := ⟨_, rfl⟩
  rw [← hP] at s1 ⊢
  have hwP : w.heap.size < P := by rw [hP, HZ1.out]; omega
  clear hP
  have hb1 := chainB b1.out bs1
  have hr1 := R1.out.below bs1
  go_wp2_with fail
  refine (l09Log_drawn B P a len cap y1 s1).mono ?_
  rintro e y2 ⟨⟨q, cq, rs, p', cp, lv, now, rfl, hi, hf⟩, s2, g2⟩
  go_upto_region 3 with fail
  obtain ⟨y3, hy3⟩ : ∃ y3, y3 = y2.alloc (.cells #[.slice q rs.length cq, .slice p' lv.length cp, .int .i64 now] 26) := ⟨_, rfl⟩
  rw [← hy3]
  obtain ⟨X, hX⟩ : ∃ X, X = y2.heap.size := ⟨_, rfl⟩
  rw [← hX]
  have S3 : Hid (LdS w y1 30 #[.string ⟨#[]⟩, .int .i64 0, .int .i64 0, .slice none 0 0] B P a len cap X q cq rs p' cp lv now y3) := by rw [hy3, hX]; exact LdS.new hb1 hr1 s1 hwP s2 g2 hi
  have HF : Hid (LoF rs lv now) := hf
  clear hy3 hX hb1 hr1 s1 hwP s2 g2 hi hf bs1 b1 R1 HZ1 HC
  have hwk : IntKind.i64.wrap ((lv.length : Int) + 1) = (lv.length : Int) + 1 := by rw [IntKind.wrap_i64]; have := lof_m HF.out; omega
  go_cut [6] from 12 to 19 (fun s6 wx => ∃ Z lf ix sz q' c' ss, s6 = .pointer (some ⟨Z, 0, none⟩) ∧ Hid (LdS w y1 30 #[.string ⟨#[]⟩, .int .i64 0, .int .i64 0, .slice none 0 0] B P a len cap X q cq rs p' cp lv now wx) ∧ Hid (PgS w y1 B P a len cap Z lf ix sz q' c' ss wx) ∧ Hid (lf.size ≤ 100 ∧ ss.length ≤ 66 ∧ ss.length ≤ c' ∧ (0 ≤ ix ∧ ix ≤ 66) ∧ (0 ≤ sz ∧ sz ≤ 66)))
  case first =>
    have LS := S3.out.below (Below.refl _ _).drew
    clear S3
    refine region_till (fun w' => w'.cell? ⟨X, 0, none⟩ = some (.slice q rs.length cq) ∧ w'.cell? ⟨X, 1, none⟩ = some (.slice p' lv.length cp) ∧ w'.cell? ⟨X, 2, none⟩ = some (.int .i64 now)) 9 (by kernel_rfl) (LS.cells) (fun hHeld => ?_)
    generalize y3.drew = x0 at *
    refine till_take 0 (v := ?_) rfl (by kernel_rfl) (by kernel_rfl) (by kernel_rfl) (by kernel_rfl) (fun _ _ _ h => h) hHeld (Or.inl ⟨by rfl, ?_⟩) ?_
    rotate_left
    · (intro w hSw; (try dsimp only at hSw); go_simp; try with_reducible rfl)
    simp only [Act.put, List.setIfInBounds_toArray, List.set_cons_zero, List.set_cons_succ]
    refine till_take 1 (v := ?_) rfl (by kernel_rfl) (by kernel_rfl) (by kernel_rfl) (by kernel_rfl) (fun _ _ _ h => h) hHeld (Or.inl ⟨by rfl, ?_⟩) ?_
    rotate_left
    · (intro w hSw; (try dsimp only at hSw); go_simp; try with_reducible rfl)
    simp only [Act.put, List.setIfInBounds_toArray, List.set_cons_zero, List.set_cons_succ]
    refine till_take 2 (v := ?_) rfl (by kernel_rfl) (by kernel_rfl) (by kernel_rfl) (by kernel_rfl) (fun _ _ _ h => h) hHeld (Or.inl ⟨by rfl, ?_⟩) ?_
    rotate_left
    · (intro w hSw; (try dsimp only at hSw); go_simp; try with_reducible rfl)
    simp only [Act.put, List.setIfInBounds_toArray, List.set_cons_zero, List.set_cons_succ]
    refine till_take 3 (v := ?_) rfl (by kernel_rfl) (by kernel_rfl) (by kernel_rfl) (by kernel_rfl) (fun _ _ _ h => h) hHeld (Or.inl ⟨by rfl, ?_⟩) ?_
    rotate_left
    · (intro w hSw; (try dsimp only at hSw); go_simp; try with_reducible rfl)
    simp only [Act.put, List.setIfInBounds_toArray, List.set_cons_zero, List.set_cons_succ]
    refine till_take 4 (v := ?_) rfl (by kernel_rfl) (by kernel_rfl) (by kernel_rfl) (by kernel_rfl) (fun _ _ _ h => h) hHeld (Or.inl ⟨by rfl, ?_⟩) ?_
    rotate_left
    · (intro w hSw; (try dsimp only at hSw); go_simp; try with_reducible rfl)
    simp only [Act.put, List.setIfInBounds_toArray, List.set_cons_zero, List.set_cons_succ]
    refine till_take 5 (v := ?_) rfl (by kernel_rfl) (by kernel_rfl) (by kernel_rfl) (by kernel_rfl) (fun _ _ _ h => h) hHeld (Or.inl ⟨by rfl, ?_⟩) ?_
    rotate_left
    · (intro w hSw; (try dsimp only at hSw); go_simp; try with_reducible rfl)
    simp only [Act.put, List.setIfInBounds_toArray, List.set_cons_zero, List.set_cons_succ]
    refine till_ready2 6 8 rfl rfl (by kernel_rfl) (fun K hK => ?_) (fun K hK => ?_)
    · go_simp
      (go_at_call 27; (with_reducible refine (n_any B P a len cap ((lv.length : Int) + 1) x0 LS.src (by have := lof_m HF.out; omega)).mono ?_); rintro e v_1 ⟨⟨i, rfl, i0, i1, -⟩, s1, g1⟩)
      replace LS := LS.step s1 g1
      clear s1 g1
      refine hK.out _ _ (LS.cells) (fun hHeld => ?_)
      clear hK K
      try simp only [Act.put, List.setIfInBounds_toArray, List.set_cons_zero, List.set_cons_succ]
      refine till_ready2 7 8 rfl rfl (by kernel_rfl) (fun K hK => ?_) (fun K hK => ?_)
      · have hPA := specProofAt_any p' lv cp q rs cq now i v_1 LS.at
        go_simp
        (go_at_call 13; (with_reducible refine hPA.mono ?_); rintro e v_2 ⟨v, rfl, OL, b1⟩)
        clear hPA
        obtain ⟨q', c', rfl, hc', -⟩ := ownS_form OL
        replace OL := ownS_mono OL (LS.gr.size)
        replace LS := LS.below b1
        obtain ⟨hlf, hss, hiy, hsy⟩ := pf_bounds rs lv now i (lof_m HF.out)
        clear b1
        generalize pfL rs lv now i = lf at *
        generalize pfI rs lv now i = ix at *
        generalize pfS rs lv now i = sz at *
        generalize pfP rs lv now i = ss at *
        refine hK.out _ _ (LS.cells) (fun hHeld => ?_)
        clear hK K
        try simp only [Act.put, List.setIfInBounds_toArray, List.set_cons_zero, List.set_cons_succ]
        refine till_ready 8 rfl (by kernel_rfl) (fun K hK => ?_)
        go_simp
        have hal : Below v_2.heap.size v_2 (v_2.alloc (.cells #[.string ⟨#[]⟩, .int .i64 0, .int .i64 0, .slice none 0 0] 30)) := (Below.refl _ _).alloc (Nat.le_refl _) _
        have KE : Bxs (v_2.alloc (.cells #[.string ⟨#[]⟩, .int .i64 0, .int .i64 0, .slice none 0 0] 30)) v_2.heap.size 30 #[.string ⟨#[]⟩, .int .i64 0, .int .i64 0, .slice none 0 0] := Bxs.new _ _ _
        have hEX : X < v_2.heap.size := LS.box.lt
        have hEp : P < v_2.heap.size := LS.src.lt
        replace LS := LS.below hal
        replace OL := ownS_below OL hal
        refine hK.out _ _ (LS.cells) (fun hHeld => ?_)
        clear hK K
        try simp only [Act.put, List.setIfInBounds_toArray, List.set_cons_zero, List.set_cons_succ]
        generalize v_2.alloc (.cells #[.string ⟨#[]⟩, .int .i64 0, .int .i64 0, .slice none 0 0] 30) = u at *
        generalize v_2.heap.size = Eb at *
        clear hal
        have k0 := KE.cell 0
        have k1 := KE.cell 1
        have k2 := KE.cell 2
        have k3 := KE.cell 3
        have t0 := KE.fr 0
        have t1 := KE.fr 1
        have t2 := KE.fr 2
        have t3 := KE.fr 3
        have HPg := PgS.new LS KE OL hEX lf ix sz
        have HLd := LS.wrote (touch_set (touch_set (touch_set (set_grw u Eb 0 (.string lf)) 1 (.int .i64 ix)) 2 (.int .i64 sz)) 3 (.slice q' ss.length c')) hEX
        refine till_last rfl (by kernel_rfl) (by kernel_rfl) (fun K hK => ?_)
        go_simp
        refine hK.out _ _ ?_
        clear hK K hHeld k0 k1 k2 k3 t0 t1 t2 t3 KE OL LS
        go_wp2_with fail
        go_meet
        exact ⟨Eb, lf, ix, sz, q', c', ss, rfl, HLd, HPg, ⟨hlf, hss, hc', hiy, hsy⟩⟩
      · go_simp
        have hal : Below v_1.heap.size v_1 (v_1.alloc (.cells #[.string ⟨#[]⟩, .int .i64 0, .int .i64 0, .slice none 0 0] 30)) := (Below.refl _ _).alloc (Nat.le_refl _) _
        have KE : Bxs (v_1.alloc (.cells #[.string ⟨#[]⟩, .int .i64 0, .int .i64 0, .slice none 0 0] 30)) v_1.heap.size 30 #[.string ⟨#[]⟩, .int .i64 0, .int .i64 0, .slice none 0 0] := Bxs.new _ _ _
        have hEX : X < v_1.heap.size := LS.box.lt
        have hEp : P < v_1.heap.size := LS.src.lt
        replace LS := LS.below hal
        refine hK.out _ _ (LS.cells) (fun hHeld => ?_)
        clear hK K
        try simp only [Act.put, List.setIfInBounds_toArray, List.set_cons_zero, List.set_cons_succ]
        generalize v_1.alloc (.cells #[.string ⟨#[]⟩, .int .i64 0, .int .i64 0, .slice none 0 0] 30) = u at *
        generalize v_1.heap.size = Eb at *
        clear hal
        refine till_ready 7 rfl (by kernel_rfl) (fun K hK => ?_)
        have hPA := specProofAt_any p' lv cp q rs cq now i u LS.at
        go_simp
        (go_at_call 13; (with_reducible refine hPA.mono ?_); rintro e v_3 ⟨v, rfl, OL, b1⟩)
        clear hPA
        obtain ⟨q', c', rfl, hc', -⟩ := ownS_form OL
        replace OL := ownS_mono OL (LS.gr.size)
        replace LS := LS.below b1
        obtain ⟨hlf, hss, hiy, hsy⟩ := pf_bounds rs lv now i (lof_m HF.out)
        replace KE := KE.below b1
        clear b1
        generalize pfL rs lv now i = lf at *
        generalize pfI rs lv now i = ix at *
        generalize pfS rs lv now i = sz at *
        generalize pfP rs lv now i = ss at *
        refine hK.out _ _ (LS.cells) (fun hHeld => ?_)
        clear hK K
        try simp only [Act.put, List.setIfInBounds_toArray, List.set_cons_zero, List.set_cons_succ]
        have k0 := KE.cell 0
        have k1 := KE.cell 1
        have k2 := KE.cell 2
        have k3 := KE.cell 3
        have t0 := KE.fr 0
        have t1 := KE.fr 1
        have t2 := KE.fr 2
        have t3 := KE.fr 3
        have HPg := PgS.new LS KE OL hEX lf ix sz
        have HLd := LS.wrote (touch_set (touch_set (touch_set (set_grw v_3 Eb 0 (.string lf)) 1 (.int .i64 ix)) 2 (.int .i64 sz)) 3 (.slice q' ss.length c')) hEX
        refine till_last rfl (by kernel_rfl) (by kernel_rfl) (fun K hK => ?_)
        go_simp
        refine hK.out _ _ ?_
        clear hK K hHeld k0 k1 k2 k3 t0 t1 t2 t3 KE OL LS
        go_wp2_with fail
        go_meet
        exact ⟨Eb, lf, ix, sz, q', c', ss, rfl, HLd, HPg, ⟨hlf, hss, hc', hiy, hsy⟩⟩
    · go_simp
      have hal : Below x0.heap.size x0 (x0.alloc (.cells #[.string ⟨#[]⟩, .int .i64 0, .int .i64 0, .slice none 0 0] 30)) := (Below.refl _ _).alloc (Nat.le_refl _) _
      have KE : Bxs (x0.alloc (.cells #[.string ⟨#[]⟩, .int .i64 0, .int .i64 0, .slice none 0 0] 30)) x0.heap.size 30 #[.string ⟨#[]⟩, .int .i64 0, .int .i64 0, .slice none 0 0] := Bxs.new _ _ _
      have hEX : X < x0.heap.size := LS.box.lt
      have hEp : P < x0.heap.size := LS.src.lt
      replace LS := LS.below hal
      refine hK.out _ _ (LS.cells) (fun hHeld => ?_)
      clear hK K
      try simp only [Act.put, List.setIfInBounds_toArray, List.set_cons_zero, List.set_cons_succ]
      generalize x0.alloc (.cells #[.string ⟨#[]⟩, .int .i64 0, .int .i64 0, .slice none 0 0] 30) = u at *
      generalize x0.heap.size = Eb at *
      clear hal
      refine till_ready 6 rfl (by kernel_rfl) (fun K hK => ?_)
      go_simp
      (go_at_call 27; (with_reducible refine (n_any B P a len cap ((lv.length : Int) + 1) u LS.src (by have := lof_m HF.out; omega)).mono ?_); rintro e v_4 ⟨⟨i, rfl, i0, i1, -⟩, s1, g1⟩)
      replace LS := LS.step s1 g1
      replace KE := KE.grown g1 (fun e => by cases e; omega)
      clear s1 g1
      refine hK.out _ _ (LS.cells) (fun hHeld => ?_)
      clear hK K
      try simp only [Act.put, List.setIfInBounds_toArray, List.set_cons_zero, List.set_cons_succ]
      refine till_ready 7 rfl (by kernel_rfl) (fun K hK => ?_)
      have hPA := specProofAt_any p' lv cp q rs cq now i v_4 LS.at
      go_simp
      (go_at_call 13; (with_reducible refine hPA.mono ?_); rintro e v_5 ⟨v, rfl, OL, b1⟩)
      clear hPA
      obtain ⟨q', c', rfl, hc', -⟩ := ownS_form OL
      replace OL := ownS_mono OL (LS.gr.size)
      replace LS := LS.below b1
      obtain ⟨hlf, hss, hiy, hsy⟩ := pf_bounds rs lv now i (lof_m HF.out)
      replace KE := KE.below b1
      clear b1
      generalize pfL rs lv now i = lf at *
      generalize pfI rs lv now i = ix at *
      generalize pfS rs lv now i = sz at *
      generalize pfP rs lv now i = ss at *
      refine hK.out _ _ (LS.cells) (fun hHeld => ?_)
      clear hK K
      try simp only [Act.put, List.setIfInBounds_toArray, List.set_cons_zero, List.set_cons_succ]
      have k0 := KE.cell 0
      have k1 := KE.cell 1
      have k2 := KE.cell 2
      have k3 := KE.cell 3
      have t0 := KE.fr 0
      have t1 := KE.fr 1
      have t2 := KE.fr 2
      have t3 := KE.fr 3
      have HPg := PgS.new LS KE OL hEX lf ix sz
      have HLd := LS.wrote (touch_set (touch_set (touch_set (set_grw v_5 Eb 0 (.string lf)) 1 (.int .i64 ix)) 2 (.int .i64 sz)) 3 (.slice q' ss.length c')) hEX
      refine till_last rfl (by kernel_rfl) (by kernel_rfl) (fun K hK => ?_)
      go_simp
      refine hK.out _ _ ?_
      clear hK K hHeld k0 k1 k2 k3 t0 t1 t2 t3 KE OL LS
      go_wp2_with fail
      go_meet
      exact ⟨Eb, lf, ix, sz, q', c', ss, rfl, HLd, HPg, ⟨hlf, hss, hc', hiy, hsy⟩⟩
  case rest =>
  obtain ⟨Z, lf, ix, sz, q', c', ss, rfl, HLd, HPg, HBd⟩ := hcut
  clear S3 hwk
  obtain ⟨c0, c1, c2⟩ := HLd.out.cells
  have hRo := specRootOf_any p' lv cp q rs cq now (lv.length : Int) _ HLd.out.at
  have hrz := ro_size rs lv now (lv.length : Int)
  generalize roO rs lv now (lv.length : Int) = rt at *
  go_wp2_with fail
  refine hRo.mono ?_
  rintro e x1 ⟨rfl, b1⟩
  have HP1 : Hid (PgS w y1 B P a len cap Z lf ix sz q' c' ss x1) := HPg.out.below b1
  clear hRo b1 HLd HPg c0 c1 c2
  go_wp2_with fail
  refine (one_any B P a len cap 4 _ HP1.out.src (by omega)).mono ?_
  rintro e x2 ⟨⟨b, rfl⟩, ss2, gg2⟩
  have HP2 : Hid (PgS w y1 B P a len cap Z lf ix sz q' c' ss x2) := HP1.out.step ss2 gg2
  clear ss2 gg2 HP1
  have HEnd : Hid (∀ (lf2 : ByteArray) (ix2 sz2 : Int) (rt2 : ByteArray) (x : World) (u0 u1 u2 u3 : Value), PgS w y1 B P a len cap Z lf2 ix2 sz2 q' c' ss x → lf2.size ≤ 1000 → (0 ≤ ix2 ∧ ix2 ≤ 67) → (0 ≤ sz2 ∧ sz2 ≤ 67) → rt2.size ≤ 40 → DrawnPg w (.returned (.tuple #[.agg #[.string lf2, .int .i64 ix2, .int .i64 sz2, .slice q' ss.length c'], .string rt2])) ((((x.setCell ⟨w.heap.size, 0, none⟩ u0).setCell ⟨w.heap.size, 1, none⟩ u1).setCell ⟨w.heap.size, 2, none⟩ u2).setCell ⟨w.heap.size, 3, none⟩ u3)) := fun lf2 ix2 sz2 rt2 x u0 u1 u2 u3 h h1 h2 h3 h4 => ⟨⟨lf2, ix2, sz2, q', c', ss, rt2, rfl, (h.done u0 u1 u2 u3).1, HBd.out.2.1, HBd.out.2.2.1, h1, h2, h3, h4⟩, (h.done u0 u1 u2 u3).2⟩
  obtain ⟨hl1, -, -, hi1, hs1⟩ := HBd.out
  clear HBd HF
  cases b with
  | false =>
    have HE : Hid _ := fun u0 u1 u2 u3 => HEnd.out lf ix sz rt _ u0 u1 u2 u3 HP2.out (by omega) (by omega) (by omega) (by omega)
    obtain ⟨k0, k1, k2, k3, -, ⟨d0, d1, d2, d3⟩, f0, f1, f2, f3⟩ := HP2.out.cells
    clear HEnd HP2
    go_wp2_with fail
    refine bodyPost_ret (v := .tuple #[.agg #[.string lf, .int .i64 ix, .int .i64 sz, .slice q' ss.length c'], .string rt]) (by simp [results, Tryz.results6, go_sem, d0, d1, d2, d3]) rfl ?_
    exact HE.out _ _ _ _
  | true =>
    go_wp2_with fail
    refine (n_any B P a len cap 4 _ HP2.out.src (by omega)).mono ?_
    rintro e x3 ⟨⟨n, rfl, n0, n1, -⟩, ss3, gg3⟩
    have HP3 : Hid (PgS w y1 B P a len cap Z lf ix sz q' c' ss x3) := HP2.out.step ss3 gg3
    have n2 := n1 (by omega)
    clear ss3 gg3 HP2 n1
    obtain ⟨k0, k1, k2, k3, ⟨g0, g1, g2⟩, -⟩ := HP3.out.cells
    by_cases hn0 : n = 0
    · subst hn0
      clear n0 n2
      go_wp2_with fail
      refine (spoilT_any B P a len cap lf x3 HP3.out.src (by omega)).mono ?_
      rintro e x4 ⟨⟨u, rfl, hu⟩, ss4, gg4⟩
      have HP4 : Hid (PgS w y1 B P a len cap Z lf ix sz q' c' ss x4) := HP3.out.step ss4 gg4
      have HP5 : Hid (PgS w y1 B P a len cap Z u ix sz q' c' ss (x4.setCell ⟨Z, 0, none⟩ (.string u))) := HP4.out.set0 u
      clear ss4 gg4 HP3 k0 k1 k2 k3 g0 g1 g2
      obtain ⟨k0, k1, k2, k3, ⟨g0, g1, g2⟩, -⟩ := HP4.out.cells
      clear HP4
      go_upto_region 14 with fail
      clear k0 k1 k2 k3 g0 g1 g2
      generalize x4.setCell ⟨Z, 0, none⟩ (.string u) = x5 at *
      have HE : Hid _ := fun u0 u1 u2 u3 => HEnd.out u ix sz rt _ u0 u1 u2 u3 HP5.out (by omega) (by omega) (by omega) (by omega)
      obtain ⟨k0, k1, k2, k3, -, ⟨d0, d1, d2, d3⟩, f0, f1, f2, f3⟩ := HP5.out.cells
      clear HEnd HP5
      go_wp2_with fail
      refine bodyPost_ret (v := .tuple #[.agg #[.string u, .int .i64 ix, .int .i64 sz, .slice q' ss.length c'], .string rt]) (by simp [results, Tryz.results6, go_sem, d0, d1, d2, d3]) rfl ?_
      exact HE.out _ _ _ _
    have e0 : (n == 0) = false := beq_eq_false_iff_ne.2 hn0
    by_cases hn1 : n = 1
    · subst hn1
      clear n0 n2 hn0 e0
      have HP5 : Hid (PgS w y1 B P a len cap Z lf (ix + 1) sz q' c' ss (x3.setCell ⟨Z, 1, none⟩ (.int .i64 (ix + 1)))) := HP3.out.set1 (ix + 1)
      clear HP3
      go_upto_region 14 with fail
      clear k0 k1 k2 k3 g0 g1 g2
      generalize x3.setCell ⟨Z, 1, none⟩ (.int .i64 (ix + 1)) = x5 at *
      have HE : Hid _ := fun u0 u1 u2 u3 => HEnd.out lf (ix + 1) sz rt _ u0 u1 u2 u3 HP5.out (by omega) (by omega) (by omega) (by omega)
      obtain ⟨k0, k1, k2, k3, -, ⟨d0, d1, d2, d3⟩, f0, f1, f2, f3⟩ := HP5.out.cells
      clear HEnd HP5
      go_wp2_with fail
      refine bodyPost_ret (v := .tuple #[.agg #[.string lf, .int .i64 (ix + 1), .int .i64 sz, .slice q' ss.length c'], .string rt]) (by simp [results, Tryz.results6, go_sem, d0, d1, d2, d3]) rfl ?_
      exact HE.out _ _ _ _
    have e1 : (n == 1) = false := beq_eq_false_iff_ne.2 hn1
    by_cases hn2 : n = 2
    · subst hn2
      clear n0 n2 hn0 hn1 e0 e1
      have HP5 : Hid (PgS w y1 B P a len cap Z lf ix (sz + 1) q' c' ss (x3.setCell ⟨Z, 2, none⟩ (.int .i64 (sz + 1)))) := HP3.out.set2 (sz + 1)
      clear HP3
      go_upto_region 14 with fail
      clear k0 k1 k2 k3 g0 g1 g2
      generalize x3.setCell ⟨Z, 2, none⟩ (.int .i64 (sz + 1)) = x5 at *
      have HE : Hid _ := fun u0 u1 u2 u3 => HEnd.out lf ix (sz + 1) rt _ u0 u1 u2 u3 HP5.out (by omega) (by omega) (by omega) (by omega)
      obtain ⟨k0, k1, k2, k3, -, ⟨d0, d1, d2, d3⟩, f0, f1, f2, f3⟩ := HP5.out.cells
      clear HEnd HP5
      go_wp2_with fail
      refine bodyPost_ret (v := .tuple #[.agg #[.string lf, .int .i64 ix, .int .i64 (sz + 1), .slice q' ss.length c'], .string rt]) (by simp [results, Tryz.results6, go_sem, d0, d1, d2, d3]) rfl ?_
      exact HE.out _ _ _ _
    have e2 : (n == 2) = false := beq_eq_false_iff_ne.2 hn2
    clear n0 n2 hn0 hn1 hn2
    go_wp2_with fail
    refine (spoilT_any B P a len cap rt x3 HP3.out.src (by omega)).mono ?_
    rintro e x4 ⟨⟨u, rfl, hu⟩, ss4, gg4⟩
    have HP4 : Hid (PgS w y1 B P a len cap Z lf ix sz q' c' ss x4) := HP3.out.step ss4 gg4
    clear ss4 gg4 HP3 k0 k1 k2 k3 g0 g1 g2 e0 e1 e2
    have HE : Hid _ := fun u0 u1 u2 u3 => HEnd.out lf ix sz u _ u0 u1 u2 u3 HP4.out (by omega) (by omega) (by omega) (by omega)
    obtain ⟨k0, k1, k2, k3, -, ⟨d0, d1, d2, d3⟩, f0, f1, f2, f3⟩ := HP4.out.cells
    clear HEnd HP4
    go_wp2_with fail
    refine bodyPost_ret (v := .tuple #[.agg #[.string lf, .int .i64 ix, .int .i64 sz, .slice q' ss.length c'], .string u]) (by simp [results, Tryz.results6, go_sem, d0, d1, d2, d3]) rfl ?_
    exact HE.out _ _ _ _
end Go.Proofs.YtnknnfgimiljjaaGreatDoor
