/-
  Parts of one proof, laid as one text: DrawLk, DrawCk, SpecRt, DrawPg; what each says stands at its head.
-/
import Derived.Test.YtonleickhincgaaGreatDoorRows
import Derived.Test.YtonleickhincgaaGreatDoorBytesDigMath
import Derived.Test.YtonleickhincgaaGreatDoorTreeMathSlABxKSlBOwnS
import Derived.Test.YtonleickhincgaaGreatDoorLgLawTakesTakesLPutterPathI
import Derived.Test.YtonleickhincgaaGreatDoorFldIsTimeIGrKSpecGNSpecGTTillTwoFldN
import Derived.Test.YtonleickhincgaaGreatDoorMac2AppSSrcDrawsDrawKitSomeIsInSignSSignDWide2StepAppPath2DigestDrawTreeSpoil
import Derived.Test.YtonleickhincgaaGreatDoorTimeBPutMathPutNumJoinedPutTextFldMath
import Derived.Test.YtonleickhincgaaGreatDoorGetValGetTxtNumMathFldRdNumFromTmbMathLgMath
import Derived.Test.YtonleickhincgaaGreatDoorLgAtKLgAnsLgRtAudMathHdMathClaMathHearMathFldGOneKFldBlkRwBlkRowOps
import Derived.Test.YtonleickhincgaaGreatDoorLgOLtMathLfMathLaMath
import Derived.Test.YtonleickhincgaaGreatDoorLfSDrawLoDrawLoMSpoilT
import Derived.Test.YtonleickhincgaaGreatDoorDrawLog
import Derived.Handy
import Derived.WalkSpells
import Derived.OwnWalk
import Derived.Deep.RegionWith
import Derived.Deep.RegionHeld3
import Derived.Deep.Cut
import Derived.Deep.CutRange
import Derived.Test.YtonleickhincgaaGreatDoorPowerHalvesTreeTree2TreeHPathMathIncMathTakerTakePathConMathProofLawSignMath
import Derived.Test.YtonleickhincgaaGreatDoorSpecLr
import Derived.Test.YtonleickhincgaaGreatDoorLogRIImplRtLawSLawMLawMGLawFLawFMLawFRLawSGLawLgLawLhLawLzLawLmPrfLs
import Derived.Laws.OwnMore
/-
  A drawn log in a box, beside the source and the box of the result: what stays while more is drawn.
-/
namespace Go.Proofs.YtonleickhincgaaGreatDoor
open Go.RowKit Go.Lib
set_option linter.unusedVariables false
set_option maxRecDepth 20000

/-- The log lies in blocks from base on and below top: while these stay, it can be read. -/
def LgTo (base top : Nat) (p : Option Addr) (lv : List ByteArray) (cp : Nat) (q : Option Addr) (rs : List Rw) (cq : Nat) (w : World) : Prop := top ≤ w.heap.size ∧ ∀ x : World, top ≤ x.heap.size → (∀ b, base ≤ b → b < top → x.heap[b]? = w.heap[b]?) → LgAt p lv cp q rs cq x
theorem LgTo.of {base : Nat} {p : Option Addr} {lv : List ByteArray} {cp : Nat} {q : Option Addr} {rs : List Rw} {cq : Nat} {w : World} (h : LgHi base p lv cp q rs cq w) : LgTo base w.heap.size p lv cp q rs cq w := ⟨Nat.le_refl _, h⟩
theorem LgTo.at {base top : Nat} {p : Option Addr} {lv : List ByteArray} {cp : Nat} {q : Option Addr} {rs : List Rw} {cq : Nat} {w : World} (h : LgTo base top p lv cp q rs cq w) : LgAt p lv cp q rs cq w := h.2 w h.1 (fun _ _ _ => rfl)
theorem LgTo.grown {base top : Nat} {p : Option Addr} {lv : List ByteArray} {cp : Nat} {q : Option Addr} {rs : List Rw} {cq : Nat} {w x : World} {row : Option Nat} (h : LgTo base top p lv cp q rs cq w) (k : w.grownBy x row) (hr : ∀ j, row = some j → j < base ∨ top ≤ j) : LgTo base top p lv cp q rs cq x :=
  ⟨Nat.le_trans h.1 k.size, fun y h1 h2 => h.2 y h1 (fun b hb hl => (h2 b hb hl).trans (k.block b (Nat.lt_of_lt_of_le hl h.1) (fun e => by have := hr b e.symm; omega)))⟩
theorem LgTo.below {base top : Nat} {p : Option Addr} {lv : List ByteArray} {cp : Nat} {q : Option Addr} {rs : List Rw} {cq : Nat} {w x : World} (h : LgTo base top p lv cp q rs cq w) (k : Below w.heap.size w x) : LgTo base top p lv cp q rs cq x :=
  ⟨Nat.le_trans h.1 k.size, fun y h1 h2 => h.2 y h1 (fun b hb hl => (h2 b hb hl).trans (k.block b (Nat.lt_of_lt_of_le hl h.1)))⟩
theorem LgTo.hi {base top b : Nat} {p : Option Addr} {lv : List ByteArray} {cp : Nat} {q : Option Addr} {rs : List Rw} {cq : Nat} {w : World} (h : LgTo base top p lv cp q rs cq w) (hb : b ≤ base) : LgHi b p lv cp q rs cq w := fun x hs hx => h.2 x (Nat.le_trans h.1 hs) (fun c hc ht => hx c (by omega) (Nat.lt_of_lt_of_le ht h.1))
theorem LgHi.low {base b : Nat} {p : Option Addr} {lv : List ByteArray} {cp : Nat} {q : Option Addr} {rs : List Rw} {cq : Nat} {w : World} (h : LgHi base p lv cp q rs cq w) (hb : b ≤ base) : LgHi b p lv cp q rs cq w := (LgTo.of h).hi hb
/-- A drawn log in a box at X, the source at p, the result's box ahead of both. -/
structure LdS (w y1 : World) (RT : TypeId) (rc : Array Value) (B p : Nat) (a : Option Addr) (len cap X : Nat) (q : Option Addr) (cq : Nat) (rs : List Rw) (p' : Option Addr) (cp : Nat) (lv : List ByteArray) (now : Int) (x : World) : Prop where
  src : Src 126 B p a len cap x
  bel : Below w.heap.size w x
  gr : y1.grownBy x (some p)
  wp : w.heap.size < p
  hp : p < y1.heap.size
  hX : y1.heap.size ≤ X
  box : Bxs x X 41 #[.slice q rs.length cq, .slice p' lv.length cp, .int .i64 now]
  res : Bxs x w.heap.size RT rc
  hi : LgTo y1.heap.size X p' lv cp q rs cq x
section
variable {w y1 y2 x x' : World} {RT : TypeId} {rc : Array Value} {B p : Nat} {a : Option Addr} {len cap X : Nat} {q : Option Addr} {cq : Nat} {rs : List Rw} {p' : Option Addr} {cp : Nat} {lv : List ByteArray} {now : Int}
theorem LdS.step (h : LdS w y1 RT rc B p a len cap X q cq rs p' cp lv now x) (hs : Src 126 B p a len cap x') (g : x.grownBy x' (some p)) : LdS w y1 RT rc B p a len cap X q cq rs p' cp lv now x' := by
  have h1 := h.wp
  have h2 := h.hp
  have h3 := h.hX
  exact ⟨hs, below_touch h.bel g (by omega), touch_trans h.gr g, h1, h2, h3, h.box.grown g (fun e => by cases e; omega), h.res.grown g (fun e => by cases e; omega), h.hi.grown g (fun j hj => by cases hj; exact .inl h2)⟩
theorem LdS.below (h : LdS w y1 RT rc B p a len cap X q cq rs p' cp lv now x) (b : Below x.heap.size x x') : LdS w y1 RT rc B p a len cap X q cq rs p' cp lv now x' :=
  ⟨h.src.below b, chainB h.bel b, touch_below h.gr b, h.wp, h.hp, h.hX, h.box.below b, h.res.below b, h.hi.below b⟩
theorem LdS.new (hb : Below w.heap.size w y1) (hr : Bxs y1 w.heap.size RT rc) (hs1 : Src 126 B p a len cap y1) (wp : w.heap.size < p) (hs2 : Src 126 B p a len cap y2) (g2 : y1.grownBy y2 (some p)) (hi : LgHi y1.heap.size p' lv cp q rs cq y2) :
    LdS w y1 RT rc B p a len cap y2.heap.size q cq rs p' cp lv now (y2.alloc (.cells #[.slice q rs.length cq, .slice p' lv.length cp, .int .i64 now] 41)) := by
  have b : Below y2.heap.size y2 (y2.alloc (.cells #[.slice q rs.length cq, .slice p' lv.length cp, .int .i64 now] 41)) := (Below.refl _ _).alloc (Nat.le_refl _) _
  exact ⟨hs2.below b, chainB (below_touch hb g2 (by omega)) b, touch_below g2 b, wp, hs1.lt, g2.size, Bxs.new _ _ _, (hr.grown g2 (fun e => by cases e; omega)).below b, (LgTo.of hi).below b⟩
/-- A box that was made later is written. -/
theorem LdS.wrote {Z : Nat} (h : LdS w y1 RT rc B p a len cap X q cq rs p' cp lv now x) (g : x.grownBy x' (some Z)) (hZ : X < Z) : LdS w y1 RT rc B p a len cap X q cq rs p' cp lv now x' := by
  have h1 := h.wp
  have h2 := h.hp
  have h3 := h.hX
  exact ⟨h.src.other g (fun j hj => by cases hj; omega), below_touch h.bel g (by omega), touch_own h.gr g (fun j hj => by cases hj; omega), h1, h2, h3, h.box.grown g (fun e => by cases e; omega), h.res.grown g (fun e => by cases e; omega), h.hi.grown g (fun j hj => by cases hj; exact .inr (by omega))⟩
theorem LdS.at (h : LdS w y1 RT rc B p a len cap X q cq rs p' cp lv now x) : LgAt p' lv cp q rs cq x := h.hi.at
theorem LdS.cells (h : LdS w y1 RT rc B p a len cap X q cq rs p' cp lv now x) : x.cell? ⟨X, 0, none⟩ = some (.slice q rs.length cq) ∧ x.cell? ⟨X, 1, none⟩ = some (.slice p' lv.length cp) ∧ x.cell? ⟨X, 2, none⟩ = some (.int .i64 now) := ⟨h.box.cell 0, h.box.cell 1, h.box.cell 2⟩
theorem LdS.ne (h : LdS w y1 RT rc B p a len cap X q cq rs p' cp lv now x) : w.heap.size ≠ X := by
  have h1 := h.wp
  have h2 := h.hp
  have h3 := h.hX
  omega
/-- A log is put into the result's box, which is of its own type. -/
theorem LdS.done (h : LdS w y1 RT rc B p a len cap X q cq rs p' cp lv now x) (u0 u1 u2 : Value) : LgHi w.heap.size p' lv cp q rs cq (((x.setCell ⟨w.heap.size, 0, none⟩ u0).setCell ⟨w.heap.size, 1, none⟩ u1).setCell ⟨w.heap.size, 2, none⟩ u2) ∧ Below w.heap.size w (((x.setCell ⟨w.heap.size, 0, none⟩ u0).setCell ⟨w.heap.size, 1, none⟩ u1).setCell ⟨w.heap.size, 2, none⟩ u2) := by
  have h1 := h.wp
  have h2 := h.hp
  exact ⟨(h.hi.grown (touch_set (touch_set (set_grw x w.heap.size 0 u0) 1 u1) 2 u2) (fun j hj => by cases hj; exact .inl (by omega))).hi (by omega), below_set3 h.bel (Nat.le_refl _) _ _ _⟩
theorem LdS.stay (h : LdS w y1 RT rc B p a len cap X q cq rs p' cp lv now x) (u0 u1 u2 : Value) : (((x.setCell ⟨w.heap.size, 0, none⟩ u0).setCell ⟨w.heap.size, 1, none⟩ u1).setCell ⟨w.heap.size, 2, none⟩ u2).cell? ⟨X, 0, none⟩ = some (.slice q rs.length cq) ∧ (((x.setCell ⟨w.heap.size, 0, none⟩ u0).setCell ⟨w.heap.size, 1, none⟩ u1).setCell ⟨w.heap.size, 2, none⟩ u2).cell? ⟨X, 1, none⟩ = some (.slice p' lv.length cp) ∧ (((x.setCell ⟨w.heap.size, 0, none⟩ u0).setCell ⟨w.heap.size, 1, none⟩ u1).setCell ⟨w.heap.size, 2, none⟩ u2).cell? ⟨X, 2, none⟩ = some (.int .i64 now) := by
  have hb := ((h.box.other w.heap.size 0 h.ne u0).other w.heap.size 1 h.ne u1).other w.heap.size 2 h.ne u2
  exact ⟨hb.cell 0, hb.cell 1, hb.cell 2⟩
end
theorem lof_m {rs : List Rw} {lv : List ByteArray} {now : Int} (h : LoF rs lv now) : lv.length ≤ 66 := h.2.1
theorem res3 {x : World} {g : Nat} {T : TypeId} {a b c : Value} (h : Bxs x g T #[a, b, c]) : x.cell? ⟨g, 0, none⟩ = some a ∧ x.cell? ⟨g, 1, none⟩ = some b ∧ x.cell? ⟨g, 2, none⟩ = some c ∧ x.frozen? ⟨g, 0, none⟩ = false ∧ x.frozen? ⟨g, 1, none⟩ = false ∧ x.frozen? ⟨g, 2, none⟩ = false := ⟨h.cell 0, h.cell 1, h.cell 2, h.fr 0, h.fr 1, h.fr 2⟩
end Go.Proofs.YtonleickhincgaaGreatDoor
/-
  A drawn log and an Auditor in boxes, beside the source: what stays while more is drawn.
-/
namespace Go.Proofs.YtonleickhincgaaGreatDoor
open Go.RowKit Go.Lib
set_option linter.unusedVariables false
set_option maxRecDepth 20000

/-- A drawn log in a box at X, an Auditor in a box at A behind it, the source at p. -/
structure LkS (w1 : World) (B p : Nat) (a : Option Addr) (len cap X : Nat) (q : Option Addr) (cq : Nat) (rs : List Rw) (p' : Option Addr) (cp : Nat) (lv : List ByteArray) (now : Int) (A : Nat) (ak : ByteArray) (az : Int) (ar : ByteArray) (x : World) : Prop where
  src : Src 126 B p a len cap x
  gr : w1.grownBy x (some p)
  hp : p < w1.heap.size
  hX : w1.heap.size ≤ X
  hA : X < A
  box : Bxs x X 41 #[.slice q rs.length cq, .slice p' lv.length cp, .int .i64 now]
  aud : Bxs x A 24 #[.string ak, .int .i64 az, .string ar]
  hi : LgTo w1.heap.size X p' lv cp q rs cq x
section
variable {w1 x x' : World} {B p : Nat} {a : Option Addr} {len cap X : Nat} {q : Option Addr} {cq : Nat} {rs : List Rw} {p' : Option Addr} {cp : Nat} {lv : List ByteArray} {now : Int} {A : Nat} {ak : ByteArray} {az : Int} {ar : ByteArray}
theorem LkS.step (h : LkS w1 B p a len cap X q cq rs p' cp lv now A ak az ar x) (hs : Src 126 B p a len cap x') (g : x.grownBy x' (some p)) : LkS w1 B p a len cap X q cq rs p' cp lv now A ak az ar x' := by
  have h2 := h.hp
  have h3 := h.hX
  have h4 := h.hA
  exact ⟨hs, touch_trans h.gr g, h2, h3, h4, h.box.grown g (fun e => by cases e; omega), h.aud.grown g (fun e => by cases e; omega), h.hi.grown g (fun j hj => by cases hj; exact .inl h2)⟩
theorem LkS.below (h : LkS w1 B p a len cap X q cq rs p' cp lv now A ak az ar x) (b : Below x.heap.size x x') : LkS w1 B p a len cap X q cq rs p' cp lv now A ak az ar x' :=
  ⟨h.src.below b, touch_below h.gr b, h.hp, h.hX, h.hA, h.box.below b, h.aud.below b, h.hi.below b⟩
/-- The Auditor's box is written. -/
theorem LkS.wrote {ak2 : ByteArray} {as2 : Int} {ar2 : ByteArray} (h : LkS w1 B p a len cap X q cq rs p' cp lv now A ak az ar x) (g : x.grownBy x' (some A)) (k : Bxs x' A 24 #[.string ak2, .int .i64 as2, .string ar2]) : LkS w1 B p a len cap X q cq rs p' cp lv now A ak2 as2 ar2 x' := by
  have h2 := h.hp
  have h3 := h.hX
  have h4 := h.hA
  exact ⟨h.src.other g (fun j hj => by cases hj; omega), touch_own h.gr g (fun j hj => by cases hj; omega), h2, h3, h4, h.box.grown g (fun e => by cases e; omega), k, h.hi.grown g (fun j hj => by cases hj; exact .inr (by omega))⟩
theorem LkS.set0 (h : LkS w1 B p a len cap X q cq rs p' cp lv now A ak az ar x) (t : ByteArray) : LkS w1 B p a len cap X q cq rs p' cp lv now A t az ar (x.setCell ⟨A, 0, none⟩ (.string t)) := h.wrote (set_grw x A 0 _) (h.aud.set 0 _)
theorem LkS.set1 (h : LkS w1 B p a len cap X q cq rs p' cp lv now A ak az ar x) (t : Int) : LkS w1 B p a len cap X q cq rs p' cp lv now A ak t ar (x.setCell ⟨A, 1, none⟩ (.int .i64 t)) := h.wrote (set_grw x A 1 _) (h.aud.set 1 _)
theorem LkS.set2 (h : LkS w1 B p a len cap X q cq rs p' cp lv now A ak az ar x) (t : ByteArray) : LkS w1 B p a len cap X q cq rs p' cp lv now A ak az t (x.setCell ⟨A, 2, none⟩ (.string t)) := h.wrote (set_grw x A 2 _) (h.aud.set 2 _)
theorem LkS.six (h : LkS w1 B p a len cap X q cq rs p' cp lv now A ak az ar x) : (x.cell? ⟨X, 0, none⟩ = some (.slice q rs.length cq) ∧ x.cell? ⟨X, 1, none⟩ = some (.slice p' lv.length cp) ∧ x.cell? ⟨X, 2, none⟩ = some (.int .i64 now)) ∧ (x.cell? ⟨A, 0, none⟩ = some (.string ak) ∧ x.cell? ⟨A, 1, none⟩ = some (.int .i64 az) ∧ x.cell? ⟨A, 2, none⟩ = some (.string ar)) ∧ x.frozen? ⟨A, 0, none⟩ = false ∧ x.frozen? ⟨A, 1, none⟩ = false ∧ x.frozen? ⟨A, 2, none⟩ = false := ⟨⟨h.box.cell 0, h.box.cell 1, h.box.cell 2⟩, ⟨h.aud.cell 0, h.aud.cell 1, h.aud.cell 2⟩, h.aud.fr 0, h.aud.fr 1, h.aud.fr 2⟩
theorem LkS.at (h : LkS w1 B p a len cap X q cq rs p' cp lv now A ak az ar x) : LgAt p' lv cp q rs cq x := h.hi.at
theorem LkS.new {y y2 : World} (hs1 : Src 126 B p a len cap w1) (hs : Src 126 B p a len cap y) (g : w1.grownBy y (some p)) (hi : LgHi w1.heap.size p' lv cp q rs cq y) (hy : y2 = y.alloc (.cells #[.slice q rs.length cq, .slice p' lv.length cp, .int .i64 now] 41)) (hx : Below y2.heap.size y2 x) (k : Bxs x A 24 #[.string ak, .int .i64 az, .string ar]) (hA : y2.heap.size ≤ A) : LkS w1 B p a len cap y.heap.size q cq rs p' cp lv now A ak az ar x := by
  subst hy
  have b : Below y.heap.size y (y.alloc (.cells #[.slice q rs.length cq, .slice p' lv.length cp, .int .i64 now] 41)) := (Below.refl _ _).alloc (Nat.le_refl _) _
  have bb := chainB b hx
  exact ⟨hs.below bb, touch_below g bb, hs1.lt, g.size, by rw [szA] at hA; omega, (Bxs.new _ _ _).below hx, k, (LgTo.of hi).below bb⟩
end
/-- A right log's case: the bounds of an Auditor that is drawn. -/
def AudZ (ak : ByteArray) (az : Int) (ar : ByteArray) : Prop := ak.size ≤ 40 ∧ (0 ≤ az ∧ az ≤ 68) ∧ ar.size ≤ 40
end Go.Proofs.YtonleickhincgaaGreatDoor
/-
  RootOf and HeadText, as the specification answers.
  Conditions: the cells hold the rows and leaves.
-/
namespace Go.Proofs.YtonleickhincgaaGreatDoor
open Go.RowKit Go.Lib
set_option linter.unusedVariables false
set_option maxRecDepth 20000

set_option maxHeartbeats 2000000 in
theorem specRootOf_any (p : Option Addr) (lv : List ByteArray) (cp : Nat) (q : Option Addr) (rs : List Rw) (cq : Nat) (now : Int) (r : Int) (w : World) (hA : LgAt p lv cp q rs cq w) :
    Calls Tryz.prog 25 #[.agg #[.slice q rs.length cq, .slice p lv.length cp, .int .i64 now], .int .i64 r] w fun e w' => e = .returned (.string (roO rs lv now r)) ∧ Below w.heap.size w w' := by
  obtain ⟨W1, hW1⟩ : ∃ W1, W1 = w.alloc (.cells #[.slice q rs.length cq, .slice p lv.length cp, .int .i64 now] 41) := ⟨_, rfl⟩
  have HW1 : Hid (W1 = w.alloc (.cells #[.slice q rs.length cq, .slice p lv.length cp, .int .i64 now] 41)) := hW1
  have B1 : Hid (Below w.heap.size w W1) := by rw [hW1]; exact (Below.refl _ _).alloc (Nat.le_refl _) _
  have K1 : Hid (Bxs W1 w.heap.size 41 #[.slice q rs.length cq, .slice p lv.length cp, .int .i64 now]) := by rw [hW1]; exact Bxs.new _ _ _
  have hR := specLogRight_any p lv cp q rs cq now W1 (hA.below B1.out)
  have HV : Hid (roO rs lv now r = if lgB rs lv now = true then (if 0 ≤ r ∧ r ≤ (lv.length : Int) then treeB (lv.take r.toNat) else ByteArray.empty) else ByteArray.empty) := rfl
  have HA : Hid (LgAt p lv cp q rs cq w) := hA
  have hln := hA.ln
  have hlc := hA.lc
  have hIs := fun x => l07Is_any r 0 (lv.length : Int) x
  obtain ⟨x0, x1, x2⟩ : W1.cell? ⟨w.heap.size, 0, none⟩ = some (.slice q rs.length cq) ∧ W1.cell? ⟨w.heap.size, 1, none⟩ = some (.slice p lv.length cp) ∧ W1.cell? ⟨w.heap.size, 2, none⟩ = some (.int .i64 now) := ⟨K1.out.cell 0, K1.out.cell 1, K1.out.cell 2⟩
  rw [HW1.out] at x0 x1 x2
  clear hW1 hA
  cases hg : lgB rs lv now with
  | false =>
    rw [hg] at hR
    rw [hg, if_neg Bool.false_ne_true] at HV
    rw [HV.out]
    go_enter Tryz.func25, Tryz.ntmps25
    go_wp2_with fail
    rw [← HW1.out]
    refine hR.mono ?_
    rintro e y ⟨rfl, by_⟩
    go_wp2_with fail
    go_ret
    exact ⟨rfl, chainB B1.out by_⟩
  | true =>
    rw [hg] at hR
    rw [hg, if_pos rfl] at HV
    by_cases h1 : 0 ≤ r ∧ r ≤ (lv.length : Int)
    · rw [if_pos h1] at HV
      rw [decide_eq_true h1] at hIs
      obtain ⟨K, rfl⟩ : ∃ K : Nat, r = (K : Int) := ⟨r.toNat, by omega⟩
      rw [Int.toNat_natCast] at HV
      have hK : K ≤ lv.length := by omega
      have HT : Hid (∀ x, Below w.heap.size w x → Calls Tryz.prog 75 #[.slice p K cp] x fun e w' => e = .returned (.string (treeB (lv.take K))) ∧ Below x.heap.size x w') := fun x hb => by
        have hl : (lv.take K).length = K := by simp; omega
        have := tree2_any K p cp (lv.take K) x hl ((HA.out.tx.below hb).take K) (by omega) (by omega) (fun t ht => lg_small hg t (List.mem_of_mem_take ht))
        rwa [hl] at this
      rw [HV.out]
      have hs := sl_to p lv.length cp K (by omega)
      clear h1 hg
      generalize treeB (lv.take K) = TB at *
      go_enter Tryz.func25, Tryz.ntmps25
      go_wp2_with fail
      rw [← HW1.out]
      refine hR.mono ?_
      rintro e y ⟨rfl, by_⟩
      clear hR x0 x1 x2
      have x1 := (K1.out.below by_).cell 1
      have hT := HT.out y (chainB B1.out by_)
      have hI := hIs y
      clear HT hIs
      go_wp2_with fail
      refine hI.mono ?_
      rintro e y2 ⟨rfl, rfl⟩
      go_wp2_with fail
      refine hT.mono ?_
      rintro e y3 ⟨rfl, b3⟩
      go_wp2_with fail
      go_ret
      exact ⟨rfl, chainB (chainB B1.out by_) b3⟩
    · rw [if_neg h1] at HV
      rw [decide_eq_false h1] at hIs
      rw [HV.out]
      clear h1 hg
      go_enter Tryz.func25, Tryz.ntmps25
      go_wp2_with fail
      rw [← HW1.out]
      refine hR.mono ?_
      rintro e y ⟨rfl, by_⟩
      clear hR x0 x1 x2
      have x1 := (K1.out.below by_).cell 1
      have hI := hIs y
      clear hIs
      go_wp2_with fail
      refine hI.mono ?_
      rintro e y2 ⟨rfl, rfl⟩
      go_wp2_with fail
      go_ret
      exact ⟨rfl, chainB B1.out by_⟩
set_option maxHeartbeats 2000000 in
theorem l09Head_any (p : Option Addr) (lv : List ByteArray) (cp : Nat) (q : Option Addr) (rs : List Rw) (cq : Nat) (now : Int) (w : World) (hA : LgAt p lv cp q rs cq w) (h100 : ∀ t ∈ lv, t.size ≤ 100) :
    Calls Tryz.prog 78 #[.agg #[.slice q rs.length cq, .slice p lv.length cp, .int .i64 now]] w fun e w' => e = .returned (.string (hdB lv)) ∧ Below w.heap.size w w' := by
  obtain ⟨W1, hW1⟩ : ∃ W1, W1 = w.alloc (.cells #[.slice q rs.length cq, .slice p lv.length cp, .int .i64 now] 41) := ⟨_, rfl⟩
  have HW1 : Hid (W1 = w.alloc (.cells #[.slice q rs.length cq, .slice p lv.length cp, .int .i64 now] 41)) := hW1
  have B1 : Hid (Below w.heap.size w W1) := by rw [hW1]; exact (Below.refl _ _).alloc (Nat.le_refl _) _
  have K1 : Hid (Bxs W1 w.heap.size 41 #[.slice q rs.length cq, .slice p lv.length cp, .int .i64 now]) := by rw [hW1]; exact Bxs.new _ _ _
  have hln := hA.ln
  have BR : Hid (Below W1.heap.size W1 W1.drew) := (Below.refl _ _).drew
  have HX : Hid (∀ x, Below W1.heap.size W1 x → x.cell? ⟨w.heap.size, 1, none⟩ = some (.slice p lv.length cp)) := fun x hb => (K1.out.below hb).cell 1
  have HN : Hid (∀ x, Below W1.heap.size W1 x → Calls Tryz.prog 122 #[.int .i64 (lv.length : Int)] x fun e w' => e = .returned (.string (putB (lv.length : Int))) ∧ Below W1.heap.size W1 w') := fun x hb => (specPutNum_any _ x (by omega) (by omega)).mono (by rintro e y ⟨rfl, b⟩; exact ⟨rfl, chainB hb b⟩)
  have HT : Hid (∀ x, Below W1.heap.size W1 x → Calls Tryz.prog 75 #[.slice p lv.length cp] x fun e w' => e = .returned (.string (treeB lv)) ∧ Below W1.heap.size W1 w') := fun x hb => (tree2_any lv.length p cp lv x rfl ((hA.tx.below B1.out).below hb) (by omega) hA.lc h100).mono (by rintro e y ⟨rfl, b⟩; exact ⟨rfl, chainB hb b⟩)
  have HP : Hid (∀ x, Below W1.heap.size W1 x → Calls Tryz.prog 123 #[.string (treeB lv)] x fun e w' => e = .returned (.string (putTextB (treeB lv))) ∧ Below W1.heap.size W1 w') := fun x hb => (specPutText_any _ x (by rw [treeB_size]; unfold maxLen; omega)).mono (by rintro e y ⟨rfl, b⟩; exact ⟨rfl, chainB hb b⟩)
  have hz1 : (putB (lv.length : Int)).size ≤ 10 := putB_size _
  have hz2 := putTextB_32 (treeB_size lv)
  unfold hdB
  clear hW1 hA h100
  generalize putTextB (treeB lv) = PT at *
  generalize treeB lv = TB at *
  generalize putB (lv.length : Int) = PN at *
  have hcc : ¬ (9223372036854775807 < PN.size + PT.size) := by omega
  go_enter Tryz.func78, Tryz.ntmps78
  go_upto_region 1 with fail
  rw [← HW1.out]
  clear HW1
  have z0 := BR.out
  refine wp_region_held_drew (S := (fun w' => w'.cell? ⟨w.heap.size, 1, none⟩ = some (.slice p lv.length cp))) (by kernel_rfl) (HX.out _ BR.out) (fun hHeld => ?_)
  refine take_at 0 (v := ?_) rfl (by kernel_rfl) (by kernel_rfl) (by kernel_rfl) (fun _ _ _ h => h) hHeld (Or.inl ⟨by rfl, ?_⟩) ?_
  rotate_left
  · (intro w hSw; (try dsimp only at hSw); go_simp; try with_reducible rfl)
  simp only [Act.put, List.setIfInBounds_toArray, List.set_cons_zero, List.set_cons_succ]
  refine take_at 1 (v := ?_) rfl (by kernel_rfl) (by kernel_rfl) (by kernel_rfl) (fun _ _ _ h => h) hHeld (Or.inl ⟨by rfl, ?_⟩) ?_
  rotate_left
  · (intro w hSw; (try dsimp only at hSw); go_simp; try with_reducible rfl)
  simp only [Act.put, List.setIfInBounds_toArray, List.set_cons_zero, List.set_cons_succ]
  refine take_at 2 (v := ?_) rfl (by kernel_rfl) (by kernel_rfl) (by kernel_rfl) (fun _ _ _ h => h) hHeld (Or.inl ⟨by rfl, ?_⟩) ?_
  rotate_left
  · (intro w hSw; (try dsimp only at hSw); go_simp; try with_reducible rfl)
  simp only [Act.put, List.setIfInBounds_toArray, List.set_cons_zero, List.set_cons_succ]
  refine take_at 4 (v := ?_) rfl (by kernel_rfl) (by kernel_rfl) (by kernel_rfl) (fun _ _ _ h => h) hHeld (Or.inl ⟨by rfl, ?_⟩) ?_
  rotate_left
  · (intro w hSw; (try dsimp only at hSw); go_simp; try with_reducible rfl)
  simp only [Act.put, List.setIfInBounds_toArray, List.set_cons_zero, List.set_cons_succ]
  refine take_at 5 (v := ?_) rfl (by kernel_rfl) (by kernel_rfl) (by kernel_rfl) (fun _ _ _ h => h) hHeld (Or.inl ⟨by rfl, ?_⟩) ?_
  rotate_left
  · (intro w hSw; (try dsimp only at hSw); go_simp; try with_reducible rfl)
  simp only [Act.put, List.setIfInBounds_toArray, List.set_cons_zero, List.set_cons_succ]
  refine ready_at 3 rfl (by kernel_rfl) (fun K hK => ?_)
  go_simp
  (go_at_call 122; with_reducible refine (HN.out _ z0).mono ?_; rintro e y1 ⟨rfl, z1⟩)
  refine hK.out _ _ (HX.out _ z1) (fun hHeld => ?_)
  clear hK K
  try simp only [Act.put, List.setIfInBounds_toArray, List.set_cons_zero, List.set_cons_succ]
  refine ready_at 6 rfl (by kernel_rfl) (fun K hK => ?_)
  go_simp
  (go_at_call 75; with_reducible refine (HT.out _ z1).mono ?_; rintro e y2 ⟨rfl, z3⟩)
  refine hK.out _ _ (HX.out _ z3) (fun hHeld => ?_)
  clear hK K
  try simp only [Act.put, List.setIfInBounds_toArray, List.set_cons_zero, List.set_cons_succ]
  refine ready_at 7 rfl (by kernel_rfl) (fun K hK => ?_)
  go_simp
  (go_at_call 123; with_reducible refine (HP.out _ z3).mono ?_; rintro e y3 ⟨rfl, z4⟩)
  refine hK.out _ _ (HX.out _ z4) (fun hHeld => ?_)
  clear hK K
  try simp only [Act.put, List.setIfInBounds_toArray, List.set_cons_zero, List.set_cons_succ]
  refine take_at 8 (v := ?_) rfl (by kernel_rfl) (by kernel_rfl) (by kernel_rfl) (fun _ _ _ h => h) hHeld (Or.inl ⟨by rfl, ?_⟩) ?_
  rotate_left
  · (intro w hSw; (try dsimp only at hSw); go_simp; try with_reducible rfl)
  simp only [Act.put, List.setIfInBounds_toArray, List.set_cons_zero, List.set_cons_succ]
  refine take_at 9 (v := ?_) rfl (by kernel_rfl) (by kernel_rfl) (by kernel_rfl) (fun _ _ _ h => h) hHeld (Or.inl ⟨by rfl, ?_⟩) ?_
  rotate_left
  · (intro w hSw; (try dsimp only at hSw); go_simp; try with_reducible rfl)
  simp only [Act.put, List.setIfInBounds_toArray, List.set_cons_zero, List.set_cons_succ]
  refine wpAnyH_done (by kernel_rfl) ?_ _
  go_wp2_with fail
  go_ret
  exact ⟨rfl, chainB B1.out z4⟩
set_option maxHeartbeats 2000000 in
theorem specHeadText_any (p : Option Addr) (lv : List ByteArray) (cp : Nat) (q : Option Addr) (rs : List Rw) (cq : Nat) (now : Int) (w : World) (hA : LgAt p lv cp q rs cq w) :
    Calls Tryz.prog 30 #[.agg #[.slice q rs.length cq, .slice p lv.length cp, .int .i64 now]] w fun e w' => e = .returned (.string (hdO rs lv now)) ∧ Below w.heap.size w w' := by
  obtain ⟨W1, hW1⟩ : ∃ W1, W1 = w.alloc (.cells #[.slice q rs.length cq, .slice p lv.length cp, .int .i64 now] 41) := ⟨_, rfl⟩
  have HW1 : Hid (W1 = w.alloc (.cells #[.slice q rs.length cq, .slice p lv.length cp, .int .i64 now] 41)) := hW1
  have B1 : Hid (Below w.heap.size w W1) := by rw [hW1]; exact (Below.refl _ _).alloc (Nat.le_refl _) _
  have K1 : Hid (Bxs W1 w.heap.size 41 #[.slice q rs.length cq, .slice p lv.length cp, .int .i64 now]) := by rw [hW1]; exact Bxs.new _ _ _
  have hR := specLogRight_any p lv cp q rs cq now W1 (hA.below B1.out)
  have HV : Hid (hdO rs lv now = if lgB rs lv now = true then hdB lv else ByteArray.empty) := rfl
  have HH : Hid (lgB rs lv now = true → ∀ x, Below w.heap.size w x → Calls Tryz.prog 78 #[.agg #[.slice q rs.length cq, .slice p lv.length cp, .int .i64 now]] x fun e w' => e = .returned (.string (hdB lv)) ∧ Below x.heap.size x w') := fun hg x hb => l09Head_any p lv cp q rs cq now x (hA.below hb) (lg_small hg)
  obtain ⟨x0, x1, x2⟩ : W1.cell? ⟨w.heap.size, 0, none⟩ = some (.slice q rs.length cq) ∧ W1.cell? ⟨w.heap.size, 1, none⟩ = some (.slice p lv.length cp) ∧ W1.cell? ⟨w.heap.size, 2, none⟩ = some (.int .i64 now) := ⟨K1.out.cell 0, K1.out.cell 1, K1.out.cell 2⟩
  rw [HW1.out] at x0 x1 x2
  clear hW1 hA
  cases hg : lgB rs lv now with
  | false =>
    rw [hg] at hR
    rw [hg, if_neg Bool.false_ne_true] at HV
    rw [HV.out]
    go_enter Tryz.func30, Tryz.ntmps30
    go_wp2_with fail
    rw [← HW1.out]
    refine hR.mono ?_
    rintro e y ⟨rfl, by_⟩
    go_wp2_with fail
    go_ret
    exact ⟨rfl, chainB B1.out by_⟩
  | true =>
    rw [hg] at hR
    rw [hg, if_pos rfl] at HV
    rw [HV.out]
    have HH2 : Hid (∀ x, Below w.heap.size w x → Calls Tryz.prog 78 #[.agg #[.slice q rs.length cq, .slice p lv.length cp, .int .i64 now]] x fun e w' => e = .returned (.string (hdB lv)) ∧ Below x.heap.size x w') := HH.out hg
    clear HH hg
    generalize hdB lv = HB at *
    go_enter Tryz.func30, Tryz.ntmps30
    go_wp2_with fail
    rw [← HW1.out]
    refine hR.mono ?_
    rintro e y ⟨rfl, by_⟩
    clear hR x0 x1 x2
    obtain ⟨x0, x1, x2⟩ : y.cell? ⟨w.heap.size, 0, none⟩ = some (.slice q rs.length cq) ∧ y.cell? ⟨w.heap.size, 1, none⟩ = some (.slice p lv.length cp) ∧ y.cell? ⟨w.heap.size, 2, none⟩ = some (.int .i64 now) := ⟨(K1.out.below by_).cell 0, (K1.out.below by_).cell 1, (K1.out.below by_).cell 2⟩
    have hH := HH2.out y (chainB B1.out by_)
    go_wp2_with fail
    refine hH.mono ?_
    rintro e y2 ⟨rfl, b2⟩
    go_wp2_with fail
    go_ret
    exact ⟨rfl, chainB (chainB B1.out by_) b2⟩
end Go.Proofs.YtonleickhincgaaGreatDoor
/-
  What DrawProofGood draws: a proof of a short path and a root.
  Conditions: the code is at most 2^20 bytes.
-/
namespace Go.Proofs.YtonleickhincgaaGreatDoor
open Go.RowKit Go.Lib
set_option linter.unusedVariables false
set_option maxRecDepth 20000

/-- A proof in a box at Z, the source at p, the result's box ahead of both. -/
structure PgS (w y1 : World) (B p : Nat) (a : Option Addr) (len cap Z : Nat) (lf : ByteArray) (ix sz : Int) (q : Option Addr) (c : Nat) (ss : List ByteArray) (x : World) : Prop where
  src : Src 126 B p a len cap x
  bel : Below w.heap.size w x
  gr : y1.grownBy x (some p)
  wp : w.heap.size < p
  hp : p < y1.heap.size
  hZ : y1.heap.size ≤ Z
  box : Bxs x Z 45 #[.string lf, .int .i64 ix, .int .i64 sz, .slice q ss.length c]
  res : Bxs x w.heap.size 45 #[.string ⟨#[]⟩, .int .i64 0, .int .i64 0, .slice none 0 0]
  own : x.ownsRow y1.heap.size 9 1 (.slice q ss.length c) ss.length (strRow ss)
section
variable {w y1 x x' : World} {B p : Nat} {a : Option Addr} {len cap Z : Nat} {lf : ByteArray} {ix sz : Int} {q : Option Addr} {c : Nat} {ss : List ByteArray}
theorem PgS.step (h : PgS w y1 B p a len cap Z lf ix sz q c ss x) (hs : Src 126 B p a len cap x') (g : x.grownBy x' (some p)) : PgS w y1 B p a len cap Z lf ix sz q c ss x' := by
  have h1 := h.wp
  have h2 := h.hp
  have h3 := h.hZ
  exact ⟨hs, below_touch h.bel g (by omega), touch_trans h.gr g, h1, h2, h3, h.box.grown g (fun e => by cases e; omega), h.res.grown g (fun e => by cases e; omega), h.own.kept g (.inr (fun e => by have := (h.own.lt p e).1; omega))⟩
theorem PgS.below (h : PgS w y1 B p a len cap Z lf ix sz q c ss x) (b : Below x.heap.size x x') : PgS w y1 B p a len cap Z lf ix sz q c ss x' :=
  ⟨h.src.below b, chainB h.bel b, touch_below h.gr b, h.wp, h.hp, h.hZ, h.box.below b, h.res.below b, ownS_below h.own b⟩
/-- The proof's own box is written. -/
theorem PgS.wrote {lf2 : ByteArray} {ix2 sz2 : Int} (h : PgS w y1 B p a len cap Z lf ix sz q c ss x) (g : x.grownBy x' (some Z)) (k : Bxs x' Z 45 #[.string lf2, .int .i64 ix2, .int .i64 sz2, .slice q ss.length c]) : PgS w y1 B p a len cap Z lf2 ix2 sz2 q c ss x' := by
  have h1 := h.wp
  have h2 := h.hp
  have h3 := h.hZ
  exact ⟨h.src.other g (fun j hj => by cases hj; omega), below_touch h.bel g (by omega), touch_own h.gr g (fun j hj => by cases hj; omega), h1, h2, h3, k, h.res.grown g (fun e => by cases e; omega), h.own.kept g (.inr (fun e => own_box h.own h.box (by decide) e))⟩
theorem PgS.set0 (h : PgS w y1 B p a len cap Z lf ix sz q c ss x) (t : ByteArray) : PgS w y1 B p a len cap Z t ix sz q c ss (x.setCell ⟨Z, 0, none⟩ (.string t)) := h.wrote (set_grw x Z 0 _) (h.box.set 0 _)
theorem PgS.set1 (h : PgS w y1 B p a len cap Z lf ix sz q c ss x) (t : Int) : PgS w y1 B p a len cap Z lf t sz q c ss (x.setCell ⟨Z, 1, none⟩ (.int .i64 t)) := h.wrote (set_grw x Z 1 _) (h.box.set 1 _)
theorem PgS.set2 (h : PgS w y1 B p a len cap Z lf ix sz q c ss x) (t : Int) : PgS w y1 B p a len cap Z lf ix t q c ss (x.setCell ⟨Z, 2, none⟩ (.int .i64 t)) := h.wrote (set_grw x Z 2 _) (h.box.set 2 _)
theorem PgS.new {X : Nat} {q1 : Option Addr} {cq : Nat} {rs : List Rw} {p' : Option Addr} {cp : Nat} {lv : List ByteArray} {now : Int} (h : LdS w y1 45 #[.string ⟨#[]⟩, .int .i64 0, .int .i64 0, .slice none 0 0] B p a len cap X q1 cq rs p' cp lv now x) (k : Bxs x Z 45 #[.string ⟨#[]⟩, .int .i64 0, .int .i64 0, .slice none 0 0]) (o : x.ownsRow y1.heap.size 9 1 (.slice q ss.length c) ss.length (strRow ss)) (hX : X < Z) (lf : ByteArray) (ix sz : Int) :
    PgS w y1 B p a len cap Z lf ix sz q c ss ((((x.setCell ⟨Z, 0, none⟩ (.string lf)).setCell ⟨Z, 1, none⟩ (.int .i64 ix)).setCell ⟨Z, 2, none⟩ (.int .i64 sz)).setCell ⟨Z, 3, none⟩ (.slice q ss.length c)) := by
  have h1 := h.wp
  have h2 := h.hp
  have h3 := h.hX
  have g := touch_set (touch_set (touch_set (set_grw x Z 0 (.string lf)) 1 (.int .i64 ix)) 2 (.int .i64 sz)) 3 (.slice q ss.length c)
  exact ⟨h.src.other g (fun j hj => by cases hj; omega), below_touch h.bel g (by omega), touch_own h.gr g (fun j hj => by cases hj; omega), h1, h2, by omega, (((k.set 0 _).set 1 _).set 2 _).set 3 _, h.res.grown g (fun e => by cases e; omega), o.kept g (.inr (fun e => own_box o k (by decide) e))⟩
theorem PgS.cells (h : PgS w y1 B p a len cap Z lf ix sz q c ss x) : x.cell? ⟨Z, 0, none⟩ = some (.string lf) ∧ x.cell? ⟨Z, 1, none⟩ = some (.int .i64 ix) ∧ x.cell? ⟨Z, 2, none⟩ = some (.int .i64 sz) ∧ x.cell? ⟨Z, 3, none⟩ = some (.slice q ss.length c) ∧ (x.frozen? ⟨Z, 0, none⟩ = false ∧ x.frozen? ⟨Z, 1, none⟩ = false ∧ x.frozen? ⟨Z, 2, none⟩ = false) ∧ (x.cell? ⟨w.heap.size, 0, none⟩ = some (.string ⟨#[]⟩) ∧ x.cell? ⟨w.heap.size, 1, none⟩ = some (.int .i64 0) ∧ x.cell? ⟨w.heap.size, 2, none⟩ = some (.int .i64 0) ∧ x.cell? ⟨w.heap.size, 3, none⟩ = some (.slice none 0 0)) ∧ x.frozen? ⟨w.heap.size, 0, none⟩ = false ∧ x.frozen? ⟨w.heap.size, 1, none⟩ = false ∧ x.frozen? ⟨w.heap.size, 2, none⟩ = false ∧ x.frozen? ⟨w.heap.size, 3, none⟩ = false :=
  ⟨h.box.cell 0, h.box.cell 1, h.box.cell 2, h.box.cell 3, ⟨h.box.fr 0, h.box.fr 1, h.box.fr 2⟩, ⟨h.res.cell 0, h.res.cell 1, h.res.cell 2, h.res.cell 3⟩, h.res.fr 0, h.res.fr 1, h.res.fr 2, h.res.fr 3⟩
theorem PgS.done (h : PgS w y1 B p a len cap Z lf ix sz q c ss x) (u0 u1 u2 u3 : Value) : TxtAt ((((x.setCell ⟨w.heap.size, 0, none⟩ u0).setCell ⟨w.heap.size, 1, none⟩ u1).setCell ⟨w.heap.size, 2, none⟩ u2).setCell ⟨w.heap.size, 3, none⟩ u3) q ss ∧ Below w.heap.size w ((((x.setCell ⟨w.heap.size, 0, none⟩ u0).setCell ⟨w.heap.size, 1, none⟩ u1).setCell ⟨w.heap.size, 2, none⟩ u2).setCell ⟨w.heap.size, 3, none⟩ u3) := by
  have h1 := h.wp
  have h2 := h.hp
  have o := h.own.kept (touch_set (touch_set (touch_set (set_grw x w.heap.size 0 u0) 1 u1) 2 u2) 3 u3) (.inr (fun e => by have := (h.own.lt _ e).1; omega))
  obtain ⟨_, _, e, -, ht⟩ := ownS_form o
  cases e
  exact ⟨ht, below_set4 h.bel (Nat.le_refl _) _ _ _ _⟩
end
theorem pf_bounds (rs : List Rw) (lv : List ByteArray) (now i : Int) (h66 : lv.length ≤ 66) : (pfL rs lv now i).size ≤ 100 ∧ (pfP rs lv now i).length ≤ 66 ∧ (0 ≤ pfI rs lv now i ∧ pfI rs lv now i ≤ 66) ∧ (0 ≤ pfS rs lv now i ∧ pfS rs lv now i ≤ 66) := by
  by_cases h : pfOk rs lv now i
  · obtain ⟨h1, h2, h3⟩ := id h
    obtain ⟨I, rfl⟩ := Int.eq_ofNat_of_zero_le h2
    have hl : I < lv.length := by omega
    obtain ⟨e1, e2, e3, e4⟩ := pf_yes h hl
    rw [e1, e2, e3, e4]
    have hn := pathB_len lv I (by omega)
    exact ⟨lg_small h1 _ (List.getElem_mem hl), by omega, by omega, by omega⟩
  · obtain ⟨e1, e2, e3, e4⟩ := pf_no h
    rw [e1, e2, e3, e4]
    exact ⟨by decide, by simp, by omega, by omega⟩
theorem ro_size (rs : List Rw) (lv : List ByteArray) (now r : Int) : (roO rs lv now r).size ≤ 32 := by
  unfold roO; split
  · split
    · rw [treeB_size]; omega
    · simp
  · simp
def DrawnPg (w : World) (e : Ending) (w' : World) : Prop := (∃ (lf : ByteArray) (ix sz : Int) (q : Option Addr) (c : Nat) (ss : List ByteArray) (rt : ByteArray), e = .returned (.tuple #[.agg #[.string lf, .int .i64 ix, .int .i64 sz, .slice q ss.length c], .string rt]) ∧ TxtAt w' q ss ∧ ss.length ≤ 66 ∧ ss.length ≤ c ∧ lf.size ≤ 1000 ∧ (0 ≤ ix ∧ ix ≤ 67) ∧ (0 ≤ sz ∧ sz ≤ 67) ∧ rt.size ≤ 40) ∧ Below w.heap.size w w'
end Go.Proofs.YtonleickhincgaaGreatDoor
