/-
  Parts of one proof, laid as one text: DrawLk, FgBox, LgaAt, DrawRowX; what each says stands at its head.
-/
import Derived.Test.YtepmoihgemhjcaaGreatDoorRows
import Derived.Test.YtepmoihgemhjcaaGreatDoorBytesDigMath
import Derived.Test.YtepmoihgemhjcaaGreatDoorTreeMathSlABxKSlBOwnS
import Derived.Test.YtepmoihgemhjcaaGreatDoorLtMathLaMathLfMathTakesLStepAppBlNotTakes
import Derived.Test.YtepmoihgemhjcaaGreatDoorTillTwoPhaseKImplCp
import Derived.Test.YtepmoihgemhjcaaGreatDoorFldGSrcDrawsDrawKitAppSSomeDrawTreeScanMath
import Derived.Test.YtepmoihgemhjcaaGreatDoorTimeBPutMathPutNumJoinedPutTextFldMath
import Derived.Test.YtepmoihgemhjcaaGreatDoorGetValGetTxtNumMathFldRdNumFromTmbMathFldRiseLgMath
import Derived.Test.YtepmoihgemhjcaaGreatDoorLgAtKLgAnsLgRtShwKOneKFldBlkRwBlk
import Derived.Test.YtepmoihgemhjcaaGreatDoorRowOpsLgO
import Derived.Test.YtepmoihgemhjcaaGreatDoorDrawLoDrawFldDrawRowDrawLoMSpoilT
import Derived.Test.YtepmoihgemhjcaaGreatDoorDrawLog
import Derived.Handy
import Derived.WalkSpells
import Derived.OwnWalk
import Derived.Deep.RegionWith
import Derived.Deep.RegionHeld3
import Derived.Deep.Cut
import Derived.Deep.CutRange
import Derived.Test.YtepmoihgemhjcaaGreatDoorLgLawLwRowLwLog
import Derived.Test.YtepmoihgemhjcaaGreatDoorOwnBPadIDigIDigAllTimeIImplFC
import Derived.Test.YtepmoihgemhjcaaGreatDoorGrKImplFT
import Derived.Test.YtepmoihgemhjcaaGreatDoorNameRight
import Derived.Test.YtepmoihgemhjcaaGreatDoorFldOMFldO
import Derived.Test.YtepmoihgemhjcaaGreatDoorDrawSmDrawTb
/-
  A drawn log in a box, beside the source and the box of the result: what stays while more is drawn.
-/
namespace Go.Proofs.YtepmoihgemhjcaaGreatDoor
open Go.RowKit Go.Lib
set_option linter.unusedVariables false
set_option maxRecDepth 20000

/-- The log lies in blocks from base on and below top: while these stay, it can be read. -/
def LgTo (base top : Nat) (p : Option Addr) (lv : List ByteArray) (cp : Nat) (q : Option Addr) (rs : List Rw) (cq : Nat) (w : World) : Prop := top ≤ w.heap.size ∧ ∀ x : World, top ≤ x.heap.size → (∀ b, base ≤ b → b < top → x.heap[b]? = w.heap[b]?) → LgAt p lv cp q rs cq x
theorem LgTo.of {base : Nat} {p : Option Addr} {lv : List ByteArray} {cp : Nat} {q : Option Addr} {rs : List Rw} {cq : Nat} {w : World} (h : LgHi base p lv cp q rs cq w) : LgTo base w.heap.size p lv cp q rs cq w := ⟨Nat.le_refl _, h⟩
theorem LgTo.at {base top : Nat} {p : Option Addr} {lv : List ByteArray} {cp : Nat} {q : Option Addr} {rs : List Rw} {cq : Nat} {w : World} (h : LgTo base top p lv cp q rs cq w) : LgAt p lv cp q rs cq w := h.2 w h.1 (fun _ _ _ => rfl)
theorem LgTo.grown {base top : Nat} {p : Option Addr} {lv : List ByteArray} {cp : Nat} {q : Option Addr} {rs : List Rw} {cq : Nat} {w x : World} {row : Option Nat} (h : LgTo base top p lv cp q rs cq w) (k : w.grownBy x row) (hr : ∀ j, row = some j → j < base ∨ top ≤ j) : LgTo base top p lv cp q rs cq x :=
  ⟨Nat.le_trans h.1 k.size, fun y h1 h2 => h.2 y h1 (fun b hb hl => (h2 b hb hl).trans (k.block b (Nat.lt_of_lt_of_le hl h.1) (fun e => by have := hr b e.symm; omega)))⟩
theorem LgTo.below {base top : Nat} {p : Option Addr} {lv : List ByteArray} {cp : Nat} {q : Option Addr} {rs : List Rw} {cq : Nat} {w x : World} (h : LgTo base top p lv cp q rs cq w) (k : Below w.heap.size w x) : LgTo base top p lv cp q rs cq x :=
  ⟨Nat.le_trans h.1 k.size, fun y h1 h2 => h.2 y h1 (fun b hb hl => (h2 b hb hl).trans (k.block b (Nat.lt_of_lt_of_le hl h.1)))⟩
theorem LgTo.hi {base top b : Nat} {p : Option Addr} {lv : List ByteArray} {cp : Nat} {q : Option Addr} {rs : List Rw} {cq : Nat} {w : World} (h : LgTo base top p lv cp q rs cq w) (hb : b ≤ base) : LgHi b p lv cp q rs cq w := fun x hs hx => h.2 x (Nat.le_trans h.1 hs) (fun c hc ht => hx c (by omega) (Nat.lt_of_lt_of_le ht h.1))
theorem LgHi.low {base b : Nat} {p : Option Addr} {lv : List ByteArray} {cp : Nat} {q : Option Addr} {rs : List Rw} {cq : Nat} {w : World} (h : LgHi base p lv cp q rs cq w) (hb : b ≤ base) : LgHi b p lv cp q rs cq w := (LgTo.of h).hi hb
/-- A drawn log in a box at X, the source at p, the result's box ahead of both. -/
structure LdS (w y1 : World) (RT : TypeId) (rc : Array Value) (B p : Nat) (a : Option Addr) (len cap X : Nat) (q : Option Addr) (cq : Nat) (rs : List Rw) (p' : Option Addr) (cp : Nat) (lv : List ByteArray) (now : Int) (x : World) : Prop where
  src : Src 126 B p a len cap x
  bel : Below w.heap.size w x
  gr : y1.grownBy x (some p)
  wp : w.heap.size < p
  hp : p < y1.heap.size
  hX : y1.heap.size ≤ X
  box : Bxs x X 26 #[.slice q rs.length cq, .slice p' lv.length cp, .int .i64 now]
  res : Bxs x w.heap.size RT rc
  hi : LgTo y1.heap.size X p' lv cp q rs cq x
section
variable {w y1 y2 x x' : World} {RT : TypeId} {rc : Array Value} {B p : Nat} {a : Option Addr} {len cap X : Nat} {q : Option Addr} {cq : Nat} {rs : List Rw} {p' : Option Addr} {cp : Nat} {lv : List ByteArray} {now : Int}
theorem LdS.step (h : LdS w y1 RT rc B p a len cap X q cq rs p' cp lv now x) (hs : Src 126 B p a len cap x') (g : x.grownBy x' (some p)) : LdS w y1 RT rc B p a len cap X q cq rs p' cp lv now x' := by
  have h1 := h.wp
  have h2 := h.hp
  have h3 := h.hX
  exact ⟨hs, below_touch h.bel g (by omega), touch_trans h.gr g, h1, h2, h3, h.box.grown g (fun e => by cases e; omega), h.res.grown g (fun e => by cases e; omega), h.hi.grown g (fun j hj => by cases hj; exact .inl h2)⟩
theorem LdS.below (h : LdS w y1 RT rc B p a len cap X q cq rs p' cp lv now x) (b : Below x.heap.size x x') : LdS w y1 RT rc B p a len cap X q cq rs p' cp lv now x' :=
  ⟨h.src.below b, chainB h.bel b, touch_below h.gr b, h.wp, h.hp, h.hX, h.box.below b, h.res.below b, h.hi.below b⟩
theorem LdS.new (hb : Below w.heap.size w y1) (hr : Bxs y1 w.heap.size RT rc) (hs1 : Src 126 B p a len cap y1) (wp : w.heap.size < p) (hs2 : Src 126 B p a len cap y2) (g2 : y1.grownBy y2 (some p)) (hi : LgHi y1.heap.size p' lv cp q rs cq y2) :
    LdS w y1 RT rc B p a len cap y2.heap.size q cq rs p' cp lv now (y2.alloc (.cells #[.slice q rs.length cq, .slice p' lv.length cp, .int .i64 now] 26)) := by
  have b : Below y2.heap.size y2 (y2.alloc (.cells #[.slice q rs.length cq, .slice p' lv.length cp, .int .i64 now] 26)) := (Below.refl _ _).alloc (Nat.le_refl _) _
  exact ⟨hs2.below b, chainB (below_touch hb g2 (by omega)) b, touch_below g2 b, wp, hs1.lt, g2.size, Bxs.new _ _ _, (hr.grown g2 (fun e => by cases e; omega)).below b, (LgTo.of hi).below b⟩
/-- A box that was made later is written. -/
theorem LdS.wrote {Z : Nat} (h : LdS w y1 RT rc B p a len cap X q cq rs p' cp lv now x) (g : x.grownBy x' (some Z)) (hZ : X < Z) : LdS w y1 RT rc B p a len cap X q cq rs p' cp lv now x' := by
  have h1 := h.wp
  have h2 := h.hp
  have h3 := h.hX
  exact ⟨h.src.other g (fun j hj => by cases hj; omega), below_touch h.bel g (by omega), touch_own h.gr g (fun j hj => by cases hj; omega), h1, h2, h3, h.box.grown g (fun e => by cases e; omega), h.res.grown g (fun e => by cases e; omega), h.hi.grown g (fun j hj => by cases hj; exact .inr (by omega))⟩
theorem LdS.at (h : LdS w y1 RT rc B p a len cap X q cq rs p' cp lv now x) : LgAt p' lv cp q rs cq x := h.hi.at
theorem LdS.cells (h : LdS w y1 RT rc B p a len cap X q cq rs p' cp lv now x) : x.cell? ⟨X, 0, none⟩ = some (.slice q rs.length cq) ∧ x.cell? ⟨X, 1, none⟩ = some (.slice p' lv.length cp) ∧ x.cell? ⟨X, 2, none⟩ = some (.int .i64 now) := ⟨h.box.cell 0, h.box.cell 1, h.box.cell 2⟩
theorem LdS.ne (h : LdS w y1 RT rc B p a len cap X q cq rs p' cp lv now x) : w.heap.size ≠ X := by
  have h1 := h.wp
  have h2 := h.hp
  have h3 := h.hX
  omega
/-- A log is put into the result's box, which is of its own type. -/
theorem LdS.done (h : LdS w y1 RT rc B p a len cap X q cq rs p' cp lv now x) (u0 u1 u2 : Value) : LgHi w.heap.size p' lv cp q rs cq (((x.setCell ⟨w.heap.size, 0, none⟩ u0).setCell ⟨w.heap.size, 1, none⟩ u1).setCell ⟨w.heap.size, 2, none⟩ u2) ∧ Below w.heap.size w (((x.setCell ⟨w.heap.size, 0, none⟩ u0).setCell ⟨w.heap.size, 1, none⟩ u1).setCell ⟨w.heap.size, 2, none⟩ u2) := by
  have h1 := h.wp
  have h2 := h.hp
  exact ⟨(h.hi.grown (touch_set (touch_set (set_grw x w.heap.size 0 u0) 1 u1) 2 u2) (fun j hj => by cases hj; exact .inl (by omega))).hi (by omega), below_set3 h.bel (Nat.le_refl _) _ _ _⟩
theorem LdS.stay (h : LdS w y1 RT rc B p a len cap X q cq rs p' cp lv now x) (u0 u1 u2 : Value) : (((x.setCell ⟨w.heap.size, 0, none⟩ u0).setCell ⟨w.heap.size, 1, none⟩ u1).setCell ⟨w.heap.size, 2, none⟩ u2).cell? ⟨X, 0, none⟩ = some (.slice q rs.length cq) ∧ (((x.setCell ⟨w.heap.size, 0, none⟩ u0).setCell ⟨w.heap.size, 1, none⟩ u1).setCell ⟨w.heap.size, 2, none⟩ u2).cell? ⟨X, 1, none⟩ = some (.slice p' lv.length cp) ∧ (((x.setCell ⟨w.heap.size, 0, none⟩ u0).setCell ⟨w.heap.size, 1, none⟩ u1).setCell ⟨w.heap.size, 2, none⟩ u2).cell? ⟨X, 2, none⟩ = some (.int .i64 now) := by
  have hb := ((h.box.other w.heap.size 0 h.ne u0).other w.heap.size 1 h.ne u1).other w.heap.size 2 h.ne u2
  exact ⟨hb.cell 0, hb.cell 1, hb.cell 2⟩
end
theorem lof_m {rs : List Rw} {lv : List ByteArray} {now : Int} (h : LoF rs lv now) : lv.length ≤ 66 := h.2.1
theorem res3 {x : World} {g : Nat} {T : TypeId} {a b c : Value} (h : Bxs x g T #[a, b, c]) : x.cell? ⟨g, 0, none⟩ = some a ∧ x.cell? ⟨g, 1, none⟩ = some b ∧ x.cell? ⟨g, 2, none⟩ = some c ∧ x.frozen? ⟨g, 0, none⟩ = false ∧ x.frozen? ⟨g, 1, none⟩ = false ∧ x.frozen? ⟨g, 2, none⟩ = false := ⟨h.cell 0, h.cell 1, h.cell 2, h.fr 0, h.fr 1, h.fr 2⟩
end Go.Proofs.YtepmoihgemhjcaaGreatDoor
/-
  What LogForget answered, in a LogOut's box: a log that can be read where the code is zero.
-/
namespace Go.Proofs.YtepmoihgemhjcaaGreatDoor
open Go.RowKit Go.Lib
set_option linter.unusedVariables false
set_option maxRecDepth 20000

theorem lof_right {rs : List Rw} {lv : List ByteArray} {now : Int} (h : lgB rs lv now = true) : LoF rs lv now := by
  obtain ⟨h1, h2, h3⟩ := lg_right h
  have ht : timeB now = true := by unfold lgB at h; simp only [Bool.and_eq_true] at h; exact h.2.2.1
  unfold timeB at ht
  have ht2 := of_decide_eq_true ht
  refine ⟨by omega, by omega, fun r hr => ?_, fun t htm => ?_, by omega, by omega⟩
  · exact lo_row_le (k := r.k) (at_ := r.a) (h3 r hr)
  · have := lg_small h t htm
    unfold maxLen; omega
def FgBox (rs : List Rw) (lv : List ByteArray) (now : Int) (W : World) (r f : Int) (Y : Nat) (x : World) : Prop :=
  ∃ (q : Option Addr) (cq : Nat) (p : Option Addr) (cp : Nat), Bxs x Y 33 #[.slice q (lfR rs lv now r f 1).length cq, .slice p (lfL rs lv now r f 1).length cp, .int .i64 (lfN rs lv now r f 1), .int .i64 (lfC rs lv now r f 1)] ∧ (lfC rs lv now r f 1 = 0 → LgAt p (lfL rs lv now r f 1) cp q (lfR rs lv now r f 1) cq x) ∧ Below W.heap.size W x
theorem FgBox.put {rs : List Rw} {lv : List ByteArray} {now : Int} {W y : World} {r f : Int} {Y : Nat} {u1 u2 : Value} {xs : List (Rw × Value)} (k : Bxs y Y 33 #[.slice none 0 0, .slice none 0 0, .int .i64 0, .int .i64 0]) (o : LgO W.heap.size xs (lfL rs lv now r f 1) u1 u2 y) (hx : xs.map (·.1) = lfR rs lv now r f 1) (b : Below W.heap.size W y) (hY : W.heap.size ≤ Y) :
    FgBox rs lv now W r f Y ((((y.setCell ⟨Y, 0, none⟩ u1).setCell ⟨Y, 1, none⟩ u2).setCell ⟨Y, 2, none⟩ (.int .i64 (lfN rs lv now r f 1))).setCell ⟨Y, 3, none⟩ (.int .i64 (lfC rs lv now r f 1))) := by
  have g := touch_set (touch_set (touch_set (set_grw y Y 0 u1) 1 u2) 2 (.int .i64 (lfN rs lv now r f 1))) 3 (.int .i64 (lfC rs lv now r f 1))
  have o2 := o.box k (by decide) (by decide) (by decide) g
  obtain ⟨q, cq, p, cp, e1, e2, -, -, -, -⟩ := lo_at o
  subst e1 e2
  have hl : (lfR rs lv now r f 1).length = xs.length := by rw [← hx, List.length_map]
  refine ⟨q, cq, p, cp, ?_, fun hc => ?_, below_set4 b hY _ _ _ _⟩
  · rw [hl]; exact (((k.set 0 _).set 1 _).set 2 _).set 3 _
  · have hf := lof_right (lf_right hc)
    rw [← hx] at hf ⊢
    exact (LgHi.of o2 hf).at
end Go.Proofs.YtepmoihgemhjcaaGreatDoor
/-
  A LogOut of its own memory as a log that can be read: right where its code is zero, else empty.
-/
namespace Go.Proofs.YtepmoihgemhjcaaGreatDoor
open Go.RowKit Go.Lib
set_option linter.unusedVariables false

def LgV (q : Option Addr) (cq : Nat) (rs : List Rw) (p : Option Addr) (cp : Nat) (lv : List ByteArray) (now C : Int) : Value := .agg #[.slice q rs.length cq, .slice p lv.length cp, .int .i64 now, .int .i64 C]
theorem lga_at {base : Nat} {rs : List Rw} {lv : List ByteArray} {now C : Int} {e : Ending} {w : World} (h : LgA base rs lv now C e w) (h0 : C = 0 → lgB rs lv now = true) (h1 : C ≠ 0 → rs = [] ∧ lv = [] ∧ now = 0) :
    ∃ (q : Option Addr) (cq : Nat) (p : Option Addr) (cp : Nat), e = .returned (LgV q cq rs p cp lv now C) ∧ LgAt p lv cp q rs cq w := by
  obtain ⟨v1, v2, xs, rfl, rfl, o⟩ := h
  obtain ⟨q, cq, p, cp, rfl, rfl, -, -, -, -⟩ := lo_at o
  have hf : LoF (xs.map (·.1)) lv now := by
    by_cases hc : C = 0
    · exact lof_right (h0 hc)
    · obtain ⟨e1, e2, e3⟩ := h1 hc
      rw [e1, e2, e3]
      exact ⟨by simp, by simp, (fun r hr => by cases hr), (fun x hx => by cases hx), by omega, by omega⟩
  refine ⟨q, cq, p, cp, ?_, (LgHi.of o hf).at⟩
  unfold LgV
  rw [List.length_map]
theorem txt_pre {w : World} {p : Option Addr} {l m : List ByteArray} {n : Nat} (h : l.take n = m) (ht : TxtAt w p l) : TxtAt w p m := by
  subst h
  intro i hi
  have h1 : i < l.length := by rw [List.length_take] at hi; omega
  obtain ⟨b, off, e, h2, h3⟩ := ht i h1
  exact ⟨b, off, e, h2, by rw [h3, List.getElem_take]⟩
theorem la_ill {rs : List Rw} {lv : List ByteArray} {now : Int} {r : Rw} (h : laC rs lv now r ≠ 0) : laR rs lv now r = [] ∧ laL rs lv now r = [] ∧ laN rs lv now r = 0 := la_bad rfl h
theorem lf_ill {rs : List Rw} {lv : List ByteArray} {now r f y : Int} (h : lfC rs lv now r f y ≠ 0) : lfR rs lv now r f y = [] ∧ lfL rs lv now r f y = [] ∧ lfN rs lv now r f y = 0 := lf_bad rfl h
theorem lt_ill {rs : List Rw} {lv : List ByteArray} {now t : Int} (h : ltC rs lv now t ≠ 0) : ltmR rs lv now t = [] ∧ ltL rs lv now t = [] ∧ ltN rs lv now t = 0 := by
  have hk : ¬ ltB rs lv now t = true := fun hk => h (if_pos hk)
  exact ⟨if_neg hk, if_neg hk, if_neg hk⟩
end Go.Proofs.YtepmoihgemhjcaaGreatDoor
/-
  What l07Row draws at any time: a row that is right, or none.
-/
namespace Go.Proofs.YtepmoihgemhjcaaGreatDoor
open Go.RowKit Go.Lib
set_option linter.unusedVariables false
set_option maxRecDepth 20000

/-- A row that is right and all there, or nothing. -/
def RwX (k : ByteArray) (ta : Int) (fs : List Fld) : Prop := RwR k ta fs ∨ (k = ByteArray.empty ∧ ta = 0 ∧ fs = [])
theorem ro_any (k : ByteArray) (at_ : Int) (ns ss vs : List ByteArray) : RwX (roK k at_ ns ss vs) (roA k at_ ns ss vs) (roF k at_ ns ss vs) := by
  by_cases h : roC k at_ ns ss vs = 0
  · obtain ⟨rr, e1, e2⟩ := ro_right h
    rw [e1, e2]; exact .inl rr
  · exact .inr ⟨if_neg h, if_neg h, if_neg h⟩
set_option maxHeartbeats 8000000 in
theorem l07RowX_any (B p : Nat) (a : Option Addr) (len cap : Nat) (at_ : Int) (w : World) (hs : Src 126 B p a len cap w) :
    Calls Tryz.prog 57 #[.pointer (some ⟨p, 0, none⟩), .int .i64 at_] w fun e w' =>
      (∃ (k : ByteArray) (ta : Int) (fs : List Fld) (v : Value), e = .returned (.agg #[.string k, .int .i64 ta, v]) ∧ w'.ownsRow w.heap.size 103 5 v fs.length (fldRow fs) ∧ RwX k ta fs) ∧ Src 126 B p a len cap w' ∧ w.grownBy w' (some p) := by
  have hp := hs.lt
  obtain ⟨W1, hW1⟩ : ∃ W1, W1 = w.alloc (.cells #[.string ⟨#[]⟩, .int .i64 0, .slice none 0 0] 29) := ⟨_, rfl⟩
  obtain ⟨W2, hW2⟩ : ∃ W2, W2 = W1.alloc (.cells #[.string ⟨#[109, 97, 105, 108]⟩, .string ⟨#[110, 97, 109, 101]⟩] 9) := ⟨_, rfl⟩
  obtain ⟨W3, hW3⟩ : ∃ W3, W3 = W2.alloc (.cells #[.string ⟨#[97, 103, 101]⟩] 9) := ⟨_, rfl⟩
  obtain ⟨W4, hW4⟩ : ∃ W4, W4 = W3.alloc (.cells #[.string ⟨#[97, 103, 101]⟩, .string ⟨#[109, 97, 105, 108]⟩, .string ⟨#[116, 111, 119, 110]⟩] 9) := ⟨_, rfl⟩
  obtain ⟨W5, hW5⟩ : ∃ W5, W5 = W4.alloc (.cells #[.slice (some ⟨w.heap.size + 1, 0, none⟩) 2 2, .slice (some ⟨w.heap.size + 1 + 1, 0, none⟩) 1 1, .slice (some ⟨w.heap.size + 1 + 1 + 1, 0, none⟩) 3 3] 24) := ⟨_, rfl⟩
  have HW : Hid (W5 = ((((w.alloc (.cells #[.string ⟨#[]⟩, .int .i64 0, .slice none 0 0] 29)).alloc (.cells #[.string ⟨#[109, 97, 105, 108]⟩, .string ⟨#[110, 97, 109, 101]⟩] 9)).alloc (.cells #[.string ⟨#[97, 103, 101]⟩] 9)).alloc (.cells #[.string ⟨#[97, 103, 101]⟩, .string ⟨#[109, 97, 105, 108]⟩, .string ⟨#[116, 111, 119, 110]⟩] 9)).alloc (.cells #[.slice (some ⟨w.heap.size + 1, 0, none⟩) 2 2, .slice (some ⟨w.heap.size + 1 + 1, 0, none⟩) 1 1, .slice (some ⟨w.heap.size + 1 + 1 + 1, 0, none⟩) 3 3] 24)) := by rw [hW5, hW4, hW3, hW2, hW1]; exact rfl
  have z1 : W1.heap.size = w.heap.size + 1 := by rw [hW1]; simp
  have z2 : W2.heap.size = w.heap.size + 1 + 1 := by rw [hW2, szA, z1]
  have z3 : W3.heap.size = w.heap.size + 1 + 1 + 1 := by rw [hW3, szA, z2]
  have z4 : W4.heap.size = w.heap.size + 1 + 1 + 1 + 1 := by rw [hW4, szA, z3]
  have a1 : Below W1.heap.size W1 W2 := by rw [hW2]; exact (Below.refl _ _).alloc (Nat.le_refl _) _
  have a2 : Below W2.heap.size W2 W3 := by rw [hW3]; exact (Below.refl _ _).alloc (Nat.le_refl _) _
  have a3 : Below W3.heap.size W3 W4 := by rw [hW4]; exact (Below.refl _ _).alloc (Nat.le_refl _) _
  have a4 : Below W4.heap.size W4 W5 := by rw [hW5]; exact (Below.refl _ _).alloc (Nat.le_refl _) _
  have a0 : Below w.heap.size w W1 := by rw [hW1]; exact (Below.refl _ _).alloc (Nat.le_refl _) _
  have R5 : Hid (Bxs W5 w.heap.size 29 #[.string ByteArray.empty, .int .i64 0, .slice none 0 0]) := by
    have h : Bxs W1 w.heap.size 29 #[.string ByteArray.empty, .int .i64 0, .slice none 0 0] := by rw [hW1]; exact Bxs.new _ _ _
    exact ((h.below a1).below a2 |>.below a3).below a4
  have N0 : Hid (BlkS W5 (w.heap.size + 1) (nmS 0)) := by
    have h : BlkS W2 (w.heap.size + 1) (nmS 0) := by rw [hW2, ← z1]; exact alloc_str W1 (nmS 0)
    exact ((h.below a2 h.lt).below a3 (h.below a2 h.lt).lt).below a4 ((h.below a2 h.lt).below a3 (h.below a2 h.lt).lt).lt
  have N1 : Hid (BlkS W5 (w.heap.size + 1 + 1) (nmS 1)) := by
    have h : BlkS W3 (w.heap.size + 1 + 1) (nmS 1) := by rw [hW3, ← z2]; exact alloc_str W2 (nmS 1)
    exact (h.below a3 h.lt).below a4 (h.below a3 h.lt).lt
  have N2 : Hid (BlkS W5 (w.heap.size + 1 + 1 + 1) (nmS 2)) := by
    have h : BlkS W4 (w.heap.size + 1 + 1 + 1) (nmS 2) := by rw [hW4, ← z3]; exact alloc_str W3 (nmS 2)
    exact h.below a4 h.lt
  have D5 : Hid (Bxs W5 (w.heap.size + 1 + 1 + 1 + 1) 24 #[.slice (some ⟨w.heap.size + 1, 0, none⟩) 2 2, .slice (some ⟨w.heap.size + 1 + 1, 0, none⟩) 1 1, .slice (some ⟨w.heap.size + 1 + 1 + 1, 0, none⟩) 3 3]) := by rw [hW5, ← z4]; exact Bxs.new _ _ _
  have b5 : Below w.heap.size w W5 := (((a0.trans (a1.mono (by omega))).trans (a2.mono (by omega))).trans (a3.mono (by omega))).trans (a4.mono (by omega))
  have S5 : Hid (Src 126 B p a len cap W5) := hs.below b5
  have G5 : Hid (w.grownBy W5 (some p)) := grown_below b5
  clear hW1 hW2 hW3 hW4 hW5 z1 z2 z3 z4 a0 a1 a2 a3 a4 b5 hs
  go_enter Tryz.func57, Tryz.ntmps57
  go_wp2_with fail
  rw [← HW.out]
  clear HW
  refine (n_any B p a len cap 3 W5 S5.out (by omega)).mono ?_
  rintro e w6 ⟨⟨r, rfl, r0, r1, -⟩, hs6, hg6⟩
  have r2 := r1 (by omega)
  obtain ⟨R, rfl⟩ := Int.eq_ofNat_of_zero_le r0
  obtain ⟨g, ns, hcell, hnm, hgw, hnl, hnz⟩ : ∃ (g : Nat) (ns : List ByteArray), w6.cell? ⟨w.heap.size + 1 + 1 + 1 + 1, R, none⟩ = some (.slice (some ⟨g, 0, none⟩) ns.length ns.length) ∧ BlkS w6 g ns ∧ w.heap.size ≤ g ∧ ns.length ≤ 3 ∧ ∀ x ∈ ns, x.size ≤ 4 := by
    have d6 := D5.out.grown hg6 (fun e => by cases e; omega)
    have n0 := N0.out.touch hg6 (by omega)
    have n1 := N1.out.touch hg6 (by omega)
    have n2 := N2.out.touch hg6 (by omega)
    match R, r2 with
    | 0, _ => exact ⟨_, nmS 0, d6.cell 0, n0, by omega, by decide, by decide⟩
    | 1, _ => exact ⟨_, nmS 1, d6.cell 1, n1, by omega, by decide, by decide⟩
    | 2, _ => exact ⟨_, nmS 2, d6.cell 2, n2, by omega, by decide, by decide⟩
    | R + 3, h => omega
  have S6 : Hid (LrS w B p a len cap g ns (.slice (some ⟨w6.heap.size, 0, none⟩) 0 0) (.slice (some ⟨w6.heap.size + 1, 0, none⟩) 0 0) [] [] ((w6.alloc (.cells #[] 9)).alloc (.cells #[] 9))) := by
    have hsz : w.heap.size ≤ w6.heap.size := (touch_trans G5.out hg6).size
    have hng := hnm.lt
    have hz : (w6.alloc (.cells #[] 9)).heap.size = w6.heap.size + 1 := szA _ _
    have e1 : (w6.alloc (.cells #[] 9)).ownsRow w.heap.size 9 1 (.slice (some ⟨w6.heap.size, 0, none⟩) 0 0) ([] : List ByteArray).length (strRow []) := ownS_mono (ownS_none w6) hsz
    have e2 : ((w6.alloc (.cells #[] 9)).alloc (.cells #[] 9)).ownsRow w.heap.size 9 1 (.slice (some ⟨w6.heap.size + 1, 0, none⟩) 0 0) ([] : List ByteArray).length (strRow []) := by
      have := ownS_none (w6.alloc (.cells #[] 9))
      rw [hz] at this
      exact ownS_mono this (by omega)
    have b : Below w6.heap.size w6 ((w6.alloc (.cells #[] 9)).alloc (.cells #[] 9)) := alB ((Below.refl _ _).alloc (Nat.le_refl _) _) _
    exact ⟨hs6.below b, touch_below (touch_trans G5.out hg6) b, (R5.out.grown hg6 (fun e => by cases e; omega)).below b, hnm.below b hng, e1.alloc _, e2, fun j hj he => by
        have q1 : w6.heap.size = j := by simpa [Value.ownBlock] using hj
        have q2 : w6.heap.size + 1 = j := by simpa [Value.ownBlock] using he
        omega, fun e => by
        have q1 : w6.heap.size = g := by simpa [Value.ownBlock] using e
        omega, fun e => by
        have q1 : w6.heap.size + 1 = g := by simpa [Value.ownBlock] using e
        omega, hp, hgw⟩
  clear hs6 hg6 hnm D5 N0 N1 N2 R5 S5 G5 r1 r0
  have i3 : (R : Int) < 3 := by omega
  go_wp2_with fail
  go_loopw [6, 7, 8] (fun v1 v2 i wr => ∃ (k : Nat) (ss vs : List ByteArray) (u1 u2 : Value), u1 = v1 ∧ u2 = v2 ∧ i = .int .i64 k ∧ k ≤ ns.length ∧ Hid (ss.length = k ∧ vs.length = k) ∧ Hid ((∀ x ∈ ss, x.size ≤ 9) ∧ ∀ x ∈ vs, x.size ≤ 17) ∧ Hid (LrS w B p a len cap g ns u1 u2 ss vs wr)) (fun _ _ i _ => ns.length - (Go.RowKit.intOf i).toNat)
  case atStart => exact ⟨0, [], [], _, _, rfl, rfl, rfl, Nat.zero_le _, ⟨rfl, rfl⟩, ⟨(fun x hx => by simp at hx), (fun x hx => by simp at hx)⟩, S6⟩
  case round =>
    clear S6 hcell
    obtain ⟨k, ss, vs, v1, v2, rfl, rfl, rfl, hk, HL, HZ, HS⟩ := hrel
    by_cases hlt : k < ns.length
    · have i1 : (k : Int) < ns.length := by omega
      go_wp2_with fail
      refine (l07Salt_any B p a len cap wr HS.out.src).mono ?_
      rintro e y1 ⟨⟨s1, rfl, hs1⟩, hsy, hgy⟩
      have S1 := HS.out.draw hsy hgy
      obtain ⟨g1, c1, y2, hrun1, S2⟩ := S1.app1 s1 (by have := HL.out.1; omega)
      have HS2 : Hid (LrS w B p a len cap g ns (.slice (some ⟨g1, 0, none⟩) (ss.length + 1) c1) v2 (ss ++ [s1]) vs y2) := S2
      clear S1 S2 hsy hgy HS
      go_wp2_with (at_builtin; refine wpList_append_run rfl _ _ _ rfl _ _ _ _ rfl rfl hrun1 ?_)
      refine (l07Value_any B p a len cap y2 HS2.out.src).mono ?_
      rintro e y3 ⟨⟨s2, rfl, hs2⟩, hsy, hgy⟩
      have S1 := HS2.out.draw hsy hgy
      obtain ⟨g2, c2, y4, hrun2, S2⟩ := S1.swap.app1 s2 (by have := HL.out.2; omega)
      have HS4 : Hid (LrS w B p a len cap g ns (.slice (some ⟨g1, 0, none⟩) (ss.length + 1) c1) (.slice (some ⟨g2, 0, none⟩) (vs.length + 1) c2) (ss ++ [s1]) (vs ++ [s2]) y4) := S2.swap
      have HL2 : Hid ((ss ++ [s1]).length = k + 1 ∧ (vs ++ [s2]).length = k + 1) := ⟨by rw [List.length_append, HL.out.1]; rfl, by rw [List.length_append, HL.out.2]; rfl⟩
      have HZ2 : Hid ((∀ x ∈ ss ++ [s1], x.size ≤ 9) ∧ ∀ x ∈ vs ++ [s2], x.size ≤ 17) := ⟨fun x hx => by
          rcases List.mem_append.1 hx with h | h
          · exact HZ.out.1 x h
          · obtain rfl := List.mem_singleton.1 h; exact hs1, fun x hx => by
          rcases List.mem_append.1 hx with h | h
          · exact HZ.out.2 x h
          · obtain rfl := List.mem_singleton.1 h; exact hs2⟩
      clear S1 S2 hsy hgy HS2 HL HZ hrun1
      go_wp2_with (at_builtin; refine wpList_append_run rfl _ _ _ rfl _ _ _ _ rfl rfl hrun2 ?_)
      go_roundw
      case rel => exact ⟨k + 1, ss ++ [s1], vs ++ [s2], _, _, rfl, rfl, by go_num, by omega, HL2, HZ2, HS4⟩
      case measure => simp [Go.RowKit.intOf]; omega
    · have hkn : ¬ (k : Int) < ns.length := by omega
      obtain ⟨z1, hz1⟩ : ∃ z1, z1 = wr.alloc (.cells #[.string ⟨#[117, 115, 101, 114]⟩, .string ⟨#[98, 105, 108, 108]⟩] 9) := ⟨_, rfl⟩
      have HZ1 : Hid (z1 = wr.alloc (.cells #[.string ⟨#[117, 115, 101, 114]⟩, .string ⟨#[98, 105, 108, 108]⟩] 9)) := hz1
      have BK : Hid (BlkS z1 wr.heap.size kindS) := by rw [hz1]; exact alloc_str wr kindS
      have S1 : Hid (LrS w B p a len cap g ns v1 v2 ss vs z1) := by rw [hz1]; exact HS.out.al _
      have hne : wr.heap.size ≠ p := by have := HS.out.src.lt; omega
      clear hz1 HS
      go_wp2_with fail
      rw [← HZ1.out]
      refine (pick_any B p a len cap wr.heap.size kindS z1 S1.out.src BK.out hne (by decide) (by decide)).mono ?_
      rintro e y1 ⟨⟨kd, hkd, rfl⟩, hsy, hgy⟩
      have S2 := S1.out.draw hsy hgy
      obtain ⟨p2, q2, rfl, hq2, t2⟩ := ownS_form S2.own1
      obtain ⟨p3, q3, rfl, hq3, t3⟩ := ownS_form S2.own2
      have hkz := kindS_small kd hkd
      have HRO := specRowOf_any kd at_ (some ⟨g, 0, none⟩) ns.length ns p2 q2 ss p3 q3 vs y1 S2.nm.txt t2 t3 (Nat.le_refl _) hq2 hq3 (by unfold maxLen; omega) (fun x hx => by have := hnz x hx; unfold maxLen; omega) (fun x hx => by have := HZ.out.1 x hx; unfold maxLen; omega) (fun x hx => by have := HZ.out.2 x hx; unfold maxLen; omega)
      have HS2 : Hid (LrS w B p a len cap g ns (.slice p2 ss.length q2) (.slice p3 vs.length q3) ss vs y1) := S2
      have HRR : Hid (roC kd at_ ns ss vs = 0 → RwR kd at_ (roF kd at_ ns ss vs) ∧ roK kd at_ ns ss vs = kd ∧ roA kd at_ ns ss vs = at_) := ro_right
      clear S1 S2 hsy hgy BK HZ1 HZ HL t2 t3 hkz hkd
      generalize roC kd at_ ns ss vs = C at *
      generalize roK kd at_ ns ss vs = RK at *
      generalize roA kd at_ ns ss vs = RA at *
      generalize roF kd at_ ns ss vs = RF at *
      go_wp2_with fail
      refine HRO.mono ?_
      rintro e y2 ⟨v, rfl, own, b2⟩
      obtain ⟨q, cc, rfl, hcc, -⟩ := ownF_form own
      go_upto_region 10 with fail
      obtain ⟨y3, hy3⟩ : ∃ y3, y3 = y2.alloc (.cells #[.string RK, .int .i64 RA, .slice q RF.length cc, .int .i64 C] 89) := ⟨_, rfl⟩
      rw [← hy3]
      obtain ⟨Z, hZ⟩ : ∃ Z, Z = y2.heap.size := ⟨_, rfl⟩
      rw [← hZ]
      have BZ : Bxs y3 Z 89 #[.string RK, .int .i64 RA, .slice q RF.length cc, .int .i64 C] := by rw [hy3, hZ]; exact Bxs.new _ _ _
      have b3 : Below y1.heap.size y1 y3 := by rw [hy3]; exact alB b2 _
      have hsz : w.heap.size + 1 ≤ y1.heap.size := HS2.out.res.lt
      have own3 : Hid (y3.ownsRow y1.heap.size 103 5 (.slice q RF.length cc) RF.length (fldRow RF)) := by rw [hy3]; exact own.alloc _
      have G3 : Hid (w.grownBy y3 (some p)) := touch_below HS2.out.gr b3
      have S3 : Hid (Src 126 B p a len cap y3) := HS2.out.src.below b3
      have R3 : Hid (Bxs y3 w.heap.size 29 #[.string ByteArray.empty, .int .i64 0, .slice none 0 0]) := HS2.out.res.below b3
      obtain ⟨c0, c1, c2, c3⟩ := BZ.four
      clear hy3 hZ BZ b3 own b2 HS2 HRO
      cases hC : (C != 0) with
      | false =>
        have hC0 : C = 0 := by simpa using hC
        obtain ⟨rr, rfl, rfl⟩ := HRR.out hC0
        have hPut := fun x0 x1 x2 => put3 G3.out S3.out (ownS_mono own3.out (show w.heap.size ≤ y1.heap.size by omega)) hp (Nat.le_refl _) (fun e => by have := (own3.out.lt _ e).1; omega) x0 x1 x2
        have HP : Hid (∀ x0 x1 x2 : Value, _) := hPut
        have HRr : Hid (RwR RK RA RF) := rr
        have f0 := R3.out.fr 0
        have f1 := R3.out.fr 1
        have f2 := R3.out.fr 2
        have d0 : y3.cell? ⟨w.heap.size, 0, none⟩ = some (.string ByteArray.empty) := R3.out.cell 0
        have d1 : y3.cell? ⟨w.heap.size, 1, none⟩ = some (.int .i64 0) := R3.out.cell 1
        have d2 : y3.cell? ⟨w.heap.size, 2, none⟩ = some (.slice none 0 0) := R3.out.cell 2
        clear hPut rr HRR G3 S3 own3 R3
        go_wp2_with fail
        refine bodyPost_ret (v := .agg #[.string RK, .int .i64 RA, .slice q RF.length cc]) (by simp [results, Tryz.results57, go_sem, d0, d1, d2]) rfl ?_
        obtain ⟨o1, o2, o3⟩ := HP.out (.string RK) (.int .i64 RA) (.slice q RF.length cc)
        exact ⟨⟨RK, RA, RF, _, rfl, o1, .inl HRr.out⟩, o2, o3⟩
      | true =>
        have hC0 : (C == 0) = false := by simpa using hC
        clear HRR c0 c1 c2 hcc
        obtain ⟨u1, hu1⟩ : ∃ u1, u1 = ((y3.alloc (.cells #[.string ⟨#[97, 103, 101]⟩] 9)).alloc (.cells #[.string ⟨#[115]⟩] 9)).alloc (.cells #[.string ⟨#[55]⟩] 9) := ⟨_, rfl⟩
        have HU1 : Hid (u1 = ((y3.alloc (.cells #[.string ⟨#[97, 103, 101]⟩] 9)).alloc (.cells #[.string ⟨#[115]⟩] 9)).alloc (.cells #[.string ⟨#[55]⟩] 9)) := hu1
        have bu : Below y3.heap.size y3 u1 := by rw [hu1]; exact alB (alB ((Below.refl _ _).alloc (Nat.le_refl _) _) _) _
        have tA : TxtAt u1 (some ⟨y3.heap.size, 0, none⟩) [⟨#[97, 103, 101]⟩] := by
          rw [hu1]
          exact (((alloc_str y3 [⟨#[97, 103, 101]⟩]).txt.below ((Below.refl _ _).alloc (Nat.le_refl _) _)).below ((Below.refl _ _).alloc (Nat.le_refl _) _))
        have tB : TxtAt u1 (some ⟨y3.heap.size + 1, 0, none⟩) [⟨#[115]⟩] := by
          rw [hu1]
          have h := (alloc_str (y3.alloc (.cells #[.string ⟨#[97, 103, 101]⟩] 9)) [⟨#[115]⟩]).txt
          rw [szA] at h
          exact h.below ((Below.refl _ _).alloc (Nat.le_refl _) _)
        have tC : TxtAt u1 (some ⟨y3.heap.size + 1 + 1, 0, none⟩) [⟨#[55]⟩] := by
          rw [hu1]
          have h := (alloc_str ((y3.alloc (.cells #[.string ⟨#[97, 103, 101]⟩] 9)).alloc (.cells #[.string ⟨#[115]⟩] 9)) [⟨#[55]⟩]).txt
          rw [szA, szA] at h
          exact h
        have HFB := specRowOf_any userS at_ (some ⟨y3.heap.size, 0, none⟩) 1 [⟨#[97, 103, 101]⟩] (some ⟨y3.heap.size + 1, 0, none⟩) 1 [⟨#[115]⟩] (some ⟨y3.heap.size + 1 + 1, 0, none⟩) 1 [⟨#[55]⟩] u1 tA tB tC (by decide) (by decide) (by decide) (by decide) (by decide) (by decide) (by decide)
        have rr : RwX (roK userS at_ [⟨#[97, 103, 101]⟩] [⟨#[115]⟩] [⟨#[55]⟩]) (roA userS at_ [⟨#[97, 103, 101]⟩] [⟨#[115]⟩] [⟨#[55]⟩]) (roF userS at_ [⟨#[97, 103, 101]⟩] [⟨#[115]⟩] [⟨#[55]⟩]) := ro_any _ _ _ _ _
        have HFB' : Hid (Calls Tryz.prog 124 #[.string ⟨#[117, 115, 101, 114]⟩, .int .i64 at_, .slice (some ⟨y3.heap.size, 0, none⟩) 1 1, .slice (some ⟨y3.heap.size + 1, 0, none⟩) 1 1, .slice (some ⟨y3.heap.size + 1 + 1, 0, none⟩) 1 1] u1 fun e w' => ∃ v, e = .returned (.agg #[.string (roK userS at_ [⟨#[97, 103, 101]⟩] [⟨#[115]⟩] [⟨#[55]⟩]), .int .i64 (roA userS at_ [⟨#[97, 103, 101]⟩] [⟨#[115]⟩] [⟨#[55]⟩]), v, .int .i64 (roC userS at_ [⟨#[97, 103, 101]⟩] [⟨#[115]⟩] [⟨#[55]⟩])]) ∧ w'.ownsRow u1.heap.size 103 5 v (roF userS at_ [⟨#[97, 103, 101]⟩] [⟨#[115]⟩] [⟨#[55]⟩]).length (fldRow (roF userS at_ [⟨#[97, 103, 101]⟩] [⟨#[115]⟩] [⟨#[55]⟩])) ∧ Below u1.heap.size u1 w') := HFB
        generalize roF userS at_ [⟨#[97, 103, 101]⟩] [⟨#[115]⟩] [⟨#[55]⟩] = FF at *
        generalize roK userS at_ [⟨#[97, 103, 101]⟩] [⟨#[115]⟩] [⟨#[55]⟩] = FK at *
        generalize roA userS at_ [⟨#[97, 103, 101]⟩] [⟨#[115]⟩] [⟨#[55]⟩] = FA at *
        generalize roC userS at_ [⟨#[97, 103, 101]⟩] [⟨#[115]⟩] [⟨#[55]⟩] = FC at *
        have HRr : Hid (RwX FK FA FF) := rr
        have HBu : Hid (Below y3.heap.size y3 u1) := bu
        have hfr := field_rowD
        clear hu1 tA tB tC HFB rr bu
        go_wp2_with fail
        rw [← HU1.out]
        refine HFB'.out.mono ?_
        rintro e y5 ⟨v5, rfl, own5, b5⟩
        obtain ⟨q5, cc5, rfl, hcc5, -⟩ := ownF_form own5
        have bb := chainB HBu.out b5
        have hsu : y3.heap.size ≤ u1.heap.size := HBu.out.size
        have hsy := R3.out.lt
        have hPut := fun x0 x1 x2 => put3 (touch_below G3.out bb) (S3.out.below bb) (ownS_mono own5 (show w.heap.size ≤ u1.heap.size by omega)) hp (Nat.le_refl _) (fun e => by have := (own5.lt _ e).1; omega) x0 x1 x2
        have HP : Hid (∀ x0 x1 x2 : Value, _) := hPut
        have R5 := R3.out.below bb
        have f0 := R5.fr 0
        have f1 := R5.fr 1
        have f2 := R5.fr 2
        have d0 : y5.cell? ⟨w.heap.size, 0, none⟩ = some (.string ByteArray.empty) := R5.cell 0
        have d1 : y5.cell? ⟨w.heap.size, 1, none⟩ = some (.int .i64 0) := R5.cell 1
        have d2 : y5.cell? ⟨w.heap.size, 2, none⟩ = some (.slice none 0 0) := R5.cell 2
        clear hPut G3 S3 own3 R3 own5 bb b5 R5 HBu HFB' HU1
        go_wp2_with fail
        refine bodyPost_ret (v := .agg #[.string FK, .int .i64 FA, .slice q5 FF.length cc5]) (by simp [results, Tryz.results57, go_sem, d0, d1, d2]) rfl ?_
        obtain ⟨o1, o2, o3⟩ := HP.out (.string FK) (.int .i64 FA) (.slice q5 FF.length cc5)
        exact ⟨⟨FK, FA, FF, _, rfl, o1, HRr.out⟩, o2, o3⟩
end Go.Proofs.YtepmoihgemhjcaaGreatDoor
