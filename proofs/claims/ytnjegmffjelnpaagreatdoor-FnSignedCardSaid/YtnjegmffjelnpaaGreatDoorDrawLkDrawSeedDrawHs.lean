/-
  Parts of one proof, laid as one text: DrawLk, DrawSeed, DrawHs; what each says stands at its head.
-/
import Derived.Test.YtnjegmffjelnpaaGreatDoorRows
import Derived.Test.YtnjegmffjelnpaaGreatDoorBytesDigMathTurnIWholeR
import Derived.Test.YtnjegmffjelnpaaGreatDoorSlABxKSlBOwnSSgnBOwnBPadI
import Derived.Test.YtnjegmffjelnpaaGreatDoorGrKTakesLSpecGNSpecGTTillTwoFldNFldTb
import Derived.Test.YtnjegmffjelnpaaGreatDoorLgMathLgAtKLgAnsLgRtTakesFldIsFldC
import Derived.Test.YtnjegmffjelnpaaGreatDoorPutNumAppSSrc
import Derived.Test.YtnjegmffjelnpaaGreatDoorDrawsDrawKitSomeIsInSignSSignDWide2StepApp
import Derived.Test.YtnjegmffjelnpaaGreatDoorTimeBPutTextFldMathFldRiseScanMath
import Derived.Test.YtnjegmffjelnpaaGreatDoorDrawRowRowOpsLgO
import Derived.Test.YtnjegmffjelnpaaGreatDoorLfSDrawLoDrawLoMSpoilT
import Derived.Test.YtnjegmffjelnpaaGreatDoorDrawLog
import Derived.Handy
import Derived.WalkSpells
import Derived.OwnWalk
import Derived.Deep.RegionWith
import Derived.Deep.RegionHeld3
import Derived.Deep.Cut
import Derived.Deep.CutRange
import Derived.Deep.RegionLaw
/-
  A drawn log in a box, beside the source and the box of the result: what stays while more is drawn.
-/
namespace Go.Proofs.YtnjegmffjelnpaaGreatDoor
open Go.RowKit Go.Lib
set_option linter.unusedVariables false
set_option maxRecDepth 20000

/-- The log lies in blocks from base on and below top: while these stay, it can be read. -/
def LgTo (base top : Nat) (p : Option Addr) (lv : List ByteArray) (cp : Nat) (q : Option Addr) (rs : List Rw) (cq : Nat) (w : World) : Prop := top ≤ w.heap.size ∧ ∀ x : World, top ≤ x.heap.size → (∀ b, base ≤ b → b < top → x.heap[b]? = w.heap[b]?) → LgAt p lv cp q rs cq x
theorem LgTo.of {base : Nat} {p : Option Addr} {lv : List ByteArray} {cp : Nat} {q : Option Addr} {rs : List Rw} {cq : Nat} {w : World} (h : LgHi base p lv cp q rs cq w) : LgTo base w.heap.size p lv cp q rs cq w := ⟨Nat.le_refl _, h⟩
theorem LgTo.at {base top : Nat} {p : Option Addr} {lv : List ByteArray} {cp : Nat} {q : Option Addr} {rs : List Rw} {cq : Nat} {w : World} (h : LgTo base top p lv cp q rs cq w) : LgAt p lv cp q rs cq w := h.2 w h.1 (fun _ _ _ => rfl)
theorem LgTo.grown {base top : Nat} {p : Option Addr} {lv : List ByteArray} {cp : Nat} {q : Option Addr} {rs : List Rw} {cq : Nat} {w x : World} {row : Option Nat} (h : LgTo base top p lv cp q rs cq w) (k : w.grownBy x row) (hr : ∀ j, row = some j → j < base ∨ top ≤ j) : LgTo base top p lv cp q rs cq x :=
  ⟨Nat.le_trans h.1 k.size, fun y h1 h2 => h.2 y h1 (fun b hb hl => (h2 b hb hl).trans (k.block b (Nat.lt_of_lt_of_le hl h.1) (fun e => by have := hr b e.symm; omega)))⟩
theorem LgTo.below {base top : Nat} {p : Option Addr} {lv : List ByteArray} {cp : Nat} {q : Option Addr} {rs : List Rw} {cq : Nat} {w x : World} (h : LgTo base top p lv cp q rs cq w) (k : Below w.heap.size w x) : LgTo base top p lv cp q rs cq x :=
  ⟨Nat.le_trans h.1 k.size, fun y h1 h2 => h.2 y h1 (fun b hb hl => (h2 b hb hl).trans (k.block b (Nat.lt_of_lt_of_le hl h.1)))⟩
theorem LgTo.hi {base top b : Nat} {p : Option Addr} {lv : List ByteArray} {cp : Nat} {q : Option Addr} {rs : List Rw} {cq : Nat} {w : World} (h : LgTo base top p lv cp q rs cq w) (hb : b ≤ base) : LgHi b p lv cp q rs cq w := fun x hs hx => h.2 x (Nat.le_trans h.1 hs) (fun c hc ht => hx c (by omega) (Nat.lt_of_lt_of_le ht h.1))
theorem LgHi.low {base b : Nat} {p : Option Addr} {lv : List ByteArray} {cp : Nat} {q : Option Addr} {rs : List Rw} {cq : Nat} {w : World} (h : LgHi base p lv cp q rs cq w) (hb : b ≤ base) : LgHi b p lv cp q rs cq w := (LgTo.of h).hi hb
/-- A drawn log in a box at X, the source at p, the result's box ahead of both. -/
structure LdS (w y1 : World) (RT : TypeId) (rc : Array Value) (B p : Nat) (a : Option Addr) (len cap X : Nat) (q : Option Addr) (cq : Nat) (rs : List Rw) (p' : Option Addr) (cp : Nat) (lv : List ByteArray) (now : Int) (x : World) : Prop where
  src : Src 59 B p a len cap x
  bel : Below w.heap.size w x
  gr : y1.grownBy x (some p)
  wp : w.heap.size < p
  hp : p < y1.heap.size
  hX : y1.heap.size ≤ X
  box : Bxs x X 26 #[.slice q rs.length cq, .slice p' lv.length cp, .int .i64 now]
  res : Bxs x w.heap.size RT rc
  hi : LgTo y1.heap.size X p' lv cp q rs cq x
section
variable {w y1 y2 x x' : World} {RT : TypeId} {rc : Array Value} {B p : Nat} {a : Option Addr} {len cap X : Nat} {q : Option Addr} {cq : Nat} {rs : List Rw} {p' : Option Addr} {cp : Nat} {lv : List ByteArray} {now : Int}
theorem LdS.step (h : LdS w y1 RT rc B p a len cap X q cq rs p' cp lv now x) (hs : Src 59 B p a len cap x') (g : x.grownBy x' (some p)) : LdS w y1 RT rc B p a len cap X q cq rs p' cp lv now x' := by
  have h1 := h.wp
  have h2 := h.hp
  have h3 := h.hX
  exact ⟨hs, below_touch h.bel g (by omega), touch_trans h.gr g, h1, h2, h3, h.box.grown g (fun e => by cases e; omega), h.res.grown g (fun e => by cases e; omega), h.hi.grown g (fun j hj => by cases hj; exact .inl h2)⟩
theorem LdS.below (h : LdS w y1 RT rc B p a len cap X q cq rs p' cp lv now x) (b : Below x.heap.size x x') : LdS w y1 RT rc B p a len cap X q cq rs p' cp lv now x' :=
  ⟨h.src.below b, chainB h.bel b, touch_below h.gr b, h.wp, h.hp, h.hX, h.box.below b, h.res.below b, h.hi.below b⟩
theorem LdS.new (hb : Below w.heap.size w y1) (hr : Bxs y1 w.heap.size RT rc) (hs1 : Src 59 B p a len cap y1) (wp : w.heap.size < p) (hs2 : Src 59 B p a len cap y2) (g2 : y1.grownBy y2 (some p)) (hi : LgHi y1.heap.size p' lv cp q rs cq y2) :
    LdS w y1 RT rc B p a len cap y2.heap.size q cq rs p' cp lv now (y2.alloc (.cells #[.slice q rs.length cq, .slice p' lv.length cp, .int .i64 now] 26)) := by
  have b : Below y2.heap.size y2 (y2.alloc (.cells #[.slice q rs.length cq, .slice p' lv.length cp, .int .i64 now] 26)) := (Below.refl _ _).alloc (Nat.le_refl _) _
  exact ⟨hs2.below b, chainB (below_touch hb g2 (by omega)) b, touch_below g2 b, wp, hs1.lt, g2.size, Bxs.new _ _ _, (hr.grown g2 (fun e => by cases e; omega)).below b, (LgTo.of hi).below b⟩
/-- A box that was made later is written. -/
theorem LdS.wrote {Z : Nat} (h : LdS w y1 RT rc B p a len cap X q cq rs p' cp lv now x) (g : x.grownBy x' (some Z)) (hZ : X < Z) : LdS w y1 RT rc B p a len cap X q cq rs p' cp lv now x' := by
  have h1 := h.wp
  have h2 := h.hp
  have h3 := h.hX
  exact ⟨h.src.other g (fun j hj => by cases hj; omega), below_touch h.bel g (by omega), touch_own h.gr g (fun j hj => by cases hj; omega), h1, h2, h3, h.box.grown g (fun e => by cases e; omega), h.res.grown g (fun e => by cases e; omega), h.hi.grown g (fun j hj => by cases hj; exact .inr (by omega))⟩
theorem LdS.at (h : LdS w y1 RT rc B p a len cap X q cq rs p' cp lv now x) : LgAt p' lv cp q rs cq x := h.hi.at
theorem LdS.cells (h : LdS w y1 RT rc B p a len cap X q cq rs p' cp lv now x) : x.cell? ⟨X, 0, none⟩ = some (.slice q rs.length cq) ∧ x.cell? ⟨X, 1, none⟩ = some (.slice p' lv.length cp) ∧ x.cell? ⟨X, 2, none⟩ = some (.int .i64 now) := ⟨h.box.cell 0, h.box.cell 1, h.box.cell 2⟩
theorem LdS.ne (h : LdS w y1 RT rc B p a len cap X q cq rs p' cp lv now x) : w.heap.size ≠ X := by
  have h1 := h.wp
  have h2 := h.hp
  have h3 := h.hX
  omega
/-- A log is put into the result's box, which is of its own type. -/
theorem LdS.done (h : LdS w y1 RT rc B p a len cap X q cq rs p' cp lv now x) (u0 u1 u2 : Value) : LgHi w.heap.size p' lv cp q rs cq (((x.setCell ⟨w.heap.size, 0, none⟩ u0).setCell ⟨w.heap.size, 1, none⟩ u1).setCell ⟨w.heap.size, 2, none⟩ u2) ∧ Below w.heap.size w (((x.setCell ⟨w.heap.size, 0, none⟩ u0).setCell ⟨w.heap.size, 1, none⟩ u1).setCell ⟨w.heap.size, 2, none⟩ u2) := by
  have h1 := h.wp
  have h2 := h.hp
  exact ⟨(h.hi.grown (touch_set (touch_set (set_grw x w.heap.size 0 u0) 1 u1) 2 u2) (fun j hj => by cases hj; exact .inl (by omega))).hi (by omega), below_set3 h.bel (Nat.le_refl _) _ _ _⟩
theorem LdS.stay (h : LdS w y1 RT rc B p a len cap X q cq rs p' cp lv now x) (u0 u1 u2 : Value) : (((x.setCell ⟨w.heap.size, 0, none⟩ u0).setCell ⟨w.heap.size, 1, none⟩ u1).setCell ⟨w.heap.size, 2, none⟩ u2).cell? ⟨X, 0, none⟩ = some (.slice q rs.length cq) ∧ (((x.setCell ⟨w.heap.size, 0, none⟩ u0).setCell ⟨w.heap.size, 1, none⟩ u1).setCell ⟨w.heap.size, 2, none⟩ u2).cell? ⟨X, 1, none⟩ = some (.slice p' lv.length cp) ∧ (((x.setCell ⟨w.heap.size, 0, none⟩ u0).setCell ⟨w.heap.size, 1, none⟩ u1).setCell ⟨w.heap.size, 2, none⟩ u2).cell? ⟨X, 2, none⟩ = some (.int .i64 now) := by
  have hb := ((h.box.other w.heap.size 0 h.ne u0).other w.heap.size 1 h.ne u1).other w.heap.size 2 h.ne u2
  exact ⟨hb.cell 0, hb.cell 1, hb.cell 2⟩
end
theorem lof_m {rs : List Rw} {lv : List ByteArray} {now : Int} (h : LoF rs lv now) : lv.length ≤ 66 := h.2.1
theorem res3 {x : World} {g : Nat} {T : TypeId} {a b c : Value} (h : Bxs x g T #[a, b, c]) : x.cell? ⟨g, 0, none⟩ = some a ∧ x.cell? ⟨g, 1, none⟩ = some b ∧ x.cell? ⟨g, 2, none⟩ = some c ∧ x.frozen? ⟨g, 0, none⟩ = false ∧ x.frozen? ⟨g, 1, none⟩ = false ∧ x.frozen? ⟨g, 2, none⟩ = false := ⟨h.cell 0, h.cell 1, h.cell 2, h.fr 0, h.fr 1, h.fr 2⟩
end Go.Proofs.YtnjegmffjelnpaaGreatDoor
/-
  What the draw of a seed draws: a text of at most 65 bytes.
-/
namespace Go.Proofs.YtnjegmffjelnpaaGreatDoor
open Go.RowKit Go.Lib
set_option linter.unusedVariables false
set_option maxRecDepth 20000

def seeds3 : List ByteArray := [⟨#[115, 101, 101, 100]⟩, ⟨#[111, 116, 104, 101, 114]⟩, ⟨#[115]⟩]
theorem seeds3_small : ∀ t ∈ seeds3, t.size ≤ 65 := by decide
/-- A row of zeros, wherever it lies, as a text. -/
theorem zconvAt (n g : Nat) (w : World) (h : ∀ i, i < n → w.cell? ⟨g, i, none⟩ = some (.int .u8 0)) :
    (convert 22 9 (.slice (some ⟨g, 0, none⟩) n n)).run Tryz.prog w = .ok (.string (strOfNums (List.replicate n 0))) w :=
  run_convert_bytes_arg (P := Tryz.prog) _ 22 5 Tryz.underlying22 Tryz.underlying5 g 0 n n (List.replicate n 0) (by simp) (fun i hi => by
    rw [Nat.zero_add, h i hi]; simp [hi]) 9 Tryz.underlying9
theorem zcell (n i : Nat) (w : World) (hi : i < n) : (w.alloc (.cells (zrow n).toArray 5)).cell? ⟨w.heap.size, i, none⟩ = some (.int .u8 0) := by
  rw [World.cell?_alloc_mark]; simp [zrow, hi]
theorem zconv0 (n : Nat) (w : World) :
    (convert 22 9 (.slice (some ⟨w.heap.size, 0, none⟩) n n)).run Tryz.prog (w.alloc (.cells (zrow n).toArray 5)).drew = .ok (.string (strOfNums (List.replicate n 0))) (w.alloc (.cells (zrow n).toArray 5)).drew :=
  zconvAt n _ _ (fun i hi => zcell n i w hi)
theorem zconvA (n : Nat) (o : Obj) (w : World) :
    (convert 22 9 (.slice (some ⟨w.heap.size, 0, none⟩) n n)).run Tryz.prog ((w.alloc (.cells (zrow n).toArray 5)).alloc o).drew = .ok (.string (strOfNums (List.replicate n 0))) ((w.alloc (.cells (zrow n).toArray 5)).alloc o).drew :=
  zconvAt n _ _ (fun i hi => (World.cell?_alloc_old _ _ _ (by simp)).trans (zcell n i w hi))
theorem zconvB (n : Nat) (o : Obj) (w : World) :
    (convert 22 9 (.slice (some ⟨w.heap.size + 1, 0, none⟩) n n)).run Tryz.prog ((w.alloc o).alloc (.cells (zrow n).toArray 5)).drew = .ok (.string (strOfNums (List.replicate n 0))) ((w.alloc o).alloc (.cells (zrow n).toArray 5)).drew := by
  have := zconv0 n (w.alloc o)
  rwa [show (w.alloc o).heap.size = w.heap.size + 1 by simp] at this

/-- Where the three texts lie, and the source still. -/
structure SeedS (T : TypeId) (B p : Nat) (a : Option Addr) (len cap : Nat) (w1 : World) (ss : List ByteArray) (g : Nat) (W : World) : Prop where
  src : Src T B p a len cap W
  blk : BlkS W g ss
  ne : g ≠ p
  gr : w1.grownBy W (some p)
theorem seedS_of {T : TypeId} {B p : Nat} {a : Option Addr} {len cap : Nat} {w1 : World} (ss : List ByteArray) (o1 o2 : Obj) (X : World) (hs : Src T B p a len cap X) (hg : w1.grownBy X (some p)) :
    SeedS T B p a len cap w1 ss (X.heap.size + 1 + 1) (((X.alloc o1).alloc o2).alloc (.cells (strRow ss).toArray 9)).drew := by
  have hb : Below X.heap.size X ((X.alloc o1).alloc o2) := by
    have := (Below.refl X.heap.size X).alloc (Nat.le_refl _) o1
    exact this.alloc this.size _
  have hz : ((X.alloc o1).alloc o2).heap.size = X.heap.size + 1 + 1 := by simp
  have hp := hs.lt
  refine ⟨(hs.below hb).below ((Below.refl _ _).alloc (Nat.le_refl _) _).drew, ?_, by omega, touch_below (touch_below hg hb) ((Below.refl _ _).alloc (Nat.le_refl _) _).drew⟩
  have := alloc_str ((X.alloc o1).alloc o2) ss
  rw [hz] at this
  exact this

set_option maxHeartbeats 4000000 in
theorem drawSeed_any (B p : Nat) (a : Option Addr) (len cap : Nat) (w : World) (hs : Src 59 B p a len cap w) :
    Calls Tryz.prog 14 #[.pointer (some ⟨p, 0, none⟩)] w fun e w' =>
      (∃ t : ByteArray, e = .returned (.string t) ∧ t.size ≤ 65) ∧ Src 59 B p a len cap w' ∧ w.grownBy w' (some p) := by
  have HS : Hid (Src 59 B p a len cap w) := hs
  clear hs
  go_enter Tryz.func14, Tryz.ntmps14
  go_wp2_with fail
  refine (one_any B p a len cap 12 _ HS.out (by omega)).mono ?_
  rintro e w1 ⟨⟨b, rfl⟩, hs1, hg1⟩
  have hp := hs1.lt
  have S1 : Hid (Src 59 B p a len cap w1) := hs1
  have G1 : Hid (w.grownBy w1 (some p)) := hg1
  clear hs1 hg1 HS
  cases b
  · have HB4 : Hid (BlkS (w1.alloc (.cells (strRow seeds3).toArray 9)) w1.heap.size seeds3) := alloc_str w1 seeds3
    have HS4 : Hid (Src 59 B p a len cap (w1.alloc (.cells (strRow seeds3).toArray 9))) := S1.out.below ((Below.refl _ _).alloc (Nat.le_refl _) _)
    go_wp2_with fail
    refine (pick_any B p a len cap w1.heap.size seeds3 _ HS4.out HB4.out (by omega) (by decide) (by decide)).mono ?_
    rintro e w2 ⟨⟨t, ht, rfl⟩, hs2, hg2⟩
    have hg2 := touch_trans (touch_trans G1.out (World.grownBy_alloc w1 _ (some p))) hg2
    have t5 := seeds3_small t ht
    clear HB4 HS4 ht
    go_wp2_with fail
    go_ret
    exact ⟨⟨t, rfl, t5⟩, hs2, hg2⟩
  · obtain ⟨R4, hR4⟩ : ∃ R4, R4 = (zrow 64).toArray := ⟨_, rfl⟩
    obtain ⟨R5, hR5⟩ : ∃ R5, R5 = (zrow 65).toArray := ⟨_, rfl⟩
    obtain ⟨Z4, hZ4⟩ : ∃ Z4, Z4 = strOfNums (List.replicate 64 0) := ⟨_, rfl⟩
    obtain ⟨Z5, hZ5⟩ : ∃ Z5, Z5 = strOfNums (List.replicate 65 0) := ⟨_, rfl⟩
    have hz4 : Z4.size ≤ 65 := by rw [hZ4, strOfNums_size, List.length_replicate]; omega
    have hz5 : Z5.size ≤ 65 := by rw [hZ5, strOfNums_size, List.length_replicate]; omega
    have k4 : ∀ W : World, (Instr.makeSlice 22 (.int .i64 64) (.int .i64 64)).run Tryz.prog W = .ok (.slice (some ⟨W.heap.size, 0, none⟩) 64 64) (W.alloc (.cells R4 5)) := fun W => by rw [hR4]; exact run_make_u8s 64 (by omega) W
    have k5 : ∀ W : World, (Instr.makeSlice 22 (.int .i64 65) (.int .i64 65)).run Tryz.prog W = .ok (.slice (some ⟨W.heap.size, 0, none⟩) 65 65) (W.alloc (.cells R5 5)) := fun W => by rw [hR5]; exact run_make_u8s 65 (by omega) W
    have e1 : ∀ W : World, (convert 22 9 (.slice (some ⟨W.heap.size, 0, none⟩) 64 64)).run Tryz.prog (W.alloc (.cells R4 5)).drew = .ok (.string Z4) (W.alloc (.cells R4 5)).drew := fun W => by rw [hR4, hZ4]; exact zconv0 64 W
    have e2 : ∀ W : World, (convert 22 9 (.slice (some ⟨W.heap.size, 0, none⟩) 65 65)).run Tryz.prog (W.alloc (.cells R5 5)).drew = .ok (.string Z5) (W.alloc (.cells R5 5)).drew := fun W => by rw [hR5, hZ5]; exact zconv0 65 W
    have e3 : ∀ W : World, (convert 22 9 (.slice (some ⟨W.heap.size, 0, none⟩) 64 64)).run Tryz.prog ((W.alloc (.cells R4 5)).alloc (.cells R5 5)).drew = .ok (.string Z4) ((W.alloc (.cells R4 5)).alloc (.cells R5 5)).drew := fun W => by rw [hR4, hZ4]; exact zconvA 64 _ W
    have e4 : ∀ W : World, (convert 22 9 (.slice (some ⟨W.heap.size, 0, none⟩) 65 65)).run Tryz.prog ((W.alloc (.cells R5 5)).alloc (.cells R4 5)).drew = .ok (.string Z5) ((W.alloc (.cells R5 5)).alloc (.cells R4 5)).drew := fun W => by rw [hR5, hZ5]; exact zconvA 65 _ W
    have e5 : ∀ W : World, (convert 22 9 (.slice (some ⟨W.heap.size + 1, 0, none⟩) 64 64)).run Tryz.prog ((W.alloc (.cells R5 5)).alloc (.cells R4 5)).drew = .ok (.string Z4) ((W.alloc (.cells R5 5)).alloc (.cells R4 5)).drew := fun W => by rw [hR4, hZ4]; exact zconvB 64 _ W
    have e6 : ∀ W : World, (convert 22 9 (.slice (some ⟨W.heap.size + 1, 0, none⟩) 65 65)).run Tryz.prog ((W.alloc (.cells R4 5)).alloc (.cells R5 5)).drew = .ok (.string Z5) ((W.alloc (.cells R4 5)).alloc (.cells R5 5)).drew := fun W => by rw [hR5, hZ5]; exact zconvB 65 _ W
    have QP : Hid (∀ W g, SeedS 59 B p a len cap w1 [⟨#[]⟩, Z4, Z5] g W → Calls Tryz.prog 41 #[.pointer (some ⟨p, 0, none⟩), .slice (some ⟨g, 0, none⟩) 3 3] W fun e x1 => ∃ t : ByteArray, e = .returned (.string t) ∧ t.size ≤ 65 ∧ Src 59 B p a len cap x1 ∧ w1.grownBy x1 (some p)) := fun W g h => (pick_any B p a len cap g [⟨#[]⟩, Z4, Z5] W h.src h.blk h.ne (by simp) (by simp)).mono (by
      rintro e x1 ⟨⟨t, ht, rfl⟩, s1, g1⟩
      refine ⟨t, rfl, ?_, s1, touch_trans h.gr g1⟩
      simp only [List.mem_cons, List.not_mem_nil, or_false] at ht
      rcases ht with rfl | rfl | rfl
      · decide
      · exact hz4
      · exact hz5)
    clear hR4 hR5 hZ4 hZ5
    go_wp2_with fail
    go_region_law (first
      | (go_simp; go_at_call 41; refine (QP.out _ _ (by first | exact seedS_of _ _ _ w1 S1.out (World.grownBy.refl _ _) | exact seedS_of _ _ _ w1.drew (S1.out.below (Below.refl _ _).drew) (touch_drew (World.grownBy.refl _ _)))).mono ?_; rintro e x1 ⟨t, rfl, ht, s1, g1⟩))
    all_goals
      have G2 := touch_trans G1.out g1
      clear QP k4 k5 e1 e2 e3 e4 e5 e6
      go_wp2_with fail
      go_ret
      exact ⟨⟨t, rfl, ht⟩, s1, G2⟩

theorem results_tmp3 {fn : Func} {t u v : Tmp} (h : fn.results = #[.tmp t, .tmp u, .tmp v]) (tmps : Array Value) (P : Program) (w : World) :
    (results fn tmps).run P w = .ok (.tuple #[tmps.getD t undef, tmps.getD u undef, tmps.getD v undef]) w := by
  simp [results, h]
end Go.Proofs.YtnjegmffjelnpaaGreatDoor
/-
  What DrawHeadSign draws: a log, a seed of at most 65 bytes, a key's number.
  Conditions: the code is at most 2^20 bytes.
-/
namespace Go.Proofs.YtnjegmffjelnpaaGreatDoor
open Go.RowKit Go.Lib
set_option linter.unusedVariables false
set_option maxRecDepth 20000

set_option maxHeartbeats 4000000 in
theorem drawHeadSign_any (B : Nat) (a : Option Addr) (len cap : Nat) (w : World) (hlen : len ≤ 1048576) (hB : B ≤ w.heap.size) (hc : CodeAt B a len w) :
    Calls Tryz.prog 4 #[.slice a len cap] w fun e w' => (∃ (q : Option Addr) (cq : Nat) (rs : List Rw) (p' : Option Addr) (cp : Nat) (lv : List ByteArray) (now : Int) (sd : ByteArray) (r : Int), e = .returned (.tuple #[.agg #[.slice q rs.length cq, .slice p' lv.length cp, .int .i64 now], .string sd, .int .i64 r]) ∧ LgHi w.heap.size p' lv cp q rs cq w' ∧ LoF rs lv now ∧ sd.size ≤ 65 ∧ -1 ≤ r ∧ r ≤ 3) ∧ Below w.heap.size w w' := by
  obtain ⟨W1, hW1⟩ : ∃ W1, W1 = w.alloc (.cells #[.slice none 0 0, .slice none 0 0, .int .i64 0] 26) := ⟨_, rfl⟩
  have HW : Hid (W1 = w.alloc (.cells #[.slice none 0 0, .slice none 0 0, .int .i64 0] 26)) := hW1
  have b1 : Hid (Below w.heap.size w W1) := by rw [hW1]; exact (Below.refl _ _).alloc (Nat.le_refl _) _
  have R1 : Hid (Bxs W1 w.heap.size 26 #[.slice none 0 0, .slice none 0 0, .int .i64 0]) := by rw [hW1]; exact Bxs.new _ _ _
  have HZ1 : Hid (W1.heap.size = w.heap.size + 1) := by rw [hW1]; exact szA _ _
  have hB1 : B ≤ W1.heap.size := Nat.le_trans hB b1.out.size
  have HC : Hid (CodeAt B a len W1) := hc.below (b1.out.mono hB)
  clear hW1 hc
  go_enter Tryz.func4, Tryz.ntmps4
  go_wp2_with fail
  rw [← HW.out]
  clear HW
  refine (source_any B a len cap W1 hlen hB1 HC.out).mono ?_
  rintro e y1 ⟨rfl, s1, bs1⟩
  obtain ⟨P, hP⟩ : ∃ P, P = W1.heap.size := ⟨_, rfl⟩
  rw [← hP] at s1 ⊢
  have hwP : w.heap.size < P := by rw [hP, HZ1.out]; omega
  clear hP
  have hb1 := chainB b1.out bs1
  have hr1 := R1.out.below bs1
  go_wp2_with fail
  refine (l09Log_drawn B P a len cap y1 s1).mono ?_
  rintro e y2 ⟨⟨q, cq, rs, p', cp, lv, now, rfl, hi, hf⟩, s2, g2⟩
  go_wp2_with fail
  obtain ⟨y3, hy3⟩ : ∃ y3, y3 = y2.alloc (.cells #[.slice q rs.length cq, .slice p' lv.length cp, .int .i64 now] 26) := ⟨_, rfl⟩
  rw [← hy3]
  obtain ⟨X, hX⟩ : ∃ X, X = y2.heap.size := ⟨_, rfl⟩
  rw [← hX]
  have S3 : Hid (LdS w y1 26 #[.slice none 0 0, .slice none 0 0, .int .i64 0] B P a len cap X q cq rs p' cp lv now y3) := by rw [hy3, hX]; exact LdS.new hb1 hr1 s1 hwP s2 g2 hi
  have HF : Hid (LoF rs lv now) := hf
  clear hy3 hX hb1 hr1 s1 hwP s2 g2 hi hf bs1 b1 R1 HZ1 HC
  refine (drawSeed_any B P a len cap _ S3.out.src).mono ?_
  rintro e vs ⟨⟨sd, rfl, hsd⟩, ss, gg⟩
  have PS : Hid (LdS w y1 26 #[.slice none 0 0, .slice none 0 0, .int .i64 0] B P a len cap X q cq rs p' cp lv now vs) := S3.out.step ss gg
  clear ss gg S3
  go_upto_region 4 with fail
  have S4 : Hid (LdS w y1 26 #[.slice none 0 0, .slice none 0 0, .int .i64 0] B P a len cap X q cq rs p' cp lv now vs.drew) := PS.out.below (Below.refl _ _).drew
  clear PS
  refine wp_region_held_drew (S := fun w' => w'.cell? ⟨X, 0, none⟩ = some (.slice q rs.length cq) ∧ w'.cell? ⟨X, 1, none⟩ = some (.slice p' lv.length cp) ∧ w'.cell? ⟨X, 2, none⟩ = some (.int .i64 now)) (by kernel_rfl) (S4.out.cells) (fun hHeld => ?_)
  refine take_at 0 (v := ?_) rfl (by kernel_rfl) (by kernel_rfl) (by kernel_rfl) (fun _ _ _ h => h) hHeld (Or.inl ⟨by rfl, ?_⟩) ?_
  rotate_left
  · (intro w hSw; (try dsimp only at hSw); go_simp; try with_reducible rfl)
  simp only [Act.put, List.setIfInBounds_toArray, List.set_cons_zero, List.set_cons_succ]
  refine take_at 1 (v := ?_) rfl (by kernel_rfl) (by kernel_rfl) (by kernel_rfl) (fun _ _ _ h => h) hHeld (Or.inl ⟨by rfl, ?_⟩) ?_
  rotate_left
  · (intro w hSw; (try dsimp only at hSw); go_simp; try with_reducible rfl)
  simp only [Act.put, List.setIfInBounds_toArray, List.set_cons_zero, List.set_cons_succ]
  refine take_at 2 (v := ?_) rfl (by kernel_rfl) (by kernel_rfl) (by kernel_rfl) (fun _ _ _ h => h) hHeld (Or.inl ⟨by rfl, ?_⟩) ?_
  rotate_left
  · (intro w hSw; (try dsimp only at hSw); go_simp; try with_reducible rfl)
  simp only [Act.put, List.setIfInBounds_toArray, List.set_cons_zero, List.set_cons_succ]
  refine ready_at 3 rfl (by kernel_rfl) (fun K hK => ?_)
  go_simp
  (go_at_call 15; (with_reducible refine (n_any B P a len cap 5 _ S4.out.src (by first | omega | (have := lof_m HF.out; omega))).mono ?_); rintro e z1 ⟨⟨m, rfl, m0, m1, -⟩, ss, gg⟩; have T1 := S4.out.step ss gg; clear ss gg; have m2 := m1 (by omega); clear m1; have hw : IntKind.i64.wrap (m - 1) = m - 1 := (by rw [IntKind.wrap_i64]; omega))
  refine hK.out _ _ (T1.cells) (fun hHeld => ?_)
  clear hK K
  try simp only [Act.put, List.setIfInBounds_toArray, List.set_cons_zero, List.set_cons_succ]
  refine take_at 4 (v := ?_) rfl (by kernel_rfl) (by kernel_rfl) (by kernel_rfl) (fun _ _ _ h => h) hHeld (Or.inl ⟨by rfl, ?_⟩) ?_
  rotate_left
  · (intro w hSw; (try dsimp only at hSw); go_simp; try with_reducible rfl)
  simp only [Act.put, List.setIfInBounds_toArray, List.set_cons_zero, List.set_cons_succ]
  refine ready_at 5 rfl (by kernel_rfl) (fun K hK => ?_)
  obtain ⟨d0, d1, d2, f0, f1, f2⟩ := res3 T1.res
  go_simp
  refine hK.out _ _ (T1.stay _ _ _) (fun hHeld => ?_)
  clear hK K
  try simp only [Act.put, List.setIfInBounds_toArray, List.set_cons_zero, List.set_cons_succ]
  refine take_at 6 (v := ?_) rfl (by kernel_rfl) (by kernel_rfl) (by kernel_rfl) (fun _ _ _ h => h) hHeld (Or.inl ⟨by rfl, ?_⟩) ?_
  rotate_left
  · (intro w hSw; (try dsimp only at hSw); go_simp; try with_reducible rfl)
  simp only [Act.put, List.setIfInBounds_toArray, List.set_cons_zero, List.set_cons_succ]
  refine take_at 7 (v := ?_) rfl (by kernel_rfl) (by kernel_rfl) (by kernel_rfl) (fun _ _ _ h => h) hHeld (Or.inl ⟨by rfl, ?_⟩) ?_
  rotate_left
  · (intro w hSw; (try dsimp only at hSw); go_simp; try with_reducible rfl)
  simp only [Act.put, List.setIfInBounds_toArray, List.set_cons_zero, List.set_cons_succ]
  refine wpAnyH_done (by kernel_rfl) ?_ _
  have HE : Hid _ := fun u0 u1 u2 => T1.done u0 u1 u2
  clear T1 hHeld S4
  go_wp2_with fail
  refine bodyPost_ret (v := .tuple #[.agg #[.slice q rs.length cq, .slice p' lv.length cp, .int .i64 now], .string sd, .int .i64 (m - 1)]) (by simp [results, Tryz.results4, go_sem, d0, d1, d2]) rfl ?_
  obtain ⟨z1, z2⟩ := HE.out (.slice q rs.length cq) (.slice p' lv.length cp) (.int .i64 now)
  exact ⟨⟨q, cq, rs, p', cp, lv, now, sd, m - 1, rfl, z1, HF.out, hsd, by omega, by omega⟩, z2⟩
end Go.Proofs.YtnjegmffjelnpaaGreatDoor
