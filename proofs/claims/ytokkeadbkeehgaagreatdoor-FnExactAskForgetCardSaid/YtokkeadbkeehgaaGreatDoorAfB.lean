/-
  AskForget's boxes.
-/
import Derived.Test.YtokkeadbkeehgaaGreatDoorRows
import Derived.Test.YtokkeadbkeehgaaGreatDoorBytesDigMathTreeMathSlASlBBxKOwnSTakesLTillTwo
import Derived.Test.YtokkeadbkeehgaaGreatDoorTimeBPutMathPutNumJoinedPutTextFldMathFldRiseScanMath
import Derived.Test.YtokkeadbkeehgaaGreatDoorGetValGetTxtNumMathFldRdNumFromTmbMathLgMath
import Derived.Test.YtokkeadbkeehgaaGreatDoorLgAtKShwKOneKFldGFldBlkRwBlkIntKLawILawOGLawImBlNotRulMathAppS
import Derived.Test.YtokkeadbkeehgaaGreatDoorLawLkRowOpsLgOLawLo
import Derived.Test.YtokkeadbkeehgaaGreatDoorLawLqLgAnsLgRtLtMathLawLtLawFXLawLa
import Derived.Test.YtokkeadbkeehgaaGreatDoorPolAnsKeepMAfMathLawAfStepAppOwnBTurn2
import Derived.Handy
import Derived.OwnWalk
namespace Go.Proofs.YtokkeadbkeehgaaGreatDoor
open Go.RowKit Go.Lib
set_option linter.unusedVariables false
set_option maxRecDepth 20000

structure AfB (w : World) (q : Option Addr) (n cq : Nat) (p : Option Addr) (m cp : Nat) (now : Int) (p1 : Option Addr) (un c1 : Nat) (p2 : Option Addr) (hn c2 : Nat) (x : World) : Prop where
  lg : Bxs x w.heap.size 36 #[.slice q n cq, .slice p m cp, .int .i64 now]
  po : Bxs x (w.heap.size + 1) 40 #[.slice p1 un c1, .slice p2 hn c2]
  rs : Bxs x (w.heap.size + 2) 50 #[.slice none 0 0, .slice none 0 0, .int .i64 0, .int .i64 0, .int .i64 0]
  bel : Below w.heap.size w x
theorem AfB.below {w x y : World} {q : Option Addr} {n cq : Nat} {p : Option Addr} {m cp : Nat} {now : Int} {p1 : Option Addr} {un c1 : Nat} {p2 : Option Addr} {hn c2 : Nat} (h : AfB w q n cq p m cp now p1 un c1 p2 hn c2 x) (hb : Below x.heap.size x y) : AfB w q n cq p m cp now p1 un c1 p2 hn c2 y := ⟨h.lg.below hb, h.po.below hb, h.rs.below hb, chainB h.bel hb⟩
theorem AfB.five {w x : World} {q : Option Addr} {n cq : Nat} {p : Option Addr} {m cp : Nat} {now : Int} {p1 : Option Addr} {un c1 : Nat} {p2 : Option Addr} {hn c2 : Nat} (h : AfB w q n cq p m cp now p1 un c1 p2 hn c2 x) : x.cell? ⟨w.heap.size, 0, none⟩ = some (.slice q n cq) ∧ x.cell? ⟨w.heap.size, 1, none⟩ = some (.slice p m cp) ∧ x.cell? ⟨w.heap.size, 2, none⟩ = some (.int .i64 now) ∧ x.cell? ⟨w.heap.size + 1, 0, none⟩ = some (.slice p1 un c1) ∧ x.cell? ⟨w.heap.size + 1, 1, none⟩ = some (.slice p2 hn c2) := ⟨h.lg.cell 0, h.lg.cell 1, h.lg.cell 2, h.po.cell 0, h.po.cell 1⟩
theorem AfB.res {w x : World} {q : Option Addr} {n cq : Nat} {p : Option Addr} {m cp : Nat} {now : Int} {p1 : Option Addr} {un c1 : Nat} {p2 : Option Addr} {hn c2 : Nat} (h : AfB w q n cq p m cp now p1 un c1 p2 hn c2 x) : x.cell? ⟨w.heap.size + 2, 0, none⟩ = some (.slice none 0 0) ∧ x.cell? ⟨w.heap.size + 2, 1, none⟩ = some (.slice none 0 0) ∧ x.cell? ⟨w.heap.size + 2, 2, none⟩ = some (.int .i64 0) ∧ x.cell? ⟨w.heap.size + 2, 3, none⟩ = some (.int .i64 0) ∧ x.cell? ⟨w.heap.size + 2, 4, none⟩ = some (.int .i64 0) ∧ x.frozen? ⟨w.heap.size + 2, 0, none⟩ = false ∧ x.frozen? ⟨w.heap.size + 2, 1, none⟩ = false ∧ x.frozen? ⟨w.heap.size + 2, 2, none⟩ = false ∧ x.frozen? ⟨w.heap.size + 2, 3, none⟩ = false ∧ x.frozen? ⟨w.heap.size + 2, 4, none⟩ = false := ⟨h.rs.cell 0, h.rs.cell 1, h.rs.cell 2, h.rs.cell 3, h.rs.cell 4, h.rs.fr 0, h.rs.fr 1, h.rs.fr 2, h.rs.fr 3, h.rs.fr 4⟩
theorem af_boxes {w W3 : World} {q : Option Addr} {n cq : Nat} {p : Option Addr} {m cp : Nat} {now : Int} {p1 : Option Addr} {un c1 : Nat} {p2 : Option Addr} {hn c2 : Nat} (h : W3 = ((w.alloc (.cells #[.slice q n cq, .slice p m cp, .int .i64 now] 36)).alloc (.cells #[.slice p1 un c1, .slice p2 hn c2] 40)).alloc (.cells #[.slice none 0 0, .slice none 0 0, .int .i64 0, .int .i64 0, .int .i64 0] 50)) : AfB w q n cq p m cp now p1 un c1 p2 hn c2 W3 := by
  subst h
  have h1 := Bxs.new (w.alloc (.cells #[.slice q n cq, .slice p m cp, .int .i64 now] 36)) 40 #[.slice p1 un c1, .slice p2 hn c2]
  rw [szA] at h1
  have h2 := Bxs.new ((w.alloc (.cells #[.slice q n cq, .slice p m cp, .int .i64 now] 36)).alloc (.cells #[.slice p1 un c1, .slice p2 hn c2] 40)) 50 #[.slice none 0 0, .slice none 0 0, .int .i64 0, .int .i64 0, .int .i64 0]
  rw [szA, szA] at h2
  exact ⟨((Bxs.new _ _ _).alloc _).alloc _, h1.alloc _, h2, alB (alB ((Below.refl _ _).alloc (Nat.le_refl _) _) _) _⟩
theorem sw_put {w x : World} {base g : Nat} (h : Bxs x g 50 #[.slice none 0 0, .slice none 0 0, .int .i64 0, .int .i64 0, .int .i64 0]) (hg : w.heap.size ≤ g) (hb : Below w.heap.size w x) {xs : List (Rw × Value)} {lv : List ByteArray} {v1 v2 : Value} (o : LgO base xs lv v1 v2 x) (u0 u1 u2 u3 u4 : Value) :
    Bxs (((((x.setCell ⟨g, 0, none⟩ u0).setCell ⟨g, 1, none⟩ u1).setCell ⟨g, 2, none⟩ u2).setCell ⟨g, 3, none⟩ u3).setCell ⟨g, 4, none⟩ u4) g 50 #[u0, u1, u2, u3, u4] ∧ LgO base xs lv v1 v2 (((((x.setCell ⟨g, 0, none⟩ u0).setCell ⟨g, 1, none⟩ u1).setCell ⟨g, 2, none⟩ u2).setCell ⟨g, 3, none⟩ u3).setCell ⟨g, 4, none⟩ u4) ∧ Below w.heap.size w (((((x.setCell ⟨g, 0, none⟩ u0).setCell ⟨g, 1, none⟩ u1).setCell ⟨g, 2, none⟩ u2).setCell ⟨g, 3, none⟩ u3).setCell ⟨g, 4, none⟩ u4) :=
  ⟨((((h.set 0 _).set 1 _).set 2 _).set 3 _).set 4 _, ((((o.box h (by decide) (by decide) (by decide) (set_grw x _ 0 u0)).box (h.set 0 u0) (by decide) (by decide) (by decide) (set_grw _ _ 1 u1)).box ((h.set 0 u0).set 1 u1) (by decide) (by decide) (by decide) (set_grw _ _ 2 u2)).box (((h.set 0 u0).set 1 u1).set 2 u2) (by decide) (by decide) (by decide) (set_grw _ _ 3 u3)).box ((((h.set 0 u0).set 1 u1).set 2 u2).set 3 u3) (by decide) (by decide) (by decide) (set_grw _ _ 4 u4), below_set5 hb hg _ _ _ _ _⟩
end Go.Proofs.YtokkeadbkeehgaaGreatDoor
