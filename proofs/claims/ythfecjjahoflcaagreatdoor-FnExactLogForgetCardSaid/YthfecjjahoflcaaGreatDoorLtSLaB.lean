/-
  Parts of one proof, laid as one text: LtS, LaB; what each says stands at its head.
-/
import Derived.Test.YthfecjjahoflcaaGreatDoorRows
import Derived.Test.YthfecjjahoflcaaGreatDoorBytesDigMathTreeMath
import Derived.Test.YthfecjjahoflcaaGreatDoorSlASlBBxKOwnSTakesLTillTwo
import Derived.Test.YthfecjjahoflcaaGreatDoorJoinedPutTextFldMathFldGShwK
import Derived.Test.YthfecjjahoflcaaGreatDoorTimeBPutMathPutNum
import Derived.Test.YthfecjjahoflcaaGreatDoorLgMathLgAtKRwBlkLawF
import Derived.Test.YthfecjjahoflcaaGreatDoorLawLoLawLqLgAnsLgRtLtMathLawLt
import Derived.Test.YthfecjjahoflcaaGreatDoorLawLkRowOpsLgO
import Derived.Test.YthfecjjahoflcaaGreatDoorSpecLr
import Derived.Test.YthfecjjahoflcaaGreatDoorAll2FldIsFldC
import Derived.Test.YthfecjjahoflcaaGreatDoorSpecCl
import Derived.Handy
import Derived.WalkSpells
import Derived.OwnWalk
import Derived.Deep.Cut
import Derived.Test.YthfecjjahoflcaaGreatDoorLaMathLfMathLfSumStepAppOwnBTurn2
/-
  What the specification's LogTime answers: 'ltC' and the log, in new memory.
-/
namespace Go.Proofs.YthfecjjahoflcaaGreatDoor
open Go.RowKit Go.Lib
set_option linter.unusedVariables false
set_option maxRecDepth 20000

theorem l09Ill_any (c : Int) (w : World) : Calls Tryz.prog 26 #[.int .i64 c] w fun e w' => e = .returned (.agg #[.slice none 0 0, .slice none 0 0, .int .i64 0, .int .i64 c]) ∧ Below w.heap.size w w' := by
  have HE : Hid (Below w.heap.size w (w.alloc (.cells #[.slice none 0 0, .slice none 0 0, .int .i64 0, .int .i64 c] 35))) := (Below.refl _ _).alloc (Nat.le_refl _) _
  go_enter Tryz.func26, Tryz.ntmps26
  go_wp2_with fail
  refine bodyPost_ret (v := .agg #[.slice none 0 0, .slice none 0 0, .int .i64 0, .int .i64 c]) (by simp [results, Tryz.results26, go_sem]) rfl ?_
  exact ⟨rfl, HE.out⟩
theorem rB_len {r : Rw} (h : rB r = true) : 1 ≤ r.fs.length ∧ r.fs.length ≤ 3 := by
  unfold rB rwB at h
  simp only [Bool.and_eq_true, decide_eq_true_iff] at h
  omega
end Go.Proofs.YthfecjjahoflcaaGreatDoor
/-
  LogAdd's boxes.
-/
namespace Go.Proofs.YthfecjjahoflcaaGreatDoor
open Go.RowKit Go.Lib
set_option linter.unusedVariables false
set_option maxRecDepth 20000

structure LaB (w : World) (q : Option Addr) (n cq : Nat) (p : Option Addr) (m cp : Nat) (now : Int) (k : ByteArray) (a : Int) (rq : Option Addr) (f rc : Nat) (x : World) : Prop where
  lg : Bxs x w.heap.size 33 #[.slice q n cq, .slice p m cp, .int .i64 now]
  rw : Bxs x (w.heap.size + 1) 40 #[.string k, .int .i64 a, .slice rq f rc]
  rs : Bxs x (w.heap.size + 2) 35 #[.slice none 0 0, .slice none 0 0, .int .i64 0, .int .i64 0]
  bel : Below w.heap.size w x
theorem LaB.below {w x y : World} {q : Option Addr} {n cq : Nat} {p : Option Addr} {m cp : Nat} {now : Int} {k : ByteArray} {a : Int} {rq : Option Addr} {f rc : Nat} (h : LaB w q n cq p m cp now k a rq f rc x) (hb : Below x.heap.size x y) : LaB w q n cq p m cp now k a rq f rc y := ⟨h.lg.below hb, h.rw.below hb, h.rs.below hb, chainB h.bel hb⟩
theorem LaB.six {w x : World} {q : Option Addr} {n cq : Nat} {p : Option Addr} {m cp : Nat} {now : Int} {k : ByteArray} {a : Int} {rq : Option Addr} {f rc : Nat} (h : LaB w q n cq p m cp now k a rq f rc x) : x.cell? ⟨w.heap.size, 0, none⟩ = some (.slice q n cq) ∧ x.cell? ⟨w.heap.size, 1, none⟩ = some (.slice p m cp) ∧ x.cell? ⟨w.heap.size, 2, none⟩ = some (.int .i64 now) ∧ x.cell? ⟨w.heap.size + 1, 0, none⟩ = some (.string k) ∧ x.cell? ⟨w.heap.size + 1, 1, none⟩ = some (.int .i64 a) ∧ x.cell? ⟨w.heap.size + 1, 2, none⟩ = some (.slice rq f rc) := ⟨h.lg.cell 0, h.lg.cell 1, h.lg.cell 2, h.rw.cell 0, h.rw.cell 1, h.rw.cell 2⟩
theorem LaB.res {w x : World} {q : Option Addr} {n cq : Nat} {p : Option Addr} {m cp : Nat} {now : Int} {k : ByteArray} {a : Int} {rq : Option Addr} {f rc : Nat} (h : LaB w q n cq p m cp now k a rq f rc x) : x.cell? ⟨w.heap.size + 2, 0, none⟩ = some (.slice none 0 0) ∧ x.cell? ⟨w.heap.size + 2, 1, none⟩ = some (.slice none 0 0) ∧ x.cell? ⟨w.heap.size + 2, 2, none⟩ = some (.int .i64 0) ∧ x.cell? ⟨w.heap.size + 2, 3, none⟩ = some (.int .i64 0) ∧ x.frozen? ⟨w.heap.size + 2, 0, none⟩ = false ∧ x.frozen? ⟨w.heap.size + 2, 1, none⟩ = false ∧ x.frozen? ⟨w.heap.size + 2, 2, none⟩ = false ∧ x.frozen? ⟨w.heap.size + 2, 3, none⟩ = false := ⟨h.rs.cell 0, h.rs.cell 1, h.rs.cell 2, h.rs.cell 3, h.rs.fr 0, h.rs.fr 1, h.rs.fr 2, h.rs.fr 3⟩
theorem la_boxes {w W3 : World} {q : Option Addr} {n cq : Nat} {p : Option Addr} {m cp : Nat} {now : Int} {k : ByteArray} {a : Int} {rq : Option Addr} {f rc : Nat} (h : W3 = ((w.alloc (.cells #[.slice q n cq, .slice p m cp, .int .i64 now] 33)).alloc (.cells #[.string k, .int .i64 a, .slice rq f rc] 40)).alloc (.cells #[.slice none 0 0, .slice none 0 0, .int .i64 0, .int .i64 0] 35)) : LaB w q n cq p m cp now k a rq f rc W3 := by
  subst h
  have h1 := Bxs.new (w.alloc (.cells #[.slice q n cq, .slice p m cp, .int .i64 now] 33)) 40 #[.string k, .int .i64 a, .slice rq f rc]
  rw [szA] at h1
  have h2 := Bxs.new ((w.alloc (.cells #[.slice q n cq, .slice p m cp, .int .i64 now] 33)).alloc (.cells #[.string k, .int .i64 a, .slice rq f rc] 40)) 35 #[.slice none 0 0, .slice none 0 0, .int .i64 0, .int .i64 0]
  rw [szA, szA] at h2
  exact ⟨((Bxs.new _ _ _).alloc _).alloc _, h1.alloc _, h2, alB (alB ((Below.refl _ _).alloc (Nat.le_refl _) _) _) _⟩
theorem la_put {w x : World} {base g : Nat} (h : Bxs x g 35 #[.slice none 0 0, .slice none 0 0, .int .i64 0, .int .i64 0]) (hg : w.heap.size ≤ g) (hb : Below w.heap.size w x) {xs : List (Rw × Value)} {lv : List ByteArray} {v1 v2 : Value} (o : LgO base xs lv v1 v2 x) (u0 u1 u2 u3 : Value) :
    Bxs ((((x.setCell ⟨g, 0, none⟩ u0).setCell ⟨g, 1, none⟩ u1).setCell ⟨g, 2, none⟩ u2).setCell ⟨g, 3, none⟩ u3) g 35 #[u0, u1, u2, u3] ∧ LgO base xs lv v1 v2 ((((x.setCell ⟨g, 0, none⟩ u0).setCell ⟨g, 1, none⟩ u1).setCell ⟨g, 2, none⟩ u2).setCell ⟨g, 3, none⟩ u3) ∧ Below w.heap.size w ((((x.setCell ⟨g, 0, none⟩ u0).setCell ⟨g, 1, none⟩ u1).setCell ⟨g, 2, none⟩ u2).setCell ⟨g, 3, none⟩ u3) :=
  ⟨(((h.set 0 _).set 1 _).set 2 _).set 3 _, (((o.box h (by decide) (by decide) (by decide) (set_grw x _ 0 u0)).box (h.set 0 u0) (by decide) (by decide) (by decide) (set_grw _ _ 1 u1)).box ((h.set 0 u0).set 1 u1) (by decide) (by decide) (by decide) (set_grw _ _ 2 u2)).box (((h.set 0 u0).set 1 u1).set 2 u2) (by decide) (by decide) (by decide) (set_grw _ _ 3 u3), below_set4 hb hg _ _ _ _⟩
end Go.Proofs.YthfecjjahoflcaaGreatDoor
