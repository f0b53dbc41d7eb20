/-
  What HearHead answers (plain).
-/
import Derived.Test.YtfdihkgkiiekcaaDoorRows
import Derived.Test.YtfdihkgkiiekcaaDoorBytesDigMath
import Derived.Test.YtfdihkgkiiekcaaDoorSlASlBBxK
import Derived.Test.YtfdihkgkiiekcaaDoorLawSigLAudMathScanMath
import Derived.Test.YtfdihkgkiiekcaaDoorGetValGetTxtFldRdHdMath
import Derived.Test.YtfdihkgkiiekcaaDoorSignMath
import Derived.Test.YtfdihkgkiiekcaaDoorConMathProofLaw
import Derived.Handy
import Derived.OwnWalk
namespace Go.Proofs.YtfdihkgkiiekcaaDoor
open Go.RowKit Go.Lib
set_option linter.unusedVariables false
set_option maxRecDepth 20000

/-- The code, of what was asked: is the Auditor right, the head's code, is it signed, is it smaller, has the Auditor a Size, does it go on. -/
def hcC (A : Bool) (C : Int) (V L S K : Bool) : Int := if A = false then 1 else if C ≠ 0 then C else if V = false then 5 else if L = true then 8 else if (S && !K) = true then 10 else 0
def hcH (k : ByteArray) (s : Int) (r h : ByteArray) (key : Int) (ends path ss : List ByteArray) : Int :=
  hcC (audB k s r) (heaC h) (verA k h key ends path) (decide (heaS h < s)) (decide (0 < s)) (conA s (heaS h) ss r (heaR h))
def hhC (k : ByteArray) (s : Int) (r h : ByteArray) (key : Int) (ends path ss : List ByteArray) : Int :=
  if 8000 < h.size ∨ 400 < ss.length then 2 else hcH k s r h key ends path ss
def hhS (k : ByteArray) (s : Int) (r h : ByteArray) (key : Int) (ends path ss : List ByteArray) : Int := if hhC k s r h key ends path ss = 0 then heaS h else 0
def hhR (k : ByteArray) (s : Int) (r h : ByteArray) (key : Int) (ends path ss : List ByteArray) : ByteArray := if hhC k s r h key ends path ss = 0 then heaR h else ByteArray.empty
def hhK (k : ByteArray) (s : Int) (r h : ByteArray) (key : Int) (ends path ss : List ByteArray) : ByteArray := if hhC k s r h key ends path ss = 0 then k else ByteArray.empty
/-- The answer as a value, by its code. -/
def hhO (k : ByteArray) (C : Int) (S : Int) (R : ByteArray) : Value := if C = 0 then .agg #[.string k, .int .i64 S, .string R, .int .i64 0] else .agg #[.string ByteArray.empty, .int .i64 0, .string ByteArray.empty, .int .i64 C]
def hhV (k : ByteArray) (s : Int) (r h : ByteArray) (key : Int) (ends path ss : List ByteArray) : Value := .agg #[.string (hhK k s r h key ends path ss), .int .i64 (hhS k s r h key ends path ss), .string (hhR k s r h key ends path ss), .int .i64 (hhC k s r h key ends path ss)]
theorem hhV_long {k : ByteArray} {s : Int} {r h : ByteArray} {key : Int} {ends path ss : List ByteArray} (hl : 8000 < h.size ∨ 400 < ss.length) : hhV k s r h key ends path ss = .agg #[.string ByteArray.empty, .int .i64 0, .string ByteArray.empty, .int .i64 2] := by
  have e : hhC k s r h key ends path ss = 2 := if_pos hl
  unfold hhV hhK hhS hhR
  rw [e, if_neg (by decide), if_neg (by decide), if_neg (by decide)]
theorem hhV_some {k : ByteArray} {s : Int} {r h : ByteArray} {key : Int} {ends path ss : List ByteArray} (hl : ¬ (8000 < h.size ∨ 400 < ss.length)) : hhV k s r h key ends path ss = hhO k (hcH k s r h key ends path ss) (heaS h) (heaR h) := by
  have e : hhC k s r h key ends path ss = hcH k s r h key ends path ss := if_neg hl
  unfold hhV hhK hhS hhR hhO
  rw [e]
  by_cases h0 : hcH k s r h key ends path ss = 0
  · rw [if_pos h0, if_pos h0, if_pos h0, if_pos h0, h0]
  · rw [if_neg h0, if_neg h0, if_neg h0, if_neg h0]
theorem hhO_bad {k : ByteArray} {C S : Int} {R : ByteArray} (h : C ≠ 0) : hhO k C S R = .agg #[.string ByteArray.empty, .int .i64 0, .string ByteArray.empty, .int .i64 C] := if_neg h
theorem hhO_good {k : ByteArray} {S : Int} {R : ByteArray} : hhO k 0 S R = .agg #[.string k, .int .i64 S, .string R, .int .i64 0] := if_pos rfl
theorem hc1 {C : Int} {V L S K : Bool} : hcC false C V L S K = 1 := rfl
theorem hc2 {C : Int} {V L S K : Bool} (h : C ≠ 0) : hcC true C V L S K = C := by unfold hcC; rw [if_neg (by decide), if_pos h]
theorem hc3 {L S K : Bool} : hcC true 0 false L S K = 5 := rfl
theorem hc4 {S K : Bool} : hcC true 0 true true S K = 8 := rfl
theorem hc5 : hcC true 0 true false true false = 10 := rfl
theorem hc6 {K : Bool} : hcC true 0 true false false K = 0 := rfl
theorem hc7 {S : Bool} : hcC true 0 true false S true = 0 := by cases S <;> rfl
/-- The Auditor, the Sig and the answer in their boxes. -/
structure HrB (w : World) (k : ByteArray) (s : Int) (r : ByteArray) (key : Int) (v1 v2 : Value) (x : World) : Prop where
  a : Bxs x w.heap.size 30 #[.string k, .int .i64 s, .string r]
  g : Bxs x (w.heap.size + 1) 35 #[.int .i64 key, v1, v2]
  bel : Below w.heap.size w x
theorem HrB.below {w x y : World} {k : ByteArray} {s : Int} {r : ByteArray} {key : Int} {v1 v2 : Value} (h : HrB w k s r key v1 v2 x) (hb : Below x.heap.size x y) : HrB w k s r key v1 v2 y := ⟨h.a.below hb, h.g.below hb, chainB h.bel hb⟩
theorem HrB.six {w x : World} {k : ByteArray} {s : Int} {r : ByteArray} {key : Int} {v1 v2 : Value} (h : HrB w k s r key v1 v2 x) : x.cell? ⟨w.heap.size, 0, none⟩ = some (.string k) ∧ x.cell? ⟨w.heap.size, 1, none⟩ = some (.int .i64 s) ∧ x.cell? ⟨w.heap.size, 2, none⟩ = some (.string r) ∧ x.cell? ⟨w.heap.size + 1, 0, none⟩ = some (.int .i64 key) ∧ x.cell? ⟨w.heap.size + 1, 1, none⟩ = some v1 ∧ x.cell? ⟨w.heap.size + 1, 2, none⟩ = some v2 := ⟨h.a.cell 0, h.a.cell 1, h.a.cell 2, h.g.cell 0, h.g.cell 1, h.g.cell 2⟩
theorem HrB.new (w : World) (k : ByteArray) (s : Int) (r : ByteArray) (key : Int) (v1 v2 : Value) : HrB w k s r key v1 v2 ((w.alloc (.cells #[.string k, .int .i64 s, .string r] 30)).alloc (.cells #[.int .i64 key, v1, v2] 35)) := by
  have h := Bxs.new (w.alloc (.cells #[.string k, .int .i64 s, .string r] 30)) 35 #[.int .i64 key, v1, v2]
  rw [szA] at h
  exact ⟨(Bxs.new _ _ _).alloc _, h, alB ((Below.refl _ _).alloc (Nat.le_refl _) _) _⟩
/-- The answer's box. -/
structure HrR (w : World) (x : World) : Prop where
  rs : Bxs x (w.heap.size + 2) 32 #[.string ByteArray.empty, .int .i64 0, .string ByteArray.empty, .int .i64 0]
  bel : Below w.heap.size w x
theorem HrR.below {w x y : World} (h : HrR w x) (hb : Below x.heap.size x y) : HrR w y := ⟨h.rs.below hb, chainB h.bel hb⟩
theorem HrR.end4 {w x : World} (h : HrR w x) (v0 v1 v2 v3 : Value) :
    Bxs ((((x.setCell ⟨w.heap.size + 2, 0, none⟩ v0).setCell ⟨w.heap.size + 2, 1, none⟩ v1).setCell ⟨w.heap.size + 2, 2, none⟩ v2).setCell ⟨w.heap.size + 2, 3, none⟩ v3) (w.heap.size + 2) 32 #[v0, v1, v2, v3] ∧ Below w.heap.size w ((((x.setCell ⟨w.heap.size + 2, 0, none⟩ v0).setCell ⟨w.heap.size + 2, 1, none⟩ v1).setCell ⟨w.heap.size + 2, 2, none⟩ v2).setCell ⟨w.heap.size + 2, 3, none⟩ v3) :=
  ⟨(((h.rs.set 0 _).set 1 _).set 2 _).set 3 _, below_set4 h.bel (by omega) _ _ _ _⟩
theorem HrR.eight {w x : World} (h : HrR w x) : x.cell? ⟨w.heap.size + 2, 0, none⟩ = some (.string ByteArray.empty) ∧ x.cell? ⟨w.heap.size + 2, 1, none⟩ = some (.int .i64 0) ∧ x.cell? ⟨w.heap.size + 2, 2, none⟩ = some (.string ByteArray.empty) ∧ x.cell? ⟨w.heap.size + 2, 3, none⟩ = some (.int .i64 0) ∧ x.frozen? ⟨w.heap.size + 2, 0, none⟩ = false ∧ x.frozen? ⟨w.heap.size + 2, 1, none⟩ = false ∧ x.frozen? ⟨w.heap.size + 2, 2, none⟩ = false ∧ x.frozen? ⟨w.heap.size + 2, 3, none⟩ = false := ⟨h.rs.cell 0, h.rs.cell 1, h.rs.cell 2, h.rs.cell 3, h.rs.fr 0, h.rs.fr 1, h.rs.fr 2, h.rs.fr 3⟩
theorem hear_boxes (w : World) (k : ByteArray) (s : Int) (r : ByteArray) (key : Int) (v1 v2 : Value) {W3 : World} (h : W3 = ((w.alloc (.cells #[.string k, .int .i64 s, .string r] 30)).alloc (.cells #[.int .i64 key, v1, v2] 35)).alloc (.cells #[.string ⟨#[]⟩, .int .i64 0, .string ⟨#[]⟩, .int .i64 0] 32)) : HrB w k s r key v1 v2 W3 ∧ HrR w W3 := by
  subst h
  have h1 := HrB.new w k s r key v1 v2
  have h := Bxs.new ((w.alloc (.cells #[.string k, .int .i64 s, .string r] 30)).alloc (.cells #[.int .i64 key, v1, v2] 35)) 32 #[.string ⟨#[]⟩, .int .i64 0, .string ⟨#[]⟩, .int .i64 0]
  rw [szA, szA] at h
  exact ⟨h1.below ((Below.refl _ _).alloc (Nat.le_refl _) _), h, alB h1.bel _⟩
end Go.Proofs.YtfdihkgkiiekcaaDoor
