/-
  Parts of one proof, laid as one text: LgAns, LgRt, LtMath, LawLt, FldIs, OwnB, Turn2; what each says stands at its head.
-/
import Derived.Test.YtnahmddbmmnilaaGreatDoorRows
import Derived.Test.YtnahmddbmmnilaaGreatDoorBytesDigMath
import Derived.Test.YtnahmddbmmnilaaGreatDoorJoinedPutTextFldMathFldRiseScanMath
import Derived.Test.YtnahmddbmmnilaaGreatDoorGetValGetTxtNumMathFldRdNumFromTmbMath
import Derived.Test.YtnahmddbmmnilaaGreatDoorLgMathLgAtKShwK
import Derived.Test.YtnahmddbmmnilaaGreatDoorSlASlBBxKOwnS
import Derived.Test.YtnahmddbmmnilaaGreatDoorTreeMath
import Derived.Test.YtnahmddbmmnilaaGreatDoorTimeBPutMathPutNum
import Derived.Handy
import Derived.Test.YtnahmddbmmnilaaGreatDoorOneKFldGFldBlkRwBlkTakes
import Derived.Test.YtnahmddbmmnilaaGreatDoorLawLkRowOpsLgO
import Derived.OwnWalk
import Derived.Test.YtnahmddbmmnilaaGreatDoorLawLhLawLz
import Derived.Test.YtnahmddbmmnilaaGreatDoorLawFMLawLm
import Derived.Test.YtnahmddbmmnilaaGreatDoorLawLo
import Derived.Test.YtnahmddbmmnilaaGreatDoorLawLq
import Derived.WalkSpells
import Derived.WalkSmall
import Derived.ArgAppend
import Derived.Lib.LazyBuf
import Derived.Laws.BytesArg
import Derived.Laws.OwnMore
import Derived.Deep.AppendLies
/-
  What is told of a log, in plain mathematics: the place of a row's leaf, the code and the status of a field.
-/
namespace Go.Proofs.YtnahmddbmmnilaaGreatDoor
open Go.RowKit Go.Lib
set_option linter.unusedVariables false

def plFrom (row : Int) : Nat → Nat → List ByteArray → Int
  | _, _, [] => -1
  | n, i, t :: ts => if isRl t = true then (if (n : Int) = row then (i : Int) else plFrom row (n + 1) (i + 1) ts) else plFrom row n (i + 1) ts
def plB (lv : List ByteArray) (row : Int) : Int := plFrom row 0 0 lv
def plO (rs : List Rw) (lv : List ByteArray) (now r : Int) : Int := if lgB rs lv now = true then plB lv r else -1
def tbO (rs : List Rw) (lv : List ByteArray) (now r f : Int) : Int := if lgB rs lv now = true then tbAt lv r f else -1
/-- The code of a field: it is there, it is gone, there is none. -/
def fcO (rs : List Rw) (r f : Int) : Int := if 0 ≤ r ∧ r ≤ (rs.length : Int) - 1 then (if 0 ≤ f ∧ f ≤ ((rs.getD r.toNat rwZ).fs.length : Int) - 1 then (if (fldOf rs r f).g = true then 7 else 0) else 6) else 6
def gcO (rs : List Rw) (lv : List ByteArray) (now r f : Int) : Int := if lgB rs lv now = true then fcO rs r f else 1
def stC (c : Int) : Int := if c = 0 then 1 else if c = 7 then 2 else 0
def stO (rs : List Rw) (lv : List ByteArray) (now r f : Int) : Int := if lgB rs lv now = true then stC (fcO rs r f) else 0
theorem stO_gc (rs : List Rw) (lv : List ByteArray) (now r f : Int) : stO rs lv now r f = stC (gcO rs lv now r f) := by
  unfold stO gcO
  split
  · rfl
  · rfl
theorem fcO_cases (rs : List Rw) (r f : Int) : fcO rs r f = 0 ∨ fcO rs r f = 7 ∨ fcO rs r f = 6 := by
  unfold fcO
  split
  · split
    · split
      · exact .inr (.inl rfl)
      · exact .inl rfl
    · exact .inr (.inr rfl)
  · exact .inr (.inr rfl)
theorem lg_right {rs : List Rw} {lv : List ByteArray} {now : Int} (h : lgB rs lv now = true) : rs.length ≤ 6 ∧ lv.length ≤ 64 ∧ (∀ r ∈ rs, rB r = true) := by
  unfold lgB at h
  simp only [Bool.and_eq_true, decide_eq_true_iff] at h
  refine ⟨h.1, h.2.1, fun r hr => ?_⟩
  have h2 := h.2.2.2.1
  unfold rsB at h2
  rw [List.all_eq_true] at h2
  exact (Bool.and_eq_true_iff.1 (h2 r hr)).1
end Go.Proofs.YtnahmddbmmnilaaGreatDoor
/-
  The root of a log's first leaves and its head, in plain mathematics; the leaves of a right log are small.
-/
namespace Go.Proofs.YtnahmddbmmnilaaGreatDoor
open Go.RowKit Go.Lib
set_option linter.unusedVariables false

def roO (rs : List Rw) (lv : List ByteArray) (now n : Int) : ByteArray := if lgB rs lv now = true then (if 0 ≤ n ∧ n ≤ (lv.length : Int) then treeB (lv.take n.toNat) else ByteArray.empty) else ByteArray.empty
def hdB (lv : List ByteArray) : ByteArray := putB (lv.length : Int) ++ putTextB (treeB lv)
def hdO (rs : List Rw) (lv : List ByteArray) (now : Int) : ByteArray := if lgB rs lv now = true then hdB lv else ByteArray.empty
theorem go_small (rs : List Rw) (now : Int) : ∀ (suf pre : List ByteArray) (n n' : Nat), cGo rs now pre n suf = some n' → ∀ t ∈ suf, t.size ≤ 100
  | [], _, _, _, _ => fun t h => by cases h
  | t :: ts, pre, n, n', h => by
    rw [cGo] at h
    have each : ∀ {m : Nat} {q : List ByteArray}, t.size ≤ 100 → cGo rs now q m ts = some n' → ∀ x ∈ t :: ts, x.size ≤ 100 := fun ht hc x hx => by
      rcases List.mem_cons.1 hx with rfl | hx
      · exact ht
      · exact go_small rs now ts _ _ _ hc x hx
    split at h
    · rename_i hn
      refine each ?_ h
      rw [((nx_iff _ _ _).1 hn).2]
      unfold rlB
      rw [ByteArray.size_append, digB_size]
      show 1 + 32 ≤ 100
      omega
    · split at h
      · rename_i hn ho
        refine each ?_ h
        unfold okT at ho
        simp only [Bool.and_eq_true, decide_eq_true_iff] at ho
        obtain ⟨-, -, hR, -⟩ := tr_sound ho.1
        have := (tmRaw_size (trT t)).2
        rw [hR] at this
        omega
      · cases h
theorem lg_small {rs : List Rw} {lv : List ByteArray} {now : Int} (h : lgB rs lv now = true) : ∀ t ∈ lv, t.size ≤ 100 := by
  rw [lg_eq] at h
  unfold imB at h
  simp only [Bool.and_eq_true] at h
  cases hc : cGo rs now [] 0 lv with
  | none => rw [hc] at h; exact absurd h.2.2 (by simp)
  | some n => exact go_small rs now lv [] 0 n hc
theorem ent_take {lv : List ByteArray} (h1 : lv.length ≤ 64) (h2 : ∀ t ∈ lv, t.size ≤ 100) (k : Nat) : entB (lv.take k) = true :=
  entB_true (by simp; omega) (fun j hj => h2 _ (List.mem_of_mem_take (List.getElem_mem hj)))
theorem rtSize (wx : World) : (sizeOf (Tryz.prog.elem 24)).run Tryz.prog wx = .ok 1 wx := by kernel_rfl
theorem rtElem : Tryz.prog.underlying 24 = some (.slice (Tryz.prog.elem 24)) := by kernel_rfl
theorem sl_to (q : Option Addr) (n c k : Nat) (hk : k ≤ c) (wx : World) : (Instr.slice 24 (.slice q n c) none (some (.int .i64 (k : Int))) none).run Tryz.prog wx = .ok (.slice q k c) wx := by
  rw [run_slice_h (P := Tryz.prog) wx 24 q n c rtElem .i64 (k : Int) (by omega) (by omega), rtSize]
  cases q <;> simp [sliced, Result.andThen, Addr.add]
theorem rtSizeL (wx : World) : (sizeOf (Tryz.prog.elem 101)).run Tryz.prog wx = .ok 1 wx := by kernel_rfl
theorem rtElemL : Tryz.prog.underlying 101 = some (.slice (Tryz.prog.elem 101)) := by kernel_rfl
theorem sl_lv (q : Option Addr) (n c k : Nat) (hk : k ≤ c) (wx : World) : (Instr.slice 101 (.slice q n c) none (some (.int .i64 (k : Int))) none).run Tryz.prog wx = .ok (.slice q k c) wx := by
  rw [run_slice_h (P := Tryz.prog) wx 101 q n c rtElemL .i64 (k : Int) (by omega) (by omega), rtSizeL]
  cases q <;> simp [sliced, Result.andThen, Addr.add]
theorem putTextB_32 {t : ByteArray} (h : t.size = 32) : (putTextB t).size ≤ 42 := by
  have := putTextB_le t (by omega)
  omega
end Go.Proofs.YtnahmddbmmnilaaGreatDoor
/-
  A LogOut in new memory; what LogTime answers (plain).
-/
namespace Go.Proofs.YtnahmddbmmnilaaGreatDoor
open Go.RowKit Go.Lib
set_option linter.unusedVariables false
set_option maxRecDepth 20000

/-- A LogOut of its own memory. -/
def LgA (base : Nat) (rs : List Rw) (lv : List ByteArray) (now C : Int) (e : Ending) (w : World) : Prop := ∃ v1 v2 xs, e = .returned (.agg #[v1, v2, .int .i64 now, .int .i64 C]) ∧ xs.map (·.1) = rs ∧ LgO base xs lv v1 v2 w
theorem LgA.ill (base : Nat) (C : Int) (w : World) : LgA base [] [] 0 C (.returned (.agg #[.slice none 0 0, .slice none 0 0, .int .i64 0, .int .i64 C])) w := ⟨_, _, [], rfl, rfl, LgO.nil _ _⟩
def mxB (a b : Int) : Int := if a < b then b else a
def ltB (rs : List Rw) (lv : List ByteArray) (now t : Int) : Bool := lgB rs lv now && timeB t
def ltC (rs : List Rw) (lv : List ByteArray) (now t : Int) : Int := if ltB rs lv now t = true then 0 else 1
def ltR (rs : List Rw) (lv : List ByteArray) (now t : Int) : List Rw := if ltB rs lv now t = true then rs else []
def ltL (rs : List Rw) (lv : List ByteArray) (now t : Int) : List ByteArray := if ltB rs lv now t = true then lv else []
def ltN (rs : List Rw) (lv : List ByteArray) (now t : Int) : Int := if ltB rs lv now t = true then mxB now t else 0
/-- The log's box and the answer's, as LogTime begins. -/
structure LtB (w : World) (q : Option Addr) (n cq : Nat) (p : Option Addr) (m cp : Nat) (now : Int) (x : World) : Prop where
  lg : Bxs x w.heap.size 26 #[.slice q n cq, .slice p m cp, .int .i64 now]
  rs : Bxs x (w.heap.size + 1) 33 #[.slice none 0 0, .slice none 0 0, .int .i64 0, .int .i64 0]
  bel : Below w.heap.size w x
theorem LtB.below {w x y : World} {q : Option Addr} {n cq : Nat} {p : Option Addr} {m cp : Nat} {now : Int} (h : LtB w q n cq p m cp now x) (hb : Below x.heap.size x y) : LtB w q n cq p m cp now y := ⟨h.lg.below hb, h.rs.below hb, chainB h.bel hb⟩
theorem LtB.thr {w x : World} {q : Option Addr} {n cq : Nat} {p : Option Addr} {m cp : Nat} {now : Int} (h : LtB w q n cq p m cp now x) : x.cell? ⟨w.heap.size, 0, none⟩ = some (.slice q n cq) ∧ x.cell? ⟨w.heap.size, 1, none⟩ = some (.slice p m cp) ∧ x.cell? ⟨w.heap.size, 2, none⟩ = some (.int .i64 now) := ⟨h.lg.cell 0, h.lg.cell 1, h.lg.cell 2⟩
theorem LtB.res {w x : World} {q : Option Addr} {n cq : Nat} {p : Option Addr} {m cp : Nat} {now : Int} (h : LtB w q n cq p m cp now x) : x.cell? ⟨w.heap.size + 1, 0, none⟩ = some (.slice none 0 0) ∧ x.cell? ⟨w.heap.size + 1, 1, none⟩ = some (.slice none 0 0) ∧ x.cell? ⟨w.heap.size + 1, 2, none⟩ = some (.int .i64 0) ∧ x.cell? ⟨w.heap.size + 1, 3, none⟩ = some (.int .i64 0) ∧ x.frozen? ⟨w.heap.size + 1, 0, none⟩ = false ∧ x.frozen? ⟨w.heap.size + 1, 1, none⟩ = false ∧ x.frozen? ⟨w.heap.size + 1, 2, none⟩ = false ∧ x.frozen? ⟨w.heap.size + 1, 3, none⟩ = false := ⟨h.rs.cell 0, h.rs.cell 1, h.rs.cell 2, h.rs.cell 3, h.rs.fr 0, h.rs.fr 1, h.rs.fr 2, h.rs.fr 3⟩
/-- The answer is written into its box: what a log of its own is stays one. -/
theorem LtB.put {w x y : World} {base : Nat} {q : Option Addr} {n cq : Nat} {p : Option Addr} {m cp : Nat} {now : Int} (h : Bxs x (w.heap.size + 1) 33 #[.slice none 0 0, .slice none 0 0, .int .i64 0, .int .i64 0]) (hb : Below w.heap.size w x) {xs : List (Rw × Value)} {lv : List ByteArray} {v1 v2 : Value} (o : LgO base xs lv v1 v2 x) (u0 u1 u2 u3 : Value) :
    Bxs ((((x.setCell ⟨w.heap.size + 1, 0, none⟩ u0).setCell ⟨w.heap.size + 1, 1, none⟩ u1).setCell ⟨w.heap.size + 1, 2, none⟩ u2).setCell ⟨w.heap.size + 1, 3, none⟩ u3) (w.heap.size + 1) 33 #[u0, u1, u2, u3] ∧ LgO base xs lv v1 v2 ((((x.setCell ⟨w.heap.size + 1, 0, none⟩ u0).setCell ⟨w.heap.size + 1, 1, none⟩ u1).setCell ⟨w.heap.size + 1, 2, none⟩ u2).setCell ⟨w.heap.size + 1, 3, none⟩ u3) ∧ Below w.heap.size w ((((x.setCell ⟨w.heap.size + 1, 0, none⟩ u0).setCell ⟨w.heap.size + 1, 1, none⟩ u1).setCell ⟨w.heap.size + 1, 2, none⟩ u2).setCell ⟨w.heap.size + 1, 3, none⟩ u3) :=
  ⟨(((h.set 0 _).set 1 _).set 2 _).set 3 _, (((o.box h (by decide) (by decide) (by decide) (set_grw x _ 0 u0)).box (h.set 0 u0) (by decide) (by decide) (by decide) (set_grw _ _ 1 u1)).box ((h.set 0 u0).set 1 u1) (by decide) (by decide) (by decide) (set_grw _ _ 2 u2)).box (((h.set 0 u0).set 1 u1).set 2 u2) (by decide) (by decide) (by decide) (set_grw _ _ 3 u3), below_set4 hb (by omega) _ _ _ _⟩
theorem lt_boxes (w : World) (q : Option Addr) (n cq : Nat) (p : Option Addr) (m cp : Nat) (now : Int) {W2 : World} (h : W2 = (w.alloc (.cells #[.slice q n cq, .slice p m cp, .int .i64 now] 26)).alloc (.cells #[.slice none 0 0, .slice none 0 0, .int .i64 0, .int .i64 0] 33)) : LtB w q n cq p m cp now W2 := by
  subst h
  have h := Bxs.new (w.alloc (.cells #[.slice q n cq, .slice p m cp, .int .i64 now] 26)) 33 #[.slice none 0 0, .slice none 0 0, .int .i64 0, .int .i64 0]
  rw [szA] at h
  exact ⟨(Bxs.new _ _ _).alloc _, h, alB ((Below.refl _ _).alloc (Nat.le_refl _) _) _⟩
end Go.Proofs.YtnahmddbmmnilaaGreatDoor
/-
  What stays while a log and a LogOut are marked, in the walk of a law whose answer is a log.
-/
namespace Go.Proofs.YtnahmddbmmnilaaGreatDoor
open Go.RowKit Go.Lib
set_option linter.unusedVariables false

theorem LgO.but {S : Nat → Prop} {base : Nat} {xs : List (Rw × Value)} {lv : List ByteArray} {v1 v2 : Value} {w w' : World} (h : LgO base xs lv v1 v2 w) (k : But S w w') (hn : ∀ q, lqS xs v1 v2 q → ¬ S q) : LgO base xs lv v1 v2 w' :=
  ⟨⟨ownS_but h.rws.own k (fun g hg => hn g (.inl (.inl hg))), fun x hx => ownS_but (h.rws.fld x hx) k (fun g hg => hn g (.inl (.inr ⟨x, hx, hg⟩))), h.rws.ne⟩, ownS_but h.lvs k (fun g hg => hn g (.inr hg))⟩
theorem lt_sum {rs : List Rw} {lv : List ByteArray} {now t : Int} {N : Nat} (h : rs.length + fsN rs + lv.length ≤ N) : (ltR rs lv now t).length + fsN (ltR rs lv now t) + (ltL rs lv now t).length ≤ N := by
  unfold ltR ltL
  split
  · exact h
  · simp [fsN]
/-- What stays: the argument's box, two boxes of answers, a log of its own. -/
structure LtK (w : World) (A : Array Value) (E1 E8 : Nat) (c1 c8 : Array Value) (xs : List (Rw × Value)) (lv : List ByteArray) (v1 v2 : Value) (x : World) : Prop where
  bel : Below w.heap.size w x
  ba : Bxs x w.heap.size 74 A
  b1 : Bxs x E1 33 c1
  b8 : Bxs x E8 33 c8
  lw : LgO w.heap.size xs lv v1 v2 x
section
variable {w x y : World} {A c1 c8 : Array Value} {E1 E8 : Nat} {xs : List (Rw × Value)} {lv : List ByteArray} {v1 v2 : Value}
theorem LtK.below (h : LtK w A E1 E8 c1 c8 xs lv v1 v2 x) (hb : Below x.heap.size x y) : LtK w A E1 E8 c1 c8 xs lv v1 v2 y := ⟨chainB h.bel hb, h.ba.below hb, h.b1.below hb, h.b8.below hb, h.lw.below hb⟩
theorem LtK.but {S : Nat → Prop} (h : LtK w A E1 E8 c1 c8 xs lv v1 v2 x) (k : But S x y) (hS : ∀ q, S q → w.heap.size < q ∧ q ≠ E1 ∧ q ≠ E8 ∧ ¬ lqS xs v1 v2 q) : LtK w A E1 E8 c1 c8 xs lv v1 v2 y :=
  ⟨k.below h.bel h.bel.size (fun q hq => Nat.le_of_lt (hS q hq).1), h.ba.but k (fun e => by have := (hS _ e).1; omega), h.b1.but k (fun e => (hS _ e).2.1 rfl), h.b8.but k (fun e => (hS _ e).2.2.1 rfl), h.lw.but k (fun q hq hs => (hS q hs).2.2.2 hq)⟩
end
end Go.Proofs.YtnahmddbmmnilaaGreatDoor
/-
  What the specification's l07Is and l07Time answer.
-/
namespace Go.Proofs.YtnahmddbmmnilaaGreatDoor
open Go.RowKit Go.Lib
set_option linter.unusedVariables false
set_option maxRecDepth 20000

theorem l07Is_any (n lo hi : Int) (w : World) : Calls Tryz.prog 92 #[.int .i64 n, .int .i64 lo, .int .i64 hi] w fun e w' => e = .returned (.bool (decide (lo ≤ n ∧ n ≤ hi))) ∧ w' = w := by
  by_cases h1 : lo ≤ n
  · have d1 : decide (lo ≤ n) = true := decide_eq_true h1
    by_cases h2 : n ≤ hi
    · have d2 : decide (n ≤ hi) = true := decide_eq_true h2
      rw [decide_eq_true (And.intro h1 h2)]
      clear h1 h2
      go_enter Tryz.func92, Tryz.ntmps92
      go_wp2_with fail
      go_ret
      exact ⟨rfl, rfl⟩
    · have d2 : decide (n ≤ hi) = false := decide_eq_false h2
      rw [decide_eq_false (fun h => h2 h.2)]
      clear h1 h2
      go_enter Tryz.func92, Tryz.ntmps92
      go_wp2_with fail
      go_ret
      exact ⟨rfl, rfl⟩
  · have d1 : decide (lo ≤ n) = false := decide_eq_false h1
    rw [decide_eq_false (fun h => h1 h.1)]
    clear h1
    go_enter Tryz.func92, Tryz.ntmps92
    go_wp2_with fail
    go_ret
    exact ⟨rfl, rfl⟩
theorem l07Time_any (n : Int) (w : World) : Calls Tryz.prog 95 #[.int .i64 n] w fun e w' => e = .returned (.bool (timeB n)) ∧ w' = w := by
  have h := l07Is_any n 0 1000000 w
  unfold timeB
  generalize decide (0 ≤ n ∧ n ≤ 1000000) = bo at *
  go_enter Tryz.func95, Tryz.ntmps95
  go_wp2_with fail
  refine h.mono ?_
  rintro e w1 ⟨rfl, rfl⟩
  go_wp2_with fail
  go_ret
  exact ⟨rfl, rfl⟩
end Go.Proofs.YtnahmddbmmnilaaGreatDoor
/-
  A row of bytes that the call made, one byte more at a time, also where the row came of a string ('[]byte(s)': the run-time's mark behind its last cell).
  Conditions: the row stays below 2^46 bytes.
-/
namespace Go.Proofs.YtnahmddbmmnilaaGreatDoor
open Go.RowKit Go.Lib
set_option linter.unusedVariables false

structure OwnB (w : World) (base g cap : Nat) (xs : List Int) : Prop where
  lo : base ≤ g
  hi : g < w.heap.size
  fit : xs.length ≤ cap
  max : cap ≤ maxLen
  room : ∀ j, j < cap → (w.cell? ⟨g, j, none⟩).isSome = true ∧ w.frozen? ⟨g, j, none⟩ = false
  cells : ∀ j (h : j < xs.length), w.cell? ⟨g, j, none⟩ = some (.int .u8 xs[j])

theorem OwnB.carry {w w' : World} {base g cap : Nat} {xs : List Int} (h : OwnB w base g cap xs) (hs : w.heap.size ≤ w'.heap.size) (hb : w'.heap[g]? = w.heap[g]?) : OwnB w' base g cap xs :=
  ⟨h.lo, Nat.lt_of_lt_of_le h.hi hs, h.fit, h.max, fun j hj => by
    have e1 : w'.cell? ⟨g, j, none⟩ = w.cell? ⟨g, j, none⟩ := World.cell?_of_block hb
    have e2 : w'.frozen? ⟨g, j, none⟩ = w.frozen? ⟨g, j, none⟩ := World.frozen?_of_block hb
    rw [e1, e2]; exact h.room j hj, fun j hj => by
    have e1 : w'.cell? ⟨g, j, none⟩ = w.cell? ⟨g, j, none⟩ := World.cell?_of_block hb
    rw [e1]; exact h.cells j hj⟩
theorem OwnB.drew {w : World} {base g cap : Nat} {xs : List Int} (h : OwnB w base g cap xs) : OwnB w.drew base g cap xs := h.carry (Nat.le_refl _) rfl
theorem OwnB.alloc {w : World} {base g cap : Nat} {xs : List Int} (h : OwnB w base g cap xs) (o : Obj) : OwnB (w.alloc o) base g cap xs :=
  h.carry (by simp) (Below.heap_alloc w o g h.hi)
theorem OwnB.below {w w' : World} {base g cap : Nat} {xs : List Int} (h : OwnB w base g cap xs) (hb : Below w.heap.size w w') : OwnB w' base g cap xs :=
  h.carry hb.size (hb.block g h.hi)

theorem ownB_of_row {w : World} {base g n cap : Nat} {xs : List Int} {T : TypeId} (h : w.ownsRow base T 1 (.slice (some ⟨g, 0, none⟩) n cap) n (xs.map (Value.int .u8))) (hx : xs.length = n) : OwnB w base g cap xs := by
  have hlt := h.lt g rfl
  rcases h.2 with ⟨h0, _⟩ | ⟨g2, cap2, cur, hv, hb, hg, hn, hc, hs, ht⟩
  · cases h0
  · cases hv
    refine ⟨hb, hlt.2, by omega, hc, fun j hj => ?_, fun j hj => ?_⟩
    · have : j < cur.size := by omega
      simp [World.cell?, World.frozen?, hg, this]
    · rw [h.cellAt j (by omega)]
      simp [List.getElem?_eq_getElem hj]

theorem ownB_of_string (w : World) (s : ByteArray) (T : TypeId) (hs : s.size ≤ maxLen) :
    OwnB (w.drew.alloc (.cells (bytesRow s (grownCap w s.size 0 T)) T ((bytesRow s (grownCap w s.size 0 T)).size, (bytesRow s (grownCap w s.size 0 T)).size + 1))) w.heap.size w.heap.size (grownCap w s.size 0 T) (bytesN s) := by
  have hge := grownCap_ge w s.size 0 T
  have hle := grownCap_le_maxLen w s.size 0 T hs
  generalize grownCap w s.size 0 T = C at *
  have hsz : (bytesRow s C).size = C := by
    have : s.data.size = s.size := rfl
    simp [bytesRow, this]; omega
  have hat : (w.drew.alloc (.cells (bytesRow s C) T ((bytesRow s C).size, (bytesRow s C).size + 1))).heap[w.heap.size]? = some (.cells (bytesRow s C) T ((bytesRow s C).size, (bytesRow s C).size + 1)) := heap_alloc_new w.drew _
  refine ⟨Nat.le_refl _, by simp, by rw [bytesN_len]; exact hge, hle, fun j hj => ?_, fun j hj => ?_⟩
  · rw [hsz] at hat ⊢
    refine ⟨?_, ?_⟩
    · have : j < (bytesRow s C).size := by omega
      simp only [World.cell?, hat]
      simp [this]
    · simp only [World.frozen?, hat]
      simp; omega
  · rw [bytesN_len] at hj
    have h2 : j < s.data.size := hj
    simp only [World.cell?, hat]
    simp [bytesRow, bytesN, Array.getElem?_append, hj]

theorem append_b {P : Program} (w : World) (t ty e : TypeId) (i : TypeInfo) (ht : P.underlying t = some (.slice e)) (hi : P.info? e = some i) (hz : i.zero = some (.int .u8 0)) (hz1 : i.size = 1) (hz2 : i.bytes = 1)
    (base g cap : Nat) (xs : List Int) (h : OwnB w base g cap xs) (ad : Addr) (c : Nat) (x : Int) (hx : w.cell? (ad.add 0) = some (.int .u8 x)) (hlen : xs.length < 70368744177664) (hB : base ≤ w.heap.size) :
    ∃ g' cap' w', (Builtin.append_ #[t, t] ty #[.slice (some ⟨g, 0, none⟩) xs.length cap, .slice (some ad) 1 c]).run P w = .ok (.slice (some ⟨g', 0, none⟩) (xs.length + 1) cap') w' ∧
      OwnB w' base g' cap' (xs ++ [x]) ∧ ∀ w0, Below base w0 w → Below base w0 w' := by
  have hnews : ∀ j u, [Value.int .u8 x][j]? = some u → w.cell? (ad.add j) = some u := fun j u hj => by
    match j with
    | 0 => simp at hj; rw [hx, hj]
    | j + 1 => simp at hj
  by_cases hroom : xs.length + 1 ≤ cap
  · have hr := run_append_room_cells (P := P) w t ty e i ht hi g 0 xs.length cap ad 1 c [.int .u8 x] (by rw [hz1]; rfl) hnews (by simp [Value.oneCell']) hroom
      (fun j hj => by rw [hz1]; have : j = 0 := by simpa using hj
                      subst this; simpa using (h.room xs.length (by omega)).1)
      (fun j hj => by rw [hz1]; have : j = 0 := by simpa using hj
                      subst this; simpa using (h.room xs.length (by omega)).2)
    rw [hz1, Nat.zero_add, Nat.mul_one] at hr
    have e0 : (w.setCells g xs.length [.int .u8 x]) = w.setCell ⟨g, xs.length, none⟩ (.int .u8 x) := rfl
    rw [e0] at hr
    have hcs : (w.cell? ⟨g, xs.length, none⟩).isSome = true := (h.room xs.length (by omega)).1
    have hin := World.cell?_setCells_in g [.int .u8 x] xs.length w (fun j hj => by have : j = 0 := by simpa using hj
                                                                                   subst this; exact hcs) 0 (by simp)
    rw [e0] at hin
    have hout : ∀ j, j ≠ xs.length → (w.setCell ⟨g, xs.length, none⟩ (.int .u8 x)).cell? ⟨g, j, none⟩ = w.cell? ⟨g, j, none⟩ := fun j hj => by
      have := World.cell?_setCells_out g [.int .u8 x] xs.length w ⟨g, j, none⟩ (fun _ _ => by simp; omega)
      rwa [e0] at this
    have hfz : ∀ a, (w.setCell ⟨g, xs.length, none⟩ (.int .u8 x)).frozen? a = w.frozen? a := fun a => by
      have := World.frozen?_setCells g [.int .u8 x] xs.length w a
      rwa [e0] at this
    refine ⟨g, cap, _, hr, ⟨h.lo, by simpa using h.hi, by simpa using hroom, h.max, fun j hj => ?_, fun j hj => ?_⟩, fun w0 hb => hb.setCell h.lo _⟩
    · rw [hfz]
      refine ⟨?_, (h.room j hj).2⟩
      by_cases hjn : j = xs.length
      · subst hjn; simp at hin; simp [hin]
      · rw [hout j hjn]; exact (h.room j hj).1
    · by_cases hjn : j = xs.length
      · subst hjn; simp at hin; simp [hin]
      · have hj' : j < xs.length := by simp at hj; omega
        rw [hout j hjn, h.cells j hj', List.getElem_append_left hj']
  · obtain ⟨v', w', hr, hown, hgr⟩ := run_append_arg_grows (P := P) w t ty e i (.int .u8 0) 1 1 ht hi hz hz1 hz2 rfl (by omega) ⟨g, 0, none⟩ xs.length cap (xs.map (Value.int .u8)) (by simp)
      (fun j u hj => by
        have hjl : j < xs.length := by
          rcases Nat.lt_or_ge j xs.length with hh | hh
          · exact hh
          · rw [List.getElem?_eq_none (by simpa using hh)] at hj; cases hj
        have e : (⟨g, 0, none⟩ : Addr).add j = ⟨g, j, none⟩ := by unfold Addr.add; split <;> simp_all
        rw [e, h.cells j hjl]
        simp [List.getElem?_eq_getElem hjl] at hj
        rw [← hj]) ad 1 c [.int .u8 x] rfl hnews (by omega) (by unfold maxLen; omega) (by omega)
    obtain ⟨g', cap', rfl, hbg, hlt⟩ := hown.form (by omega)
    have ho2 := ownB_of_row (xs := xs ++ [x]) (by rw [List.map_append]; exact hown) (by simp)
    refine ⟨g', cap', w', hr, ⟨Nat.le_trans hB hbg, ho2.hi, ho2.fit, ho2.max, ho2.room, ho2.cells⟩, fun w0 hb => hb.grown hgr hB (fun k hk => by cases hk)⟩

theorem wpList_append_run {P : Program} {w : World} {ops : Array Oper} {rest : List Oper} {o : Oper} {a : Act} {Q : Exit → Act → World → Prop} (hgd : o.guard = none) (s x : Operand) (t : TypeId)
    (ho : o.op = .call { callee := .builtin .append, args := #[s, x], argTypes := #[t, t] }) (v1 v2 v' : Value) (w' : World) (hs : a.eval s = v1) (hx : a.eval x = v2)
    (hr : (Builtin.append_ #[t, t] o.type #[v1, v2]).run P w = .ok v' w') (h : wpList P ops Q rest (a.put o.dst v') w') : wpList P ops Q (o :: rest) a w :=
  wpList_plain hgd fun _ hK => by
    unfold Oper.wp execOp
    simp only [ho, resolve, invoke, builtin, Sem.run_bind, Sem.run_pure, Result.andThen_ok, List.map_toArray, List.map_cons, List.map_nil, hs, hx, hr]
    exact hK _ _ h

theorem conv_b {w : World} {base g cap : Nat} {xs : List Int} (h : OwnB w base g cap xs) (off len c : Nat) (hl : off + len ≤ xs.length) :
    (convert 22 9 (.slice (some ⟨g, off, none⟩) len c)).run Tryz.prog w = .ok (.string (strOfNums ((xs.drop off).take len))) w :=
  run_convert_bytes_arg (P := Tryz.prog) w 22 5 Tryz.underlying22 Tryz.underlying5 g off len c ((xs.drop off).take len) (by simp; omega) (fun i hi => by
    rw [h.cells (off + i) (by omega), List.getD_eq_getElem?_getD, List.getElem?_take_of_lt hi, List.getElem?_drop, List.getElem?_eq_getElem (by omega)]; rfl) 9 Tryz.underlying9
end Go.Proofs.YtnahmddbmmnilaaGreatDoor
/-
  The specification's small parts of SHA-256: a number of 32 bits turned right ('turnR x k'), the keys of the rounds and the first state, each in new memory.
  Conditions: the number is from 0 to 2^32 - 1, k from 0 to 32.
-/
namespace Go.Proofs.YtnahmddbmmnilaaGreatDoor
open Go.RowKit Go.Lib
set_option linter.unusedVariables false

set_option maxHeartbeats 400000 in
theorem specTurn_any (x : Int) (k : Nat) (w : World) (h0 : 0 ≤ x) (h1 : x ≤ 4294967295) (hk : k ≤ 32) :
    Calls Tryz.prog 242 #[.int .u32 x, .int .u64 k] w fun e w' => e = .returned (.int .u32 (turnR x k)) ∧ w' = w := by
  go_enter Tryz.func242, Tryz.ntmps242
  go_wp2
  go_ret
  exact ⟨rfl, rfl⟩

theorem specTurn_c (x c : Int) (w : World) (h0 : 0 ≤ x) (h1 : x ≤ 4294967295) (c0 : 0 ≤ c) (c1 : c ≤ 32) :
    Calls Tryz.prog 242 #[.int .u32 x, .int .u64 c] w fun e w' => e = .returned (.int .u32 (turnR x c.toNat)) ∧ w' = w := by
  obtain ⟨k, rfl⟩ : ∃ k : Nat, c = k := ⟨c.toNat, by omega⟩
  exact specTurn_any x k w h0 h1 (by omega)

set_option maxHeartbeats 1000000 in
set_option maxRecDepth 20000 in
theorem specStart_any (w : World) :
    Calls Tryz.prog 215 #[] w fun e w' => e = .returned (.slice (some ⟨w.heap.size, 0, none⟩) 8 8) ∧ w' = w.alloc (.cells (startN.map (Value.int .i64)).toArray 2) := by
  go_enter Tryz.func215, Tryz.ntmps215
  go_wp2
  go_ret
  exact ⟨rfl, rfl⟩

set_option maxHeartbeats 4000000 in
set_option maxRecDepth 20000 in
theorem specKeys_any (w : World) :
    Calls Tryz.prog 243 #[] w fun e w' => e = .returned (.slice (some ⟨w.heap.size, 0, none⟩) 64 64) ∧ w' = w.alloc (.cells (keysN.map (Value.int .u32)).toArray 161) := by
  go_enter Tryz.func243, Tryz.ntmps243
  go_wp2
  go_ret
  exact ⟨rfl, rfl⟩
end Go.Proofs.YtnahmddbmmnilaaGreatDoor
