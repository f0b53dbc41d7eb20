/-
  Parts of one proof, laid as one text: LawFX, OpF, TabsOf; what each says stands at its head.
-/
import Derived.Test.YtefakcpclihaealDoorRows
import Derived.Test.YtefakcpclihaealDoorBytesDigMath
import Derived.Test.YtefakcpclihaealDoorSlABxKSlBOwnS
import Derived.Test.YtefakcpclihaealDoorJoinedPutTextFldMath
import Derived.Test.YtefakcpclihaealDoorFldOMFldOFldG
import Derived.Test.YtefakcpclihaealDoorImplFgFldBlk
import Derived.Test.YtefakcpclihaealDoorLawF
import Derived.Test.YtefakcpclihaealDoorLawFM
import Derived.Handy
import Derived.OwnWalk
import Derived.Laws.OwnMore
import Derived.Test.YtefakcpclihaealDoorFldCTakesFldRise
import Derived.WalkKit
import Derived.ProofKit
import Derived.OpenShut
import Derived.Deep.Slices
import Derived.ChangeSame
import Derived.Test.YtefakcpclihaealDoorBlockI
import Derived.Lib.LaidTab
import Derived.Lib.LaidU8
/-
  What the laws' own helpers do that mark and look at rows: markRow, heldRow, markRowOut, heldRowOut; what stays as it was while they do.
-/
namespace Go.Proofs.YtefakcpclihaealDoor
open Go.RowKit Go.Lib
set_option linter.unusedVariables false
set_option maxRecDepth 20000

theorem Bxs.read3 {w : World} {g : Nat} {T : TypeId} {a b c : Value} (k : Bxs w g T #[a, b, c]) : w.cell? ⟨g, 0, none⟩ = some a ∧ w.cell? ⟨g, 1, none⟩ = some b ∧ w.cell? ⟨g, 2, none⟩ = some c := ⟨k.cell 0, k.cell 1, k.cell 2⟩
theorem Bxs.read4 {w : World} {g : Nat} {T : TypeId} {a b c d : Value} (k : Bxs w g T #[a, b, c, d]) : w.cell? ⟨g, 0, none⟩ = some a ∧ w.cell? ⟨g, 1, none⟩ = some b ∧ w.cell? ⟨g, 2, none⟩ = some c ∧ w.cell? ⟨g, 3, none⟩ = some d := ⟨k.cell 0, k.cell 1, k.cell 2, k.cell 3⟩
/-- What marking a row leaves. -/
def MkF (base : Nat) (p : Option Addr) (c : Nat) (l : List Fld) (w w' : World) : Prop :=
  w'.ownsRow base 59 5 (.slice p l.length c) l.length (fldRow (mfN 1 l.length)) ∧ w.grownBy w' (Value.slice p l.length c).ownBlock
theorem MkF.alloc {base : Nat} {p : Option Addr} {c : Nat} {l : List Fld} {w w' : World} {o : Obj} (h : MkF base p c l (w.alloc o) w') : MkF base p c l w w' := by
  obtain ⟨h1, g⟩ := h
  exact ⟨h1, ⟨g.os, g.tape, g.output, by have := g.size; simp at this; omega, fun b hb hn => (g.block b (by simp; omega) hn).trans (Below.heap_alloc _ _ _ hb)⟩⟩

set_option maxHeartbeats 1000000 in
theorem markRow_any (kd : ByteArray) (at_ : Int) (base : Nat) (p : Option Addr) (c : Nat) (l : List Fld) (w : World) (o : w.ownsRow base 59 5 (.slice p l.length c) l.length (fldRow l)) (hl : l.length ≤ 1048576) :
    Calls Tryd.prog 14 #[.agg #[.string kd, .int .i64 at_, .slice p l.length c], .int .i64 1] w fun e w' => e = .returned (.int .i64 (5 * (l.length : Int) + 1)) ∧ MkF base p c l w w' := by
  obtain ⟨W1, hW1⟩ : ∃ W1, W1 = w.alloc (.cells #[.string kd, .int .i64 at_, .slice p l.length c] 28) := ⟨_, rfl⟩
  have HW1 : Hid (W1 = w.alloc (.cells #[.string kd, .int .i64 at_, .slice p l.length c] 28)) := hW1
  have HG : Hid (∀ w', MkF base p c l W1 w' → MkF base p c l w w') := by rw [hW1]; exact fun w' h => h.alloc
  have H1 := markF_any 1 (by omega) base (.slice p l.length c) l W1 (by rw [hW1]; exact o.alloc _) (by omega)
  rw [show ((1 : Nat) : Int) = 1 from rfl] at H1
  clear hW1 o
  go_enter Tryd.func14, Tryd.ntmps14
  go_wp2_with fail
  rw [← HW1.out]
  refine H1.mono ?_
  rintro e w2 ⟨rfl, q1, g1⟩
  have HP : Hid (MkF base p c l w w2) := HG.out w2 ⟨q1, g1⟩
  clear q1 g1 H1
  go_wp2_with fail
  go_ret
  exact ⟨rfl, HP.out⟩

set_option maxHeartbeats 1000000 in
theorem markRowOut_any (kd : ByteArray) (at_ cd : Int) (base : Nat) (p : Option Addr) (c : Nat) (l : List Fld) (w : World) (o : w.ownsRow base 59 5 (.slice p l.length c) l.length (fldRow l)) (hl : l.length ≤ 1048576) :
    Calls Tryd.prog 15 #[.agg #[.string kd, .int .i64 at_, .slice p l.length c, .int .i64 cd], .int .i64 1] w fun e w' => e = .returned (.int .i64 (5 * (l.length : Int) + 1)) ∧ MkF base p c l w w' := by
  obtain ⟨W1, hW1⟩ : ∃ W1, W1 = w.alloc (.cells #[.string kd, .int .i64 at_, .slice p l.length c, .int .i64 cd] 30) := ⟨_, rfl⟩
  have HW1 : Hid (W1 = w.alloc (.cells #[.string kd, .int .i64 at_, .slice p l.length c, .int .i64 cd] 30)) := hW1
  have HG : Hid (∀ w', MkF base p c l W1 w' → MkF base p c l w w') := by rw [hW1]; exact fun w' h => h.alloc
  have H1 := markRow_any kd at_ base p c l W1 (by rw [hW1]; exact o.alloc _) hl
  clear hW1 o
  go_enter Tryd.func15, Tryd.ntmps15
  go_wp2_with fail
  rw [← HW1.out]
  refine H1.mono ?_
  rintro e w2 ⟨rfl, q1⟩
  have HP : Hid (MkF base p c l w w2) := HG.out w2 q1
  clear q1 H1
  go_wp2_with fail
  go_ret
  exact ⟨rfl, HP.out⟩

set_option maxHeartbeats 1000000 in
theorem heldRow_any (kd : ByteArray) (at_ : Int) (p : Option Addr) (c n : Nat) (w : World) (h : FldAt w p (mfN 1 n)) (hl : n ≤ 1048576) (m : n ≤ c) :
    Calls Tryd.prog 42 #[.agg #[.string kd, .int .i64 at_, .slice p n c], .int .i64 1] w fun e w' => e = .returned (.int .i64 (5 * (n : Int) + 1)) ∧ Below w.heap.size w w' := by
  obtain ⟨W1, hW1⟩ : ∃ W1, W1 = w.alloc (.cells #[.string kd, .int .i64 at_, .slice p n c] 28) := ⟨_, rfl⟩
  have HW1 : Hid (W1 = w.alloc (.cells #[.string kd, .int .i64 at_, .slice p n c] 28)) := hW1
  have B1 : Hid (Below w.heap.size w W1) := by rw [hW1]; exact (Below.refl _ _).alloc (Nat.le_refl _) _
  have H1 := heldF_any 1 (by omega) p c n W1 (h.below B1.out) (by omega) m
  rw [show ((1 : Nat) : Int) = 1 from rfl] at H1
  have d1 : decide (5 * (n : Int) + 1 < 0) = false := decide_eq_false (by omega)
  clear hW1 h
  go_enter Tryd.func42, Tryd.ntmps42
  go_wp2_with fail
  rw [← HW1.out]
  refine H1.mono ?_
  rintro e w2 ⟨rfl, b2⟩
  have b2 := chainB B1.out b2
  clear H1
  go_wp2_with fail
  go_ret
  exact ⟨rfl, b2⟩

set_option maxHeartbeats 1000000 in
theorem heldRowOut_any (kd : ByteArray) (at_ cd : Int) (p : Option Addr) (c n : Nat) (w : World) (h : FldAt w p (mfN 1 n)) (hl : n ≤ 1048576) (m : n ≤ c) :
    Calls Tryd.prog 16 #[.agg #[.string kd, .int .i64 at_, .slice p n c, .int .i64 cd], .int .i64 1] w fun e w' => e = .returned (.int .i64 (5 * (n : Int) + 1)) ∧ Below w.heap.size w w' := by
  obtain ⟨W1, hW1⟩ : ∃ W1, W1 = w.alloc (.cells #[.string kd, .int .i64 at_, .slice p n c, .int .i64 cd] 30) := ⟨_, rfl⟩
  have HW1 : Hid (W1 = w.alloc (.cells #[.string kd, .int .i64 at_, .slice p n c, .int .i64 cd] 30)) := hW1
  have B1 : Hid (Below w.heap.size w W1) := by rw [hW1]; exact (Below.refl _ _).alloc (Nat.le_refl _) _
  have H1 := heldRow_any kd at_ p c n W1 (h.below B1.out) hl m
  have d1 : decide (5 * (n : Int) + 1 < 0) = false := decide_eq_false (by omega)
  clear hW1 h
  go_enter Tryd.func16, Tryd.ntmps16
  go_wp2_with fail
  rw [← HW1.out]
  refine H1.mono ?_
  rintro e w2 ⟨rfl, b2⟩
  have b2 := chainB B1.out b2
  clear H1
  go_wp2_with fail
  go_ret
  exact ⟨rfl, b2⟩

/-- A row of fields of its own, and what it reads. -/
theorem ownF_at {w : World} {base : Nat} {p : Option Addr} {c : Nat} {l : List Fld} (h : w.ownsRow base 59 5 (.slice p l.length c) l.length (fldRow l)) : FldAt w p l ∧ l.length ≤ c := by
  obtain ⟨p', c', e, h1, h2⟩ := ownF_form h
  cases e
  exact ⟨h2, h1⟩
theorem ownF_marks {w : World} {base : Nat} {p : Option Addr} {c n : Nat} (h : w.ownsRow base 59 5 (.slice p n c) n (fldRow (mfN 1 n))) : FldAt w p (mfN 1 n) := by
  have h' : w.ownsRow base 59 5 (.slice p (mfN 1 n).length c) (mfN 1 n).length (fldRow (mfN 1 n)) := by rw [mfN_len]; exact h
  exact (ownF_at h').1
/-- What stays as it was while rows are marked: a first box, two boxes of answers, and a row that is nobody's to mark. -/
structure MkS (w : World) (A T : TypeId) (ca cw cg : Array Value) (bw bg : Nat) (P : World → Prop) (x : World) : Prop where
  bel : Below w.heap.size w x
  ba : Bxs x w.heap.size A ca
  bw : Bxs x bw T cw
  bg : Bxs x bg T cg
  ps : P x
theorem MkS.below {w : World} {A T : TypeId} {ca cw cg : Array Value} {bw bg : Nat} {P : World → Prop} {x y : World} (h : MkS w A T ca cw cg bw bg P x) (hP : ∀ x y, P x → Below x.heap.size x y → P y) (hb : Below x.heap.size x y) : MkS w A T ca cw cg bw bg P y :=
  ⟨chainB h.bel hb, h.ba.below hb, h.bw.below hb, h.bg.below hb, hP _ _ h.ps hb⟩
theorem MkS.grown {w : World} {A T : TypeId} {ca cw cg : Array Value} {bw bg : Nat} {P : World → Prop} {x y : World} {row : Option Nat} (h : MkS w A T ca cw cg bw bg P x) (hg : x.grownBy y row) (hr : ∀ j, row = some j → w.heap.size < j ∧ j ≠ bw ∧ j ≠ bg) (hP : P y) : MkS w A T ca cw cg bw bg P y :=
  ⟨h.bel.grown hg h.bel.size (fun j hj => by have := hr j hj; omega), h.ba.grown hg (fun e => by have := hr _ e.symm; omega), h.bw.grown hg (fun e => by have := hr _ e.symm; omega), h.bg.grown hg (fun e => by have := hr _ e.symm; omega), hP⟩
end Go.Proofs.YtefakcpclihaealDoor
/-
  Fields and rows that came in: what the opened data of a law's parameter says of the cells.
-/
namespace Go.Proofs.YtefakcpclihaealDoor
open Go.ChangeShapes Go.WideShapes Go.ChangeAt Go.RowKit Go.Deep
set_option linter.unusedVariables false
set_option maxRecDepth 100000

instance : Inhabited Fld := ⟨⟨ByteArray.empty, ByteArray.empty, ByteArray.empty, ByteArray.empty, false⟩⟩
def FldLe (f : Fld) : Prop := f.n.size ≤ maxLen ∧ f.c.size ≤ maxLen ∧ f.s.size ≤ maxLen ∧ f.v.size ≤ maxLen
theorem fld_of {H : Type} {enc : TypeId × Value → H} {W : World} {base fuel : Nat} {cs : List Value} {x : DataW H × List MemPlace}
    (h : DataW.trod enc Tryd.prog W base (fun _ => true) true fuel 101 cs = some x) : ∃ f : Fld, cs = [.string f.n, .string f.c, .string f.s, .string f.v, .bool f.g] ∧ FldLe f := by
  obtain ⟨xs, n, hk, hxy, hl, hxl, hf⟩ := DataW.trod_struct Tryd.underlying101 h
  have hl : cs.length = 5 := hl.trans (by kernel_rfl)
  have e0 : Tryd.prog.cellsOf 9 = 1 := by kernel_rfl
  have e1 : Tryd.prog.cellsOf 4 = 1 := by kernel_rfl
  have g0 : DataW.trod enc Tryd.prog W base (fun _ => true) true n 9 ((cs.drop 0).take (Tryd.prog.cellsOf 9)) = xs[0]? := hf 0 _ rfl
  have g1 : DataW.trod enc Tryd.prog W base (fun _ => true) true n 9 ((cs.drop 1).take (Tryd.prog.cellsOf 9)) = xs[1]? := hf 1 _ rfl
  have g2 : DataW.trod enc Tryd.prog W base (fun _ => true) true n 9 ((cs.drop 2).take (Tryd.prog.cellsOf 9)) = xs[2]? := hf 2 _ rfl
  have g3 : DataW.trod enc Tryd.prog W base (fun _ => true) true n 9 ((cs.drop 3).take (Tryd.prog.cellsOf 9)) = xs[3]? := hf 3 _ rfl
  have g4 : DataW.trod enc Tryd.prog W base (fun _ => true) true n 4 ((cs.drop 4).take (Tryd.prog.cellsOf 4)) = xs[4]? := hf 4 _ rfl
  clear hf
  match xs, hxl, cs, hl with
  | [y0, y1, y2, y3, y4], _, [c0, c1, c2, c3, c4], _ =>
    simp only [e0, e1, List.drop_zero, List.take_succ_cons, List.take_zero, List.drop_succ_cons, List.getElem?_cons_zero, List.getElem?_cons_succ] at g0 g1 g2 g3 g4
    obtain ⟨s0, h0, _, z0⟩ := DataW.trod_string Tryd.underlying9 g0
    obtain ⟨s1, h1, _, z1⟩ := DataW.trod_string Tryd.underlying9 g1
    obtain ⟨s2, h2, _, z2⟩ := DataW.trod_string Tryd.underlying9 g2
    obtain ⟨s3, h3, _, z3⟩ := DataW.trod_string Tryd.underlying9 g3
    obtain ⟨b4, h4, _⟩ := DataW.trod_bool Tryd.underlying4 g4
    simp only [List.cons.injEq, and_true] at h0 h1 h2 h3 h4
    subst h0 h1 h2 h3 h4
    exact ⟨⟨s0, s1, s2, s3, b4⟩, rfl, z0, z1, z2, z3⟩
theorem add_none (b off j : Nat) : (⟨b, off, none⟩ : Addr).add j = ⟨b, off + j, none⟩ := by unfold Addr.add; split <;> simp_all
/-- What a walk is told of a slice of fields that came in. -/
def IsFlds (w : World) (a : Option Addr) (len cap : Nat) (fs : List Fld) : Prop :=
  fs.length = len ∧ FldAt w a fs ∧ len ≤ cap ∧ cap ≤ maxLen ∧ FldsLe fs
theorem flds_of {H : Type} {enc : TypeId × Value → H} {W : World} {base fuel : Nat} {x : DataW H × List MemPlace} {cs : List Value}
    (h : DataW.trod enc Tryd.prog W base (fun _ => true) true fuel 22 cs = some x) : ∃ a len cap fs, cs = [.slice a len cap] ∧ IsFlds W a len cap fs := by
  have ce : Tryd.prog.cellsOf 101 = 5 := by kernel_rfl
  rcases open_slice Tryd.underlying22 h with ⟨hcs, _⟩ | ⟨ad, len, cap, m, n, D, Pl, hcs, _, hl, hm, hmm, _, hx⟩
  · exact ⟨none, 0, 0, [], hcs, rfl, FldAt.nil _ _, Nat.le_refl _, by unfold maxLen; omega, fun x hx => by cases hx⟩
  · have hmm : m = cap := hmm
    subst hmm
    have each : ∀ i, i < m → ∃ f : Fld, (W.cell? (ad.add (i * 5)) = some (.string f.n) ∧ W.cell? (ad.add (i * 5 + 1)) = some (.string f.c) ∧ W.cell? (ad.add (i * 5 + 2)) = some (.string f.s) ∧ W.cell? (ad.add (i * 5 + 3)) = some (.string f.v) ∧ W.cell? (ad.add (i * 5 + 4)) = some (.bool f.g)) ∧ FldLe f := by
      intro i hi
      obtain ⟨cs', h1, h2⟩ := hx i hi
      rw [ce] at h1
      obtain ⟨_, hlen, hcell⟩ := World.cells?_some h1
      obtain ⟨f, rfl, hz⟩ := fld_of h2
      have e0 := hcell 0 (by omega)
      have e1 := hcell 1 (by omega)
      have e2 := hcell 2 (by omega)
      have e3 := hcell 3 (by omega)
      have e4 := hcell 4 (by omega)
      rw [add_add] at e0 e1 e2 e3 e4
      exact ⟨f, ⟨by simpa using e0, by simpa using e1, by simpa using e2, by simpa using e3, by simpa using e4⟩, hz⟩
    obtain ⟨F, hF⟩ := choose_lt each
    refine ⟨some ad, len, m, (List.range len).map F, hcs, by simp, ?_, hl, hm, ?_⟩
    · intro i hi
      have hi2 : i < len := by simpa using hi
      obtain ⟨b, off, spot⟩ := ad
      obtain ⟨⟨q0, q1, q2, q3, q4⟩, -⟩ := hF i (by omega)
      have q00 := (hF 0 (by omega)).1.1
      rw [Nat.zero_mul] at q00
      have hspot : spot = none := by simpa [Addr.add] using World.cell?_spot q00
      subst hspot
      rw [add_none] at q0 q1 q2 q3 q4
      have he : ((List.range len).map F)[i] = F i := by simp
      rw [he]
      refine ⟨b, off, rfl, World.block_lt_of_cell? W _ q0, q0, ?_, ?_, ?_, ?_⟩
      · rw [Nat.add_assoc]; exact q1
      · rw [Nat.add_assoc]; exact q2
      · rw [Nat.add_assoc]; exact q3
      · rw [Nat.add_assoc]; exact q4
    · intro f hf
      obtain ⟨i, hi, rfl⟩ := List.mem_map.1 hf
      exact (hF i (by have := List.mem_range.1 hi; omega)).2
theorem open_field {H : Type} {enc : TypeId × Value → H} {W : World} {base : Nat} {v : Value} {d : DataW H} {ps : List MemPlace} (hval : Value.okWide Tryd.prog W .any base 101 v)
    (h : DataW.Trod enc Tryd.prog W 0 (fun _ => true) true 101 v d ps) : ∃ f : Fld, v = .agg #[.string f.n, .string f.c, .string f.s, .string f.v, .bool f.g] ∧ FldLe f := by
  obtain ⟨cs, rfl, hsz⟩ := okWide_struct Tryd.underlying101 hval
  obtain ⟨fuel, hf⟩ := h
  obtain ⟨f, hc, hz⟩ := fld_of hf
  refine ⟨f, ?_, hz⟩
  simp only [Value.cells] at hc
  rw [show cs = #[.string f.n, .string f.c, .string f.s, .string f.v, .bool f.g] from by cases cs; simp_all]
theorem open_row {H : Type} {enc : TypeId × Value → H} {W : World} {base : Nat} {v : Value} {d : DataW H} {ps : List MemPlace} (hval : Value.okWide Tryd.prog W .any base 24 v)
    (h : DataW.Trod enc Tryd.prog W 0 (fun _ => true) true 24 v d ps) : ∃ kd at_ a len cap fs, v = .agg #[.string kd, .int .i64 at_, .slice a len cap] ∧ kd.size ≤ maxLen ∧ (Lit.int .i64 at_).wf = true ∧ IsFlds W a len cap fs := by
  obtain ⟨cs, rfl, hsz⟩ := okWide_struct Tryd.underlying24 hval
  have h2 : cs.size = 3 := hsz.trans (by kernel_rfl)
  obtain ⟨fuel, hf⟩ := h
  obtain ⟨xs, n, hk, hxy, hl, hxl, hf⟩ := DataW.trod_struct Tryd.underlying24 hf
  have e0 : Tryd.prog.cellsOf 9 = 1 := by kernel_rfl
  have e1 : Tryd.prog.cellsOf 2 = 1 := by kernel_rfl
  have e2 : Tryd.prog.cellsOf 22 = 1 := by kernel_rfl
  have g0 : DataW.trod enc Tryd.prog W 0 (fun _ => true) true n 9 ((cs.toList.drop 0).take (Tryd.prog.cellsOf 9)) = xs[0]? := hf 0 _ rfl
  have g1 : DataW.trod enc Tryd.prog W 0 (fun _ => true) true n 2 ((cs.toList.drop 1).take (Tryd.prog.cellsOf 2)) = xs[1]? := hf 1 _ rfl
  have g2 : DataW.trod enc Tryd.prog W 0 (fun _ => true) true n 22 ((cs.toList.drop 2).take (Tryd.prog.cellsOf 22)) = xs[2]? := hf 2 _ rfl
  clear hf
  match xs, hxl, cs, h2 with
  | [y0, y1, y2], _, ⟨[c0, c1, c2]⟩, _ =>
    simp only [e0, e1, e2, List.drop_zero, List.take_succ_cons, List.take_zero, List.drop_succ_cons, List.getElem?_cons_zero, List.getElem?_cons_succ] at g0 g1 g2
    obtain ⟨s0, h0, _, z0⟩ := DataW.trod_string Tryd.underlying9 g0
    obtain ⟨i1, h1, _, z1⟩ := DataW.trod_int Tryd.underlying2 g1
    obtain ⟨a, len, cap, fs, h2, z2⟩ := flds_of g2
    simp only [List.cons.injEq, and_true] at h0 h1 h2
    subst h0 h1 h2
    exact ⟨s0, i1, a, len, cap, fs, rfl, z0, z1, z2⟩
end Go.Proofs.YtefakcpclihaealDoor
/-
  What the two listed tables give a walk: 'Tabs'.
-/
namespace Go.Proofs.YtefakcpclihaealDoor
open Go.RowKit Go.Lib
set_option linter.unusedVariables false

theorem g0 : Tryd.prog.globalNamed "loop.example/g00633/impl.firstState" = some 0 := by kernel_rfl
theorem g1 : Tryd.prog.globalNamed "loop.example/g00633/impl.roundNums" = some 1 := by kernel_rfl
theorem tab_of {W : World} {name : String} {zs : List Int} {g : Nat} {t : TypeId} {n : Nat} (hg : Tryd.prog.globalNamed name = some g) (hty : (Tryd.prog.globals[g]?).map (·.type) = some t) (ht : Tryd.prog.underlying t = some (.array n 80)) (hct : Tryd.prog.cellsOf t = n)
    (h : VarReads Tryd.prog W name (tabData .u32 zs)) (i : Nat) (hi : i < zs.length) : W.cell? ⟨g, i, none⟩ = some (.int .u32 (zs.getD i 0)) := by
  obtain ⟨g', t', cs, fuel, p, h1, h2, h3, h4⟩ := h
  obtain rfl := Option.some.inj (hg.symm.trans h1)
  obtain rfl := Option.some.inj (hty.symm.trans h2)
  refine TabIs.cell (P := Tryd.prog) (name := name) ?_ hg i hi
  unfold TabIs
  rw [h3, ← cells_of_tab ht Tryd.underlying80 (by kernel_rfl) hct h4]
theorem tabs_of {W : World} (h : laidMet Tryd.prog [("loop.example/g00633/impl.firstState", Rows.laid_loop_example_g00633_impl_firstState), ("loop.example/g00633/impl.roundNums", Rows.laid_loop_example_g00633_impl_roundNums)] W) : Tabs W := by
  have r0 : VarReads Tryd.prog W "loop.example/g00633/impl.firstState" (tabData .u32 startN) := laidMet.reads h (.head _)
  have r1 : VarReads Tryd.prog W "loop.example/g00633/impl.roundNums" (tabData .u32 keysN) := laidMet.reads h (.tail _ (.head _))
  have c0 := tab_of g0 (by kernel_rfl) (t := 139) (n := 8) (by kernel_rfl) (by kernel_rfl) r0
  have c1 := tab_of g1 (by kernel_rfl) (t := 154) (n := 64) (by kernel_rfl) (by kernel_rfl) r1
  exact ⟨World.block_lt_of_cell? W ⟨1, 0, none⟩ (c1 0 (by decide)), fun i hi => c1 i hi, fun i hi => c0 i hi⟩
end Go.Proofs.YtefakcpclihaealDoor
