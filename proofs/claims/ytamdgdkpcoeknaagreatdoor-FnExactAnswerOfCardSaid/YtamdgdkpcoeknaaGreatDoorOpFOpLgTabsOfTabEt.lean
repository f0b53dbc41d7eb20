/-
  Parts of one proof, laid as one text: OpF, OpLg, TabsOf, TabEt; what each says stands at its head.
-/
import Derived.Test.YtamdgdkpcoeknaaGreatDoorRows
import Derived.Test.YtamdgdkpcoeknaaGreatDoorBytesDigMath
import Derived.Test.YtamdgdkpcoeknaaGreatDoorTreeMathSlASlBBxKOwnS
import Derived.Test.YtamdgdkpcoeknaaGreatDoorTimeBPutMathPutNumJoinedPutTextFldMath
import Derived.Test.YtamdgdkpcoeknaaGreatDoorFldGShwKFldHPathMathFldRiseScanMath
import Derived.WalkKit
import Derived.ProofKit
import Derived.OpenShut
import Derived.Deep.Slices
import Derived.ChangeSame
import Derived.Test.YtamdgdkpcoeknaaGreatDoorLgMathLgAtKOneKFldBlkRwBlkTakes
import Derived.Deep.Strs
import Derived.Test.YtamdgdkpcoeknaaGreatDoorBlockIPadIDigITurn2
import Derived.Lib.LaidTab
import Derived.Lib.LaidU8
import Derived.Test.YtamdgdkpcoeknaaGreatDoorAsDAs2CodeOfRngXScopesReadBits
import Derived.LaidHandle
/-
  Fields and rows that came in: what the opened data of a law's parameter says of the cells.
-/
namespace Go.Proofs.YtamdgdkpcoeknaaGreatDoor
open Go.ChangeShapes Go.WideShapes Go.ChangeAt Go.RowKit Go.Deep
set_option linter.unusedVariables false
set_option maxRecDepth 100000

instance : Inhabited Fld := ⟨⟨ByteArray.empty, ByteArray.empty, ByteArray.empty, ByteArray.empty, false⟩⟩
def FldLe (f : Fld) : Prop := f.n.size ≤ maxLen ∧ f.c.size ≤ maxLen ∧ f.s.size ≤ maxLen ∧ f.v.size ≤ maxLen
theorem fld_of {H : Type} {enc : TypeId × Value → H} {W : World} {base fuel : Nat} {cs : List Value} {x : DataW H × List MemPlace}
    (h : DataW.trod enc Tryz.prog W base (fun _ => true) true fuel 168 cs = some x) : ∃ f : Fld, cs = [.string f.n, .string f.c, .string f.s, .string f.v, .bool f.g] ∧ FldLe f := by
  obtain ⟨xs, n, hk, hxy, hl, hxl, hf⟩ := DataW.trod_struct Tryz.underlying168 h
  have hl : cs.length = 5 := hl.trans (by kernel_rfl)
  have e0 : Tryz.prog.cellsOf 9 = 1 := by kernel_rfl
  have e1 : Tryz.prog.cellsOf 4 = 1 := by kernel_rfl
  have g0 : DataW.trod enc Tryz.prog W base (fun _ => true) true n 9 ((cs.drop 0).take (Tryz.prog.cellsOf 9)) = xs[0]? := hf 0 _ rfl
  have g1 : DataW.trod enc Tryz.prog W base (fun _ => true) true n 9 ((cs.drop 1).take (Tryz.prog.cellsOf 9)) = xs[1]? := hf 1 _ rfl
  have g2 : DataW.trod enc Tryz.prog W base (fun _ => true) true n 9 ((cs.drop 2).take (Tryz.prog.cellsOf 9)) = xs[2]? := hf 2 _ rfl
  have g3 : DataW.trod enc Tryz.prog W base (fun _ => true) true n 9 ((cs.drop 3).take (Tryz.prog.cellsOf 9)) = xs[3]? := hf 3 _ rfl
  have g4 : DataW.trod enc Tryz.prog W base (fun _ => true) true n 4 ((cs.drop 4).take (Tryz.prog.cellsOf 4)) = xs[4]? := hf 4 _ rfl
  clear hf
  match xs, hxl, cs, hl with
  | [y0, y1, y2, y3, y4], _, [c0, c1, c2, c3, c4], _ =>
    simp only [e0, e1, List.drop_zero, List.take_succ_cons, List.take_zero, List.drop_succ_cons, List.getElem?_cons_zero, List.getElem?_cons_succ] at g0 g1 g2 g3 g4
    obtain ⟨s0, h0, _, z0⟩ := DataW.trod_string Tryz.underlying9 g0
    obtain ⟨s1, h1, _, z1⟩ := DataW.trod_string Tryz.underlying9 g1
    obtain ⟨s2, h2, _, z2⟩ := DataW.trod_string Tryz.underlying9 g2
    obtain ⟨s3, h3, _, z3⟩ := DataW.trod_string Tryz.underlying9 g3
    obtain ⟨b4, h4, _⟩ := DataW.trod_bool Tryz.underlying4 g4
    simp only [List.cons.injEq, and_true] at h0 h1 h2 h3 h4
    subst h0 h1 h2 h3 h4
    exact ⟨⟨s0, s1, s2, s3, b4⟩, rfl, z0, z1, z2, z3⟩
theorem add_none (b off j : Nat) : (⟨b, off, none⟩ : Addr).add j = ⟨b, off + j, none⟩ := by unfold Addr.add; split <;> simp_all
/-- What a walk is told of a slice of fields that came in. -/
def IsFlds (w : World) (a : Option Addr) (len cap : Nat) (fs : List Fld) : Prop :=
  fs.length = len ∧ FldAt w a fs ∧ len ≤ cap ∧ cap ≤ maxLen ∧ FldsLe fs
theorem flds_of {H : Type} {enc : TypeId × Value → H} {W : World} {base fuel : Nat} {x : DataW H × List MemPlace} {cs : List Value}
    (h : DataW.trod enc Tryz.prog W base (fun _ => true) true fuel 106 cs = some x) : ∃ a len cap fs, cs = [.slice a len cap] ∧ IsFlds W a len cap fs := by
  have ce : Tryz.prog.cellsOf 168 = 5 := by kernel_rfl
  rcases open_slice Tryz.underlying106 h with ⟨hcs, _⟩ | ⟨ad, len, cap, m, n, D, Pl, hcs, _, hl, hm, hmm, _, hx⟩
  · exact ⟨none, 0, 0, [], hcs, rfl, FldAt.nil _ _, Nat.le_refl _, by unfold maxLen; omega, fun x hx => by cases hx⟩
  · have hmm : m = cap := hmm
    subst hmm
    have each : ∀ i, i < m → ∃ f : Fld, (W.cell? (ad.add (i * 5)) = some (.string f.n) ∧ W.cell? (ad.add (i * 5 + 1)) = some (.string f.c) ∧ W.cell? (ad.add (i * 5 + 2)) = some (.string f.s) ∧ W.cell? (ad.add (i * 5 + 3)) = some (.string f.v) ∧ W.cell? (ad.add (i * 5 + 4)) = some (.bool f.g)) ∧ FldLe f := by
      intro i hi
      obtain ⟨cs', h1, h2⟩ := hx i hi
      rw [ce] at h1
      obtain ⟨_, hlen, hcell⟩ := World.cells?_some h1
      obtain ⟨f, rfl, hz⟩ := fld_of h2
      have e0 := hcell 0 (by omega)
      have e1 := hcell 1 (by omega)
      have e2 := hcell 2 (by omega)
      have e3 := hcell 3 (by omega)
      have e4 := hcell 4 (by omega)
      rw [add_add] at e0 e1 e2 e3 e4
      exact ⟨f, ⟨by simpa using e0, by simpa using e1, by simpa using e2, by simpa using e3, by simpa using e4⟩, hz⟩
    obtain ⟨F, hF⟩ := choose_lt each
    refine ⟨some ad, len, m, (List.range len).map F, hcs, by simp, ?_, hl, hm, ?_⟩
    · intro i hi
      have hi2 : i < len := by simpa using hi
      obtain ⟨b, off, spot⟩ := ad
      obtain ⟨⟨q0, q1, q2, q3, q4⟩, -⟩ := hF i (by omega)
      have q00 := (hF 0 (by omega)).1.1
      rw [Nat.zero_mul] at q00
      have hspot : spot = none := by simpa [Addr.add] using World.cell?_spot q00
      subst hspot
      rw [add_none] at q0 q1 q2 q3 q4
      have he : ((List.range len).map F)[i] = F i := by simp
      rw [he]
      refine ⟨b, off, rfl, World.block_lt_of_cell? W _ q0, q0, ?_, ?_, ?_, ?_⟩
      · rw [Nat.add_assoc]; exact q1
      · rw [Nat.add_assoc]; exact q2
      · rw [Nat.add_assoc]; exact q3
      · rw [Nat.add_assoc]; exact q4
    · intro f hf
      obtain ⟨i, hi, rfl⟩ := List.mem_map.1 hf
      exact (hF i (by have := List.mem_range.1 hi; omega)).2
theorem open_field {H : Type} {enc : TypeId × Value → H} {W : World} {base : Nat} {v : Value} {d : DataW H} {ps : List MemPlace} (hval : Value.okWide Tryz.prog W .any base 168 v)
    (h : DataW.Trod enc Tryz.prog W 0 (fun _ => true) true 168 v d ps) : ∃ f : Fld, v = .agg #[.string f.n, .string f.c, .string f.s, .string f.v, .bool f.g] ∧ FldLe f := by
  obtain ⟨cs, rfl, hsz⟩ := okWide_struct Tryz.underlying168 hval
  obtain ⟨fuel, hf⟩ := h
  obtain ⟨f, hc, hz⟩ := fld_of hf
  refine ⟨f, ?_, hz⟩
  simp only [Value.cells] at hc
  rw [show cs = #[.string f.n, .string f.c, .string f.s, .string f.v, .bool f.g] from by cases cs; simp_all]
theorem open_row {H : Type} {enc : TypeId × Value → H} {W : World} {base : Nat} {v : Value} {d : DataW H} {ps : List MemPlace} (hval : Value.okWide Tryz.prog W .any base 108 v)
    (h : DataW.Trod enc Tryz.prog W 0 (fun _ => true) true 108 v d ps) : ∃ kd at_ a len cap fs, v = .agg #[.string kd, .int .i64 at_, .slice a len cap] ∧ kd.size ≤ maxLen ∧ (Lit.int .i64 at_).wf = true ∧ IsFlds W a len cap fs := by
  obtain ⟨cs, rfl, hsz⟩ := okWide_struct Tryz.underlying108 hval
  have h2 : cs.size = 3 := hsz.trans (by kernel_rfl)
  obtain ⟨fuel, hf⟩ := h
  obtain ⟨xs, n, hk, hxy, hl, hxl, hf⟩ := DataW.trod_struct Tryz.underlying108 hf
  have e0 : Tryz.prog.cellsOf 9 = 1 := by kernel_rfl
  have e1 : Tryz.prog.cellsOf 2 = 1 := by kernel_rfl
  have e2 : Tryz.prog.cellsOf 106 = 1 := by kernel_rfl
  have g0 : DataW.trod enc Tryz.prog W 0 (fun _ => true) true n 9 ((cs.toList.drop 0).take (Tryz.prog.cellsOf 9)) = xs[0]? := hf 0 _ rfl
  have g1 : DataW.trod enc Tryz.prog W 0 (fun _ => true) true n 2 ((cs.toList.drop 1).take (Tryz.prog.cellsOf 2)) = xs[1]? := hf 1 _ rfl
  have g2 : DataW.trod enc Tryz.prog W 0 (fun _ => true) true n 106 ((cs.toList.drop 2).take (Tryz.prog.cellsOf 106)) = xs[2]? := hf 2 _ rfl
  clear hf
  match xs, hxl, cs, h2 with
  | [y0, y1, y2], _, ⟨[c0, c1, c2]⟩, _ =>
    simp only [e0, e1, e2, List.drop_zero, List.take_succ_cons, List.take_zero, List.drop_succ_cons, List.getElem?_cons_zero, List.getElem?_cons_succ] at g0 g1 g2
    obtain ⟨s0, h0, _, z0⟩ := DataW.trod_string Tryz.underlying9 g0
    obtain ⟨i1, h1, _, z1⟩ := DataW.trod_int Tryz.underlying2 g1
    obtain ⟨a, len, cap, fs, h2, z2⟩ := flds_of g2
    simp only [List.cons.injEq, and_true] at h0 h1 h2
    subst h0 h1 h2
    exact ⟨s0, i1, a, len, cap, fs, rfl, z0, z1, z2⟩
end Go.Proofs.YtamdgdkpcoeknaaGreatDoor
/-
  A log that came in: what the opened data of a law's parameter says of the cells.
-/
namespace Go.Proofs.YtamdgdkpcoeknaaGreatDoor
open Go.ChangeShapes Go.WideShapes Go.ChangeAt Go.RowKit Go.Deep
set_option linter.unusedVariables false
set_option maxRecDepth 100000

/-- What a walk is told of a slice of texts that came in. -/
def IsTxts (w : World) (a : Option Addr) (len cap : Nat) (ss : List ByteArray) : Prop :=
  ss.length = len ∧ TxtAt w a ss ∧ len ≤ cap ∧ cap ≤ maxLen ∧ ∀ x ∈ ss, x.size ≤ maxLen
theorem txts_of {H : Type} {enc : TypeId × Value → H} {W : World} {base : Nat} {fuel : Nat} {x : DataW H × List MemPlace} {cs : List Value}
    (h : DataW.trod enc Tryz.prog W base (fun _ => true) true fuel 23 cs = some x) : ∃ a len cap ss, cs = [.slice a len cap] ∧ IsTxts W a len cap ss := by
  rcases Go.Deep.open_strs Tryz.underlying23 Tryz.underlying9 (by kernel_rfl) h with ⟨hcs, _⟩ | ⟨ad, l, c, m, Sx, hcs, _, hl, hm, hmm, _, hx⟩
  · exact ⟨none, 0, 0, [], hcs, rfl, TxtAt.nil _ _, Nat.le_refl _, by unfold maxLen; omega, fun x hx => by cases hx⟩
  · rw [if_pos rfl] at hmm
    subst hmm
    refine ⟨some ad, l, m, (List.range l).map Sx, hcs, by simp, ?_, hl, hm, ?_⟩
    · intro i hi
      have hi2 : i < l := by simpa using hi
      obtain ⟨b, off, spot⟩ := ad
      have hc := (hx i (by omega)).1
      have hspot : spot = none := by simpa [Addr.add] using World.cell?_spot (hx 0 (by omega)).1
      subst hspot
      rw [add_none] at hc
      exact ⟨b, off, rfl, World.block_lt_of_cell? W _ hc, by rw [hc]; simp⟩
    · intro x hxm
      obtain ⟨i, hi, rfl⟩ := List.mem_map.1 hxm
      exact (hx i (by have := List.mem_range.1 hi; omega)).2
instance : Inhabited Rw := ⟨⟨ByteArray.empty, 0, []⟩⟩
theorem rw_of {H : Type} {enc : TypeId × Value → H} {W : World} {base fuel : Nat} {cs : List Value} {x : DataW H × List MemPlace}
    (h : DataW.trod enc Tryz.prog W base (fun _ => true) true fuel 108 cs = some x) : ∃ r : Rw, ∃ q c, cs = [.string r.k, .int .i64 r.a, .slice q r.fs.length c] ∧ r.fs.length ≤ c ∧ c ≤ maxLen ∧ FldAt W q r.fs ∧ r.k.size ≤ maxLen ∧ FldsLe r.fs := by
  obtain ⟨xs, n, hk, hxy, hl, hxl, hf⟩ := DataW.trod_struct Tryz.underlying108 h
  have hl : cs.length = 3 := hl.trans (by kernel_rfl)
  have e0 : Tryz.prog.cellsOf 9 = 1 := by kernel_rfl
  have e1 : Tryz.prog.cellsOf 2 = 1 := by kernel_rfl
  have e2 : Tryz.prog.cellsOf 106 = 1 := by kernel_rfl
  have g0 : DataW.trod enc Tryz.prog W base (fun _ => true) true n 9 ((cs.drop 0).take (Tryz.prog.cellsOf 9)) = xs[0]? := hf 0 _ rfl
  have g1 : DataW.trod enc Tryz.prog W base (fun _ => true) true n 2 ((cs.drop 1).take (Tryz.prog.cellsOf 2)) = xs[1]? := hf 1 _ rfl
  have g2 : DataW.trod enc Tryz.prog W base (fun _ => true) true n 106 ((cs.drop 2).take (Tryz.prog.cellsOf 106)) = xs[2]? := hf 2 _ rfl
  clear hf
  match xs, hxl, cs, hl with
  | [y0, y1, y2], _, [c0, c1, c2], _ =>
    simp only [e0, e1, e2, List.drop_zero, List.take_succ_cons, List.take_zero, List.drop_succ_cons, List.getElem?_cons_zero, List.getElem?_cons_succ] at g0 g1 g2
    obtain ⟨s0, h0, _, z0⟩ := DataW.trod_string Tryz.underlying9 g0
    obtain ⟨i1, h1, _, z1⟩ := DataW.trod_int Tryz.underlying2 g1
    obtain ⟨a, len, cap, fs, h2, z2⟩ := flds_of g2
    simp only [List.cons.injEq, and_true] at h0 h1 h2
    subst h0 h1 h2
    obtain ⟨rfl, zf, zc, zm, zz⟩ := z2
    exact ⟨⟨s0, i1, fs⟩, a, cap, rfl, zc, zm, zf, z0, zz⟩
/-- What a walk is told of a slice of rows that came in. -/
def IsRws (w : World) (a : Option Addr) (len cap : Nat) (rs : List Rw) : Prop :=
  rs.length = len ∧ RwAt w a rs ∧ len ≤ cap ∧ cap ≤ maxLen ∧ ∀ r ∈ rs, r.fs.length ≤ maxLen ∧ r.k.size ≤ maxLen ∧ FldsLe r.fs
theorem rws_of {H : Type} {enc : TypeId × Value → H} {W : World} {base fuel : Nat} {x : DataW H × List MemPlace} {cs : List Value}
    (h : DataW.trod enc Tryz.prog W base (fun _ => true) true fuel 22 cs = some x) : ∃ a len cap rs, cs = [.slice a len cap] ∧ IsRws W a len cap rs := by
  have ce : Tryz.prog.cellsOf 108 = 3 := by kernel_rfl
  rcases open_slice Tryz.underlying22 h with ⟨hcs, _⟩ | ⟨ad, len, cap, m, n, D, Pl, hcs, _, hl, hm, hmm, _, hx⟩
  · exact ⟨none, 0, 0, [], hcs, rfl, RwAt.nil _ _, Nat.le_refl _, by unfold maxLen; omega, fun x hx => by cases hx⟩
  · have hmm : m = cap := hmm
    subst hmm
    have each : ∀ i, i < m → ∃ r : Rw, ∃ q c, (W.cell? (ad.add (i * 3)) = some (.string r.k) ∧ W.cell? (ad.add (i * 3 + 1)) = some (.int .i64 r.a) ∧ W.cell? (ad.add (i * 3 + 2)) = some (.slice q r.fs.length c)) ∧ r.fs.length ≤ c ∧ c ≤ maxLen ∧ FldAt W q r.fs ∧ r.k.size ≤ maxLen ∧ FldsLe r.fs := by
      intro i hi
      obtain ⟨cs', h1, h2⟩ := hx i hi
      rw [ce] at h1
      obtain ⟨_, hlen, hcell⟩ := World.cells?_some h1
      obtain ⟨r, q, c, rfl, hz⟩ := rw_of h2
      have e0 := hcell 0 (by omega)
      have e1 := hcell 1 (by omega)
      have e2 := hcell 2 (by omega)
      rw [add_add] at e0 e1 e2
      exact ⟨r, q, c, ⟨by simpa using e0, by simpa using e1, by simpa using e2⟩, hz⟩
    obtain ⟨F, hF⟩ := choose_lt each
    refine ⟨some ad, len, m, (List.range len).map F, hcs, by simp, ?_, hl, hm, ?_⟩
    · intro i hi
      have hi2 : i < len := by simpa using hi
      obtain ⟨b, off, spot⟩ := ad
      obtain ⟨q, c, ⟨q0, q1, q2⟩, z0, z1, z2, -⟩ := hF i (by omega)
      obtain ⟨-, -, ⟨q00, -⟩, -⟩ := hF 0 (by omega)
      rw [Nat.zero_mul] at q00
      have hspot : spot = none := by simpa [Addr.add] using World.cell?_spot q00
      subst hspot
      rw [add_none] at q0 q1 q2
      have he : ((List.range len).map F)[i] = F i := by simp
      rw [he]
      refine ⟨b, off, q, c, rfl, World.block_lt_of_cell? W _ q0, q0, ?_, ?_, z0, z2⟩
      · rw [Nat.add_assoc]; exact q1
      · rw [Nat.add_assoc]; exact q2
    · intro f hf
      obtain ⟨i, hi, rfl⟩ := List.mem_map.1 hf
      obtain ⟨q, c, -, z0, z1, -, z3, z4⟩ := hF i (by have := List.mem_range.1 hi; omega)
      exact ⟨Nat.le_trans z0 z1, z3, z4⟩
/-- What a walk is told of a log that came in. -/
def IsLog (w : World) (q : Option Addr) (cq : Nat) (rs : List Rw) (p : Option Addr) (cp : Nat) (lv : List ByteArray) (now : Int) : Prop :=
  IsRws w q rs.length cq rs ∧ IsTxts w p lv.length cp lv ∧ (Lit.int .i64 now).wf = true
theorem open_log {H : Type} {enc : TypeId × Value → H} {W : World} {base : Nat} {v : Value} {d : DataW H} {ps : List MemPlace} (hval : Value.okWide Tryz.prog W .any base 25 v)
    (h : DataW.Trod enc Tryz.prog W 0 (fun _ => true) true 25 v d ps) : ∃ q cq rs p cp lv now, v = .agg #[.slice q rs.length cq, .slice p lv.length cp, .int .i64 now] ∧ IsLog W q cq rs p cp lv now := by
  obtain ⟨cs, rfl, hsz⟩ := okWide_struct Tryz.underlying25 hval
  have h2 : cs.size = 3 := hsz.trans (by kernel_rfl)
  obtain ⟨fuel, hf⟩ := h
  obtain ⟨xs, n, hk, hxy, hl, hxl, hf⟩ := DataW.trod_struct Tryz.underlying25 hf
  have e0 : Tryz.prog.cellsOf 22 = 1 := by kernel_rfl
  have e1 : Tryz.prog.cellsOf 23 = 1 := by kernel_rfl
  have e2 : Tryz.prog.cellsOf 2 = 1 := by kernel_rfl
  have g0 : DataW.trod enc Tryz.prog W 0 (fun _ => true) true n 22 ((cs.toList.drop 0).take (Tryz.prog.cellsOf 22)) = xs[0]? := hf 0 _ rfl
  have g1 : DataW.trod enc Tryz.prog W 0 (fun _ => true) true n 23 ((cs.toList.drop 1).take (Tryz.prog.cellsOf 23)) = xs[1]? := hf 1 _ rfl
  have g2 : DataW.trod enc Tryz.prog W 0 (fun _ => true) true n 2 ((cs.toList.drop 2).take (Tryz.prog.cellsOf 2)) = xs[2]? := hf 2 _ rfl
  clear hf
  match xs, hxl, cs, h2 with
  | [y0, y1, y2], _, ⟨[c0, c1, c2]⟩, _ =>
    simp only [e0, e1, e2, List.drop_zero, List.take_succ_cons, List.take_zero, List.drop_succ_cons, List.getElem?_cons_zero, List.getElem?_cons_succ] at g0 g1 g2
    obtain ⟨q, lq, cq, rs, h0, z0⟩ := rws_of g0
    obtain ⟨p, lp, cp, lv, h1, z1⟩ := txts_of g1
    obtain ⟨now, h2, _, z2⟩ := DataW.trod_int Tryz.underlying2 g2
    simp only [List.cons.injEq, and_true] at h0 h1 h2
    subst h0 h1 h2
    have r0 := z0.1
    have r1 := z1.1
    subst r0 r1
    exact ⟨q, cq, rs, p, cp, lv, now, rfl, z0, z1, z2⟩
end Go.Proofs.YtamdgdkpcoeknaaGreatDoor
/-
  What the two listed tables give a walk: 'Tabs'.
-/
namespace Go.Proofs.YtamdgdkpcoeknaaGreatDoor
open Go.RowKit Go.Lib
set_option linter.unusedVariables false

theorem g0 : Tryz.prog.globalNamed "loop.example/g00633/impl.firstState" = some 0 := by kernel_rfl
theorem g1 : Tryz.prog.globalNamed "loop.example/g00633/impl.roundNums" = some 1 := by kernel_rfl
theorem tab_of {W : World} {name : String} {zs : List Int} {g : Nat} {t : TypeId} {n : Nat} (hg : Tryz.prog.globalNamed name = some g) (hty : (Tryz.prog.globals[g]?).map (·.type) = some t) (ht : Tryz.prog.underlying t = some (.array n 201)) (hct : Tryz.prog.cellsOf t = n)
    (h : VarReads Tryz.prog W name (tabData .u32 zs)) (i : Nat) (hi : i < zs.length) : W.cell? ⟨g, i, none⟩ = some (.int .u32 (zs.getD i 0)) := by
  obtain ⟨g', t', cs, fuel, p, h1, h2, h3, h4⟩ := h
  obtain rfl := Option.some.inj (hg.symm.trans h1)
  obtain rfl := Option.some.inj (hty.symm.trans h2)
  refine TabIs.cell (P := Tryz.prog) (name := name) ?_ hg i hi
  unfold TabIs
  rw [h3, ← cells_of_tab ht Tryz.underlying201 (by kernel_rfl) hct h4]
theorem tabs_of {W : World} (h : laidMet Tryz.prog [("loop.example/g00633/impl.firstState", Rows.laid_loop_example_g00633_impl_firstState), ("loop.example/g00633/impl.roundNums", Rows.laid_loop_example_g00633_impl_roundNums)] W) : Tabs W := by
  have r0 : VarReads Tryz.prog W "loop.example/g00633/impl.firstState" (tabData .u32 startN) := laidMet.reads h (.head _)
  have r1 : VarReads Tryz.prog W "loop.example/g00633/impl.roundNums" (tabData .u32 keysN) := laidMet.reads h (.tail _ (.head _))
  have c0 := tab_of g0 (by kernel_rfl) (t := 219) (n := 8) (by kernel_rfl) (by kernel_rfl) r0
  have c1 := tab_of g1 (by kernel_rfl) (t := 230) (n := 64) (by kernel_rfl) (by kernel_rfl) r1
  exact ⟨World.block_lt_of_cell? W ⟨1, 0, none⟩ (c1 0 (by decide)), fun i hi => c1 i hi, fun i hi => c0 i hi⟩
end Go.Proofs.YtamdgdkpcoeknaaGreatDoor
/-
  What the three listed variables give a walk: errors.errorType and the two tables of the digest.
-/
namespace Go.Proofs.YtamdgdkpcoeknaaGreatDoor
open Go.RowKit
set_option linter.unusedVariables false

theorem et3 : Tryz.prog.globalNamed "errors.errorType" = some 2 := by kernel_rfl
theorem rt3 : (Tryz.prog.cutTypes.find? (·.1 == "internal/reflectlite.rtype")).map (·.2) = some 259 := by kernel_rfl
theorem oneRow3 : ((List.range 308).filter fun t => Tryz.prog.rowNamed t [101, 114, 114, 111, 114]) = [224] := by kernel_rfl
theorem size3 : Tryz.prog.types.size = 308 := by kernel_rfl
theorem laid3_of {W : World} (h : laidMetH Tryz.prog [("errors.errorType", Rows.laid_errors_errorType), ("loop.example/g00633/impl.firstState", Rows.laid_loop_example_g00633_impl_firstState), ("loop.example/g00633/impl.roundNums", Rows.laid_loop_example_g00633_impl_roundNums)] W) : Tabs W ∧ Laid W := by
  have h' : laidMet Tryz.prog [("loop.example/g00633/impl.firstState", Rows.laid_loop_example_g00633_impl_firstState), ("loop.example/g00633/impl.roundNums", Rows.laid_loop_example_g00633_impl_roundNums)] W ∧ handlesMet Tryz.prog [("errors.errorType", Rows.laid_errors_errorType)] W := h
  refine ⟨tabs_of h'.1, ?_⟩
  obtain ⟨name, u, ty, e1, e2, e3, e4, e5⟩ := h'.2 _ (List.mem_singleton.2 rfl)
  have en : name = [101, 114, 114, 111, 114] := (Option.some.inj e1).symm
  subst en
  obtain rfl := Option.some.inj (rt3.symm.trans e2)
  have hm : ty ∈ (List.range 308).filter fun t => Tryz.prog.rowNamed t [101, 114, 114, 111, 114] := List.mem_filter.2 ⟨List.mem_range.2 (by rw [← size3]; exact e3), e4⟩
  rw [oneRow3] at hm
  obtain rfl := List.mem_singleton.1 hm
  have hh : typeHandle Tryz.prog 224 = .pointer (some ⟨3, 224, none⟩) := by kernel_rfl
  rw [hh] at e5
  show W.cell? ⟨2, 0, none⟩ = _
  simpa using World.var?_cell et3 e5 0
end Go.Proofs.YtamdgdkpcoeknaaGreatDoor
