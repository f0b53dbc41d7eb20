/-
  Parts of one proof, laid as one text: OpP, AppS, RulBlk; what each says stands at its head.
-/
import Derived.Test.YtifomfimfdgjjaaGreatDoorRows
import Derived.Test.YtifomfimfdgjjaaGreatDoorBytesDigMath
import Derived.Test.YtifomfimfdgjjaaGreatDoorSlASlBBxKTakesOwnS
import Derived.Test.YtifomfimfdgjjaaGreatDoorOpFOpLgBlNotRulMathIntKPolMath
import Derived.WalkKit
import Derived.ProofKit
import Derived.OpenShut
import Derived.Deep.Slices
import Derived.ChangeSame
import Derived.ChangeSlices
import Derived.Handy
import Derived.OwnWalk
import Derived.Deep.AppendLies
/-
  Rules and policies that came in: what the opened data of a law's parameter says of the cells.
-/
namespace Go.Proofs.YtifomfimfdgjjaaGreatDoor
open Go.ChangeShapes Go.WideShapes Go.ChangeAt Go.RowKit Go.Deep
set_option linter.unusedVariables false
set_option maxRecDepth 100000

instance : Inhabited Rul := ⟨⟨ByteArray.empty, ByteArray.empty, 0, 0⟩⟩
def RulLe (f : Rul) : Prop := f.k.size ≤ maxLen ∧ f.f.size ≤ maxLen
theorem rul_of {H : Type} {enc : TypeId × Value → H} {W : World} {base fuel : Nat} {cs : List Value} {x : DataW H × List MemPlace}
    (h : DataW.trod enc Tryz.prog W base (fun _ => true) true fuel 124 cs = some x) : ∃ f : Rul, cs = [.string f.k, .string f.f, .int .i64 f.l, .int .i64 f.m] ∧ RulLe f := by
  obtain ⟨xs, n, hk, hxy, hl, hxl, hf⟩ := DataW.trod_struct Tryz.underlying124 h
  have hl : cs.length = 4 := hl.trans (by kernel_rfl)
  have e0 : Tryz.prog.cellsOf 9 = 1 := by kernel_rfl
  have e1 : Tryz.prog.cellsOf 2 = 1 := by kernel_rfl
  have g0 : DataW.trod enc Tryz.prog W base (fun _ => true) true n 9 ((cs.drop 0).take (Tryz.prog.cellsOf 9)) = xs[0]? := hf 0 _ rfl
  have g1 : DataW.trod enc Tryz.prog W base (fun _ => true) true n 9 ((cs.drop 1).take (Tryz.prog.cellsOf 9)) = xs[1]? := hf 1 _ rfl
  have g2 : DataW.trod enc Tryz.prog W base (fun _ => true) true n 2 ((cs.drop 2).take (Tryz.prog.cellsOf 2)) = xs[2]? := hf 2 _ rfl
  have g3 : DataW.trod enc Tryz.prog W base (fun _ => true) true n 2 ((cs.drop 3).take (Tryz.prog.cellsOf 2)) = xs[3]? := hf 3 _ rfl
  clear hf
  match xs, hxl, cs, hl with
  | [y0, y1, y2, y3], _, [c0, c1, c2, c3], _ =>
    simp only [e0, e1, List.drop_zero, List.take_succ_cons, List.take_zero, List.drop_succ_cons, List.getElem?_cons_zero, List.getElem?_cons_succ] at g0 g1 g2 g3
    obtain ⟨s0, h0, _, z0⟩ := DataW.trod_string Tryz.underlying9 g0
    obtain ⟨s1, h1, _, z1⟩ := DataW.trod_string Tryz.underlying9 g1
    obtain ⟨i2, h2, _, _⟩ := DataW.trod_int Tryz.underlying2 g2
    obtain ⟨i3, h3, _, _⟩ := DataW.trod_int Tryz.underlying2 g3
    simp only [List.cons.injEq, and_true] at h0 h1 h2 h3
    subst h0 h1 h2 h3
    exact ⟨⟨s0, s1, i2, i3⟩, rfl, z0, z1⟩
theorem addN_none (b off j : Nat) : (⟨b, off, none⟩ : Addr).add j = ⟨b, off + j, none⟩ := by unfold Addr.add; split <;> simp_all
/-- What a walk is told of a slice of rules that came in. -/
def IsRuls (w : World) (a : Option Addr) (len cap : Nat) (fs : List Rul) : Prop :=
  fs.length = len ∧ RulAt w a fs ∧ len ≤ cap ∧ cap ≤ maxLen ∧ RulsLe fs
theorem ruls_of {H : Type} {enc : TypeId × Value → H} {W : World} {base fuel : Nat} {x : DataW H × List MemPlace} {cs : List Value}
    (h : DataW.trod enc Tryz.prog W base (fun _ => true) true fuel 26 cs = some x) : ∃ a len cap fs, cs = [.slice a len cap] ∧ IsRuls W a len cap fs := by
  have ce : Tryz.prog.cellsOf 124 = 4 := by kernel_rfl
  rcases open_slice Tryz.underlying26 h with ⟨hcs, _⟩ | ⟨ad, len, cap, m, n, D, Pl, hcs, _, hl, hm, hmm, _, hx⟩
  · exact ⟨none, 0, 0, [], hcs, rfl, RulAt.nil _ _, Nat.le_refl _, by unfold maxLen; omega, fun x hx => by cases hx⟩
  · have hmm : m = cap := hmm
    subst hmm
    have each : ∀ i, i < m → ∃ f : Rul, (W.cell? (ad.add (i * 4)) = some (.string f.k) ∧ W.cell? (ad.add (i * 4 + 1)) = some (.string f.f) ∧ W.cell? (ad.add (i * 4 + 2)) = some (.int .i64 f.l) ∧ W.cell? (ad.add (i * 4 + 3)) = some (.int .i64 f.m)) ∧ RulLe f := by
      intro i hi
      obtain ⟨cs', h1, h2⟩ := hx i hi
      rw [ce] at h1
      obtain ⟨_, hlen, hcell⟩ := World.cells?_some h1
      obtain ⟨f, rfl, hz⟩ := rul_of h2
      have e0 := hcell 0 (by omega)
      have e1 := hcell 1 (by omega)
      have e2 := hcell 2 (by omega)
      have e3 := hcell 3 (by omega)
      rw [add_add] at e0 e1 e2 e3
      exact ⟨f, ⟨by simpa using e0, by simpa using e1, by simpa using e2, by simpa using e3⟩, hz⟩
    obtain ⟨F, hF⟩ := choose_lt each
    refine ⟨some ad, len, m, (List.range len).map F, hcs, by simp, ?_, hl, hm, ?_⟩
    · intro i hi
      have hi2 : i < len := by simpa using hi
      obtain ⟨b, off, spot⟩ := ad
      obtain ⟨⟨q0, q1, q2, q3⟩, -⟩ := hF i (by omega)
      have q00 := (hF 0 (by omega)).1.1
      rw [Nat.zero_mul] at q00
      have hspot : spot = none := by simpa [Addr.add] using World.cell?_spot q00
      subst hspot
      rw [addN_none] at q0 q1 q2 q3
      have he : ((List.range len).map F)[i] = F i := by simp
      rw [he]
      refine ⟨b, off, rfl, World.block_lt_of_cell? W _ q0, q0, ?_, ?_, ?_⟩
      · rw [Nat.add_assoc]; exact q1
      · rw [Nat.add_assoc]; exact q2
      · rw [Nat.add_assoc]; exact q3
    · intro f hf
      obtain ⟨i, hi, rfl⟩ := List.mem_map.1 hf
      exact (hF i (by have := List.mem_range.1 hi; omega)).2
/-- What the walk is told of a slice of numbers that came in. -/
def IsIntsP (w : World) (a : Option Addr) (len cap : Nat) (ks : List Int) : Prop :=
  ks.length = len ∧ IntAt w a ks ∧ len ≤ cap ∧ cap ≤ maxLen
theorem intsP_of {H : Type} {enc : TypeId × Value → H} {W : World} {base : Nat} {fuel : Nat} {x : DataW H × List MemPlace} {a : Option Addr} {len cap : Nat}
    (h : DataW.trod enc Tryz.prog W base (fun _ => true) true fuel 27 [.slice a len cap] = some x) : ∃ ks, IsIntsP W a len cap ks := by
  rcases open_ints Tryz.underlying27 Tryz.underlying2 (by kernel_rfl) h with ⟨hcs, _⟩ | ⟨ad, l, c, zs, hcs, _, hl, hm, hz, _, hx, _⟩
  · simp at hcs
    obtain ⟨rfl, rfl, rfl⟩ := hcs
    exact ⟨[], rfl, IntAt.nil _ _, Nat.le_refl _, by unfold maxLen; omega⟩
  · simp at hcs
    obtain ⟨rfl, rfl, rfl⟩ := hcs
    rw [if_pos rfl] at hz
    refine ⟨zs.take len, by simp; omega, ?_, hl, hm⟩
    intro i hi
    have hi2 : i < len := by simp at hi; omega
    obtain ⟨b, off, spot⟩ := ad
    have hc := hx i (by omega)
    have hspot : spot = none := by simpa [Addr.add] using World.cell?_spot (hx 0 (by omega))
    subst hspot
    have hadd : (⟨b, off, none⟩ : Addr).add i = ⟨b, off + i, none⟩ := by unfold Addr.add; split <;> simp_all
    rw [hadd] at hc
    refine ⟨b, off, rfl, World.block_lt_of_cell? W _ hc, ?_⟩
    rw [hc, List.getElem_take, List.getD_eq_getElem?_getD, List.getElem?_eq_getElem (by omega)]
    rfl
theorem open_rule {H : Type} {enc : TypeId × Value → H} {W : World} {base : Nat} {v : Value} {d : DataW H} {ps : List MemPlace} (hval : Value.okWide Tryz.prog W .any base 124 v)
    (h : DataW.Trod enc Tryz.prog W 0 (fun _ => true) true 124 v d ps) : ∃ f : Rul, v = .agg #[.string f.k, .string f.f, .int .i64 f.l, .int .i64 f.m] ∧ RulLe f := by
  obtain ⟨cs, rfl, hsz⟩ := okWide_struct Tryz.underlying124 hval
  obtain ⟨fuel, hf⟩ := h
  obtain ⟨f, hc, hz⟩ := rul_of hf
  refine ⟨f, ?_, hz⟩
  simp only [Value.cells] at hc
  rw [show cs = #[.string f.k, .string f.f, .int .i64 f.l, .int .i64 f.m] from by cases cs; simp_all]
theorem open_policy {H : Type} {enc : TypeId × Value → H} {W : World} {base : Nat} {v : Value} {d : DataW H} {qs : List MemPlace} (hval : Value.okWide Tryz.prog W .any base 29 v)
    (h : DataW.Trod enc Tryz.prog W 0 (fun _ => true) true 29 v d qs) : ∃ a1 len1 cap1 a2 len2 cap2, v = .agg #[.slice a1 len1 cap1, .slice a2 len2 cap2] ∧ (∃ ss, IsRuls W a1 len1 cap1 ss) ∧ ∃ ps, IsIntsP W a2 len2 cap2 ps := by
  obtain ⟨cs, rfl, hsz⟩ := okWide_struct Tryz.underlying29 hval
  have h2 : cs.size = 2 := hsz.trans (by kernel_rfl)
  obtain ⟨fuel, hf⟩ := h
  obtain ⟨y0, y1, m, _, _, ht0, ht1⟩ := trod_struct2 Tryz.underlying29 hf
  obtain ⟨c0, c1, rfl⟩ : ∃ c0 c1, cs = #[c0, c1] := by
    match cs, h2 with
    | ⟨[c0, c1]⟩, _ => exact ⟨c0, c1, rfl⟩
  have e0 : Tryz.prog.cellsOf 26 = 1 := by kernel_rfl
  have e1 : Tryz.prog.cellsOf 27 = 1 := by kernel_rfl
  simp only [Value.cells, e0, e1, List.drop_zero, List.take_succ_cons, List.take_zero, List.drop_succ_cons] at ht0 ht1
  obtain ⟨a1, l1, k1, ss, hr, w1⟩ := ruls_of ht0
  simp at hr
  subst hr
  rcases open_ints Tryz.underlying27 Tryz.underlying2 (by kernel_rfl) ht1 with ⟨hcs, _⟩ | ⟨ad, l, c, zs, hcs, _⟩
  · simp at hcs
    subst hcs
    exact ⟨a1, l1, k1, _, _, _, rfl, ⟨ss, w1⟩, intsP_of ht1⟩
  · simp at hcs
    subst hcs
    exact ⟨a1, l1, k1, _, _, _, rfl, ⟨ss, w1⟩, intsP_of ht1⟩
end Go.Proofs.YtifomfimfdgjjaaGreatDoor
/-
  append of a slice of texts onto one that the call owns: what it owns then.
-/
namespace Go.Proofs.YtifomfimfdgjjaaGreatDoor
open Go.RowKit Go.Lib
set_option linter.unusedVariables false

theorem run_append_len0 {P : Program} (w : World) (base : Nat) (t ty e : TypeId) (i : TypeInfo) (size : Nat) (ht : P.underlying t = some (.slice e)) (hi : P.info? e = some i)
    (v : Value) (n : Nat) (xs : List Value) (hown : w.ownsRow base e size v n xs) (p : Option Addr) (cap : Nat) :
    (Builtin.append_ #[t, t] ty #[v, .slice p 0 cap]).run P w = .ok v w := by
  rcases hown.2 with ⟨rfl, rfl⟩ | ⟨g, cap', cur, rfl, _, _, hnc, _⟩
  · cases p <;> simp [Builtin.append_, run_underlying ht, sizeOf, typeInfo, hi, Builtin.lenOf, Builtin.firstCells, loadCells, loadCellsFrom]
  · cases p <;> simp [Builtin.append_, run_underlying ht, sizeOf, typeInfo, hi, Builtin.lenOf, Builtin.firstCells, hnc, storeCells, loadCells, loadCellsFrom]
theorem app_texts (w : World) (base : Nat) (v : Value) (l : List ByteArray) (own : w.ownsRow base 9 1 v l.length (strRow l)) (p : Option Addr) (cap : Nat) (ss : List ByteArray) (hp : TxtAt w p ss) (hl : l.length + ss.length ≤ 1048576) (hbase : base ≤ w.heap.size) :
    ∃ v' w', (Builtin.append_ #[23, 23] 23 #[v, .slice p ss.length cap]).run Tryz.prog w = .ok v' w' ∧ w'.ownsRow base 9 1 v' (l ++ ss).length (strRow (l ++ ss)) ∧ w.grownBy w' v.ownBlock := by
  obtain ⟨i0, hi, hz0, hz1, hz2⟩ := info_parts infoStr
  by_cases h0 : ss.length = 0
  · obtain rfl : ss = [] := List.length_eq_zero_iff.1 h0
    refine ⟨v, w, run_append_len0 w base _ _ _ i0 1 Tryz.underlying23 hi v l.length (strRow l) own p cap, by simpa using own, World.grownBy.refl _ _⟩
  · obtain ⟨b, off, rfl, hb, _⟩ := hp 0 (by omega)
    obtain ⟨g, cap', w', h1, h2, h3, _⟩ := run_append_lies (P := Tryz.prog) w 23 23 base 9 i0 (.string ByteArray.empty) 1 16 Tryz.underlying23 hi hz0 hz1 hz2 rfl (by omega) v l.length (strRow l) own ⟨b, off, none⟩ ss.length cap (strRow ss) (by simp [strRow]) (fun j u hu => by
      have hj : j < ss.length := by
        rcases Nat.lt_or_ge j ss.length with q | q
        · exact q
        · rw [List.getElem?_eq_none (by simpa [strRow] using q)] at hu; cases hu
      have hadd : (⟨b, off, none⟩ : Addr).add j = ⟨b, off + j, none⟩ := by unfold Addr.add; split <;> simp_all
      rw [hadd, hp.at j hj]
      simp [strRow, hj] at hu
      rw [hu]) (fun u hu => by
      obtain ⟨x, _, rfl⟩ := List.mem_map.1 hu
      rfl) (by omega) (by unfold maxLen; omega) (by omega) hbase _ rfl
    refine ⟨_, w', h1, ?_, h3⟩
    have e1 : (l ++ ss).length = l.length + ss.length := by simp
    have e2 : strRow (l ++ ss) = strRow l ++ strRow ss := by simp [strRow]
    rw [e1, e2]; exact h2
end Go.Proofs.YtifomfimfdgjjaaGreatDoor
/-
  A block of rules that was made, and is written rule by rule.
-/
namespace Go.Proofs.YtifomfimfdgjjaaGreatDoor
open Go.RowKit Go.Lib
set_option linter.unusedVariables false

def rulCells (r : Rul) : List Value := [.string r.k, .string r.f, .int .i64 r.l, .int .i64 r.m]
def rulRow (rs : List Rul) : List Value := rs.flatMap rulCells
theorem rulRow_len (rs : List Rul) : (rulRow rs).length = rs.length * 4 := by
  induction rs with
  | nil => rfl
  | cons r rs ih => unfold rulRow at *; rw [List.flatMap_cons, List.length_append, ih]; simp [rulCells]; omega
theorem rulRow_append (rs ss : List Rul) : rulRow (rs ++ ss) = rulRow rs ++ rulRow ss := by simp [rulRow]
theorem rulRow_at (rs : List Rul) : ∀ (i : Nat) (h : i < rs.length), (rulRow rs)[i * 4]? = some (.string rs[i].k) ∧ (rulRow rs)[i * 4 + 1]? = some (.string rs[i].f) ∧ (rulRow rs)[i * 4 + 2]? = some (.int .i64 rs[i].l) ∧ (rulRow rs)[i * 4 + 3]? = some (.int .i64 rs[i].m) := by
  induction rs with
  | nil => intro i h; simp at h
  | cons r rs ih =>
    intro i h
    match i with
    | 0 => exact ⟨rfl, rfl, rfl, rfl⟩
    | i + 1 =>
      have := ih i (by simpa using h)
      rw [show (i + 1) * 4 = i * 4 + 4 by omega]
      exact this
theorem rulRow_set : ∀ (rs : List Rul) (i : Nat) (r : Rul), ((((rulRow rs).set (i * 4) (.string r.k)).set (i * 4 + 1) (.string r.f)).set (i * 4 + 2) (.int .i64 r.l)).set (i * 4 + 3) (.int .i64 r.m) = rulRow (rs.set i r)
  | [], i, r => by simp [rulRow]
  | f :: fs, 0, r => by simp [rulRow, rulCells]
  | f :: fs, i + 1, r => by
    have ih := rulRow_set fs i r
    have e0 : (i + 1) * 4 = i * 4 + 4 := by omega
    have e4 : rulRow (f :: fs) = .string f.k :: .string f.f :: .int .i64 f.l :: .int .i64 f.m :: rulRow fs := rfl
    rw [e0, e4]
    have e1 : i * 4 + 4 + 1 = i * 4 + 1 + 4 := by omega
    have e2 : i * 4 + 4 + 2 = i * 4 + 2 + 4 := by omega
    have e3 : i * 4 + 4 + 3 = i * 4 + 3 + 4 := by omega
    rw [e1, e2, e3]
    simp only [List.set_cons_succ]
    rw [ih]; rfl
def set4u (w : World) (g o : Nat) (r : Rul) : World := (((w.setCell ⟨g, o, none⟩ (.string r.k)).setCell ⟨g, o + 1, none⟩ (.string r.f)).setCell ⟨g, o + 2, none⟩ (.int .i64 r.l)).setCell ⟨g, o + 3, none⟩ (.int .i64 r.m)
theorem set4u_below {B : Nat} {a w : World} (h : Below B a w) {g : Nat} (hg : B ≤ g) (o : Nat) (r : Rul) : Below B a (set4u w g o r) := (((h.setCell hg _).setCell hg _).setCell hg _).setCell hg _
theorem set4u_other {w : World} {g b o : Nat} {T : TypeId} {cs : Array Value} (h : Bxs w g T cs) (hne : b ≠ g) (r : Rul) : Bxs (set4u w b o r) g T cs := (((h.other b _ hne _).other b _ hne _).other b _ hne _).other b _ hne _
def rulE : Rul := ⟨ByteArray.empty, ByteArray.empty, 0, 0⟩
/-- A block that holds these rules, and nothing else. -/
def BlkU (w : World) (g : Nat) (l : List Rul) : Prop := Bxs w g 71 (rulRow l).toArray
theorem BlkU.below {w w' : World} {g : Nat} {l : List Rul} (h : BlkU w g l) (hb : Below w.heap.size w w') : BlkU w' g l := Bxs.below h hb
theorem BlkU.cells {w : World} {g : Nat} {l : List Rul} (h : BlkU w g l) (i : Nat) (hi : i < l.length) : (w.cell? ⟨g, i * 4, none⟩ = some (.string l[i].k) ∧ w.cell? ⟨g, i * 4 + 1, none⟩ = some (.string l[i].f) ∧ w.cell? ⟨g, i * 4 + 2, none⟩ = some (.int .i64 l[i].l) ∧ w.cell? ⟨g, i * 4 + 3, none⟩ = some (.int .i64 l[i].m)) ∧ w.frozen? ⟨g, i * 4, none⟩ = false ∧ w.frozen? ⟨g, i * 4 + 1, none⟩ = false ∧ w.frozen? ⟨g, i * 4 + 2, none⟩ = false ∧ w.frozen? ⟨g, i * 4 + 3, none⟩ = false := by
  have hr := rulRow_at l i hi
  have hc : ∀ j, w.cell? ⟨g, j, none⟩ = (rulRow l)[j]? := fun j => by rw [Bxs.cell h j]; simp
  rw [← hc, ← hc, ← hc, ← hc] at hr
  exact ⟨hr, Bxs.fr h _, Bxs.fr h _, Bxs.fr h _, Bxs.fr h _⟩
theorem BlkU.at {w : World} {g : Nat} {l : List Rul} (h : BlkU w g l) : RulAt w (some ⟨g, 0, none⟩) l := fun i hi => ⟨g, 0, rfl, Bxs.lt h, by rw [Nat.zero_add]; exact (h.cells i hi).1⟩
theorem BlkU.set1 {w : World} {g : Nat} {l : List Value} (h : Bxs w g 71 l.toArray) (j : Nat) (v : Value) : Bxs (w.setCell ⟨g, j, none⟩ v) g 71 (l.set j v).toArray := by
  have h1 := h.set j v
  rwa [List.setIfInBounds_toArray] at h1
theorem BlkU.set4u {w : World} {g : Nat} {l : List Rul} (h : BlkU w g l) (i : Nat) (r : Rul) : BlkU (set4u w g (i * 4) r) g (l.set i r) := by
  unfold BlkU
  rw [← rulRow_set]
  exact BlkU.set1 (BlkU.set1 (BlkU.set1 (BlkU.set1 h _ _) _ _) _ _) _ _
theorem BlkU.own {w : World} {g : Nat} {l : List Rul} (h : BlkU w g l) (base : Nat) (hb : base ≤ g) (hm : l.length ≤ maxLen) : w.ownsRow base 71 4 (.slice (some ⟨g, 0, none⟩) l.length l.length) l.length (rulRow l) :=
  ⟨rulRow_len l, .inr ⟨g, l.length, (rulRow l).toArray, rfl, hb, h, Nat.le_refl _, hm, by rw [List.size_toArray, rulRow_len], List.take_of_length_le (by rw [rulRow_len]; exact Nat.le_refl _)⟩⟩
theorem infoRul : (Tryz.prog.info? 71).map (fun i => (i.zero, i.size, i.bytes)) = some (some (.agg #[.string ByteArray.empty, .string ByteArray.empty, .int .i64 0, .int .i64 0]), 4, 48) := by kernel_rfl
theorem made_rul (n : Nat) : madeCells #[.string ByteArray.empty, .string ByteArray.empty, .int .i64 0, .int .i64 0] (n * 4) = (rulRow (List.replicate n rulE)).toArray := by
  unfold madeCells
  apply Array.ext
  · simp [rulRow_len]
  · intro i h0 h2
    have h1 : i < n * 4 := by simpa using h0
    have hr := rulRow_at (List.replicate n rulE) (i / 4) (by rw [List.length_replicate]; omega)
    simp only [List.getElem_replicate] at hr
    have hm : i % 4 < 4 := Nat.mod_lt _ (by omega)
    have hd : i = i / 4 * 4 + i % 4 := by omega
    have hl : i < (rulRow (List.replicate n rulE)).length := by simpa using h2
    have hg : ∀ v, (rulRow (List.replicate n rulE))[i]? = some v → (rulRow (List.replicate n rulE)).toArray[i] = v := fun v hv => by
      rw [List.getElem?_eq_getElem hl] at hv
      have := Option.some.inj hv
      simpa using this
    simp only [Array.getElem_map, Array.getElem_range]
    match hq : i % 4, hm with
    | 0, _ => rw [hq] at hd; rw [hg _ (by rw [hd]; exact hr.1)]; simp [rulE]
    | 1, _ => rw [hq] at hd; rw [hg _ (by rw [hd]; exact hr.2.1)]; simp [rulE]
    | 2, _ => rw [hq] at hd; rw [hg _ (by rw [hd]; exact hr.2.2.1)]; simp [rulE]
    | 3, _ => rw [hq] at hd; rw [hg _ (by rw [hd]; exact hr.2.2.2)]; simp [rulE]
theorem run_make_rul (n : Nat) (hn : n ≤ 1048576) (w : World) :
    (Instr.makeSlice 38 (.int .i64 (n : Int)) (.int .i64 (n : Int))).run Tryz.prog w = .ok (.slice (some ⟨w.heap.size, 0, none⟩) n n) (w.alloc (.cells (rulRow (List.replicate n rulE)).toArray 71)) := by
  obtain ⟨i0, hi, hz0, hz1, hz2⟩ := info_parts infoRul
  have := run_make (P := Tryz.prog) w 38 71 i0 _ Tryz.underlying38 hi hz0 .i64 .i64 (n : Int) (n : Int) (by omega) (by omega) (by rw [hz2]; omega) (by omega)
  rw [this, hz1]
  simp only [Int.toNat_natCast]
  rw [← made_rul]; rfl
theorem alloc_rul (w : World) (l : List Rul) : BlkU (w.alloc (.cells (rulRow l).toArray 71)) w.heap.size l := (MapKept.heap_alloc w _).1
end Go.Proofs.YtifomfimfdgjjaaGreatDoor
