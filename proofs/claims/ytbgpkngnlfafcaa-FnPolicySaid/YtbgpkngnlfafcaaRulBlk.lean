/-
  A block of rules that was made, and is written rule by rule.
-/
import Derived.Test.YtbgpkngnlfafcaaRows
import Derived.Test.YtbgpkngnlfafcaaBytes
import Derived.Test.YtbgpkngnlfafcaaSlA
import Derived.Test.YtbgpkngnlfafcaaOwnS
import Derived.Test.YtbgpkngnlfafcaaBxK
import Derived.Test.YtbgpkngnlfafcaaAppS
import Derived.Test.YtbgpkngnlfafcaaRulMath
import Derived.Handy
import Derived.OwnWalk
namespace Go.Proofs.Ytbgpkngnlfafcaa
open Go.RowKit Go.Lib
set_option linter.unusedVariables false

def rulCells (r : Rul) : List Value := [.string r.k, .string r.f, .int .i64 r.l, .int .i64 r.m]
def rulRow (rs : List Rul) : List Value := rs.flatMap rulCells
theorem rulRow_len (rs : List Rul) : (rulRow rs).length = rs.length * 4 := by
  induction rs with
  | nil => rfl
  | cons r rs ih => unfold rulRow at *; rw [List.flatMap_cons, List.length_append, ih]; simp [rulCells]; omega
theorem rulRow_append (rs ss : List Rul) : rulRow (rs ++ ss) = rulRow rs ++ rulRow ss := by simp [rulRow]
theorem rulRow_at (rs : List Rul) : ∀ (i : Nat) (h : i < rs.length), (rulRow rs)[i * 4]? = some (.string rs[i].k) ∧ (rulRow rs)[i * 4 + 1]? = some (.string rs[i].f) ∧ (rulRow rs)[i * 4 + 2]? = some (.int .i64 rs[i].l) ∧ (rulRow rs)[i * 4 + 3]? = some (.int .i64 rs[i].m) := by
  induction rs with
  | nil => intro i h; simp at h
  | cons r rs ih =>
    intro i h
    match i with
    | 0 => exact ⟨rfl, rfl, rfl, rfl⟩
    | i + 1 =>
      have := ih i (by simpa using h)
      rw [show (i + 1) * 4 = i * 4 + 4 by omega]
      exact this
theorem rulRow_set : ∀ (rs : List Rul) (i : Nat) (r : Rul), ((((rulRow rs).set (i * 4) (.string r.k)).set (i * 4 + 1) (.string r.f)).set (i * 4 + 2) (.int .i64 r.l)).set (i * 4 + 3) (.int .i64 r.m) = rulRow (rs.set i r)
  | [], i, r => by simp [rulRow]
  | f :: fs, 0, r => by simp [rulRow, rulCells]
  | f :: fs, i + 1, r => by
    have ih := rulRow_set fs i r
    have e0 : (i + 1) * 4 = i * 4 + 4 := by omega
    have e4 : rulRow (f :: fs) = .string f.k :: .string f.f :: .int .i64 f.l :: .int .i64 f.m :: rulRow fs := rfl
    rw [e0, e4]
    have e1 : i * 4 + 4 + 1 = i * 4 + 1 + 4 := by omega
    have e2 : i * 4 + 4 + 2 = i * 4 + 2 + 4 := by omega
    have e3 : i * 4 + 4 + 3 = i * 4 + 3 + 4 := by omega
    rw [e1, e2, e3]
    simp only [List.set_cons_succ]
    rw [ih]; rfl
def set4u (w : World) (g o : Nat) (r : Rul) : World := (((w.setCell ⟨g, o, none⟩ (.string r.k)).setCell ⟨g, o + 1, none⟩ (.string r.f)).setCell ⟨g, o + 2, none⟩ (.int .i64 r.l)).setCell ⟨g, o + 3, none⟩ (.int .i64 r.m)
theorem set4u_below {B : Nat} {a w : World} (h : Below B a w) {g : Nat} (hg : B ≤ g) (o : Nat) (r : Rul) : Below B a (set4u w g o r) := (((h.setCell hg _).setCell hg _).setCell hg _).setCell hg _
theorem set4u_other {w : World} {g b o : Nat} {T : TypeId} {cs : Array Value} (h : Bxs w g T cs) (hne : b ≠ g) (r : Rul) : Bxs (set4u w b o r) g T cs := (((h.other b _ hne _).other b _ hne _).other b _ hne _).other b _ hne _
def rulE : Rul := ⟨ByteArray.empty, ByteArray.empty, 0, 0⟩
/-- A block that holds these rules, and nothing else. -/
def BlkU (w : World) (g : Nat) (l : List Rul) : Prop := Bxs w g 28 (rulRow l).toArray
theorem BlkU.below {w w' : World} {g : Nat} {l : List Rul} (h : BlkU w g l) (hb : Below w.heap.size w w') : BlkU w' g l := Bxs.below h hb
theorem BlkU.cells {w : World} {g : Nat} {l : List Rul} (h : BlkU w g l) (i : Nat) (hi : i < l.length) : (w.cell? ⟨g, i * 4, none⟩ = some (.string l[i].k) ∧ w.cell? ⟨g, i * 4 + 1, none⟩ = some (.string l[i].f) ∧ w.cell? ⟨g, i * 4 + 2, none⟩ = some (.int .i64 l[i].l) ∧ w.cell? ⟨g, i * 4 + 3, none⟩ = some (.int .i64 l[i].m)) ∧ w.frozen? ⟨g, i * 4, none⟩ = false ∧ w.frozen? ⟨g, i * 4 + 1, none⟩ = false ∧ w.frozen? ⟨g, i * 4 + 2, none⟩ = false ∧ w.frozen? ⟨g, i * 4 + 3, none⟩ = false := by
  have hr := rulRow_at l i hi
  have hc : ∀ j, w.cell? ⟨g, j, none⟩ = (rulRow l)[j]? := fun j => by rw [Bxs.cell h j]; simp
  rw [← hc, ← hc, ← hc, ← hc] at hr
  exact ⟨hr, Bxs.fr h _, Bxs.fr h _, Bxs.fr h _, Bxs.fr h _⟩
theorem BlkU.at {w : World} {g : Nat} {l : List Rul} (h : BlkU w g l) : RulAt w (some ⟨g, 0, none⟩) l := fun i hi => ⟨g, 0, rfl, Bxs.lt h, by rw [Nat.zero_add]; exact (h.cells i hi).1⟩
theorem BlkU.set1 {w : World} {g : Nat} {l : List Value} (h : Bxs w g 28 l.toArray) (j : Nat) (v : Value) : Bxs (w.setCell ⟨g, j, none⟩ v) g 28 (l.set j v).toArray := by
  have h1 := h.set j v
  rwa [List.setIfInBounds_toArray] at h1
theorem BlkU.set4u {w : World} {g : Nat} {l : List Rul} (h : BlkU w g l) (i : Nat) (r : Rul) : BlkU (set4u w g (i * 4) r) g (l.set i r) := by
  unfold BlkU
  rw [← rulRow_set]
  exact BlkU.set1 (BlkU.set1 (BlkU.set1 (BlkU.set1 h _ _) _ _) _ _) _ _
theorem BlkU.own {w : World} {g : Nat} {l : List Rul} (h : BlkU w g l) (base : Nat) (hb : base ≤ g) (hm : l.length ≤ maxLen) : w.ownsRow base 28 4 (.slice (some ⟨g, 0, none⟩) l.length l.length) l.length (rulRow l) :=
  ⟨rulRow_len l, .inr ⟨g, l.length, (rulRow l).toArray, rfl, hb, h, Nat.le_refl _, hm, by rw [List.size_toArray, rulRow_len], List.take_of_length_le (by rw [rulRow_len]; exact Nat.le_refl _)⟩⟩
theorem infoRul : (Try.prog.info? 28).map (fun i => (i.zero, i.size, i.bytes)) = some (some (.agg #[.string ByteArray.empty, .string ByteArray.empty, .int .i64 0, .int .i64 0]), 4, 48) := by kernel_rfl
theorem made_rul (n : Nat) : madeCells #[.string ByteArray.empty, .string ByteArray.empty, .int .i64 0, .int .i64 0] (n * 4) = (rulRow (List.replicate n rulE)).toArray := by
  unfold madeCells
  apply Array.ext
  · simp [rulRow_len]
  · intro i h0 h2
    have h1 : i < n * 4 := by simpa using h0
    have hr := rulRow_at (List.replicate n rulE) (i / 4) (by rw [List.length_replicate]; omega)
    simp only [List.getElem_replicate] at hr
    have hm : i % 4 < 4 := Nat.mod_lt _ (by omega)
    have hd : i = i / 4 * 4 + i % 4 := by omega
    have hl : i < (rulRow (List.replicate n rulE)).length := by simpa using h2
    have hg : ∀ v, (rulRow (List.replicate n rulE))[i]? = some v → (rulRow (List.replicate n rulE)).toArray[i] = v := fun v hv => by
      rw [List.getElem?_eq_getElem hl] at hv
      have := Option.some.inj hv
      simpa using this
    simp only [Array.getElem_map, Array.getElem_range]
    match hq : i % 4, hm with
    | 0, _ => rw [hq] at hd; rw [hg _ (by rw [hd]; exact hr.1)]; simp [rulE]
    | 1, _ => rw [hq] at hd; rw [hg _ (by rw [hd]; exact hr.2.1)]; simp [rulE]
    | 2, _ => rw [hq] at hd; rw [hg _ (by rw [hd]; exact hr.2.2.1)]; simp [rulE]
    | 3, _ => rw [hq] at hd; rw [hg _ (by rw [hd]; exact hr.2.2.2)]; simp [rulE]
theorem run_make_rul (n : Nat) (hn : n ≤ 1048576) (w : World) :
    (Instr.makeSlice 23 (.int .i64 (n : Int)) (.int .i64 (n : Int))).run Try.prog w = .ok (.slice (some ⟨w.heap.size, 0, none⟩) n n) (w.alloc (.cells (rulRow (List.replicate n rulE)).toArray 28)) := by
  obtain ⟨i0, hi, hz0, hz1, hz2⟩ := info_parts infoRul
  have := run_make (P := Try.prog) w 23 28 i0 _ Try.underlying23 hi hz0 .i64 .i64 (n : Int) (n : Int) (by omega) (by omega) (by rw [hz2]; omega) (by omega)
  rw [this, hz1]
  simp only [Int.toNat_natCast]
  rw [← made_rul]; rfl
theorem alloc_rul (w : World) (l : List Rul) : BlkU (w.alloc (.cells (rulRow l).toArray 28)) w.heap.size l := (MapKept.heap_alloc w _).1
end Go.Proofs.Ytbgpkngnlfafcaa
