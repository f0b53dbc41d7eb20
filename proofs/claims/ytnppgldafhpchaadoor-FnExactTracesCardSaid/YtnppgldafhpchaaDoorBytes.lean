/-
  Small laws of my own, over any program: a copy out of a string into a row that the call made, rows of bytes, texts put behind one another.
  Nothing of the program is named here.
-/
import Derived.WalkKit
import Derived.ProofKit
import Derived.Below
import Derived.Laws.CopyOwn
import Derived.Laws.IdiomStrings
import Derived.Lib.BufferWrite
import Derived.Lib.Strings
namespace Go.Proofs.YtnppgldafhpchaaDoor
open Go.RowKit Go.Lib
set_option linter.unusedVariables false

theorem ret_str {a b : ByteArray} (h : a = b) : Ending.returned (.string a) = .returned (.string b) := by rw [h]

def catN (ss : List ByteArray) (k : Nat) : List UInt8 := (ss.take k).flatMap fun s => s.data.toList
def sumN (ss : List ByteArray) (k : Nat) : Nat := (catN ss k).length
def cat (ss : List ByteArray) : ByteArray := ⟨(ss.flatMap fun s => s.data.toList).toArray⟩
def zrow (n : Nat) : List Value := List.replicate n (.int .u8 0)
def rowAt (ss : List ByteArray) (k tot : Nat) : List Value := byteCells (catN ss k) ++ zrow (tot - sumN ss k)

theorem catN_succ (ss : List ByteArray) (k : Nat) (h : k < ss.length) : catN ss (k + 1) = catN ss k ++ ss[k].data.toList := by
  unfold catN; rw [List.take_succ_eq_append_getElem h, List.flatMap_append]; simp
theorem sumN_succ (ss : List ByteArray) (k : Nat) (h : k < ss.length) : sumN ss (k + 1) = sumN ss k + ss[k].size := by
  unfold sumN; rw [catN_succ ss k h, List.length_append, ← size_eq]
theorem sumN_le (ss : List ByteArray) (k : Nat) : sumN ss k ≤ sumN ss ss.length := by
  unfold sumN catN
  rw [List.take_length]
  conv => rhs; rw [← List.take_append_drop k ss, List.flatMap_append, List.length_append]
  omega
theorem catN_all (ss : List ByteArray) : (⟨(catN ss ss.length).toArray⟩ : ByteArray) = cat ss := by unfold catN cat; rw [List.take_length]
theorem cat_size (ss : List ByteArray) : (cat ss).size = sumN ss ss.length := by rw [← catN_all]; unfold sumN; simp [ByteArray.size]
theorem rowAt_zero (ss : List ByteArray) (tot : Nat) : rowAt ss 0 tot = zrow tot := by simp [rowAt, catN, sumN, byteCells]
theorem rowAt_len (ss : List ByteArray) (k tot : Nat) (h : sumN ss k ≤ tot) : (rowAt ss k tot).length = tot := by
  unfold rowAt zrow; rw [List.length_append, byteCells_length, List.length_replicate]
  show sumN ss k + _ = _; omega
theorem rowAt_succ (ss : List ByteArray) (k tot : Nat) (h : k < ss.length) (ht : sumN ss (k + 1) ≤ tot) :
    splice (rowAt ss k tot) (sumN ss k) (byteCells ss[k].data.toList) = rowAt ss (k + 1) tot := by
  have hs := sumN_succ ss k h
  unfold splice rowAt
  have e1 : (byteCells (catN ss k)).length = sumN ss k := by rw [byteCells_length]; rfl
  rw [List.take_append_of_le_length (by omega), List.take_of_length_le (by omega)]
  rw [List.drop_append, e1, List.drop_of_length_le (by omega), List.nil_append, catN_succ ss k h]
  have e2 : (byteCells ss[k].data.toList).length = ss[k].size := by rw [byteCells_length, ← size_eq]
  rw [e2]
  have e3 : byteCells (catN ss k ++ ss[k].data.toList) = byteCells (catN ss k) ++ byteCells ss[k].data.toList := by simp [byteCells]
  rw [e3, List.append_assoc]
  congr 2
  unfold zrow; rw [List.drop_replicate]; congr 1; omega
theorem rowAt_all (ss : List ByteArray) : rowAt ss ss.length (sumN ss ss.length) = byteCells (catN ss ss.length) := by
  unfold rowAt zrow; simp

theorem copy_str {P : Program} (w : World) (dT sT ty elem : TypeId) (hu : P.underlying dT = some (.slice elem)) (hsz : (P.info? elem).map (·.size) = some 1)
    (g off dLen dCap : Nat) (t : ByteArray) (cur : List Value) (ct : TypeId) (hg : w.heap[g]? = some (.cells cur.toArray ct (0, 0))) (hle : t.size ≤ dLen) (hfit : off + t.size ≤ cur.length) :
    ∃ w2, (Builtin.copy_ #[dT, sT] ty #[.slice (some ⟨g, off, none⟩) dLen dCap, .string t]).run P w = .ok (.int .i64 (t.size : Nat)) w2 ∧
      w2.heap[g]? = some (.cells (splice cur off (byteCells t.data.toList)).toArray ct (0, 0)) ∧ ∀ B w0, Below B w0 w → B ≤ g → Below B w0 w2 := by
  refine ⟨_, run_copy_row_string (P := P) w dT sT ty elem g off dLen dCap t cur.toArray ct hu hsz hg hle (by simpa using hfit), ?_, fun B w0 hb hBg => below_setRow hb hBg _⟩
  rw [setRow_heap w g cur.toArray _ ct _ hg]
  have hl : (byteCells t.data.toList).length = t.size := by rw [byteCells_length, ← size_eq]
  simp [splice, hl, List.append_assoc]

theorem splice_nil (L : List Value) (off : Nat) (t : ByteArray) (h : t.size = 0) : splice L off (byteCells t.data.toList) = L := by
  have hnil : t.data.toList = [] := List.eq_nil_of_length_eq_zero (by rw [← size_eq]; exact h)
  rw [hnil]; simp [splice, byteCells]

theorem copy_str_none {P : Program} (w : World) (dT sT ty elem : TypeId) (hu : P.underlying dT = some (.slice elem)) (hsz : (P.info? elem).map (·.size) = some 1)
    (dp : Option Addr) (dLen dCap : Nat) (t : ByteArray) (h : t.size = 0) :
    (Builtin.copy_ #[dT, sT] ty #[.slice dp dLen dCap, .string t]).run P w = .ok (.int .i64 0) w :=
  run_copy_empty_string (P := P) w dT sT ty elem dp dLen dCap t hu (by rw [hsz]; rfl) h

theorem row_cell {w : World} {g : Nat} {l : List UInt8} {ct : TypeId} (h : w.heap[g]? = some (.cells (byteCells l).toArray ct (0, 0))) (j : Nat) (hj : j < l.length) :
    w.cell? ((⟨g, 0, none⟩ : Addr).add j) = some (.int .u8 (l[j].toNat : Int)) := by
  have e : (⟨g, 0, none⟩ : Addr).add j = ⟨g, j, none⟩ := by unfold Addr.add; split <;> simp_all
  rw [e]
  simp [World.cell?, h, byteCells, List.getElem?_eq_getElem hj]

theorem bcell {B : Nat} {W w1 : World} (hb : Below B W w1) : (∀ b o, b < B → w1.cell? ⟨b, o, none⟩ = W.cell? ⟨b, o, none⟩) ∧ (∀ b o, b < B → w1.frozen? ⟨b, o, none⟩ = W.frozen? ⟨b, o, none⟩) :=
  ⟨fun b o h => hb.cell (p := ⟨b, o, none⟩) h, fun b o h => hb.frozen (p := ⟨b, o, none⟩) h⟩

/-- What a box held ahead of a call that turns nothing old it holds behind it, and behind one new block more. -/
theorem held_box {w1 w2 : World} {cs : Array Value} {T : TypeId} (hb : Below (w1.alloc (.cells cs T)).heap.size (w1.alloc (.cells cs T)) w2) (o : Obj) (i : Nat) :
    (w2.alloc o).cell? ⟨w1.heap.size, i, none⟩ = cs[i]? := by
  have h1 : (w1.alloc (.cells cs T)).heap.size ≤ w2.heap.size := hb.size
  have hlt : w1.heap.size < w2.heap.size := by simp at h1; omega
  have h2 : (w2.alloc o).cell? ⟨w1.heap.size, i, none⟩ = w2.cell? ⟨w1.heap.size, i, none⟩ :=
    ((Below.refl _ _).alloc (Nat.le_refl _) o : Below w2.heap.size w2 (w2.alloc o)).cell (p := ⟨w1.heap.size, i, none⟩) hlt
  rw [h2, hb.cell (p := ⟨w1.heap.size, i, none⟩) (by simp), World.cell?_alloc_mark]
theorem below_two {w w1 w2 w3 : World} {o1 o2 : Obj} (h1 : Below w.heap.size w w1) (h2 : Below (w1.alloc o1).heap.size (w1.alloc o1) w2) (h3 : Below (w2.alloc o2).heap.size (w2.alloc o2) w3) : Below w.heap.size w w3 := by
  have a1 := h1.size
  have a2 : w1.heap.size + 1 ≤ w2.heap.size := by have := h2.size; simp at this; omega
  have q2 : Below w.heap.size w w2 := (h1.alloc a1 o1).trans (h2.mono (by simp; omega))
  exact (q2.alloc (by omega) o2).trans (h3.mono (by simp; omega))

theorem madeZ (n : Nat) : madeCells #[.int .u8 0] n = (zrow n).toArray := by
  unfold madeCells zrow
  apply Array.ext
  · simp
  · intro i h1 h2; simp [Nat.mod_one]
end Go.Proofs.YtnppgldafhpchaaDoor
