/-
  Parts of one proof, laid as one text: Bytes, DigMath, TreeMath, SlA, SlB, BxK, OwnS, TakesL, TillTwo; what each says stands at its head.
-/
import Derived.WalkKit
import Derived.ProofKit
import Derived.Below
import Derived.Laws.CopyOwn
import Derived.Laws.IdiomStrings
import Derived.Lib.BufferWrite
import Derived.Lib.Strings
import Derived.Handy
import Derived.Laws.BytesArg
import Derived.Test.YtokkeadbkeehgaaGreatDoorRows
import Derived.Deep.QuietTactic
import Derived.BigQuiet
import Derived.OwnWalk
import Derived.Deep.AppendLies
import Derived.Deep.RegionHeld3
/-
  Small laws of my own, over any program: a copy out of a string into a row that the call made, rows of bytes, texts put behind one another.
  Nothing of the program is named here.
-/
namespace Go.Proofs.YtokkeadbkeehgaaGreatDoor
open Go.RowKit Go.Lib
set_option linter.unusedVariables false

theorem ret_str {a b : ByteArray} (h : a = b) : Ending.returned (.string a) = .returned (.string b) := by rw [h]

def catN (ss : List ByteArray) (k : Nat) : List UInt8 := (ss.take k).flatMap fun s => s.data.toList
def sumN (ss : List ByteArray) (k : Nat) : Nat := (catN ss k).length
def cat (ss : List ByteArray) : ByteArray := ⟨(ss.flatMap fun s => s.data.toList).toArray⟩
def zrow (n : Nat) : List Value := List.replicate n (.int .u8 0)
def rowAt (ss : List ByteArray) (k tot : Nat) : List Value := byteCells (catN ss k) ++ zrow (tot - sumN ss k)

theorem catN_succ (ss : List ByteArray) (k : Nat) (h : k < ss.length) : catN ss (k + 1) = catN ss k ++ ss[k].data.toList := by
  unfold catN; rw [List.take_succ_eq_append_getElem h, List.flatMap_append]; simp
theorem sumN_succ (ss : List ByteArray) (k : Nat) (h : k < ss.length) : sumN ss (k + 1) = sumN ss k + ss[k].size := by
  unfold sumN; rw [catN_succ ss k h, List.length_append, ← size_eq]
theorem sumN_le (ss : List ByteArray) (k : Nat) : sumN ss k ≤ sumN ss ss.length := by
  unfold sumN catN
  rw [List.take_length]
  conv => rhs; rw [← List.take_append_drop k ss, List.flatMap_append, List.length_append]
  omega
theorem catN_all (ss : List ByteArray) : (⟨(catN ss ss.length).toArray⟩ : ByteArray) = cat ss := by unfold catN cat; rw [List.take_length]
theorem cat_size (ss : List ByteArray) : (cat ss).size = sumN ss ss.length := by rw [← catN_all]; unfold sumN; simp [ByteArray.size]
theorem rowAt_zero (ss : List ByteArray) (tot : Nat) : rowAt ss 0 tot = zrow tot := by simp [rowAt, catN, sumN, byteCells]
theorem rowAt_len (ss : List ByteArray) (k tot : Nat) (h : sumN ss k ≤ tot) : (rowAt ss k tot).length = tot := by
  unfold rowAt zrow; rw [List.length_append, byteCells_length, List.length_replicate]
  show sumN ss k + _ = _; omega
theorem rowAt_succ (ss : List ByteArray) (k tot : Nat) (h : k < ss.length) (ht : sumN ss (k + 1) ≤ tot) :
    splice (rowAt ss k tot) (sumN ss k) (byteCells ss[k].data.toList) = rowAt ss (k + 1) tot := by
  have hs := sumN_succ ss k h
  unfold splice rowAt
  have e1 : (byteCells (catN ss k)).length = sumN ss k := by rw [byteCells_length]; rfl
  rw [List.take_append_of_le_length (by omega), List.take_of_length_le (by omega)]
  rw [List.drop_append, e1, List.drop_of_length_le (by omega), List.nil_append, catN_succ ss k h]
  have e2 : (byteCells ss[k].data.toList).length = ss[k].size := by rw [byteCells_length, ← size_eq]
  rw [e2]
  have e3 : byteCells (catN ss k ++ ss[k].data.toList) = byteCells (catN ss k) ++ byteCells ss[k].data.toList := by simp [byteCells]
  rw [e3, List.append_assoc]
  congr 2
  unfold zrow; rw [List.drop_replicate]; congr 1; omega
theorem rowAt_all (ss : List ByteArray) : rowAt ss ss.length (sumN ss ss.length) = byteCells (catN ss ss.length) := by
  unfold rowAt zrow; simp

theorem copy_str {P : Program} (w : World) (dT sT ty elem : TypeId) (hu : P.underlying dT = some (.slice elem)) (hsz : (P.info? elem).map (·.size) = some 1)
    (g off dLen dCap : Nat) (t : ByteArray) (cur : List Value) (ct : TypeId) (hg : w.heap[g]? = some (.cells cur.toArray ct (0, 0))) (hle : t.size ≤ dLen) (hfit : off + t.size ≤ cur.length) :
    ∃ w2, (Builtin.copy_ #[dT, sT] ty #[.slice (some ⟨g, off, none⟩) dLen dCap, .string t]).run P w = .ok (.int .i64 (t.size : Nat)) w2 ∧
      w2.heap[g]? = some (.cells (splice cur off (byteCells t.data.toList)).toArray ct (0, 0)) ∧ ∀ B w0, Below B w0 w → B ≤ g → Below B w0 w2 := by
  refine ⟨_, run_copy_row_string (P := P) w dT sT ty elem g off dLen dCap t cur.toArray ct hu hsz hg hle (by simpa using hfit), ?_, fun B w0 hb hBg => below_setRow hb hBg _⟩
  rw [setRow_heap w g cur.toArray _ ct _ hg]
  have hl : (byteCells t.data.toList).length = t.size := by rw [byteCells_length, ← size_eq]
  simp [splice, hl, List.append_assoc]

theorem splice_nil (L : List Value) (off : Nat) (t : ByteArray) (h : t.size = 0) : splice L off (byteCells t.data.toList) = L := by
  have hnil : t.data.toList = [] := List.eq_nil_of_length_eq_zero (by rw [← size_eq]; exact h)
  rw [hnil]; simp [splice, byteCells]

theorem copy_str_none {P : Program} (w : World) (dT sT ty elem : TypeId) (hu : P.underlying dT = some (.slice elem)) (hsz : (P.info? elem).map (·.size) = some 1)
    (dp : Option Addr) (dLen dCap : Nat) (t : ByteArray) (h : t.size = 0) :
    (Builtin.copy_ #[dT, sT] ty #[.slice dp dLen dCap, .string t]).run P w = .ok (.int .i64 0) w :=
  run_copy_empty_string (P := P) w dT sT ty elem dp dLen dCap t hu (by rw [hsz]; rfl) h

theorem row_cell {w : World} {g : Nat} {l : List UInt8} {ct : TypeId} (h : w.heap[g]? = some (.cells (byteCells l).toArray ct (0, 0))) (j : Nat) (hj : j < l.length) :
    w.cell? ((⟨g, 0, none⟩ : Addr).add j) = some (.int .u8 (l[j].toNat : Int)) := by
  have e : (⟨g, 0, none⟩ : Addr).add j = ⟨g, j, none⟩ := by unfold Addr.add; split <;> simp_all
  rw [e]
  simp [World.cell?, h, byteCells, List.getElem?_eq_getElem hj]

theorem bcell {B : Nat} {W w1 : World} (hb : Below B W w1) : (∀ b o, b < B → w1.cell? ⟨b, o, none⟩ = W.cell? ⟨b, o, none⟩) ∧ (∀ b o, b < B → w1.frozen? ⟨b, o, none⟩ = W.frozen? ⟨b, o, none⟩) :=
  ⟨fun b o h => hb.cell (p := ⟨b, o, none⟩) h, fun b o h => hb.frozen (p := ⟨b, o, none⟩) h⟩

/-- What a box held ahead of a call that turns nothing old it holds behind it, and behind one new block more. -/
theorem held_box {w1 w2 : World} {cs : Array Value} {T : TypeId} (hb : Below (w1.alloc (.cells cs T)).heap.size (w1.alloc (.cells cs T)) w2) (o : Obj) (i : Nat) :
    (w2.alloc o).cell? ⟨w1.heap.size, i, none⟩ = cs[i]? := by
  have h1 : (w1.alloc (.cells cs T)).heap.size ≤ w2.heap.size := hb.size
  have hlt : w1.heap.size < w2.heap.size := by simp at h1; omega
  have h2 : (w2.alloc o).cell? ⟨w1.heap.size, i, none⟩ = w2.cell? ⟨w1.heap.size, i, none⟩ :=
    ((Below.refl _ _).alloc (Nat.le_refl _) o : Below w2.heap.size w2 (w2.alloc o)).cell (p := ⟨w1.heap.size, i, none⟩) hlt
  rw [h2, hb.cell (p := ⟨w1.heap.size, i, none⟩) (by simp), World.cell?_alloc_mark]
theorem below_two {w w1 w2 w3 : World} {o1 o2 : Obj} (h1 : Below w.heap.size w w1) (h2 : Below (w1.alloc o1).heap.size (w1.alloc o1) w2) (h3 : Below (w2.alloc o2).heap.size (w2.alloc o2) w3) : Below w.heap.size w w3 := by
  have a1 := h1.size
  have a2 : w1.heap.size + 1 ≤ w2.heap.size := by have := h2.size; simp at this; omega
  have q2 : Below w.heap.size w w2 := (h1.alloc a1 o1).trans (h2.mono (by simp; omega))
  exact (q2.alloc (by omega) o2).trans (h3.mono (by simp; omega))

theorem madeZ (n : Nat) : madeCells #[.int .u8 0] n = (zrow n).toArray := by
  unfold madeCells zrow
  apply Array.ext
  · simp
  · intro i h1 h2; simp [Nat.mod_one]
end Go.Proofs.YtokkeadbkeehgaaGreatDoor
/-
  SHA-256, as a plain function of a text: 'digB'. Its parts: numbers turned, the 64 words of a block, the 64 rounds, the blocks, the filling up, the 32 bytes.
  Nothing of the program is named here.
-/
namespace Go.Proofs.YtokkeadbkeehgaaGreatDoor
open Go.RowKit Go.Lib
set_option linter.unusedVariables false

def turnR (x : Int) (k : Nat) : Int := bits .or .u32 (x / 2 ^ k) (x * 2 ^ (32 - k) % 4294967296)
theorem turnR_bd (x : Int) (k : Nat) : 0 ≤ turnR x k ∧ turnR x k ≤ 4294967295 := ⟨bits_lo_u32 _ _ _, bits_hi_u32 _ _ _⟩
def keysN : List Int := [
  0x428a2f98, 0x71374491, 0xb5c0fbcf, 0xe9b5dba5, 0x3956c25b, 0x59f111f1, 0x923f82a4, 0xab1c5ed5,
  0xd807aa98, 0x12835b01, 0x243185be, 0x550c7dc3, 0x72be5d74, 0x80deb1fe, 0x9bdc06a7, 0xc19bf174,
  0xe49b69c1, 0xefbe4786, 0x0fc19dc6, 0x240ca1cc, 0x2de92c6f, 0x4a7484aa, 0x5cb0a9dc, 0x76f988da,
  0x983e5152, 0xa831c66d, 0xb00327c8, 0xbf597fc7, 0xc6e00bf3, 0xd5a79147, 0x06ca6351, 0x14292967,
  0x27b70a85, 0x2e1b2138, 0x4d2c6dfc, 0x53380d13, 0x650a7354, 0x766a0abb, 0x81c2c92e, 0x92722c85,
  0xa2bfe8a1, 0xa81a664b, 0xc24b8b70, 0xc76c51a3, 0xd192e819, 0xd6990624, 0xf40e3585, 0x106aa070,
  0x19a4c116, 0x1e376c08, 0x2748774c, 0x34b0bcb5, 0x391c0cb3, 0x4ed8aa4a, 0x5b9cca4f, 0x682e6ff3,
  0x748f82ee, 0x78a5636f, 0x84c87814, 0x8cc70208, 0x90befffa, 0xa4506ceb, 0xbef9a3f7, 0xc67178f2]
def startN : List Int := [0x6a09e667, 0xbb67ae85, 0x3c6ef372, 0xa54ff53a, 0x510e527f, 0x9b05688c, 0x1f83d9ab, 0x5be0cd19]

def byteAt (b : ByteArray) (i : Nat) : Int := ((b.data.toList.getD i 0).toNat : Int)
theorem byteAt_bd (b : ByteArray) (i : Nat) : 0 ≤ byteAt b i ∧ byteAt b i ≤ 255 := by
  unfold byteAt; have := (b.data.toList.getD i 0).toNat_lt; omega
def word4 (c1 c2 c3 c4 : Int) : Int := bits .or .u32 (bits .or .u32 (bits .or .u32 (c1 * 16777216) (c2 * 65536)) (c3 * 256)) c4
def wordsTo (b : ByteArray) : Nat → List Int
  | 0 => []
  | k + 1 => wordsTo b k ++ [word4 (byteAt b (4 * k)) (byteAt b (4 * k + 1)) (byteAt b (4 * k + 2)) (byteAt b (4 * k + 3))]
theorem wordsTo_len (b : ByteArray) : ∀ k, (wordsTo b k).length = k
  | 0 => rfl
  | k + 1 => by simp [wordsTo, wordsTo_len b k]
def uRow (l : List Int) : List Value := (l ++ List.replicate (64 - l.length) 0).map (Value.int .u32)
theorem uRow_len (l : List Int) (h : l.length ≤ 64) : (uRow l).length = 64 := by simp [uRow]; omega
theorem uRow_at (l : List Int) (i : Nat) (h : i < 64) (hl : l.length ≤ 64) : (uRow l)[i]? = some (.int .u32 (l.getD i 0)) := by
  unfold uRow
  rw [List.getElem?_map]
  by_cases hi : i < l.length
  · rw [List.getElem?_append_left hi, List.getD_eq_getElem?_getD, List.getElem?_eq_getElem hi]; rfl
  · rw [List.getElem?_append_right (by omega), List.getElem?_replicate, if_pos (by omega), List.getD_eq_getElem?_getD, List.getElem?_eq_none (by omega)]; rfl
theorem uRow_cell {w : World} {g : Nat} {l : List Int} {T : TypeId} (h : w.heap[g]? = some (.cells (uRow l).toArray T (0, 0))) (hl : l.length ≤ 64) (i : Nat) (hi : i < 64) :
    w.cell? ⟨g, i, none⟩ = some (.int .u32 (l.getD i 0)) := by
  simp [World.cell?, h, uRow_at l i hi hl]
theorem uRow_free {w : World} {g : Nat} {cs : Array Value} {T : TypeId} (h : w.heap[g]? = some (.cells cs T (0, 0))) (i : Nat) : w.frozen? ⟨g, i, none⟩ = false := by
  simp [World.frozen?, h]
theorem uRow_set (l : List Int) (v : Int) (h : l.length < 64) : (uRow l).toArray.setIfInBounds l.length (.int .u32 v) = (uRow (l ++ [v])).toArray := by
  unfold uRow
  have e : 64 - l.length = (64 - (l.length + 1)) + 1 := by omega
  rw [e, List.replicate_succ]
  simp [List.set_append_right]
theorem blk_set {w : World} {g i : Nat} {cs : Array Value} {T : TypeId} (hg : w.heap[g]? = some (.cells cs T (0, 0))) (v : Value) : (w.setCell ⟨g, i, none⟩ v).heap[g]? = some (.cells (cs.setIfInBounds i v) T (0, 0)) := by
  simp [World.setCell, Array.getElem?_modify, hg]
def InU (l : List Int) : Prop := ∀ i, 0 ≤ l.getD i 0 ∧ l.getD i 0 ≤ 4294967295
theorem inU_snoc {l : List Int} {v : Int} (h : InU l) (h0 : 0 ≤ v) (h1 : v ≤ 4294967295) : InU (l ++ [v]) := by
  intro i
  have hi := h i
  rw [List.getD_eq_getElem?_getD] at hi ⊢
  by_cases a : i < l.length
  · rw [List.getElem?_append_left a]; exact hi
  · rw [List.getElem?_append_right (by omega)]
    by_cases c : i - l.length = 0
    · rw [c]; exact ⟨h0, h1⟩
    · rw [List.getElem?_eq_none (by simp; omega)]; simp
theorem wordsTo_in (b : ByteArray) : ∀ k, InU (wordsTo b k)
  | 0 => fun i => by simp [wordsTo]
  | k + 1 => inU_snoc (wordsTo_in b k) (bits_lo_u32 _ _ _) (bits_hi_u32 _ _ _)
def sigA (x : Int) : Int := bits .xor .u32 (bits .xor .u32 (turnR x 7) (turnR x 18)) (x / 8)
def sigB (x : Int) : Int := bits .xor .u32 (bits .xor .u32 (turnR x 17) (turnR x 19)) (x / 1024)
def nextW (l : List Int) (m : Nat) : Int := (l.getD (m - 16) 0 + sigA (l.getD (m - 15) 0) + l.getD (m - 7) 0 + sigB (l.getD (m - 2) 0)) % 4294967296
def schedTo (b : ByteArray) : Nat → List Int
  | 0 => wordsTo b 16
  | k + 1 => schedTo b k ++ [nextW (schedTo b k) (16 + k)]
theorem schedTo_len (b : ByteArray) : ∀ k, (schedTo b k).length = 16 + k
  | 0 => wordsTo_len b 16
  | k + 1 => by simp [schedTo, schedTo_len b k]; omega
theorem schedTo_in (b : ByteArray) : ∀ k, InU (schedTo b k)
  | 0 => wordsTo_in b 16
  | k + 1 => inU_snoc (schedTo_in b k) (by unfold nextW; omega) (by unfold nextW; omega)
structure S8 where
  (a b c d e f g h : Int)
def S8.In (s : S8) : Prop := (0 ≤ s.a ∧ s.a ≤ 4294967295) ∧ (0 ≤ s.b ∧ s.b ≤ 4294967295) ∧ (0 ≤ s.c ∧ s.c ≤ 4294967295) ∧ (0 ≤ s.d ∧ s.d ≤ 4294967295) ∧
  (0 ≤ s.e ∧ s.e ≤ 4294967295) ∧ (0 ≤ s.f ∧ s.f ≤ 4294967295) ∧ (0 ≤ s.g ∧ s.g ≤ 4294967295) ∧ (0 ≤ s.h ∧ s.h ≤ 4294967295)
def sumE (e : Int) : Int := bits .xor .u32 (bits .xor .u32 (turnR e 6) (turnR e 11)) (turnR e 25)
def sumA (a : Int) : Int := bits .xor .u32 (bits .xor .u32 (turnR a 2) (turnR a 13)) (turnR a 22)
def chE (e f g : Int) : Int := bits .xor .u32 (bits .and .u32 e f) (bits .and .u32 (bits .xor .u32 4294967295 e) g)
def majA (a b c : Int) : Int := bits .xor .u32 (bits .xor .u32 (bits .and .u32 a b) (bits .and .u32 a c)) (bits .and .u32 b c)
def tOne (key x : Int) (s : S8) : Int := ((((s.h + sumE s.e) % 4294967296 + chE s.e s.f s.g) % 4294967296 + key) % 4294967296 + x) % 4294967296
def tTwo (s : S8) : Int := (sumA s.a + majA s.a s.b s.c) % 4294967296
def rnd (key x : Int) (s : S8) : S8 := ⟨(tOne key x s + tTwo s) % 4294967296, s.a, s.b, s.c, (s.d + tOne key x s) % 4294967296, s.e, s.f, s.g⟩
theorem rnd_in {key x : Int} {s : S8} (h : s.In) : (rnd key x s).In := by
  obtain ⟨ha, hb, hc, hd, he, hf, hg, hh⟩ := h
  exact ⟨by unfold rnd; simp only []; omega, ha, hb, hc, by unfold rnd; simp only []; omega, he, hf, hg⟩
def rounds (W : List Int) (s0 : S8) : Nat → S8
  | 0 => s0
  | k + 1 => rnd (keysN.getD k 0) (W.getD k 0) (rounds W s0 k)
theorem rounds_in (W : List Int) (s0 : S8) (h : s0.In) : ∀ k, (rounds W s0 k).In
  | 0 => h
  | k + 1 => rnd_in (rounds_in W s0 h k)
def s8Of (st : List Int) : S8 := ⟨st.getD 0 0 % 4294967296, st.getD 1 0 % 4294967296, st.getD 2 0 % 4294967296, st.getD 3 0 % 4294967296,
  st.getD 4 0 % 4294967296, st.getD 5 0 % 4294967296, st.getD 6 0 % 4294967296, st.getD 7 0 % 4294967296⟩
theorem s8Of_in (st : List Int) : (s8Of st).In := by unfold s8Of S8.In; refine ⟨?_, ?_, ?_, ?_, ?_, ?_, ?_, ?_⟩ <;> (simp only []; omega)
def s8L (s : S8) : List Int := [s.a, s.b, s.c, s.d, s.e, s.f, s.g, s.h]
def blkOf (st : List Int) (s : S8) : List Int := (List.range 8).map fun i => (st.getD i 0 % 4294967296 + (s8L s).getD i 0) % 4294967296
def blockN (st : List Int) (b : ByteArray) : List Int := blkOf st (rounds (schedTo b 48) (s8Of st) 64)
theorem blkOf_len (st : List Int) (s : S8) : (blkOf st s).length = 8 := by simp [blkOf]
theorem blkOf_take (st : List Int) (s : S8) (k : Nat) (h : k < 8) : (blkOf st s).take (k + 1) = (blkOf st s).take k ++ [(st.getD k 0 % 4294967296 + (s8L s).getD k 0) % 4294967296] := by
  rw [List.take_succ_eq_append_getElem (by rw [blkOf_len]; exact h)]
  congr 2
  simp [blkOf]
theorem s8L_in {s : S8} (h : s.In) (k : Nat) (hk : k < 8) : 0 ≤ (s8L s).getD k 0 ∧ (s8L s).getD k 0 ≤ 4294967295 := by
  obtain ⟨ha, hb, hc, hd, he, hf, hg, hh⟩ := h
  match k, hk with
  | 0, _ => exact ha
  | 1, _ => exact hb
  | 2, _ => exact hc
  | 3, _ => exact hd
  | 4, _ => exact he
  | 5, _ => exact hf
  | 6, _ => exact hg
  | 7, _ => exact hh
theorem s8L_at (s : S8) (k : Nat) (hk : k < 8) : ((s8L s).map (Value.int .u32)).toArray[k]? = some (.int .u32 ((s8L s).getD k 0)) := by
  match k, hk with
  | 0, _ => rfl
  | 1, _ => rfl
  | 2, _ => rfl
  | 3, _ => rfl
  | 4, _ => rfl
  | 5, _ => rfl
  | 6, _ => rfl
  | 7, _ => rfl
theorem keysRow {w : World} {g : Nat} {T : TypeId} (h : w.heap[g]? = some (.cells (keysN.map (Value.int .u32)).toArray T (0, 0))) (i : Nat) (hi : i < 64) :
    w.cell? ⟨g, i, none⟩ = some (.int .u32 (keysN.getD i 0)) := by
  simp only [World.cell?, h, List.getElem?_toArray, List.getElem?_map, List.getD_eq_getElem?_getD]
  rw [List.getElem?_eq_getElem (show i < keysN.length from hi)]; rfl
theorem keys_in : InU keysN := by
  intro i
  by_cases h : i < 64
  · exact (by decide : ∀ i, i < 64 → (0 ≤ keysN.getD i 0 ∧ keysN.getD i 0 ≤ 4294967295)) i h
  · rw [List.getD_eq_getElem?_getD, List.getElem?_eq_none (show keysN.length ≤ i from by show 64 ≤ i; omega)]; simp


def bytesN (s : ByteArray) : List Int := s.data.toList.map fun b => (b.toNat : Int)
theorem bytesN_len (s : ByteArray) : (bytesN s).length = s.size := by unfold bytesN; rw [List.length_map, ← size_eq]
def zN (s : Nat) : Nat := (119 - s % 64) % 64
theorem zN_lt (s : Nat) : zN s < 64 := by unfold zN; omega
def bePart (n : Int) (j : Nat) : Int := n / 2 ^ (56 - 8 * j) % 256
def be8To (n : Int) (j : Nat) : List Int := (List.range j).map (bePart n)
theorem be8To_len (n : Int) (j : Nat) : (be8To n j).length = j := by simp [be8To]
theorem be8To_succ (n : Int) (j : Nat) : be8To n (j + 1) = be8To n j ++ [bePart n j] := by simp [be8To, List.range_succ]
def padN (t : ByteArray) : List Int := bytesN t ++ [128] ++ List.replicate (zN t.size) 0 ++ be8To (8 * (t.size : Int)) 8
def nB (t : ByteArray) : Nat := (t.size + 9 + zN t.size) / 64
theorem padN_len (t : ByteArray) : (padN t).length = 64 * nB t := by
  simp only [padN, List.length_append, bytesN_len, List.length_replicate, be8To_len, List.length_cons, List.length_nil, nB]
  unfold zN; omega
theorem nB_pos (t : ByteArray) : 0 < nB t := by unfold nB zN; omega
def stN (p : List Int) : Nat → List Int
  | 0 => startN
  | k + 1 => blockN (stN p k) (strOfNums ((p.drop (64 * k)).take 64))
theorem stN_len (p : List Int) : ∀ k, (stN p k).length = 8
  | 0 => rfl
  | k + 1 => blkOf_len _ _
def In32 (l : List Int) : Prop := ∀ i, i < l.length → 0 ≤ l.getD i 0 ∧ l.getD i 0 ≤ 4294967295
theorem blkOf_at (st : List Int) (s : S8) (k : Nat) (h : k < 8) : (blkOf st s).getD k 0 = (st.getD k 0 % 4294967296 + (s8L s).getD k 0) % 4294967296 := by
  simp [blkOf, List.getD_eq_getElem?_getD, h]
theorem blkOf_in (st : List Int) (s : S8) (k : Nat) (h : k < 8) : 0 ≤ (blkOf st s).getD k 0 ∧ (blkOf st s).getD k 0 ≤ 4294967295 := by
  rw [blkOf_at st s k h]; omega
theorem stN_in (p : List Int) : ∀ k i, i < 8 → 0 ≤ (stN p k).getD i 0 ∧ (stN p k).getD i 0 ≤ 4294967295
  | 0, i, h => (by decide : ∀ i, i < 8 → (0 ≤ startN.getD i 0 ∧ startN.getD i 0 ≤ 4294967295)) i h
  | k + 1, i, h => blkOf_in _ _ i h
def four4 (n : Int) : List Int := [n / 16777216 % 256, n / 65536 % 256, n / 256 % 256, n % 256]
def outN (st : List Int) : Nat → List Int
  | 0 => []
  | k + 1 => outN st k ++ four4 (st.getD k 0)
theorem outN_len (st : List Int) : ∀ k, (outN st k).length = 4 * k
  | 0 => rfl
  | k + 1 => by rw [outN, List.length_append, outN_len st k]; show _ + 4 = _; omega
def digB (t : ByteArray) : ByteArray := strOfNums (outN (stN (padN t) (nB t)) 8)
theorem digB_size (t : ByteArray) : (digB t).size = 32 := by unfold digB; rw [strOfNums_size, outN_len]
end Go.Proofs.YtokkeadbkeehgaaGreatDoor
/-
  Trees of digests, as plain functions: leaves, nodes, trees, paths, proofs, and the two ways of going up a path (from the top down, and bit by bit), which are one.
  Nothing of the program is named here.
-/
namespace Go.Proofs.YtokkeadbkeehgaaGreatDoor
open Go.RowKit Go.Lib
set_option linter.unusedVariables false

def m0 : ByteArray := ⟨#[0]⟩
def m1 : ByteArray := ⟨#[1]⟩
def leafB (t : ByteArray) : ByteArray := digB (m0 ++ t)
def nodeB (l r : ByteArray) : ByteArray := digB (m1 ++ l ++ r)
def leafA (t : ByteArray) : ByteArray := if t.size ≤ 100 then leafB t else ByteArray.empty
def nodeA (l r : ByteArray) : ByteArray := if l.size = 32 ∧ r.size = 32 then nodeB l r else ByteArray.empty
theorem leafB_size (t : ByteArray) : (leafB t).size = 32 := digB_size _
theorem nodeB_size (l r : ByteArray) : (nodeB l r).size = 32 := digB_size _
theorem nodeA_of {l r : ByteArray} (h : l.size = 32) (h2 : r.size = 32) : nodeA l r = nodeB l r := if_pos ⟨h, h2⟩
theorem nodeA_left (r : ByteArray) : nodeA ByteArray.empty r = ByteArray.empty := if_neg (fun h => by have := h.1; simp at this)
theorem nodeA_right (l : ByteArray) : nodeA l ByteArray.empty = ByteArray.empty := if_neg (fun h => by have := h.2; simp at this)

/-- The greatest power of two below a number above 1. -/
def halfN (n : Nat) : Nat := 2 ^ Nat.log2 (n - 1)
theorem halfN_pos (n : Nat) : 1 ≤ halfN n := Nat.one_le_two_pow
theorem halfN_lt {n : Nat} (h : 2 ≤ n) : halfN n < n := by
  have := Nat.log2_self_le (n := n - 1) (by omega)
  unfold halfN; omega
theorem halfN_le {n : Nat} (h : 2 ≤ n) : n ≤ 2 * halfN n := by
  have h1 : n - 1 < 2 ^ (Nat.log2 (n - 1) + 1) := Nat.lt_log2_self
  rw [Nat.pow_succ] at h1
  unfold halfN; omega
theorem halfN_unique {n j : Nat} (h1 : 2 ^ j < n) (h2 : n ≤ 2 * 2 ^ j) : halfN n = 2 ^ j := by
  have hp : 1 ≤ 2 ^ j := Nat.one_le_two_pow
  have e : Nat.log2 (n - 1) = j := by
    have a := Nat.log2_self_le (n := n - 1) (by omega)
    have b : n - 1 < 2 ^ (Nat.log2 (n - 1) + 1) := Nat.lt_log2_self
    have c1 : 2 ^ j < 2 ^ (Nat.log2 (n - 1) + 1) := by omega
    have c2 : 2 ^ (Nat.log2 (n - 1)) < 2 ^ (j + 1) := by rw [Nat.pow_succ]; omega
    have d1 := (Nat.pow_lt_pow_iff_right (a := 2) (by omega)).1 c1
    have d2 := (Nat.pow_lt_pow_iff_right (a := 2) (by omega)).1 c2
    omega
  unfold halfN; rw [e]

def treeB (l : List ByteArray) : ByteArray :=
  if h : 2 ≤ l.length then nodeB (treeB (l.take (halfN l.length))) (treeB (l.drop (halfN l.length)))
  else match l with
    | [] => digB ByteArray.empty
    | x :: _ => leafB x
termination_by l.length
decreasing_by
  · have := halfN_lt h; simp; omega
  · have := halfN_pos l.length; simp; omega
theorem treeB_nil : treeB [] = digB ByteArray.empty := by rw [treeB]; simp
theorem treeB_one (x : ByteArray) : treeB [x] = leafB x := by rw [treeB]; simp
theorem treeB_two {l : List ByteArray} (h : 2 ≤ l.length) : treeB l = nodeB (treeB (l.take (halfN l.length))) (treeB (l.drop (halfN l.length))) := by
  rw [treeB]; simp [h]
theorem treeB_size (l : List ByteArray) : (treeB l).size = 32 := by
  match l with
  | [] => rw [treeB_nil, digB_size]
  | [x] => rw [treeB_one, leafB_size]
  | x :: y :: t => rw [treeB_two (by simp), nodeB_size]

def pathB (l : List ByteArray) (i : Nat) : List ByteArray :=
  if h : 2 ≤ l.length then
    if i < halfN l.length then pathB (l.take (halfN l.length)) i ++ [treeB (l.drop (halfN l.length))]
    else pathB (l.drop (halfN l.length)) (i - halfN l.length) ++ [treeB (l.take (halfN l.length))]
  else []
termination_by l.length
decreasing_by
  · have := halfN_lt h; simp; omega
  · have := halfN_pos l.length; simp; omega
theorem pathB_one {l : List ByteArray} (h : ¬ 2 ≤ l.length) (i : Nat) : pathB l i = [] := by rw [pathB]; simp [h]
theorem pathB_left {l : List ByteArray} (h : 2 ≤ l.length) {i : Nat} (hi : i < halfN l.length) : pathB l i = pathB (l.take (halfN l.length)) i ++ [treeB (l.drop (halfN l.length))] := by
  rw [pathB]; simp [h, hi]
theorem pathB_right {l : List ByteArray} (h : 2 ≤ l.length) {i : Nat} (hi : ¬ i < halfN l.length) : pathB l i = pathB (l.drop (halfN l.length)) (i - halfN l.length) ++ [treeB (l.take (halfN l.length))] := by
  rw [pathB]; simp [h, hi]

def proofB (m : Nat) (l : List ByteArray) (whole : Bool) : List ByteArray :=
  if h : 2 ≤ l.length ∧ m ≠ l.length then
    if m ≤ halfN l.length then proofB m (l.take (halfN l.length)) whole ++ [treeB (l.drop (halfN l.length))]
    else proofB (m - halfN l.length) (l.drop (halfN l.length)) false ++ [treeB (l.take (halfN l.length))]
  else if whole then [] else [treeB l]
termination_by l.length
decreasing_by
  · have := halfN_lt h.1; simp; omega
  · have := halfN_pos l.length; simp; omega
theorem proofB_all {m : Nat} {l : List ByteArray} (h : m = l.length) (whole : Bool) : proofB m l whole = if whole then [] else [treeB l] := by
  rw [proofB]; simp [h]
theorem proofB_left {m : Nat} {l : List ByteArray} (h : 2 ≤ l.length) (h2 : m ≠ l.length) (hm : m ≤ halfN l.length) (whole : Bool) :
    proofB m l whole = proofB m (l.take (halfN l.length)) whole ++ [treeB (l.drop (halfN l.length))] := by
  rw [proofB]; simp [h, h2, hm]
theorem proofB_right {m : Nat} {l : List ByteArray} (h : 2 ≤ l.length) (h2 : m ≠ l.length) (hm : ¬ m ≤ halfN l.length) (whole : Bool) :
    proofB m l whole = proofB (m - halfN l.length) (l.drop (halfN l.length)) false ++ [treeB (l.take (halfN l.length))] := by
  rw [proofB]; simp [h, h2, hm]

/-! ### Ways up: true, if what is put to it stands ahead -/
def itd (a l : Nat) : List Bool :=
  if h : l = 0 then [] else if a % 2 = 1 then true :: itd (a / 2) (l / 2) else if a = l then itd (a / 2) (l / 2) else false :: itd (a / 2) (l / 2)
termination_by l
decreasing_by all_goals omega
theorem itd_zero (a : Nat) : itd a 0 = [] := by rw [itd]; simp
theorem itd_odd {a l : Nat} (h : l ≠ 0) (ha : a % 2 = 1) : itd a l = true :: itd (a / 2) (l / 2) := by rw [itd]; simp [h, ha]
theorem itd_last {a : Nat} (h : a ≠ 0) (ha : a % 2 = 0) : itd a a = itd (a / 2) (a / 2) := by rw [itd]; simp [h, ha]
theorem itd_even {a l : Nat} (h : l ≠ 0) (ha : a % 2 = 0) (hl : a ≠ l) : itd a l = false :: itd (a / 2) (l / 2) := by rw [itd]; simp [h, ha, hl]

theorem itd_A (m : Nat) : ∀ i last, i < 2 ^ m → 2 ^ m ≤ last → last < 2 * 2 ^ m → itd i last = itd i (2 ^ m - 1) ++ [false] := by
  induction m with
  | zero =>
    intro i last h1 h2 h3
    obtain rfl : i = 0 := by omega
    obtain rfl : last = 1 := by omega
    rw [itd_even (by omega) (by omega) (by omega)]; simp [itd_zero]
  | succ m ih =>
    intro i last h1 h2 h3
    rw [Nat.pow_succ] at h1 h2 h3 ⊢
    have hp : 1 ≤ 2 ^ m := Nat.one_le_two_pow
    have hh : (2 ^ m * 2 - 1) / 2 = 2 ^ m - 1 := by omega
    have I := ih (i / 2) (last / 2) (by omega) (by omega) (by omega)
    by_cases ho : i % 2 = 1
    · rw [itd_odd (by omega) ho, itd_odd (by omega) ho, I, hh]; rfl
    · rw [itd_even (by omega) (by omega) (by omega), itd_even (l := 2 ^ m * 2 - 1) (by omega) (by omega) (by omega), I, hh]; rfl
theorem itd_B (m : Nat) : ∀ i last, 2 ^ m ≤ i → i ≤ last → last < 2 * 2 ^ m → itd i last = itd (i - 2 ^ m) (last - 2 ^ m) ++ [true] := by
  induction m with
  | zero =>
    intro i last h1 h2 h3
    obtain rfl : i = 1 := by omega
    obtain rfl : last = 1 := by omega
    rw [itd_odd (by omega) (by omega)]; simp [itd_zero]
  | succ m ih =>
    intro i last h1 h2 h3
    rw [Nat.pow_succ] at h1 h3 ⊢
    have hp : 1 ≤ 2 ^ m := Nat.one_le_two_pow
    have I := ih (i / 2) (last / 2) (by omega) (by omega) (by omega)
    have e1 : (i - 2 ^ m * 2) / 2 = i / 2 - 2 ^ m := by omega
    have e2 : (last - 2 ^ m * 2) / 2 = last / 2 - 2 ^ m := by omega
    by_cases ho : i % 2 = 1
    · rw [itd_odd (by omega) ho, itd_odd (l := last - 2 ^ m * 2) (by omega) (by omega), I, e1, e2]; rfl
    · by_cases hl : i = last
      · subst hl
        rw [itd_last (by omega) (by omega), I]
        by_cases hz : i - 2 ^ m * 2 = 0
        · rw [hz]; rw [show i / 2 - 2 ^ m = 0 by omega]
        · rw [itd_last hz (by omega), e1]
      · rw [itd_even (by omega) (by omega) hl, itd_even (a := i - 2 ^ m * 2) (by omega) (by omega) (by omega), I, e1, e2]; rfl
theorem itd_nil {a l : Nat} (hal : a ≤ l) (hl : l ≠ 0) : itd a l ≠ [] := by
  induction l using Nat.strongRecOn generalizing a with
  | _ l ih =>
    by_cases ho : a % 2 = 1
    · rw [itd_odd hl ho]; simp
    · by_cases he : a = l
      · subst he
        rw [itd_last hl (by omega)]
        exact ih (a / 2) (by omega) (Nat.le_refl _) (by omega)
      · rw [itd_even hl (by omega) he]; simp

def dirs (i n : Nat) : List Bool :=
  if h : 2 ≤ n then if i < halfN n then dirs i (halfN n) ++ [false] else dirs (i - halfN n) (n - halfN n) ++ [true] else []
termination_by n
decreasing_by
  · exact halfN_lt h
  · have := halfN_pos n; omega
theorem dirs_one {i n : Nat} (h : ¬ 2 ≤ n) : dirs i n = [] := by rw [dirs]; simp [h]
theorem dirs_left {i n : Nat} (h : 2 ≤ n) (hi : i < halfN n) : dirs i n = dirs i (halfN n) ++ [false] := by rw [dirs]; simp [h, hi]
theorem dirs_right {i n : Nat} (h : 2 ≤ n) (hi : ¬ i < halfN n) : dirs i n = dirs (i - halfN n) (n - halfN n) ++ [true] := by rw [dirs]; simp [h, hi]
theorem dirs_eq {i n : Nat} (h : i < n) : dirs i n = itd i (n - 1) := by
  induction n using Nat.strongRecOn generalizing i with
  | _ n ih =>
    by_cases h2 : 2 ≤ n
    · have hlt := halfN_lt h2
      have hle := halfN_le h2
      have hp := halfN_pos n
      by_cases hi : i < halfN n
      · rw [dirs_left h2 hi, ih _ hlt hi]
        unfold halfN at *
        exact (itd_A _ i (n - 1) hi (by omega) (by omega)).symm
      · rw [dirs_right h2 hi, ih _ (by omega) (by omega)]
        unfold halfN at *
        rw [itd_B (Nat.log2 (n - 1)) i (n - 1) (by omega) (by omega) (by omega)]
        congr 2; omega
    · rw [dirs_one h2, show n - 1 = 0 by omega, itd_zero]

/-! ### Going up -/
def cl (h : ByteArray) : List Bool → List ByteArray → Option ByteArray
  | [], [] => some h
  | d :: ds, p :: ps => cl (if d then nodeB p h else nodeB h p) ds ps
  | _, _ => none
theorem cl_append {h h' : ByteArray} : ∀ {ds : List Bool} {ps : List ByteArray}, cl h ds ps = some h' → ∀ (d : Bool) (p : ByteArray), cl h (ds ++ [d]) (ps ++ [p]) = some (if d then nodeB p h' else nodeB h' p)
  | [], [], hh, d, p => by simp [cl] at hh ⊢; rw [hh]
  | [], _ :: _, hh, d, p => by simp [cl] at hh
  | _ :: _, [], hh, d, p => by simp [cl] at hh
  | _ :: ds, _ :: ps, hh, d, p => by
    simp only [List.cons_append, cl] at hh ⊢
    exact cl_append hh d p
theorem path_law (l : List ByteArray) (i : Nat) (h : i < l.length) : cl (leafB l[i]) (dirs i l.length) (pathB l i) = some (treeB l) := by
  induction hn : l.length using Nat.strongRecOn generalizing l i with
  | _ n ih =>
    subst hn
    by_cases h2 : 2 ≤ l.length
    · have hlt := halfN_lt h2
      have hp := halfN_pos l.length
      rw [treeB_two h2]
      by_cases hi : i < halfN l.length
      · have I := ih (halfN l.length) hlt (l.take (halfN l.length)) i (by simp; omega) (by simp; omega)
        rw [List.getElem_take] at I
        rw [dirs_left h2 hi, pathB_left h2 hi, cl_append I]; rfl
      · have I := ih (l.length - halfN l.length) (by omega) (l.drop (halfN l.length)) (i - halfN l.length) (by simp; omega) (by simp)
        rw [List.getElem_drop] at I
        simp only [show halfN l.length + (i - halfN l.length) = i by omega] at I
        rw [dirs_right h2 hi, pathB_right h2 hi, cl_append I]; rfl
    · obtain ⟨x, rfl⟩ : ∃ x, l = [x] := List.length_eq_one_iff.1 (by omega)
      have : i = 0 := by simp at h; exact h
      subst this
      rw [dirs_one (by simp), pathB_one (by simp), treeB_one]; rfl

/-- What is taken of a list at a place, and the place behind it. -/
def tk (l : List ByteArray) (a : Nat) : ByteArray := l.getD a ByteArray.empty
def nx (l : List ByteArray) (a : Nat) : Nat := if a < l.length then a + 1 else a
def stepP (l : List ByteArray) (s : ByteArray × Nat) (d : Bool) : ByteArray × Nat := (if d then nodeA (tk l s.2) s.1 else nodeA s.1 (tk l s.2), nx l s.2)
theorem stepP_empty (l : List ByteArray) (ds : List Bool) : ∀ a, (ds.foldl (stepP l) (ByteArray.empty, a)).1 = ByteArray.empty := by
  induction ds with
  | nil => intro a; rfl
  | cons d ds ih => intro a; rw [List.foldl_cons]; unfold stepP; simp only [nodeA_left, nodeA_right, ite_self]; exact ih _
theorem tk_of {l : List ByteArray} (hl : ∀ x ∈ l, x.size = 32) {a : Nat} (ha : a < l.length) : (tk l a).size = 32 ∧ l.drop a = tk l a :: l.drop (a + 1) := by
  have e : tk l a = l[a] := by unfold tk; simp [List.getElem?_eq_getElem ha]
  rw [e]
  exact ⟨hl _ (List.getElem_mem _), List.drop_eq_getElem_cons ha⟩
theorem tk_out {l : List ByteArray} {a : Nat} (ha : ¬ a < l.length) : tk l a = ByteArray.empty := by
  unfold tk; rw [List.getD_eq_getElem?_getD, List.getElem?_eq_none (by omega)]; rfl
theorem foldP {l : List ByteArray} (hl : ∀ x ∈ l, x.size = 32) {root : ByteArray} (hr : root.size = 32) : ∀ (ds : List Bool) (t : ByteArray) (a : Nat), t.size = 32 → a ≤ l.length →
    (((ds.foldl (stepP l) (t, a)).1 = root ∧ (ds.foldl (stepP l) (t, a)).2 = l.length) ↔ cl t ds (l.drop a) = some root) := by
  intro ds
  induction ds with
  | nil =>
    intro t a ht ha
    simp only [List.foldl_nil]
    by_cases h : a < l.length
    · rw [(tk_of hl h).2]; simp [cl]; omega
    · rw [List.drop_of_length_le (by omega)]; simp [cl]; omega
  | cons d ds ih =>
    intro t a ht ha
    rw [List.foldl_cons]
    by_cases h : a < l.length
    · obtain ⟨h1, h2⟩ := tk_of hl h
      rw [h2]
      have e : stepP l (t, a) d = (if d then nodeB (tk l a) t else nodeB t (tk l a), a + 1) := by
        unfold stepP nx; simp only [nodeA_of h1 ht, nodeA_of ht h1, if_pos h]
      rw [e]
      exact ih _ (a + 1) (by split <;> exact nodeB_size _ _) (by omega)
    · have e : stepP l (t, a) d = (ByteArray.empty, nx l a) := by
        unfold stepP; simp only [tk_out h, nodeA_left, nodeA_right, ite_self]
      rw [e, List.drop_of_length_le (by omega), stepP_empty]
      simp only [cl]
      constructor
      · rintro ⟨h1, _⟩; rw [← h1] at hr; simp at hr
      · intro h1; cases h1

/-! ### Proofs that the first ones are the beginning -/
def pd (m n : Nat) : List Bool :=
  if h : 2 ≤ n ∧ m ≠ n then if m ≤ halfN n then pd m (halfN n) ++ [false] else pd (m - halfN n) (n - halfN n) ++ [true] else []
termination_by n
decreasing_by
  · exact halfN_lt h.1
  · have := halfN_pos n; omega
theorem pd_all (n : Nat) : pd n n = [] := by rw [pd]; simp
theorem pd_left {m n : Nat} (h : 2 ≤ n) (h2 : m ≠ n) (hm : m ≤ halfN n) : pd m n = pd m (halfN n) ++ [false] := by rw [pd]; simp [h, h2, hm]
theorem pd_right {m n : Nat} (h : 2 ≤ n) (h2 : m ≠ n) (hm : ¬ m ≤ halfN n) : pd m n = pd (m - halfN n) (n - halfN n) ++ [true] := by rw [pd]; simp [h, h2, hm]

def sitd (a l : Nat) : List Bool := if a % 2 = 1 then sitd (a / 2) (l / 2) else itd a l
termination_by a
decreasing_by omega
theorem sitd_odd {a l : Nat} (h : a % 2 = 1) : sitd a l = sitd (a / 2) (l / 2) := by rw [sitd]; simp [h]
theorem sitd_even {a l : Nat} (h : a % 2 = 0) : sitd a l = itd a l := by rw [sitd]; simp [h]
theorem sitd_A (m : Nat) : ∀ i last, i < 2 ^ m → 2 ^ m ≤ last → last < 2 * 2 ^ m → sitd i last = sitd i (2 ^ m - 1) ++ [false] := by
  induction m with
  | zero =>
    intro i last h1 h2 h3
    obtain rfl : i = 0 := by omega
    rw [sitd_even (by omega), sitd_even (by omega)]
    exact itd_A 0 0 last h1 h2 h3
  | succ m ih =>
    intro i last h1 h2 h3
    by_cases ho : i % 2 = 1
    · rw [Nat.pow_succ] at h1 h2 h3 ⊢
      have hp : 1 ≤ 2 ^ m := Nat.one_le_two_pow
      rw [sitd_odd ho, sitd_odd (l := 2 ^ m * 2 - 1) ho, ih (i / 2) (last / 2) (by omega) (by omega) (by omega), show (2 ^ m * 2 - 1) / 2 = 2 ^ m - 1 by omega]
    · rw [sitd_even (by omega), sitd_even (by omega)]
      exact itd_A (m + 1) i last h1 h2 h3
theorem sitd_B (m : Nat) : ∀ i last, 2 ^ m ≤ i → i < last → last < 2 * 2 ^ m → sitd i last = sitd (i - 2 ^ m) (last - 2 ^ m) ++ [true] := by
  induction m with
  | zero => intro i last h1 h2 h3; omega
  | succ m ih =>
    intro i last h1 h2 h3
    by_cases ho : i % 2 = 1
    · rw [Nat.pow_succ] at h1 h3 ⊢
      have hp : 1 ≤ 2 ^ m := Nat.one_le_two_pow
      rw [sitd_odd ho, sitd_odd (a := i - 2 ^ m * 2) (by omega), ih (i / 2) (last / 2) (by omega) (by omega) (by omega), show (i - 2 ^ m * 2) / 2 = i / 2 - 2 ^ m by omega, show (last - 2 ^ m * 2) / 2 = last / 2 - 2 ^ m by omega]
    · rw [sitd_even (by omega), sitd_even (a := i - 2 ^ (m + 1)) (by rw [Nat.pow_succ] at h1 ⊢; omega)]
      exact itd_B (m + 1) i last h1 (by omega) h3
theorem pow_sitd (j : Nat) : sitd (2 ^ j - 1) (2 ^ j - 1) = [] := by
  induction j with
  | zero => rw [sitd_even (by omega)]; exact itd_zero _
  | succ j ih =>
    have hp : 1 ≤ 2 ^ j := Nat.one_le_two_pow
    rw [Nat.pow_succ, sitd_odd (by omega), show (2 ^ j * 2 - 1) / 2 = 2 ^ j - 1 by omega]; exact ih
theorem pd_eq {m n : Nat} (h1 : 1 ≤ m) (h : m < n ∨ (m = n ∧ ∃ j, n = 2 ^ j)) : pd m n = sitd (m - 1) (n - 1) := by
  induction n using Nat.strongRecOn generalizing m with
  | _ n ih =>
    rcases h with h | ⟨rfl, j, rfl⟩
    · have h2 : 2 ≤ n := by omega
      have hlt := halfN_lt h2
      have hle := halfN_le h2
      have hp := halfN_pos n
      by_cases hm : m ≤ halfN n
      · rw [pd_left h2 (by omega) hm, ih _ hlt h1 (by rcases Nat.lt_or_ge m (halfN n) with q | q; exact .inl q; exact .inr ⟨by omega, _, rfl⟩)]
        unfold halfN at *
        exact (sitd_A _ (m - 1) (n - 1) (by omega) (by omega) (by omega)).symm
      · rw [pd_right h2 (by omega) hm, ih _ (by omega) (by omega) (.inl (by omega))]
        unfold halfN at *
        rw [sitd_B (Nat.log2 (n - 1)) (m - 1) (n - 1) (by omega) (by omega) (by omega)]
        congr 2 <;> omega
    · rw [pd_all, pow_sitd]
/-- Nothing but ways to the left. -/
def lft (ds : List Bool) : Bool := ds.all (fun d => !d)
theorem lft_false (ds : List Bool) : lft (ds ++ [false]) = lft ds := by simp [lft]
theorem lft_true (ds : List Bool) : lft (ds ++ [true]) = false := by simp [lft]
theorem lft_pd {m n : Nat} (h1 : 1 ≤ m) (h : m < n ∨ (m = n ∧ ∃ j, n = 2 ^ j)) : lft (pd m n) = true ↔ ∃ j, m = 2 ^ j := by
  induction n using Nat.strongRecOn generalizing m with
  | _ n ih =>
    rcases h with h | ⟨rfl, j, rfl⟩
    · have h2 : 2 ≤ n := by omega
      have hlt := halfN_lt h2
      have hle := halfN_le h2
      by_cases hm : m ≤ halfN n
      · rw [pd_left h2 (by omega) hm, lft_false]
        exact ih _ hlt h1 (by rcases Nat.lt_or_ge m (halfN n) with q | q; exact .inl q; exact .inr ⟨by omega, _, rfl⟩)
      · rw [pd_right h2 (by omega) hm, lft_true]
        constructor
        · intro h; cases h
        · rintro ⟨j, rfl⟩
          unfold halfN at hm hle
          have c1 : 2 ^ (Nat.log2 (n - 1)) < 2 ^ j := by omega
          have c2 : 2 ^ j < 2 ^ (Nat.log2 (n - 1) + 1) := by rw [Nat.pow_succ]; omega
          have d1 := (Nat.pow_lt_pow_iff_right (a := 2) (by omega)).1 c1
          have d2 := (Nat.pow_lt_pow_iff_right (a := 2) (by omega)).1 c2
          omega
    · rw [pd_all]; simp [lft]; exact ⟨j, rfl⟩

def cl2 (w r : ByteArray) : List Bool → List ByteArray → Option (ByteArray × ByteArray)
  | [], [] => some (w, r)
  | d :: ds, p :: ps => if d then cl2 (nodeB p w) (nodeB p r) ds ps else cl2 w (nodeB r p) ds ps
  | _, _ => none
theorem cl2_append {w r w' r' : ByteArray} : ∀ {ds : List Bool} {ps : List ByteArray}, cl2 w r ds ps = some (w', r') → ∀ (d : Bool) (p : ByteArray), cl2 w r (ds ++ [d]) (ps ++ [p]) = some (if d then (nodeB p w', nodeB p r') else (w', nodeB r' p)) := by
  intro ds
  induction ds generalizing w r with
  | nil =>
    intro ps hh d p
    match ps, hh with
    | [], hh =>
      simp only [cl2, Option.some.injEq, Prod.mk.injEq] at hh
      obtain ⟨rfl, rfl⟩ := hh
      cases d <;> simp [cl2]
  | cons d0 ds ih =>
    intro ps hh d p
    match ps, hh with
    | p0 :: ps, hh =>
      simp only [List.cons_append, cl2] at hh ⊢
      cases d0
      · simp at hh ⊢; exact ih hh d p
      · simp at hh ⊢; exact ih hh d p
def stepC (l : List ByteArray) (s : ByteArray × ByteArray × Nat) (d : Bool) : ByteArray × ByteArray × Nat :=
  if d then (nodeA (tk l s.2.2) s.1, nodeA (tk l s.2.2) s.2.1, nx l s.2.2) else (s.1, nodeA s.2.1 (tk l s.2.2), nx l s.2.2)
def seedC (l : List ByteArray) (whole : ByteArray) (a : Nat) : ByteArray × ByteArray × Nat := if whole.size = 0 then (tk l a, tk l a, nx l a) else (whole, whole, a)
theorem stepC_empty (l : List ByteArray) (ds : List Bool) : ∀ w a, (ds.foldl (stepC l) (w, ByteArray.empty, a)).2.1 = ByteArray.empty := by
  induction ds with
  | nil => intro w a; rfl
  | cons d ds ih =>
    intro w a; rw [List.foldl_cons]; unfold stepC
    cases d
    · simp only [nodeA_left]; exact ih _ _
    · simp only [if_true, nodeA_right]; exact ih _ _
theorem foldC {l : List ByteArray} (hl : ∀ x ∈ l, x.size = 32) {was root : ByteArray} (hr : root.size = 32) : ∀ (ds : List Bool) (w r : ByteArray) (a : Nat), w.size = 32 → r.size = 32 → a ≤ l.length →
    (((ds.foldl (stepC l) (w, r, a)).1 = was ∧ (ds.foldl (stepC l) (w, r, a)).2.1 = root ∧ (ds.foldl (stepC l) (w, r, a)).2.2 = l.length) ↔ cl2 w r ds (l.drop a) = some (was, root)) := by
  intro ds
  induction ds with
  | nil =>
    intro w r a hw hrr ha
    simp only [List.foldl_nil]
    by_cases h : a < l.length
    · rw [(tk_of hl h).2]; simp [cl2]; omega
    · rw [List.drop_of_length_le (by omega)]; simp [cl2]; omega
  | cons d ds ih =>
    intro w r a hw hrr ha
    rw [List.foldl_cons]
    by_cases h : a < l.length
    · obtain ⟨h1, h2⟩ := tk_of hl h
      rw [h2]
      cases d
      · have e : stepC l (w, r, a) false = (w, nodeB r (tk l a), a + 1) := by
          unfold stepC nx; simp [nodeA_of hrr h1, if_pos h]
        rw [e]
        simpa [cl2] using ih w _ (a + 1) hw (nodeB_size _ _) (by omega)
      · have e : stepC l (w, r, a) true = (nodeB (tk l a) w, nodeB (tk l a) r, a + 1) := by
          unfold stepC nx; simp [nodeA_of h1 hw, nodeA_of h1 hrr, if_pos h]
        rw [e]
        simpa [cl2] using ih _ _ (a + 1) (nodeB_size _ _) (nodeB_size _ _) (by omega)
    · have e : ∃ w', stepC l (w, r, a) d = (w', ByteArray.empty, nx l a) := by
        cases d
        · exact ⟨w, by unfold stepC; simp only [tk_out h, nodeA_right]; rfl⟩
        · exact ⟨_, by unfold stepC; simp only [tk_out h, nodeA_left]; rfl⟩
      obtain ⟨w', e⟩ := e
      rw [e, List.drop_of_length_le (by omega), stepC_empty]
      simp only [cl2]
      constructor
      · rintro ⟨_, h1, _⟩; rw [← h1] at hr; simp at hr
      · intro h1; cases h1

/-- The proof of the first m of a list leads to both trees, whole or not. -/
theorem proof_law (l : List ByteArray) (m : Nat) (h1 : 1 ≤ m) (h : m ≤ l.length) (whole : Bool) :
    ∃ s ps, (if whole && lft (pd m l.length) then s = treeB (l.take m) ∧ proofB m l whole = ps else proofB m l whole = s :: ps) ∧ cl2 s s (pd m l.length) ps = some (treeB (l.take m), treeB l) := by
  induction hn : l.length using Nat.strongRecOn generalizing l m whole with
  | _ n ih =>
    subst hn
    by_cases he : m = l.length
    · subst he
      rw [proofB_all rfl, pd_all, List.take_of_length_le (Nat.le_refl _)]
      refine ⟨treeB l, [], ?_, rfl⟩
      cases whole <;> simp [lft]
    · have h2 : 2 ≤ l.length := by omega
      have hlt := halfN_lt h2
      have hp := halfN_pos l.length
      by_cases hm : m ≤ halfN l.length
      · obtain ⟨s, ps, hA, hB⟩ := ih (halfN l.length) hlt (l.take (halfN l.length)) m h1 (by simp; omega) whole (by simp; omega)
        refine ⟨s, ps ++ [treeB (l.drop (halfN l.length))], ?_, ?_⟩
        · rw [proofB_left h2 he hm, pd_left h2 he hm, lft_false]
          rw [List.take_take, Nat.min_eq_left hm] at hA
          split at hA
          · rename_i hc; rw [if_pos hc]; exact ⟨hA.1, by rw [hA.2]⟩
          · rename_i hc; rw [if_neg hc, hA]; rfl
        · rw [pd_left h2 he hm, cl2_append hB, treeB_two h2, List.take_take, Nat.min_eq_left hm]; rfl
      · obtain ⟨s, ps, hA, hB⟩ := ih (l.length - halfN l.length) (by omega) (l.drop (halfN l.length)) (m - halfN l.length) (by omega) (by simp; omega) false (by simp)
        refine ⟨s, ps ++ [treeB (l.take (halfN l.length))], ?_, ?_⟩
        · rw [proofB_right h2 he hm, pd_right h2 he hm, lft_true]
          simp at hA ⊢; rw [hA]; rfl
        · rw [pd_right h2 he hm, cl2_append hB]
          have e1 : treeB (l.take m) = nodeB (treeB (l.take (halfN l.length))) (treeB ((l.drop (halfN l.length)).take (m - halfN l.length))) := by
            have hl : (l.take m).length = m := by simp; omega
            have hh : halfN m = halfN l.length := by
              have a := halfN_le h2
              unfold halfN at hm a ⊢
              exact halfN_unique (by omega) (by omega)
            rw [treeB_two (by omega), hl, hh, List.take_take, Nat.min_eq_left (by omega), List.drop_take]
          rw [e1, ← treeB_two h2]; rfl
end Go.Proofs.YtokkeadbkeehgaaGreatDoor
/-
  Slices of texts that are only read: what areDigests, entriesRight and l03Entries answer.
  Conditions: the slice's cells hold those texts; it is at most 2^47 long.
-/
namespace Go.Proofs.YtokkeadbkeehgaaGreatDoor
open Go.RowKit Go.Lib
set_option linter.unusedVariables false

/-- The cells that a slice of texts leads to hold these texts (of none nothing is asked: also nil). -/
def TxtAt (w : World) (p : Option Addr) (ss : List ByteArray) : Prop :=
  ∀ i (h : i < ss.length), ∃ b off, p = some ⟨b, off, none⟩ ∧ b < w.heap.size ∧ w.cell? ⟨b, off + i, none⟩ = some (.string ss[i])
theorem TxtAt.below {w w' : World} {p : Option Addr} {ss : List ByteArray} (h : TxtAt w p ss) (hb : Below w.heap.size w w') : TxtAt w' p ss := by
  intro i hi
  obtain ⟨b, off, rfl, h1, h2⟩ := h i hi
  exact ⟨b, off, rfl, Nat.lt_of_lt_of_le h1 hb.size, (hb.cell (p := ⟨b, off + i, none⟩) h1).trans h2⟩
theorem TxtAt.nil (w : World) (p : Option Addr) : TxtAt w p [] := fun i h => by simp at h
theorem TxtAt.take {w : World} {p : Option Addr} {ss : List ByteArray} (h : TxtAt w p ss) (k : Nat) : TxtAt w p (ss.take k) := by
  intro i hi
  obtain ⟨b, off, h0, h1, h2⟩ := h i (by simp at hi; omega)
  exact ⟨b, off, h0, h1, by rw [h2, List.getElem_take]⟩
theorem TxtAt.drop {w : World} {b off : Nat} {ss : List ByteArray} (h : TxtAt w (some ⟨b, off, none⟩) ss) (k : Nat) : TxtAt w (some ⟨b, off + k, none⟩) (ss.drop k) := by
  intro i hi
  obtain ⟨b', off', h0, h1, h2⟩ := h (k + i) (by simp at hi; omega)
  cases h0
  exact ⟨b, off + k, rfl, h1, by rw [List.getElem_drop, ← h2, Nat.add_assoc]⟩
theorem TxtAt.at {w : World} {b off : Nat} {ss : List ByteArray} (h : TxtAt w (some ⟨b, off, none⟩) ss) (i : Nat) (hi : i < ss.length) : w.cell? ⟨b, off + i, none⟩ = some (.string ss[i]) := by
  obtain ⟨b', off', h0, h1, h2⟩ := h i hi
  cases h0; exact h2

theorem chainB {w w1 w2 : World} (b1 : Below w.heap.size w w1) (b2 : Below w1.heap.size w1 w2) : Below w.heap.size w w2 := b1.trans (b2.mono b1.size)
def wideB (ss : List ByteArray) : Bool := ss.all fun x => x.size == 32
def entB (ss : List ByteArray) : Bool := decide (ss.length ≤ 64) && ss.all fun x => decide (x.size ≤ 100)
theorem wideB_true {ss : List ByteArray} (h : ∀ j (h : j < ss.length), ss[j].size = 32) : wideB ss = true := by
  unfold wideB; rw [List.all_eq_true]; intro x hx
  obtain ⟨j, hj, rfl⟩ := List.getElem_of_mem hx
  simpa using h j hj
theorem wideB_false {ss : List ByteArray} {k : Nat} (hk : k < ss.length) (h : ss[k].size ≠ 32) : wideB ss = false := by
  unfold wideB; rw [List.all_eq_false]; exact ⟨_, List.getElem_mem hk, by simpa using h⟩
theorem wideB_all {ss : List ByteArray} (h : wideB ss = true) : ∀ x ∈ ss, x.size = 32 := by
  unfold wideB at h; rw [List.all_eq_true] at h; intro x hx; simpa using h x hx
theorem entB_true {ss : List ByteArray} (hl : ss.length ≤ 64) (h : ∀ j (h : j < ss.length), ss[j].size ≤ 100) : entB ss = true := by
  unfold entB; rw [Bool.and_eq_true, List.all_eq_true]; refine ⟨by simpa using hl, fun x hx => ?_⟩
  obtain ⟨j, hj, rfl⟩ := List.getElem_of_mem hx
  simpa using h j hj
theorem entB_false {ss : List ByteArray} {k : Nat} (hk : k < ss.length) (h : ¬ ss[k].size ≤ 100) : entB ss = false := by
  unfold entB; rw [Bool.and_eq_false_iff]; right; rw [List.all_eq_false]; exact ⟨_, List.getElem_mem hk, by simpa using h⟩
theorem entB_long {ss : List ByteArray} (h : ¬ ss.length ≤ 64) : entB ss = false := by
  unfold entB; rw [Bool.and_eq_false_iff]; left; simpa using h
theorem entB_len {ss : List ByteArray} (h : entB ss = true) : ss.length ≤ 64 := by
  unfold entB at h; rw [Bool.and_eq_true] at h; simpa using h.1
theorem entB_all {ss : List ByteArray} (h : entB ss = true) : ∀ x ∈ ss, x.size ≤ 100 := by
  unfold entB at h; rw [Bool.and_eq_true, List.all_eq_true] at h; intro x hx; simpa using h.2 x hx
theorem ret_bool {a b : Bool} (h : a = b) : Ending.returned (.bool a) = .returned (.bool b) := by rw [h]

set_option maxHeartbeats 400000 in
theorem areD_any (p : Option Addr) (cap : Nat) (ss : List ByteArray) (w : World) (hp : TxtAt w p ss) (hn : ss.length ≤ 140737488355328) (hcap : ss.length ≤ cap) :
    Calls Tryz.prog 182 #[.slice p ss.length cap] w fun e w' => e = .returned (.bool (wideB ss)) ∧ w' = w := by
  have HP : Hid (TxtAt w p ss) := hp
  clear hp
  go_enter Tryz.func182, Tryz.ntmps182
  go_wp2
  go_loop [7] (fun i => ∃ k : Nat, k ≤ ss.length ∧ i = .int .i64 k ∧ Hid (∀ j (h : j < ss.length), j < k → ss[j].size = 32)) (fun i => ss.length - (intOf i).toNat)
  case atStart => exact ⟨0, Nat.zero_le _, rfl, fun j h hk => by omega⟩
  case round =>
    obtain ⟨k, hk, rfl, HK⟩ := hrel
    by_cases hlt : k < ss.length
    · obtain ⟨b, off, rfl, hb, hck⟩ := HP.out k hlt
      by_cases h32 : ss[k].size = 32
      · have HK2 : Hid (∀ j (h : j < ss.length), j < k + 1 → ss[j].size = 32) := fun j h hj => if he : j = k then by subst he; exact h32 else HK.out j h (by omega)
        generalize ss[k] = q at *
        have h33 : (q.size : Int) = 32 := by omega
        go_wp2
        go_round
        case rel => exact ⟨k + 1, by omega, by go_num, HK2⟩
        case measure => simp [intOf]; omega
      · have HF : Hid (wideB ss = false) := wideB_false hlt h32
        generalize ss[k] = q at *
        have h33 : ¬ (q.size : Int) = 32 := by omega
        go_wp2
        go_ret
        exact ⟨ret_bool HF.out.symm, rfl⟩
    · have HF : Hid (wideB ss = true) := wideB_true fun j h => HK.out j h (by omega)
      go_wp2
      go_ret
      exact ⟨ret_bool HF.out.symm, rfl⟩

end Go.Proofs.YtokkeadbkeehgaaGreatDoor
/-
  A block that holds texts (BlkS), made and written; nothing here speaks of a function of the program.
-/
namespace Go.Proofs.YtokkeadbkeehgaaGreatDoor
open Go.RowKit Go.Lib
set_option linter.unusedVariables false

def strRow (l : List ByteArray) : List Value := l.map Value.string
/-- A block that holds these texts and no more; nothing of it is frozen. -/
def BlkS (w : World) (g : Nat) (l : List ByteArray) : Prop := w.heap[g]? = some (.cells (strRow l).toArray 9 (0, 0))
theorem BlkS.lt {w : World} {g : Nat} {l : List ByteArray} (h : BlkS w g l) : g < w.heap.size := by
  rcases Nat.lt_or_ge g w.heap.size with q | q
  · exact q
  · unfold BlkS at h; rw [Array.getElem?_eq_none q] at h; cases h
theorem BlkS.cell {w : World} {g : Nat} {l : List ByteArray} (h : BlkS w g l) (i : Nat) (hi : i < l.length) : w.cell? ⟨g, i, none⟩ = some (.string l[i]) ∧ w.frozen? ⟨g, i, none⟩ = false := by
  unfold BlkS at h
  constructor
  · simp [World.cell?, h, strRow, hi]
  · simp [World.frozen?, h]
theorem BlkS.txt {w : World} {g : Nat} {l : List ByteArray} (h : BlkS w g l) : TxtAt w (some ⟨g, 0, none⟩) l := fun i hi => ⟨g, 0, rfl, h.lt, by rw [Nat.zero_add]; exact (h.cell i hi).1⟩
theorem BlkS.below {w w' : World} {g : Nat} {l : List ByteArray} (h : BlkS w g l) {B : Nat} (hb : Below B w w') (hg : g < B) : BlkS w' g l := (hb.block g hg).trans h
theorem BlkS.set {w : World} {g : Nat} {l : List ByteArray} (h : BlkS w g l) (k : Nat) (s : ByteArray) : BlkS (w.setCell ⟨g, k, none⟩ (.string s)) g (l.set k s) := by
  unfold BlkS at h ⊢
  simp [World.setCell, Array.getElem?_modify, h, strRow, List.map_set]
theorem BlkS.setOther {w : World} {g : Nat} {l : List ByteArray} (h : BlkS w g l) (g' k : Nat) (hne : g' ≠ g) (v : Value) : BlkS (w.setCell ⟨g', k, none⟩ v) g l := by
  unfold BlkS at h ⊢
  have : (w.setCell ⟨g', k, none⟩ v).heap[g]? = w.heap[g]? := by simp [World.setCell, Array.getElem?_modify, hne]
  rw [this, h]
theorem BlkS.own {w : World} {g : Nat} {l : List ByteArray} (h : BlkS w g l) (base : Nat) (hb : base ≤ g) (hm : l.length ≤ maxLen) : w.ownsRow base 9 1 (.slice (some ⟨g, 0, none⟩) l.length l.length) l.length (strRow l) :=
  ⟨by simp [strRow], .inr ⟨g, l.length, (strRow l).toArray, rfl, hb, h, Nat.le_refl _, hm, by simp [strRow], by rw [Nat.mul_one]; exact List.take_of_length_le (by simp [strRow])⟩⟩

theorem infoStr : (Tryz.prog.info? 9).map (fun i => (i.zero, i.size, i.bytes)) = some (some (.string ByteArray.empty), 1, 16) := by kernel_rfl
theorem made_str (n : Nat) : madeCells #[.string ByteArray.empty] n = (strRow (List.replicate n ByteArray.empty)).toArray := by
  unfold madeCells strRow
  apply Array.ext
  · simp
  · intro i h1 h2; simp [Nat.mod_one]
theorem run_make_str (n : Nat) (hn : n ≤ 1048576) (w : World) :
    (Instr.makeSlice 23 (.int .i64 (n : Int)) (.int .i64 (n : Int))).run Tryz.prog w = .ok (.slice (some ⟨w.heap.size, 0, none⟩) n n) (w.alloc (.cells (strRow (List.replicate n ByteArray.empty)).toArray 9)) := by
  obtain ⟨i0, hi, hz0, hz1, hz2⟩ := info_parts infoStr
  have := run_make (P := Tryz.prog) w 23 9 i0 (.string ByteArray.empty) Tryz.underlying23 hi hz0 .i64 .i64 (n : Int) (n : Int) (by omega) (by omega) (by rw [hz2]; omega) (by omega)
  rw [this, hz1]
  simp only [Int.toNat_natCast, Nat.mul_one]
  rw [← made_str]; rfl

theorem alloc_str (w : World) (l : List ByteArray) : BlkS (w.alloc (.cells (strRow l).toArray 9)) w.heap.size l := by
  exact (MapKept.heap_alloc w _).1

theorem toList_inj {x y : ByteArray} (h : x.toList = y.toList) : x = y := by rw [ByteArray.toList_eq, ByteArray.toList_eq] at h; exact ByteArray.ext (Array.toList_inj.1 h)
end Go.Proofs.YtokkeadbkeehgaaGreatDoor
/-
  Boxes: what a block of a struct's cells holds, behind stores and new memory; what stays below.
-/
namespace Go.Proofs.YtokkeadbkeehgaaGreatDoor
open Go.RowKit Go.Lib
set_option linter.unusedVariables false

theorem below_none {w w' : World} (h : w.grownBy w' none) : Below w.heap.size w w' := ⟨h.os, h.tape, h.output, h.size, fun g hg => h.block g hg (by simp)⟩
theorem szA (w : World) (o : Obj) : (w.alloc o).heap.size = w.heap.size + 1 := by simp
theorem szD (w : World) : w.drew.heap.size = w.heap.size := rfl
theorem alB {W X : World} (h : Below W.heap.size W X) (o : Obj) : Below W.heap.size W (X.alloc o) := h.alloc h.size o
/-- What a box holds. -/
def Bxs (w : World) (g : Nat) (T : TypeId) (cs : Array Value) : Prop := w.heap[g]? = some (.cells cs T (0, 0))
theorem Bxs.lt {w : World} {g : Nat} {T : TypeId} {cs : Array Value} (h : Bxs w g T cs) : g < w.heap.size := lt_of_block h
theorem Bxs.new (w : World) (T : TypeId) (cs : Array Value) : Bxs (w.alloc (.cells cs T)) w.heap.size T cs := (MapKept.heap_alloc w _).1
theorem Bxs.below {w w' : World} {g : Nat} {T : TypeId} {cs : Array Value} (h : Bxs w g T cs) (hb : Below w.heap.size w w') : Bxs w' g T cs := (hb.block g h.lt).trans h
theorem Bxs.alloc {w : World} {g : Nat} {T : TypeId} {cs : Array Value} (h : Bxs w g T cs) (o : Obj) : Bxs (w.alloc o) g T cs := h.below ((Below.refl _ _).alloc (Nat.le_refl _) o)
theorem Bxs.cell {w : World} {g : Nat} {T : TypeId} {cs : Array Value} (h : Bxs w g T cs) (i : Nat) : w.cell? ⟨g, i, none⟩ = cs[i]? := by
  unfold Bxs at h
  cases hc : cs[i]? <;> simp [World.cell?, h, hc]
theorem Bxs.fr {w : World} {g : Nat} {T : TypeId} {cs : Array Value} (h : Bxs w g T cs) (i : Nat) : w.frozen? ⟨g, i, none⟩ = false := by
  unfold Bxs at h
  simp [World.frozen?, h]
theorem Bxs.set {w : World} {g : Nat} {T : TypeId} {cs : Array Value} (h : Bxs w g T cs) (i : Nat) (v : Value) : Bxs (w.setCell ⟨g, i, none⟩ v) g T (cs.setIfInBounds i v) := by
  unfold Bxs at h ⊢
  simp [World.setCell, Array.getElem?_modify, h]
theorem Bxs.other {w : World} {g : Nat} {T : TypeId} {cs : Array Value} (h : Bxs w g T cs) (g' i : Nat) (hne : g' ≠ g) (v : Value) : Bxs (w.setCell ⟨g', i, none⟩ v) g T cs := by
  unfold Bxs at h ⊢
  rw [show (w.setCell ⟨g', i, none⟩ v).heap[g]? = w.heap[g]? by simp [World.setCell, Array.getElem?_modify, hne]]
  exact h

theorem Bxs.grown {w w' : World} {g : Nat} {T : TypeId} {cs : Array Value} (h : Bxs w g T cs) {row : Option Nat} (hg : w.grownBy w' row) (hne : some g ≠ row) : Bxs w' g T cs := (hg.block g h.lt hne).trans h
theorem Bxs.two {w : World} {g : Nat} {T : TypeId} {a b : Value} (h : Bxs w g T #[a, b]) : w.cell? ⟨g, 0, none⟩ = some a ∧ w.cell? ⟨g, 1, none⟩ = some b := ⟨h.cell 0, h.cell 1⟩
theorem Bxs.four {w : World} {g : Nat} {T : TypeId} {a b c d : Value} (h : Bxs w g T #[a, b, c, d]) : w.cell? ⟨g, 0, none⟩ = some a ∧ w.cell? ⟨g, 1, none⟩ = some b ∧ w.cell? ⟨g, 2, none⟩ = some c ∧ w.cell? ⟨g, 3, none⟩ = some d := ⟨h.cell 0, h.cell 1, h.cell 2, h.cell 3⟩
theorem Bxs.five {w : World} {g : Nat} {T : TypeId} {a b c d e : Value} (h : Bxs w g T #[a, b, c, d, e]) : w.cell? ⟨g, 0, none⟩ = some a ∧ w.cell? ⟨g, 1, none⟩ = some b ∧ w.cell? ⟨g, 2, none⟩ = some c ∧ w.cell? ⟨g, 3, none⟩ = some d ∧ w.cell? ⟨g, 4, none⟩ = some e := ⟨h.cell 0, h.cell 1, h.cell 2, h.cell 3, h.cell 4⟩
theorem below_set2 {B : Nat} {a w : World} (h : Below B a w) {g : Nat} (hg : B ≤ g) (x0 x1 : Value) : Below B a ((w.setCell ⟨g, 0, none⟩ x0).setCell ⟨g, 1, none⟩ x1) := (h.setCell hg _).setCell hg _
theorem below_set3 {B : Nat} {a w : World} (h : Below B a w) {g : Nat} (hg : B ≤ g) (x0 x1 x2 : Value) : Below B a (((w.setCell ⟨g, 0, none⟩ x0).setCell ⟨g, 1, none⟩ x1).setCell ⟨g, 2, none⟩ x2) := ((h.setCell hg _).setCell hg _).setCell hg _
theorem below_set4 {B : Nat} {a w : World} (h : Below B a w) {g : Nat} (hg : B ≤ g) (x0 x1 x2 x3 : Value) : Below B a ((((w.setCell ⟨g, 0, none⟩ x0).setCell ⟨g, 1, none⟩ x1).setCell ⟨g, 2, none⟩ x2).setCell ⟨g, 3, none⟩ x3) := (((h.setCell hg _).setCell hg _).setCell hg _).setCell hg _
theorem below_set5 {B : Nat} {a w : World} (h : Below B a w) {g : Nat} (hg : B ≤ g) (x0 x1 x2 x3 x4 : Value) : Below B a (((((w.setCell ⟨g, 0, none⟩ x0).setCell ⟨g, 1, none⟩ x1).setCell ⟨g, 2, none⟩ x2).setCell ⟨g, 3, none⟩ x3).setCell ⟨g, 4, none⟩ x4) := (below_set4 h hg x0 x1 x2 x3).setCell hg _
end Go.Proofs.YtokkeadbkeehgaaGreatDoor
/-
  Rows of texts that a call owns: carried over what turns nothing that was there.
-/
namespace Go.Proofs.YtokkeadbkeehgaaGreatDoor
open Go.RowKit Go.Lib
set_option linter.unusedVariables false

theorem ownS_below {w w' : World} {base : Nat} {e : TypeId} {s : Nat} {v : Value} {n : Nat} {xs : List Value} (h : w.ownsRow base e s v n xs) (hb : Below w.heap.size w w') : w'.ownsRow base e s v n xs := by
  refine ⟨h.1, ?_⟩
  rcases h.2 with h0 | ⟨g, cap, cur, h1, h2, h3, h4⟩
  · exact .inl h0
  · exact .inr ⟨g, cap, cur, h1, h2, (hb.block g (lt_of_block h3)).trans h3, h4⟩
theorem ownS_mono {w : World} {base base' : Nat} {e : TypeId} {s : Nat} {v : Value} {n : Nat} {xs : List Value} (h : w.ownsRow base e s v n xs) (hb : base' ≤ base) : w.ownsRow base' e s v n xs := by
  refine ⟨h.1, ?_⟩
  rcases h.2 with h0 | ⟨g, cap, cur, h1, h2, h3⟩
  · exact .inl h0
  · exact .inr ⟨g, cap, cur, h1, Nat.le_trans hb h2, h3⟩
theorem ownS_none (w : World) : (w.alloc (.cells #[] 9)).ownsRow w.heap.size 9 1 (.slice (some ⟨w.heap.size, 0, none⟩) 0 0) ([] : List ByteArray).length (strRow []) :=
  World.ownsRow_made w #[] 0 (Nat.le_refl _) (by unfold maxLen; omega) rfl
theorem alloc_own (w : World) (T : ByteArray) : (w.alloc (.cells #[.string T] 9)).ownsRow w.heap.size 9 1 (.slice (some ⟨w.heap.size, 0, none⟩) 1 1) [T].length (strRow [T]) :=
  (alloc_str w [T]).own w.heap.size (Nat.le_refl _) (by unfold maxLen; simp)
/-- What a value that owns a row of texts is, for a walk that reads it. -/
theorem ownS_form {w : World} {base : Nat} {v : Value} {l : List ByteArray} (h : w.ownsRow base 9 1 v l.length (strRow l)) : ∃ p cap, v = .slice p l.length cap ∧ l.length ≤ cap ∧ TxtAt w p l := by
  rcases h.2 with ⟨rfl, h0⟩ | ⟨g, cap, cur, rfl, h2, h3, h4, h5, h6, h7⟩
  · have hl : l = [] := List.length_eq_zero_iff.1 h0
    subst hl
    exact ⟨none, 0, rfl, Nat.le_refl _, TxtAt.nil _ _⟩
  · refine ⟨some ⟨g, 0, none⟩, cap, rfl, h4, fun i hi => ⟨g, 0, rfl, lt_of_block h3, ?_⟩⟩
    have h8 : (cur.toList.take (l.length * 1))[i]? = some (.string l[i]) := by rw [h7]; simp [strRow, hi]
    rw [List.getElem?_take_of_lt (by omega)] at h8
    rw [Nat.zero_add]
    simpa [World.cell?, h3] using h8
theorem ownS_block {w : World} {base : Nat} {e : TypeId} {s : Nat} {v : Value} {n : Nat} {xs : List Value} (h : w.ownsRow base e s v n xs) {g : Nat} (hg : v.ownBlock = some g) : g < w.heap.size := (h.lt g hg).2
end Go.Proofs.YtokkeadbkeehgaaGreatDoor
/-
  One operation of a drawing region taken by hand, where the region's LAST operation (a store, which waits for all others) ends what held of the world till then: the condition is asked behind every operation but that one.
-/
namespace Go.Proofs.YtokkeadbkeehgaaGreatDoor
open Go.RowKit Go.Lib
set_option linter.unusedVariables false

/-- In whatever order, and S holds behind every operation but number l. -/
def AnyTill (P : Program) (md : Region.Mode) (ops : Array Oper) (Q : Exit → Act → World → Prop) (S : World → Prop) (l : Nat) : Nat → Array Bool → Act → World → Prop
  | 0, listed, a, w => Region.ready md ops listed = [] ∧ Q .normal a w
  | n + 1, listed, a, w => (Region.ready md ops listed = [] → Q .normal a w) ∧ ∀ i ∈ Region.ready md ops listed, wpOp P ops Q i (fun a' w' => (i ≠ l → S w') ∧ AnyTill P md ops Q S l n (listed.setIfInBounds i true) a' w') a w
/-- Number l waits for number i. -/
def waitsFor (md : Region.Mode) (ops : Array Oper) (l i : Nat) : Bool := match ops[l]? with
  | some x => x.after.any (fun e => Region.binds md e && e.on == i)
  | none => false
section
variable {P : Program} {ops : Array Oper} {Q : Exit → Act → World → Prop} {md : Region.Mode} {S : World → Prop} {l : Nat}
theorem AnyTill.any : ∀ (n : Nat) (listed : Array Bool) (a : Act) (w : World), AnyTill P md ops Q S l n listed a w → wpAny P md ops Q n listed a w
  | 0, _, _, _, h => h
  | n + 1, _, _, _, h => ⟨h.1, fun i hi => wpOp_mono (fun a' w' k => AnyTill.any n _ a' w' k.2) (h.2 i hi)⟩
theorem AnyTill.first {i : Nat} {o : Oper} {v : Value} (hi : ops[i]? = some o) (hsel : ∀ (j : Nat) (x : Oper) cs b, ops[j]? = some x → x.op ≠ .select cs b) (hQ : ∀ c a w, Q (.panic c) (a.put o.dst v) w → Q (.panic c) a w) (hl : waitsFor md ops l i = true) (n : Nat) :
    ∀ (listed : Array Bool) (a : Act) (w : World), (∀ j x, ops[j]? = some x → j ≠ i → listed.getD j true = false → (∀ e ∈ x.after, Region.binds md e = true → e.on ≠ i) → o.apart ops x = true) →
      i ∈ Region.ready md ops listed → YieldsIf P ops S o v a → S w → AnyTill P md ops Q S l n (listed.setIfInBounds i true) (a.put o.dst v) w → AnyTill P md ops Q S l (n + 1) listed a w := by
  induction n with
  | zero =>
    intro listed a w _ hr hy hS H
    refine ⟨fun h0 => absurd (h0 ▸ hr) (by simp), fun j hj => ?_⟩
    by_cases hji : j = i
    · subst hji; exact hy.wpOp hi hS ⟨fun _ => hS, H⟩
    · exact absurd (H.1 ▸ ready_mono hj hji) (by simp)
  | succ n ih =>
    intro listed a w hfree hr hy hS H
    refine ⟨fun h0 => absurd (h0 ▸ hr) (by simp), fun j hj => ?_⟩
    by_cases hji : j = i
    · subst hji; exact hy.wpOp hi hS ⟨fun _ => hS, H⟩
    obtain ⟨hun, x, hx, hall⟩ := mem_ready.1 hj
    have hnot : ∀ e ∈ x.after, Region.binds md e = true → e.on ≠ i := fun e he hb heq => by
      have h1 := hall e he hb
      have h0 := (mem_ready.1 hr).1
      rw [heq] at h1
      rcases Nat.lt_or_ge i listed.size with q | q
      · simp [q] at h0 h1; rw [h0] at h1; cases h1
      · simp [Array.getElem?_eq_none q] at h1
    have hjl : j ≠ l := by
      rintro rfl
      unfold waitsFor at hl
      rw [hx] at hl
      simp only [Array.any_eq_true] at hl
      obtain ⟨k, hk, he⟩ := hl
      rw [Bool.and_eq_true, beq_iff_eq] at he
      exact hnot _ (Array.getElem_mem hk) he.1 he.2
    have hfree' : ∀ k y, ops[k]? = some y → k ≠ i → (listed.setIfInBounds j true).getD k true = false → (∀ e ∈ y.after, Region.binds md e = true → e.on ≠ i) → o.apart ops y = true := fun k y hk hki hu hno => by
      refine hfree k y hk hki ?_ hno
      by_cases hjk : j = k
      · subst hjk; exact hun
      · rwa [getD_set_ne true hjk] at hu
    have step := wpOp_putIf hx (hfree j x hx hji hun hnot) (fun cs b => hsel i o cs b hi) (fun cs b => hsel j x cs b hx) hQ hy (H.2 j (ready_mono hj hji))
    refine wpOp_mono (fun a' w' k => ?_) step
    obtain ⟨ky, kS, kH⟩ := k
    exact ⟨kS, ih _ a' w' hfree' (ready_mono hr (Ne.symm hji)) ky (kS hjl) (by rw [Array.setIfInBounds_comm _ _ hji]; exact kH)⟩
theorem till_take (i : Nat) {oi : Oper} {v : Value} {fuel : Nat} {listed : Array Bool} {a : Act} {w : World} (hi : ops.toList[i]? = some oi)
    (hs : Region.noSelect ops = true) (hf : Region.free md ops listed i = true) (hr : (Region.ready md ops listed).contains i = true) (hl : waitsFor md ops l i = true)
    (hQ : ∀ c a w, Q (.panic c) (a.put oi.dst v) w → Q (.panic c) a w) (hS : S w) (hy : YieldsIf P ops S oi v a)
    (h : AnyTill P md ops Q S l fuel (listed.setIfInBounds i true) (a.put oi.dst v) w) : AnyTill P md ops Q S l (fuel + 1) listed a w :=
  AnyTill.first (by rw [← hi]; simp) (Region.noSelect_spec hs) hQ hl fuel listed a w (Region.free_spec (by rw [← hi]; simp) hf) (by simpa using hr) hy hS h
theorem till_ready (i : Nat) {o : Oper} {fuel : Nat} {listed : Array Bool} {a : Act} {w : World} (hi : ops.toList[i]? = some o) (hr : Region.ready md ops listed = [i])
    (h : ∀ K' : Act → World → Prop, Shut (∀ a w, S w → (S w → AnyTill P md ops Q S l fuel (listed.setIfInBounds i true) a w) → K' a w) → if Region.wanted o (yielded ops a.tmps) = true then Oper.wp P o a w K' Q else K' (a.put o.dst undef) w) : AnyTill P md ops Q S l (fuel + 1) listed a w :=
  ⟨fun h0 => absurd (hr ▸ h0) (by simp), fun j hj => by
    obtain rfl : j = i := by rw [hr] at hj; simpa using hj
    exact wpOp_step (by rw [← hi]; simp) (fun K' hK => h K' (fun a w hS hW => hK a w ⟨fun _ => hS, hW hS⟩))⟩
theorem till_last {o : Oper} {fuel : Nat} {listed : Array Bool} {a : Act} {w : World} (hi : ops.toList[l]? = some o) (hr : Region.ready md ops listed = [l]) (hd : Region.ready md ops (listed.setIfInBounds l true) = [])
    (h : ∀ K' : Act → World → Prop, Shut (∀ a w, Q .normal a w → K' a w) → if Region.wanted o (yielded ops a.tmps) = true then Oper.wp P o a w K' Q else K' (a.put o.dst undef) w) : AnyTill P md ops Q S l (fuel + 1) listed a w :=
  ⟨fun h0 => absurd (hr ▸ h0) (by simp), fun j hj => by
    obtain rfl : j = l := by rw [hr] at hj; simpa using hj
    exact wpOp_step (by rw [← hi]; simp) (fun K' hK => h K' (fun a w hQ => hK a w ⟨fun h0 => absurd rfl h0, by
      cases fuel with
      | zero => exact ⟨hd, hQ⟩
      | succ n => exact ⟨fun _ => hQ, by rw [hd]; simp⟩⟩))⟩
theorem region_till (S : World → Prop) (l : Nat) {id : Nat} {a : Act} {w : World} (hm : P.follows .mixedOrders = true) (hS : S w.drew)
    (h : S w.drew → AnyTill P .any ops Q S l ops.size (Array.replicate ops.size false) a w.drew) : (Code.region id ops true).wp P Q a w :=
  wp_region_any hm (AnyTill.any _ _ _ _ (h hS))
end
end Go.Proofs.YtokkeadbkeehgaaGreatDoor
/-
  Two operations of a drawing region that are ready at once, each order written out.
-/
namespace Go.Proofs.YtokkeadbkeehgaaGreatDoor
open Go.RowKit Go.Lib
set_option linter.unusedVariables false

theorem till_ready2 {P : Program} {ops : Array Oper} {Q : Exit → Act → World → Prop} {md : Region.Mode} {S : World → Prop} {l : Nat} (i j : Nat) {oi oj : Oper} {fuel : Nat} {listed : Array Bool} {a : Act} {w : World} (hi : ops.toList[i]? = some oi) (hj : ops.toList[j]? = some oj) (hr : Region.ready md ops listed = [i, j])
    (h1 : ∀ K' : Act → World → Prop, Shut (∀ a w, S w → (S w → AnyTill P md ops Q S l fuel (listed.setIfInBounds i true) a w) → K' a w) → if Region.wanted oi (yielded ops a.tmps) = true then Oper.wp P oi a w K' Q else K' (a.put oi.dst undef) w)
    (h2 : ∀ K' : Act → World → Prop, Shut (∀ a w, S w → (S w → AnyTill P md ops Q S l fuel (listed.setIfInBounds j true) a w) → K' a w) → if Region.wanted oj (yielded ops a.tmps) = true then Oper.wp P oj a w K' Q else K' (a.put oj.dst undef) w) : AnyTill P md ops Q S l (fuel + 1) listed a w :=
  ⟨fun h0 => absurd (hr ▸ h0) (by simp), fun k hk => by
    rw [hr] at hk
    have hk' : k = i ∨ k = j := by simpa using hk
    rcases hk' with rfl | rfl
    · exact wpOp_step (by rw [← hi]; simp) (fun K' hK => h1 K' (fun a w hS hW => hK a w ⟨fun _ => hS, hW hS⟩))
    · exact wpOp_step (by rw [← hj]; simp) (fun K' hK => h2 K' (fun a w hS hW => hK a w ⟨fun _ => hS, hW hS⟩))⟩
end Go.Proofs.YtokkeadbkeehgaaGreatDoor
