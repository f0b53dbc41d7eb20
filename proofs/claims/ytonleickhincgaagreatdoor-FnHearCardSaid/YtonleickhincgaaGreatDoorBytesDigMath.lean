/-
  Parts of one proof, laid as one text: Bytes, DigMath; what each says stands at its head.
-/
import Derived.WalkKit
import Derived.ProofKit
import Derived.Below
import Derived.Laws.CopyOwn
import Derived.Laws.IdiomStrings
import Derived.Lib.BufferWrite
import Derived.Lib.Strings
import Derived.Handy
import Derived.Laws.BytesArg
/-
  Small laws of my own, over any program: a copy out of a string into a row that the call made, rows of bytes, texts put behind one another.
  Nothing of the program is named here.
-/
namespace Go.Proofs.YtonleickhincgaaGreatDoor
open Go.RowKit Go.Lib
set_option linter.unusedVariables false

theorem ret_str {a b : ByteArray} (h : a = b) : Ending.returned (.string a) = .returned (.string b) := by rw [h]

def catN (ss : List ByteArray) (k : Nat) : List UInt8 := (ss.take k).flatMap fun s => s.data.toList
def sumN (ss : List ByteArray) (k : Nat) : Nat := (catN ss k).length
def cat (ss : List ByteArray) : ByteArray := ⟨(ss.flatMap fun s => s.data.toList).toArray⟩
def zrow (n : Nat) : List Value := List.replicate n (.int .u8 0)
def rowAt (ss : List ByteArray) (k tot : Nat) : List Value := byteCells (catN ss k) ++ zrow (tot - sumN ss k)

theorem catN_succ (ss : List ByteArray) (k : Nat) (h : k < ss.length) : catN ss (k + 1) = catN ss k ++ ss[k].data.toList := by
  unfold catN; rw [List.take_succ_eq_append_getElem h, List.flatMap_append]; simp
theorem sumN_succ (ss : List ByteArray) (k : Nat) (h : k < ss.length) : sumN ss (k + 1) = sumN ss k + ss[k].size := by
  unfold sumN; rw [catN_succ ss k h, List.length_append, ← size_eq]
theorem sumN_le (ss : List ByteArray) (k : Nat) : sumN ss k ≤ sumN ss ss.length := by
  unfold sumN catN
  rw [List.take_length]
  conv => rhs; rw [← List.take_append_drop k ss, List.flatMap_append, List.length_append]
  omega
theorem catN_all (ss : List ByteArray) : (⟨(catN ss ss.length).toArray⟩ : ByteArray) = cat ss := by unfold catN cat; rw [List.take_length]
theorem cat_size (ss : List ByteArray) : (cat ss).size = sumN ss ss.length := by rw [← catN_all]; unfold sumN; simp [ByteArray.size]
theorem rowAt_zero (ss : List ByteArray) (tot : Nat) : rowAt ss 0 tot = zrow tot := by simp [rowAt, catN, sumN, byteCells]
theorem rowAt_len (ss : List ByteArray) (k tot : Nat) (h : sumN ss k ≤ tot) : (rowAt ss k tot).length = tot := by
  unfold rowAt zrow; rw [List.length_append, byteCells_length, List.length_replicate]
  show sumN ss k + _ = _; omega
theorem rowAt_succ (ss : List ByteArray) (k tot : Nat) (h : k < ss.length) (ht : sumN ss (k + 1) ≤ tot) :
    splice (rowAt ss k tot) (sumN ss k) (byteCells ss[k].data.toList) = rowAt ss (k + 1) tot := by
  have hs := sumN_succ ss k h
  unfold splice rowAt
  have e1 : (byteCells (catN ss k)).length = sumN ss k := by rw [byteCells_length]; rfl
  rw [List.take_append_of_le_length (by omega), List.take_of_length_le (by omega)]
  rw [List.drop_append, e1, List.drop_of_length_le (by omega), List.nil_append, catN_succ ss k h]
  have e2 : (byteCells ss[k].data.toList).length = ss[k].size := by rw [byteCells_length, ← size_eq]
  rw [e2]
  have e3 : byteCells (catN ss k ++ ss[k].data.toList) = byteCells (catN ss k) ++ byteCells ss[k].data.toList := by simp [byteCells]
  rw [e3, List.append_assoc]
  congr 2
  unfold zrow; rw [List.drop_replicate]; congr 1; omega
theorem rowAt_all (ss : List ByteArray) : rowAt ss ss.length (sumN ss ss.length) = byteCells (catN ss ss.length) := by
  unfold rowAt zrow; simp

theorem copy_str {P : Program} (w : World) (dT sT ty elem : TypeId) (hu : P.underlying dT = some (.slice elem)) (hsz : (P.info? elem).map (·.size) = some 1)
    (g off dLen dCap : Nat) (t : ByteArray) (cur : List Value) (ct : TypeId) (hg : w.heap[g]? = some (.cells cur.toArray ct (0, 0))) (hle : t.size ≤ dLen) (hfit : off + t.size ≤ cur.length) :
    ∃ w2, (Builtin.copy_ #[dT, sT] ty #[.slice (some ⟨g, off, none⟩) dLen dCap, .string t]).run P w = .ok (.int .i64 (t.size : Nat)) w2 ∧
      w2.heap[g]? = some (.cells (splice cur off (byteCells t.data.toList)).toArray ct (0, 0)) ∧ ∀ B w0, Below B w0 w → B ≤ g → Below B w0 w2 := by
  refine ⟨_, run_copy_row_string (P := P) w dT sT ty elem g off dLen dCap t cur.toArray ct hu hsz hg hle (by simpa using hfit), ?_, fun B w0 hb hBg => below_setRow hb hBg _⟩
  rw [setRow_heap w g cur.toArray _ ct _ hg]
  have hl : (byteCells t.data.toList).length = t.size := by rw [byteCells_length, ← size_eq]
  simp [splice, hl, List.append_assoc]

theorem splice_nil (L : List Value) (off : Nat) (t : ByteArray) (h : t.size = 0) : splice L off (byteCells t.data.toList) = L := by
  have hnil : t.data.toList = [] := List.eq_nil_of_length_eq_zero (by rw [← size_eq]; exact h)
  rw [hnil]; simp [splice, byteCells]

theorem copy_str_none {P : Program} (w : World) (dT sT ty elem : TypeId) (hu : P.underlying dT = some (.slice elem)) (hsz : (P.info? elem).map (·.size) = some 1)
    (dp : Option Addr) (dLen dCap : Nat) (t : ByteArray) (h : t.size = 0) :
    (Builtin.copy_ #[dT, sT] ty #[.slice dp dLen dCap, .string t]).run P w = .ok (.int .i64 0) w :=
  run_copy_empty_string (P := P) w dT sT ty elem dp dLen dCap t hu (by rw [hsz]; rfl) h

theorem row_cell {w : World} {g : Nat} {l : List UInt8} {ct : TypeId} (h : w.heap[g]? = some (.cells (byteCells l).toArray ct (0, 0))) (j : Nat) (hj : j < l.length) :
    w.cell? ((⟨g, 0, none⟩ : Addr).add j) = some (.int .u8 (l[j].toNat : Int)) := by
  have e : (⟨g, 0, none⟩ : Addr).add j = ⟨g, j, none⟩ := by unfold Addr.add; split <;> simp_all
  rw [e]
  simp [World.cell?, h, byteCells, List.getElem?_eq_getElem hj]

theorem bcell {B : Nat} {W w1 : World} (hb : Below B W w1) : (∀ b o, b < B → w1.cell? ⟨b, o, none⟩ = W.cell? ⟨b, o, none⟩) ∧ (∀ b o, b < B → w1.frozen? ⟨b, o, none⟩ = W.frozen? ⟨b, o, none⟩) :=
  ⟨fun b o h => hb.cell (p := ⟨b, o, none⟩) h, fun b o h => hb.frozen (p := ⟨b, o, none⟩) h⟩

/-- What a box held ahead of a call that turns nothing old it holds behind it, and behind one new block more. -/
theorem held_box {w1 w2 : World} {cs : Array Value} {T : TypeId} (hb : Below (w1.alloc (.cells cs T)).heap.size (w1.alloc (.cells cs T)) w2) (o : Obj) (i : Nat) :
    (w2.alloc o).cell? ⟨w1.heap.size, i, none⟩ = cs[i]? := by
  have h1 : (w1.alloc (.cells cs T)).heap.size ≤ w2.heap.size := hb.size
  have hlt : w1.heap.size < w2.heap.size := by simp at h1; omega
  have h2 : (w2.alloc o).cell? ⟨w1.heap.size, i, none⟩ = w2.cell? ⟨w1.heap.size, i, none⟩ :=
    ((Below.refl _ _).alloc (Nat.le_refl _) o : Below w2.heap.size w2 (w2.alloc o)).cell (p := ⟨w1.heap.size, i, none⟩) hlt
  rw [h2, hb.cell (p := ⟨w1.heap.size, i, none⟩) (by simp), World.cell?_alloc_mark]
theorem below_two {w w1 w2 w3 : World} {o1 o2 : Obj} (h1 : Below w.heap.size w w1) (h2 : Below (w1.alloc o1).heap.size (w1.alloc o1) w2) (h3 : Below (w2.alloc o2).heap.size (w2.alloc o2) w3) : Below w.heap.size w w3 := by
  have a1 := h1.size
  have a2 : w1.heap.size + 1 ≤ w2.heap.size := by have := h2.size; simp at this; omega
  have q2 : Below w.heap.size w w2 := (h1.alloc a1 o1).trans (h2.mono (by simp; omega))
  exact (q2.alloc (by omega) o2).trans (h3.mono (by simp; omega))

theorem madeZ (n : Nat) : madeCells #[.int .u8 0] n = (zrow n).toArray := by
  unfold madeCells zrow
  apply Array.ext
  · simp
  · intro i h1 h2; simp [Nat.mod_one]
end Go.Proofs.YtonleickhincgaaGreatDoor
/-
  SHA-256, as a plain function of a text: 'digB'. Its parts: numbers turned, the 64 words of a block, the 64 rounds, the blocks, the filling up, the 32 bytes.
  Nothing of the program is named here.
-/
namespace Go.Proofs.YtonleickhincgaaGreatDoor
open Go.RowKit Go.Lib
set_option linter.unusedVariables false

def turnR (x : Int) (k : Nat) : Int := bits .or .u32 (x / 2 ^ k) (x * 2 ^ (32 - k) % 4294967296)
theorem turnR_bd (x : Int) (k : Nat) : 0 ≤ turnR x k ∧ turnR x k ≤ 4294967295 := ⟨bits_lo_u32 _ _ _, bits_hi_u32 _ _ _⟩
def keysN : List Int := [
  0x428a2f98, 0x71374491, 0xb5c0fbcf, 0xe9b5dba5, 0x3956c25b, 0x59f111f1, 0x923f82a4, 0xab1c5ed5,
  0xd807aa98, 0x12835b01, 0x243185be, 0x550c7dc3, 0x72be5d74, 0x80deb1fe, 0x9bdc06a7, 0xc19bf174,
  0xe49b69c1, 0xefbe4786, 0x0fc19dc6, 0x240ca1cc, 0x2de92c6f, 0x4a7484aa, 0x5cb0a9dc, 0x76f988da,
  0x983e5152, 0xa831c66d, 0xb00327c8, 0xbf597fc7, 0xc6e00bf3, 0xd5a79147, 0x06ca6351, 0x14292967,
  0x27b70a85, 0x2e1b2138, 0x4d2c6dfc, 0x53380d13, 0x650a7354, 0x766a0abb, 0x81c2c92e, 0x92722c85,
  0xa2bfe8a1, 0xa81a664b, 0xc24b8b70, 0xc76c51a3, 0xd192e819, 0xd6990624, 0xf40e3585, 0x106aa070,
  0x19a4c116, 0x1e376c08, 0x2748774c, 0x34b0bcb5, 0x391c0cb3, 0x4ed8aa4a, 0x5b9cca4f, 0x682e6ff3,
  0x748f82ee, 0x78a5636f, 0x84c87814, 0x8cc70208, 0x90befffa, 0xa4506ceb, 0xbef9a3f7, 0xc67178f2]
def startN : List Int := [0x6a09e667, 0xbb67ae85, 0x3c6ef372, 0xa54ff53a, 0x510e527f, 0x9b05688c, 0x1f83d9ab, 0x5be0cd19]

def byteAt (b : ByteArray) (i : Nat) : Int := ((b.data.toList.getD i 0).toNat : Int)
theorem byteAt_bd (b : ByteArray) (i : Nat) : 0 ≤ byteAt b i ∧ byteAt b i ≤ 255 := by
  unfold byteAt; have := (b.data.toList.getD i 0).toNat_lt; omega
def word4 (c1 c2 c3 c4 : Int) : Int := bits .or .u32 (bits .or .u32 (bits .or .u32 (c1 * 16777216) (c2 * 65536)) (c3 * 256)) c4
def wordsTo (b : ByteArray) : Nat → List Int
  | 0 => []
  | k + 1 => wordsTo b k ++ [word4 (byteAt b (4 * k)) (byteAt b (4 * k + 1)) (byteAt b (4 * k + 2)) (byteAt b (4 * k + 3))]
theorem wordsTo_len (b : ByteArray) : ∀ k, (wordsTo b k).length = k
  | 0 => rfl
  | k + 1 => by simp [wordsTo, wordsTo_len b k]
def uRow (l : List Int) : List Value := (l ++ List.replicate (64 - l.length) 0).map (Value.int .u32)
theorem uRow_len (l : List Int) (h : l.length ≤ 64) : (uRow l).length = 64 := by simp [uRow]; omega
theorem uRow_at (l : List Int) (i : Nat) (h : i < 64) (hl : l.length ≤ 64) : (uRow l)[i]? = some (.int .u32 (l.getD i 0)) := by
  unfold uRow
  rw [List.getElem?_map]
  by_cases hi : i < l.length
  · rw [List.getElem?_append_left hi, List.getD_eq_getElem?_getD, List.getElem?_eq_getElem hi]; rfl
  · rw [List.getElem?_append_right (by omega), List.getElem?_replicate, if_pos (by omega), List.getD_eq_getElem?_getD, List.getElem?_eq_none (by omega)]; rfl
theorem uRow_cell {w : World} {g : Nat} {l : List Int} {T : TypeId} (h : w.heap[g]? = some (.cells (uRow l).toArray T (0, 0))) (hl : l.length ≤ 64) (i : Nat) (hi : i < 64) :
    w.cell? ⟨g, i, none⟩ = some (.int .u32 (l.getD i 0)) := by
  simp [World.cell?, h, uRow_at l i hi hl]
theorem uRow_free {w : World} {g : Nat} {cs : Array Value} {T : TypeId} (h : w.heap[g]? = some (.cells cs T (0, 0))) (i : Nat) : w.frozen? ⟨g, i, none⟩ = false := by
  simp [World.frozen?, h]
theorem uRow_set (l : List Int) (v : Int) (h : l.length < 64) : (uRow l).toArray.setIfInBounds l.length (.int .u32 v) = (uRow (l ++ [v])).toArray := by
  unfold uRow
  have e : 64 - l.length = (64 - (l.length + 1)) + 1 := by omega
  rw [e, List.replicate_succ]
  simp [List.set_append_right]
theorem blk_set {w : World} {g i : Nat} {cs : Array Value} {T : TypeId} (hg : w.heap[g]? = some (.cells cs T (0, 0))) (v : Value) : (w.setCell ⟨g, i, none⟩ v).heap[g]? = some (.cells (cs.setIfInBounds i v) T (0, 0)) := by
  simp [World.setCell, Array.getElem?_modify, hg]
def InU (l : List Int) : Prop := ∀ i, 0 ≤ l.getD i 0 ∧ l.getD i 0 ≤ 4294967295
theorem inU_snoc {l : List Int} {v : Int} (h : InU l) (h0 : 0 ≤ v) (h1 : v ≤ 4294967295) : InU (l ++ [v]) := by
  intro i
  have hi := h i
  rw [List.getD_eq_getElem?_getD] at hi ⊢
  by_cases a : i < l.length
  · rw [List.getElem?_append_left a]; exact hi
  · rw [List.getElem?_append_right (by omega)]
    by_cases c : i - l.length = 0
    · rw [c]; exact ⟨h0, h1⟩
    · rw [List.getElem?_eq_none (by simp; omega)]; simp
theorem wordsTo_in (b : ByteArray) : ∀ k, InU (wordsTo b k)
  | 0 => fun i => by simp [wordsTo]
  | k + 1 => inU_snoc (wordsTo_in b k) (bits_lo_u32 _ _ _) (bits_hi_u32 _ _ _)
def sigA (x : Int) : Int := bits .xor .u32 (bits .xor .u32 (turnR x 7) (turnR x 18)) (x / 8)
def sigB (x : Int) : Int := bits .xor .u32 (bits .xor .u32 (turnR x 17) (turnR x 19)) (x / 1024)
def nextW (l : List Int) (m : Nat) : Int := (l.getD (m - 16) 0 + sigA (l.getD (m - 15) 0) + l.getD (m - 7) 0 + sigB (l.getD (m - 2) 0)) % 4294967296
def schedTo (b : ByteArray) : Nat → List Int
  | 0 => wordsTo b 16
  | k + 1 => schedTo b k ++ [nextW (schedTo b k) (16 + k)]
theorem schedTo_len (b : ByteArray) : ∀ k, (schedTo b k).length = 16 + k
  | 0 => wordsTo_len b 16
  | k + 1 => by simp [schedTo, schedTo_len b k]; omega
theorem schedTo_in (b : ByteArray) : ∀ k, InU (schedTo b k)
  | 0 => wordsTo_in b 16
  | k + 1 => inU_snoc (schedTo_in b k) (by unfold nextW; omega) (by unfold nextW; omega)
structure S8 where
  (a b c d e f g h : Int)
def S8.In (s : S8) : Prop := (0 ≤ s.a ∧ s.a ≤ 4294967295) ∧ (0 ≤ s.b ∧ s.b ≤ 4294967295) ∧ (0 ≤ s.c ∧ s.c ≤ 4294967295) ∧ (0 ≤ s.d ∧ s.d ≤ 4294967295) ∧
  (0 ≤ s.e ∧ s.e ≤ 4294967295) ∧ (0 ≤ s.f ∧ s.f ≤ 4294967295) ∧ (0 ≤ s.g ∧ s.g ≤ 4294967295) ∧ (0 ≤ s.h ∧ s.h ≤ 4294967295)
def sumE (e : Int) : Int := bits .xor .u32 (bits .xor .u32 (turnR e 6) (turnR e 11)) (turnR e 25)
def sumA (a : Int) : Int := bits .xor .u32 (bits .xor .u32 (turnR a 2) (turnR a 13)) (turnR a 22)
def chE (e f g : Int) : Int := bits .xor .u32 (bits .and .u32 e f) (bits .and .u32 (bits .xor .u32 4294967295 e) g)
def majA (a b c : Int) : Int := bits .xor .u32 (bits .xor .u32 (bits .and .u32 a b) (bits .and .u32 a c)) (bits .and .u32 b c)
def tOne (key x : Int) (s : S8) : Int := ((((s.h + sumE s.e) % 4294967296 + chE s.e s.f s.g) % 4294967296 + key) % 4294967296 + x) % 4294967296
def tTwo (s : S8) : Int := (sumA s.a + majA s.a s.b s.c) % 4294967296
def rnd (key x : Int) (s : S8) : S8 := ⟨(tOne key x s + tTwo s) % 4294967296, s.a, s.b, s.c, (s.d + tOne key x s) % 4294967296, s.e, s.f, s.g⟩
theorem rnd_in {key x : Int} {s : S8} (h : s.In) : (rnd key x s).In := by
  obtain ⟨ha, hb, hc, hd, he, hf, hg, hh⟩ := h
  exact ⟨by unfold rnd; simp only []; omega, ha, hb, hc, by unfold rnd; simp only []; omega, he, hf, hg⟩
def rounds (W : List Int) (s0 : S8) : Nat → S8
  | 0 => s0
  | k + 1 => rnd (keysN.getD k 0) (W.getD k 0) (rounds W s0 k)
theorem rounds_in (W : List Int) (s0 : S8) (h : s0.In) : ∀ k, (rounds W s0 k).In
  | 0 => h
  | k + 1 => rnd_in (rounds_in W s0 h k)
def s8Of (st : List Int) : S8 := ⟨st.getD 0 0 % 4294967296, st.getD 1 0 % 4294967296, st.getD 2 0 % 4294967296, st.getD 3 0 % 4294967296,
  st.getD 4 0 % 4294967296, st.getD 5 0 % 4294967296, st.getD 6 0 % 4294967296, st.getD 7 0 % 4294967296⟩
theorem s8Of_in (st : List Int) : (s8Of st).In := by unfold s8Of S8.In; refine ⟨?_, ?_, ?_, ?_, ?_, ?_, ?_, ?_⟩ <;> (simp only []; omega)
def s8L (s : S8) : List Int := [s.a, s.b, s.c, s.d, s.e, s.f, s.g, s.h]
def blkOf (st : List Int) (s : S8) : List Int := (List.range 8).map fun i => (st.getD i 0 % 4294967296 + (s8L s).getD i 0) % 4294967296
def blockN (st : List Int) (b : ByteArray) : List Int := blkOf st (rounds (schedTo b 48) (s8Of st) 64)
theorem blkOf_len (st : List Int) (s : S8) : (blkOf st s).length = 8 := by simp [blkOf]
theorem blkOf_take (st : List Int) (s : S8) (k : Nat) (h : k < 8) : (blkOf st s).take (k + 1) = (blkOf st s).take k ++ [(st.getD k 0 % 4294967296 + (s8L s).getD k 0) % 4294967296] := by
  rw [List.take_succ_eq_append_getElem (by rw [blkOf_len]; exact h)]
  congr 2
  simp [blkOf]
theorem s8L_in {s : S8} (h : s.In) (k : Nat) (hk : k < 8) : 0 ≤ (s8L s).getD k 0 ∧ (s8L s).getD k 0 ≤ 4294967295 := by
  obtain ⟨ha, hb, hc, hd, he, hf, hg, hh⟩ := h
  match k, hk with
  | 0, _ => exact ha
  | 1, _ => exact hb
  | 2, _ => exact hc
  | 3, _ => exact hd
  | 4, _ => exact he
  | 5, _ => exact hf
  | 6, _ => exact hg
  | 7, _ => exact hh
theorem s8L_at (s : S8) (k : Nat) (hk : k < 8) : ((s8L s).map (Value.int .u32)).toArray[k]? = some (.int .u32 ((s8L s).getD k 0)) := by
  match k, hk with
  | 0, _ => rfl
  | 1, _ => rfl
  | 2, _ => rfl
  | 3, _ => rfl
  | 4, _ => rfl
  | 5, _ => rfl
  | 6, _ => rfl
  | 7, _ => rfl
theorem keysRow {w : World} {g : Nat} {T : TypeId} (h : w.heap[g]? = some (.cells (keysN.map (Value.int .u32)).toArray T (0, 0))) (i : Nat) (hi : i < 64) :
    w.cell? ⟨g, i, none⟩ = some (.int .u32 (keysN.getD i 0)) := by
  simp only [World.cell?, h, List.getElem?_toArray, List.getElem?_map, List.getD_eq_getElem?_getD]
  rw [List.getElem?_eq_getElem (show i < keysN.length from hi)]; rfl
theorem keys_in : InU keysN := by
  intro i
  by_cases h : i < 64
  · exact (by decide : ∀ i, i < 64 → (0 ≤ keysN.getD i 0 ∧ keysN.getD i 0 ≤ 4294967295)) i h
  · rw [List.getD_eq_getElem?_getD, List.getElem?_eq_none (show keysN.length ≤ i from by show 64 ≤ i; omega)]; simp


def bytesN (s : ByteArray) : List Int := s.data.toList.map fun b => (b.toNat : Int)
theorem bytesN_len (s : ByteArray) : (bytesN s).length = s.size := by unfold bytesN; rw [List.length_map, ← size_eq]
def zN (s : Nat) : Nat := (119 - s % 64) % 64
theorem zN_lt (s : Nat) : zN s < 64 := by unfold zN; omega
def bePart (n : Int) (j : Nat) : Int := n / 2 ^ (56 - 8 * j) % 256
def be8To (n : Int) (j : Nat) : List Int := (List.range j).map (bePart n)
theorem be8To_len (n : Int) (j : Nat) : (be8To n j).length = j := by simp [be8To]
theorem be8To_succ (n : Int) (j : Nat) : be8To n (j + 1) = be8To n j ++ [bePart n j] := by simp [be8To, List.range_succ]
def padN (t : ByteArray) : List Int := bytesN t ++ [128] ++ List.replicate (zN t.size) 0 ++ be8To (8 * (t.size : Int)) 8
def nB (t : ByteArray) : Nat := (t.size + 9 + zN t.size) / 64
theorem padN_len (t : ByteArray) : (padN t).length = 64 * nB t := by
  simp only [padN, List.length_append, bytesN_len, List.length_replicate, be8To_len, List.length_cons, List.length_nil, nB]
  unfold zN; omega
theorem nB_pos (t : ByteArray) : 0 < nB t := by unfold nB zN; omega
def stN (p : List Int) : Nat → List Int
  | 0 => startN
  | k + 1 => blockN (stN p k) (strOfNums ((p.drop (64 * k)).take 64))
theorem stN_len (p : List Int) : ∀ k, (stN p k).length = 8
  | 0 => rfl
  | k + 1 => blkOf_len _ _
def In32 (l : List Int) : Prop := ∀ i, i < l.length → 0 ≤ l.getD i 0 ∧ l.getD i 0 ≤ 4294967295
theorem blkOf_at (st : List Int) (s : S8) (k : Nat) (h : k < 8) : (blkOf st s).getD k 0 = (st.getD k 0 % 4294967296 + (s8L s).getD k 0) % 4294967296 := by
  simp [blkOf, List.getD_eq_getElem?_getD, h]
theorem blkOf_in (st : List Int) (s : S8) (k : Nat) (h : k < 8) : 0 ≤ (blkOf st s).getD k 0 ∧ (blkOf st s).getD k 0 ≤ 4294967295 := by
  rw [blkOf_at st s k h]; omega
theorem stN_in (p : List Int) : ∀ k i, i < 8 → 0 ≤ (stN p k).getD i 0 ∧ (stN p k).getD i 0 ≤ 4294967295
  | 0, i, h => (by decide : ∀ i, i < 8 → (0 ≤ startN.getD i 0 ∧ startN.getD i 0 ≤ 4294967295)) i h
  | k + 1, i, h => blkOf_in _ _ i h
def four4 (n : Int) : List Int := [n / 16777216 % 256, n / 65536 % 256, n / 256 % 256, n % 256]
def outN (st : List Int) : Nat → List Int
  | 0 => []
  | k + 1 => outN st k ++ four4 (st.getD k 0)
theorem outN_len (st : List Int) : ∀ k, (outN st k).length = 4 * k
  | 0 => rfl
  | k + 1 => by rw [outN, List.length_append, outN_len st k]; show _ + 4 = _; omega
def digB (t : ByteArray) : ByteArray := strOfNums (outN (stN (padN t) (nB t)) 8)
theorem digB_size (t : ByteArray) : (digB t).size = 32 := by unfold digB; rw [strOfNums_size, outN_len]
end Go.Proofs.YtonleickhincgaaGreatDoor
