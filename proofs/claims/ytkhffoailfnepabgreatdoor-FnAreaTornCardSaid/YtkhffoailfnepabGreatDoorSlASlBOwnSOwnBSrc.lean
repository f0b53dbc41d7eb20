/-
  Parts of one proof, laid as one text: SlA, SlB, OwnS, OwnB, Src; what each says stands at its head.
-/
import Derived.Test.YtkhffoailfnepabGreatDoorRows
import Derived.Test.YtkhffoailfnepabGreatDoorBytesDigMath
import Derived.Test.YtkhffoailfnepabGreatDoorTreeMath
import Derived.Handy
import Derived.Deep.QuietTactic
import Derived.BigQuiet
import Derived.OwnWalk
import Derived.Deep.AppendLies
import Derived.WalkSmall
import Derived.ArgAppend
import Derived.Lib.LazyBuf
import Derived.Laws.BytesArg
import Derived.Laws.OwnMore
import Derived.WalkKit
import Derived.ProofKit
import Derived.Below
import Derived.Laws.Closers25b
import Derived.Deep.Draws
/-
  Slices of texts that are only read: what areDigests, entriesRight and l03Entries answer.
  Conditions: the slice's cells hold those texts; it is at most 2^47 long.
-/
namespace Go.Proofs.YtkhffoailfnepabGreatDoor
open Go.RowKit Go.Lib
set_option linter.unusedVariables false

/-- The cells that a slice of texts leads to hold these texts (of none nothing is asked: also nil). -/
def TxtAt (w : World) (p : Option Addr) (ss : List ByteArray) : Prop :=
  ∀ i (h : i < ss.length), ∃ b off, p = some ⟨b, off, none⟩ ∧ b < w.heap.size ∧ w.cell? ⟨b, off + i, none⟩ = some (.string ss[i])
theorem TxtAt.below {w w' : World} {p : Option Addr} {ss : List ByteArray} (h : TxtAt w p ss) (hb : Below w.heap.size w w') : TxtAt w' p ss := by
  intro i hi
  obtain ⟨b, off, rfl, h1, h2⟩ := h i hi
  exact ⟨b, off, rfl, Nat.lt_of_lt_of_le h1 hb.size, (hb.cell (p := ⟨b, off + i, none⟩) h1).trans h2⟩
theorem TxtAt.nil (w : World) (p : Option Addr) : TxtAt w p [] := fun i h => by simp at h
theorem TxtAt.take {w : World} {p : Option Addr} {ss : List ByteArray} (h : TxtAt w p ss) (k : Nat) : TxtAt w p (ss.take k) := by
  intro i hi
  obtain ⟨b, off, h0, h1, h2⟩ := h i (by simp at hi; omega)
  exact ⟨b, off, h0, h1, by rw [h2, List.getElem_take]⟩
theorem TxtAt.drop {w : World} {b off : Nat} {ss : List ByteArray} (h : TxtAt w (some ⟨b, off, none⟩) ss) (k : Nat) : TxtAt w (some ⟨b, off + k, none⟩) (ss.drop k) := by
  intro i hi
  obtain ⟨b', off', h0, h1, h2⟩ := h (k + i) (by simp at hi; omega)
  cases h0
  exact ⟨b, off + k, rfl, h1, by rw [List.getElem_drop, ← h2, Nat.add_assoc]⟩
theorem TxtAt.at {w : World} {b off : Nat} {ss : List ByteArray} (h : TxtAt w (some ⟨b, off, none⟩) ss) (i : Nat) (hi : i < ss.length) : w.cell? ⟨b, off + i, none⟩ = some (.string ss[i]) := by
  obtain ⟨b', off', h0, h1, h2⟩ := h i hi
  cases h0; exact h2

theorem chainB {w w1 w2 : World} (b1 : Below w.heap.size w w1) (b2 : Below w1.heap.size w1 w2) : Below w.heap.size w w2 := b1.trans (b2.mono b1.size)
def wideB (ss : List ByteArray) : Bool := ss.all fun x => x.size == 32
def entB (ss : List ByteArray) : Bool := decide (ss.length ≤ 64) && ss.all fun x => decide (x.size ≤ 100)
theorem wideB_true {ss : List ByteArray} (h : ∀ j (h : j < ss.length), ss[j].size = 32) : wideB ss = true := by
  unfold wideB; rw [List.all_eq_true]; intro x hx
  obtain ⟨j, hj, rfl⟩ := List.getElem_of_mem hx
  simpa using h j hj
theorem wideB_false {ss : List ByteArray} {k : Nat} (hk : k < ss.length) (h : ss[k].size ≠ 32) : wideB ss = false := by
  unfold wideB; rw [List.all_eq_false]; exact ⟨_, List.getElem_mem hk, by simpa using h⟩
theorem wideB_all {ss : List ByteArray} (h : wideB ss = true) : ∀ x ∈ ss, x.size = 32 := by
  unfold wideB at h; rw [List.all_eq_true] at h; intro x hx; simpa using h x hx
theorem entB_true {ss : List ByteArray} (hl : ss.length ≤ 64) (h : ∀ j (h : j < ss.length), ss[j].size ≤ 100) : entB ss = true := by
  unfold entB; rw [Bool.and_eq_true, List.all_eq_true]; refine ⟨by simpa using hl, fun x hx => ?_⟩
  obtain ⟨j, hj, rfl⟩ := List.getElem_of_mem hx
  simpa using h j hj
theorem entB_false {ss : List ByteArray} {k : Nat} (hk : k < ss.length) (h : ¬ ss[k].size ≤ 100) : entB ss = false := by
  unfold entB; rw [Bool.and_eq_false_iff]; right; rw [List.all_eq_false]; exact ⟨_, List.getElem_mem hk, by simpa using h⟩
theorem entB_long {ss : List ByteArray} (h : ¬ ss.length ≤ 64) : entB ss = false := by
  unfold entB; rw [Bool.and_eq_false_iff]; left; simpa using h
theorem entB_len {ss : List ByteArray} (h : entB ss = true) : ss.length ≤ 64 := by
  unfold entB at h; rw [Bool.and_eq_true] at h; simpa using h.1
theorem entB_all {ss : List ByteArray} (h : entB ss = true) : ∀ x ∈ ss, x.size ≤ 100 := by
  unfold entB at h; rw [Bool.and_eq_true, List.all_eq_true] at h; intro x hx; simpa using h.2 x hx
theorem ret_bool {a b : Bool} (h : a = b) : Ending.returned (.bool a) = .returned (.bool b) := by rw [h]

end Go.Proofs.YtkhffoailfnepabGreatDoor
/-
  A block that holds texts (BlkS), made and written; nothing here speaks of a function of the program.
-/
namespace Go.Proofs.YtkhffoailfnepabGreatDoor
open Go.RowKit Go.Lib
set_option linter.unusedVariables false

def strRow (l : List ByteArray) : List Value := l.map Value.string
/-- A block that holds these texts and no more; nothing of it is frozen. -/
def BlkS (w : World) (g : Nat) (l : List ByteArray) : Prop := w.heap[g]? = some (.cells (strRow l).toArray 9 (0, 0))
theorem BlkS.lt {w : World} {g : Nat} {l : List ByteArray} (h : BlkS w g l) : g < w.heap.size := by
  rcases Nat.lt_or_ge g w.heap.size with q | q
  · exact q
  · unfold BlkS at h; rw [Array.getElem?_eq_none q] at h; cases h
theorem BlkS.cell {w : World} {g : Nat} {l : List ByteArray} (h : BlkS w g l) (i : Nat) (hi : i < l.length) : w.cell? ⟨g, i, none⟩ = some (.string l[i]) ∧ w.frozen? ⟨g, i, none⟩ = false := by
  unfold BlkS at h
  constructor
  · simp [World.cell?, h, strRow, hi]
  · simp [World.frozen?, h]
theorem BlkS.txt {w : World} {g : Nat} {l : List ByteArray} (h : BlkS w g l) : TxtAt w (some ⟨g, 0, none⟩) l := fun i hi => ⟨g, 0, rfl, h.lt, by rw [Nat.zero_add]; exact (h.cell i hi).1⟩
theorem BlkS.below {w w' : World} {g : Nat} {l : List ByteArray} (h : BlkS w g l) {B : Nat} (hb : Below B w w') (hg : g < B) : BlkS w' g l := (hb.block g hg).trans h
theorem BlkS.set {w : World} {g : Nat} {l : List ByteArray} (h : BlkS w g l) (k : Nat) (s : ByteArray) : BlkS (w.setCell ⟨g, k, none⟩ (.string s)) g (l.set k s) := by
  unfold BlkS at h ⊢
  simp [World.setCell, Array.getElem?_modify, h, strRow, List.map_set]
theorem BlkS.setOther {w : World} {g : Nat} {l : List ByteArray} (h : BlkS w g l) (g' k : Nat) (hne : g' ≠ g) (v : Value) : BlkS (w.setCell ⟨g', k, none⟩ v) g l := by
  unfold BlkS at h ⊢
  have : (w.setCell ⟨g', k, none⟩ v).heap[g]? = w.heap[g]? := by simp [World.setCell, Array.getElem?_modify, hne]
  rw [this, h]
theorem BlkS.own {w : World} {g : Nat} {l : List ByteArray} (h : BlkS w g l) (base : Nat) (hb : base ≤ g) (hm : l.length ≤ maxLen) : w.ownsRow base 9 1 (.slice (some ⟨g, 0, none⟩) l.length l.length) l.length (strRow l) :=
  ⟨by simp [strRow], .inr ⟨g, l.length, (strRow l).toArray, rfl, hb, h, Nat.le_refl _, hm, by simp [strRow], by rw [Nat.mul_one]; exact List.take_of_length_le (by simp [strRow])⟩⟩

theorem infoStr : (Tryz.prog.info? 9).map (fun i => (i.zero, i.size, i.bytes)) = some (some (.string ByteArray.empty), 1, 16) := by kernel_rfl
theorem made_str (n : Nat) : madeCells #[.string ByteArray.empty] n = (strRow (List.replicate n ByteArray.empty)).toArray := by
  unfold madeCells strRow
  apply Array.ext
  · simp
  · intro i h1 h2; simp [Nat.mod_one]
theorem run_make_str (n : Nat) (hn : n ≤ 1048576) (w : World) :
    (Instr.makeSlice 23 (.int .i64 (n : Int)) (.int .i64 (n : Int))).run Tryz.prog w = .ok (.slice (some ⟨w.heap.size, 0, none⟩) n n) (w.alloc (.cells (strRow (List.replicate n ByteArray.empty)).toArray 9)) := by
  obtain ⟨i0, hi, hz0, hz1, hz2⟩ := info_parts infoStr
  have := run_make (P := Tryz.prog) w 23 9 i0 (.string ByteArray.empty) Tryz.underlying23 hi hz0 .i64 .i64 (n : Int) (n : Int) (by omega) (by omega) (by rw [hz2]; omega) (by omega)
  rw [this, hz1]
  simp only [Int.toNat_natCast, Nat.mul_one]
  rw [← made_str]; rfl

theorem alloc_str (w : World) (l : List ByteArray) : BlkS (w.alloc (.cells (strRow l).toArray 9)) w.heap.size l := by
  exact (MapKept.heap_alloc w _).1

theorem toList_inj {x y : ByteArray} (h : x.toList = y.toList) : x = y := by rw [ByteArray.toList_eq, ByteArray.toList_eq] at h; exact ByteArray.ext (Array.toList_inj.1 h)
end Go.Proofs.YtkhffoailfnepabGreatDoor
/-
  Rows of texts that a call owns: carried over what turns nothing that was there.
-/
namespace Go.Proofs.YtkhffoailfnepabGreatDoor
open Go.RowKit Go.Lib
set_option linter.unusedVariables false

theorem ownS_below {w w' : World} {base : Nat} {e : TypeId} {s : Nat} {v : Value} {n : Nat} {xs : List Value} (h : w.ownsRow base e s v n xs) (hb : Below w.heap.size w w') : w'.ownsRow base e s v n xs := by
  refine ⟨h.1, ?_⟩
  rcases h.2 with h0 | ⟨g, cap, cur, h1, h2, h3, h4⟩
  · exact .inl h0
  · exact .inr ⟨g, cap, cur, h1, h2, (hb.block g (lt_of_block h3)).trans h3, h4⟩
theorem ownS_mono {w : World} {base base' : Nat} {e : TypeId} {s : Nat} {v : Value} {n : Nat} {xs : List Value} (h : w.ownsRow base e s v n xs) (hb : base' ≤ base) : w.ownsRow base' e s v n xs := by
  refine ⟨h.1, ?_⟩
  rcases h.2 with h0 | ⟨g, cap, cur, h1, h2, h3⟩
  · exact .inl h0
  · exact .inr ⟨g, cap, cur, h1, Nat.le_trans hb h2, h3⟩
theorem ownS_none (w : World) : (w.alloc (.cells #[] 9)).ownsRow w.heap.size 9 1 (.slice (some ⟨w.heap.size, 0, none⟩) 0 0) ([] : List ByteArray).length (strRow []) :=
  World.ownsRow_made w #[] 0 (Nat.le_refl _) (by unfold maxLen; omega) rfl
theorem alloc_own (w : World) (T : ByteArray) : (w.alloc (.cells #[.string T] 9)).ownsRow w.heap.size 9 1 (.slice (some ⟨w.heap.size, 0, none⟩) 1 1) [T].length (strRow [T]) :=
  (alloc_str w [T]).own w.heap.size (Nat.le_refl _) (by unfold maxLen; simp)
/-- What a value that owns a row of texts is, for a walk that reads it. -/
theorem ownS_form {w : World} {base : Nat} {v : Value} {l : List ByteArray} (h : w.ownsRow base 9 1 v l.length (strRow l)) : ∃ p cap, v = .slice p l.length cap ∧ l.length ≤ cap ∧ TxtAt w p l := by
  rcases h.2 with ⟨rfl, h0⟩ | ⟨g, cap, cur, rfl, h2, h3, h4, h5, h6, h7⟩
  · have hl : l = [] := List.length_eq_zero_iff.1 h0
    subst hl
    exact ⟨none, 0, rfl, Nat.le_refl _, TxtAt.nil _ _⟩
  · refine ⟨some ⟨g, 0, none⟩, cap, rfl, h4, fun i hi => ⟨g, 0, rfl, lt_of_block h3, ?_⟩⟩
    have h8 : (cur.toList.take (l.length * 1))[i]? = some (.string l[i]) := by rw [h7]; simp [strRow, hi]
    rw [List.getElem?_take_of_lt (by omega)] at h8
    rw [Nat.zero_add]
    simpa [World.cell?, h3] using h8
theorem ownS_block {w : World} {base : Nat} {e : TypeId} {s : Nat} {v : Value} {n : Nat} {xs : List Value} (h : w.ownsRow base e s v n xs) {g : Nat} (hg : v.ownBlock = some g) : g < w.heap.size := (h.lt g hg).2
end Go.Proofs.YtkhffoailfnepabGreatDoor
/-
  A row of bytes that the call made, one byte more at a time, also where the row came of a string ('[]byte(s)': the run-time's mark behind its last cell).
  Conditions: the row stays below 2^46 bytes.
-/
namespace Go.Proofs.YtkhffoailfnepabGreatDoor
open Go.RowKit Go.Lib
set_option linter.unusedVariables false

structure OwnB (w : World) (base g cap : Nat) (xs : List Int) : Prop where
  lo : base ≤ g
  hi : g < w.heap.size
  fit : xs.length ≤ cap
  max : cap ≤ maxLen
  room : ∀ j, j < cap → (w.cell? ⟨g, j, none⟩).isSome = true ∧ w.frozen? ⟨g, j, none⟩ = false
  cells : ∀ j (h : j < xs.length), w.cell? ⟨g, j, none⟩ = some (.int .u8 xs[j])

theorem OwnB.carry {w w' : World} {base g cap : Nat} {xs : List Int} (h : OwnB w base g cap xs) (hs : w.heap.size ≤ w'.heap.size) (hb : w'.heap[g]? = w.heap[g]?) : OwnB w' base g cap xs :=
  ⟨h.lo, Nat.lt_of_lt_of_le h.hi hs, h.fit, h.max, fun j hj => by
    have e1 : w'.cell? ⟨g, j, none⟩ = w.cell? ⟨g, j, none⟩ := World.cell?_of_block hb
    have e2 : w'.frozen? ⟨g, j, none⟩ = w.frozen? ⟨g, j, none⟩ := World.frozen?_of_block hb
    rw [e1, e2]; exact h.room j hj, fun j hj => by
    have e1 : w'.cell? ⟨g, j, none⟩ = w.cell? ⟨g, j, none⟩ := World.cell?_of_block hb
    rw [e1]; exact h.cells j hj⟩
theorem OwnB.drew {w : World} {base g cap : Nat} {xs : List Int} (h : OwnB w base g cap xs) : OwnB w.drew base g cap xs := h.carry (Nat.le_refl _) rfl
theorem OwnB.alloc {w : World} {base g cap : Nat} {xs : List Int} (h : OwnB w base g cap xs) (o : Obj) : OwnB (w.alloc o) base g cap xs :=
  h.carry (by simp) (Below.heap_alloc w o g h.hi)
theorem OwnB.below {w w' : World} {base g cap : Nat} {xs : List Int} (h : OwnB w base g cap xs) (hb : Below w.heap.size w w') : OwnB w' base g cap xs :=
  h.carry hb.size (hb.block g h.hi)

theorem ownB_of_row {w : World} {base g n cap : Nat} {xs : List Int} {T : TypeId} (h : w.ownsRow base T 1 (.slice (some ⟨g, 0, none⟩) n cap) n (xs.map (Value.int .u8))) (hx : xs.length = n) : OwnB w base g cap xs := by
  have hlt := h.lt g rfl
  rcases h.2 with ⟨h0, _⟩ | ⟨g2, cap2, cur, hv, hb, hg, hn, hc, hs, ht⟩
  · cases h0
  · cases hv
    refine ⟨hb, hlt.2, by omega, hc, fun j hj => ?_, fun j hj => ?_⟩
    · have : j < cur.size := by omega
      simp [World.cell?, World.frozen?, hg, this]
    · rw [h.cellAt j (by omega)]
      simp [List.getElem?_eq_getElem hj]

theorem ownB_of_string (w : World) (s : ByteArray) (T : TypeId) (hs : s.size ≤ maxLen) :
    OwnB (w.drew.alloc (.cells (bytesRow s (grownCap w s.size 0 T)) T ((bytesRow s (grownCap w s.size 0 T)).size, (bytesRow s (grownCap w s.size 0 T)).size + 1))) w.heap.size w.heap.size (grownCap w s.size 0 T) (bytesN s) := by
  have hge := grownCap_ge w s.size 0 T
  have hle := grownCap_le_maxLen w s.size 0 T hs
  generalize grownCap w s.size 0 T = C at *
  have hsz : (bytesRow s C).size = C := by
    have : s.data.size = s.size := rfl
    simp [bytesRow, this]; omega
  have hat : (w.drew.alloc (.cells (bytesRow s C) T ((bytesRow s C).size, (bytesRow s C).size + 1))).heap[w.heap.size]? = some (.cells (bytesRow s C) T ((bytesRow s C).size, (bytesRow s C).size + 1)) := heap_alloc_new w.drew _
  refine ⟨Nat.le_refl _, by simp, by rw [bytesN_len]; exact hge, hle, fun j hj => ?_, fun j hj => ?_⟩
  · rw [hsz] at hat ⊢
    refine ⟨?_, ?_⟩
    · have : j < (bytesRow s C).size := by omega
      simp only [World.cell?, hat]
      simp [this]
    · simp only [World.frozen?, hat]
      simp; omega
  · rw [bytesN_len] at hj
    have h2 : j < s.data.size := hj
    simp only [World.cell?, hat]
    simp [bytesRow, bytesN, Array.getElem?_append, hj]

theorem append_b {P : Program} (w : World) (t ty e : TypeId) (i : TypeInfo) (ht : P.underlying t = some (.slice e)) (hi : P.info? e = some i) (hz : i.zero = some (.int .u8 0)) (hz1 : i.size = 1) (hz2 : i.bytes = 1)
    (base g cap : Nat) (xs : List Int) (h : OwnB w base g cap xs) (ad : Addr) (c : Nat) (x : Int) (hx : w.cell? (ad.add 0) = some (.int .u8 x)) (hlen : xs.length < 70368744177664) (hB : base ≤ w.heap.size) :
    ∃ g' cap' w', (Builtin.append_ #[t, t] ty #[.slice (some ⟨g, 0, none⟩) xs.length cap, .slice (some ad) 1 c]).run P w = .ok (.slice (some ⟨g', 0, none⟩) (xs.length + 1) cap') w' ∧
      OwnB w' base g' cap' (xs ++ [x]) ∧ ∀ w0, Below base w0 w → Below base w0 w' := by
  have hnews : ∀ j u, [Value.int .u8 x][j]? = some u → w.cell? (ad.add j) = some u := fun j u hj => by
    match j with
    | 0 => simp at hj; rw [hx, hj]
    | j + 1 => simp at hj
  by_cases hroom : xs.length + 1 ≤ cap
  · have hr := run_append_room_cells (P := P) w t ty e i ht hi g 0 xs.length cap ad 1 c [.int .u8 x] (by rw [hz1]; rfl) hnews (by simp [Value.oneCell']) hroom
      (fun j hj => by rw [hz1]; have : j = 0 := by simpa using hj
                      subst this; simpa using (h.room xs.length (by omega)).1)
      (fun j hj => by rw [hz1]; have : j = 0 := by simpa using hj
                      subst this; simpa using (h.room xs.length (by omega)).2)
    rw [hz1, Nat.zero_add, Nat.mul_one] at hr
    have e0 : (w.setCells g xs.length [.int .u8 x]) = w.setCell ⟨g, xs.length, none⟩ (.int .u8 x) := rfl
    rw [e0] at hr
    have hcs : (w.cell? ⟨g, xs.length, none⟩).isSome = true := (h.room xs.length (by omega)).1
    have hin := World.cell?_setCells_in g [.int .u8 x] xs.length w (fun j hj => by have : j = 0 := by simpa using hj
                                                                                   subst this; exact hcs) 0 (by simp)
    rw [e0] at hin
    have hout : ∀ j, j ≠ xs.length → (w.setCell ⟨g, xs.length, none⟩ (.int .u8 x)).cell? ⟨g, j, none⟩ = w.cell? ⟨g, j, none⟩ := fun j hj => by
      have := World.cell?_setCells_out g [.int .u8 x] xs.length w ⟨g, j, none⟩ (fun _ _ => by simp; omega)
      rwa [e0] at this
    have hfz : ∀ a, (w.setCell ⟨g, xs.length, none⟩ (.int .u8 x)).frozen? a = w.frozen? a := fun a => by
      have := World.frozen?_setCells g [.int .u8 x] xs.length w a
      rwa [e0] at this
    refine ⟨g, cap, _, hr, ⟨h.lo, by simpa using h.hi, by simpa using hroom, h.max, fun j hj => ?_, fun j hj => ?_⟩, fun w0 hb => hb.setCell h.lo _⟩
    · rw [hfz]
      refine ⟨?_, (h.room j hj).2⟩
      by_cases hjn : j = xs.length
      · subst hjn; simp at hin; simp [hin]
      · rw [hout j hjn]; exact (h.room j hj).1
    · by_cases hjn : j = xs.length
      · subst hjn; simp at hin; simp [hin]
      · have hj' : j < xs.length := by simp at hj; omega
        rw [hout j hjn, h.cells j hj', List.getElem_append_left hj']
  · obtain ⟨v', w', hr, hown, hgr⟩ := run_append_arg_grows (P := P) w t ty e i (.int .u8 0) 1 1 ht hi hz hz1 hz2 rfl (by omega) ⟨g, 0, none⟩ xs.length cap (xs.map (Value.int .u8)) (by simp)
      (fun j u hj => by
        have hjl : j < xs.length := by
          rcases Nat.lt_or_ge j xs.length with hh | hh
          · exact hh
          · rw [List.getElem?_eq_none (by simpa using hh)] at hj; cases hj
        have e : (⟨g, 0, none⟩ : Addr).add j = ⟨g, j, none⟩ := by unfold Addr.add; split <;> simp_all
        rw [e, h.cells j hjl]
        simp [List.getElem?_eq_getElem hjl] at hj
        rw [← hj]) ad 1 c [.int .u8 x] rfl hnews (by omega) (by unfold maxLen; omega) (by omega)
    obtain ⟨g', cap', rfl, hbg, hlt⟩ := hown.form (by omega)
    have ho2 := ownB_of_row (xs := xs ++ [x]) (by rw [List.map_append]; exact hown) (by simp)
    refine ⟨g', cap', w', hr, ⟨Nat.le_trans hB hbg, ho2.hi, ho2.fit, ho2.max, ho2.room, ho2.cells⟩, fun w0 hb => hb.grown hgr hB (fun k hk => by cases hk)⟩

theorem wpList_append_run {P : Program} {w : World} {ops : Array Oper} {rest : List Oper} {o : Oper} {a : Act} {Q : Exit → Act → World → Prop} (hgd : o.guard = none) (s x : Operand) (t : TypeId)
    (ho : o.op = .call { callee := .builtin .append, args := #[s, x], argTypes := #[t, t] }) (v1 v2 v' : Value) (w' : World) (hs : a.eval s = v1) (hx : a.eval x = v2)
    (hr : (Builtin.append_ #[t, t] o.type #[v1, v2]).run P w = .ok v' w') (h : wpList P ops Q rest (a.put o.dst v') w') : wpList P ops Q (o :: rest) a w :=
  wpList_plain hgd fun _ hK => by
    unfold Oper.wp execOp
    simp only [ho, resolve, invoke, builtin, Sem.run_bind, Sem.run_pure, Result.andThen_ok, List.map_toArray, List.map_cons, List.map_nil, hs, hx, hr]
    exact hK _ _ h

theorem conv_b {w : World} {base g cap : Nat} {xs : List Int} (h : OwnB w base g cap xs) (off len c : Nat) (hl : off + len ≤ xs.length) :
    (convert 22 9 (.slice (some ⟨g, off, none⟩) len c)).run Tryz.prog w = .ok (.string (strOfNums ((xs.drop off).take len))) w :=
  run_convert_bytes_arg (P := Tryz.prog) w 22 5 Tryz.underlying22 Tryz.underlying5 g off len c ((xs.drop off).take len) (by simp; omega) (fun i hi => by
    rw [h.cells (off + i) (by omega), List.getD_eq_getElem?_getD, List.getElem?_take_of_lt hi, List.getElem?_drop, List.getElem?_eq_getElem (by omega)]; rfl) 9 Tryz.underlying9
end Go.Proofs.YtkhffoailfnepabGreatDoor
/-
  What a draw's source is in memory, over any program: a block of four cells (the code's slice, a place, a number that is mixed, a size); what is written when one draws: that block alone.
-/
namespace Go.Proofs.YtkhffoailfnepabGreatDoor
open Go.RowKit
set_option linter.unusedVariables false

theorem cell_set (w : World) (b o : Nat) (v : Value) : (w.setCell ⟨b, o, none⟩ v).cell? ⟨b, o, none⟩ = (w.cell? ⟨b, o, none⟩).map (fun _ => v) := by
  cases h : w.cell? ⟨b, o, none⟩ with
  | some u => rw [World.cell?_setCell_same _ _ _ h]; rfl
  | none =>
    simp only [Option.map_none]
    cases hb : w.heap[b]? with
    | none => simp [World.cell?, World.setCell, Array.getElem?_modify, hb]
    | some ob =>
      cases ob with
      | cells c t fr =>
        have hc : c[o]? = none := by simpa [World.cell?, hb] using h
        have hs : c.size ≤ o := by simpa using hc
        simp [World.cell?, World.setCell, Array.getElem?_modify, hb, hs]
      | map a b' => simp [World.cell?, World.setCell, Array.getElem?_modify, hb]
      | _ => simp [World.cell?, World.setCell, Array.getElem?_modify, hb]

def SrcRow (T : TypeId) (p : Nat) (sl : Value) (a m z : Int) (w : World) : Prop := w.heap[p]? = some (.cells #[sl, .int .i64 a, .int .u64 m, .int .i64 z] T (0, 0))

section
variable {T : TypeId} {p : Nat} {sl : Value} {a m z : Int} {w : World}
theorem SrcRow.cell (h : SrcRow T p sl a m z w) : w.cell? ⟨p, 0, none⟩ = some sl ∧ w.cell? ⟨p, 1, none⟩ = some (.int .i64 a) ∧ w.cell? ⟨p, 2, none⟩ = some (.int .u64 m) ∧ w.cell? ⟨p, 3, none⟩ = some (.int .i64 z) := by
  unfold SrcRow at h; simp [World.cell?, h]
theorem SrcRow.free (h : SrcRow T p sl a m z w) (i : Nat) : w.frozen? ⟨p, i, none⟩ = false := by
  unfold SrcRow at h; simp [World.frozen?, h]
theorem SrcRow.lt (h : SrcRow T p sl a m z w) : p < w.heap.size := by
  unfold SrcRow at h
  rcases Nat.lt_or_ge p w.heap.size with h' | h'
  · exact h'
  · rw [Array.getElem?_eq_none h'] at h; cases h
theorem SrcRow.set1 (h : SrcRow T p sl a m z w) (a' : Int) : SrcRow T p sl a' m z (w.setCell ⟨p, 1, none⟩ (.int .i64 a')) := by
  unfold SrcRow at *; simp [World.setCell, Array.getElem?_modify, h]
theorem SrcRow.set2 (h : SrcRow T p sl a m z w) (m' : Int) : SrcRow T p sl a m' z (w.setCell ⟨p, 2, none⟩ (.int .u64 m')) := by
  unfold SrcRow at *; simp [World.setCell, Array.getElem?_modify, h]
theorem SrcRow.set3 (h : SrcRow T p sl a m z w) (z' : Int) : SrcRow T p sl a m z' (w.setCell ⟨p, 3, none⟩ (.int .i64 z')) := by
  unfold SrcRow at *; simp [World.setCell, Array.getElem?_modify, h]
theorem SrcRow.drew (h : SrcRow T p sl a m z w) : SrcRow T p sl a m z w.drew := h
theorem SrcRow.drewN (h : SrcRow T p sl a m z w) (n : Nat) : SrcRow T p sl a m z (w.drewN n) := h
end

theorem touch_set {w w' : World} {p : Nat} (h : w.grownBy w' (some p)) (i : Nat) (v : Value) : w.grownBy (w'.setCell ⟨p, i, none⟩ v) (some p) :=
  ⟨h.os, h.tape, h.output, by simpa [World.setCell] using h.size, fun k hk hne => by
    rw [Below.heap_setCell _ _ _ _ (fun e => hne (by rw [e]))]; exact h.block k hk hne⟩
theorem touch_drew {w w' : World} {p : Nat} (h : w.grownBy w' (some p)) : w.grownBy w'.drew (some p) := ⟨h.os, h.tape, h.output, h.size, h.block⟩
theorem touch_drewN {w w' : World} {p n : Nat} (h : w.grownBy w' (some p)) : w.grownBy (w'.drewN n) (some p) := ⟨h.os, h.tape, h.output, h.size, h.block⟩
theorem touch_trans {w w1 w2 : World} {p : Nat} (h : w.grownBy w1 (some p)) (k : w1.grownBy w2 (some p)) : w.grownBy w2 (some p) :=
  ⟨k.os.trans h.os, k.tape.trans h.tape, k.output.trans h.output, Nat.le_trans h.size k.size, fun i hi hne => (k.block i (Nat.lt_of_lt_of_le hi h.size) hne).trans (h.block i hi hne)⟩
theorem touch_below {w w1 w2 : World} {p : Nat} (h : w.grownBy w1 (some p)) (k : Below w1.heap.size w1 w2) : w.grownBy w2 (some p) :=
  ⟨k.os.trans h.os, k.tape.trans h.tape, k.output.trans h.output, Nat.le_trans h.size k.size, fun i hi hne => (k.block i (Nat.lt_of_lt_of_le hi h.size)).trans (h.block i hi hne)⟩

/-- A source at block p (p ≥ B) over a code of 'len' bytes that lies below B. -/
def Src (T : TypeId) (B p : Nat) (a : Option Addr) (len cap : Nat) (w : World) : Prop :=
  B ≤ p ∧ len ≤ 1048576 ∧ (∃ (at0 : Nat) (mix sz : Int), at0 ≤ len ∧ 0 ≤ mix ∧ mix ≤ 18446744073709551615 ∧ (0 ≤ sz ∧ sz ≤ 12) ∧ SrcRow T p (.slice a len cap) at0 mix sz w) ∧
  (len = 0 ∨ ∃ xb xo, a = some ⟨xb, xo, none⟩ ∧ xb < B ∧ ∀ i, i < len → ∃ c : Int, 0 ≤ c ∧ c ≤ 255 ∧ w.cell? ⟨xb, xo + i, none⟩ = some (.int .u8 c))

theorem Src.lt {T : TypeId} {B p : Nat} {a : Option Addr} {len cap : Nat} {w : World} (h : Src T B p a len cap w) : p < w.heap.size := by
  obtain ⟨_, _, ⟨_, _, _, _, _, _, _, hr⟩, _⟩ := h; exact hr.lt

/-- The source behind a step that writes its block alone, its row given. -/
theorem Src.step {T : TypeId} {B p : Nat} {a : Option Addr} {len cap : Nat} {w w' : World} (h : Src T B p a len cap w) (hg : w.grownBy w' (some p))
    {at0 : Nat} {mix sz : Int} (h1 : at0 ≤ len) (h2 : 0 ≤ mix) (h3 : mix ≤ 18446744073709551615) (h4 : 0 ≤ sz ∧ sz ≤ 12) (hr : SrcRow T p (.slice a len cap) at0 mix sz w') : Src T B p a len cap w' := by
  have hlt := h.lt
  obtain ⟨hB, hl, _, hc⟩ := h
  refine ⟨hB, hl, ⟨at0, mix, sz, h1, h2, h3, h4, hr⟩, ?_⟩
  rcases hc with hc | ⟨xb, xo, ha, hx, hcell⟩
  · exact .inl hc
  · refine .inr ⟨xb, xo, ha, hx, fun i hi => ?_⟩
    obtain ⟨c, c0, c1, hci⟩ := hcell i hi
    exact ⟨c, c0, c1, hg.cell hci (by simp; omega)⟩

/-- The source behind a step that turns nothing that was there. -/
theorem Src.below {T : TypeId} {B p : Nat} {a : Option Addr} {len cap : Nat} {w w' : World} (h : Src T B p a len cap w) (hb : Below w.heap.size w w') : Src T B p a len cap w' := by
  have hlt := h.lt
  obtain ⟨hB, hl, ⟨at0, mix, sz, h1, h2, h3, h4, hr⟩, hc⟩ := h
  refine ⟨hB, hl, ⟨at0, mix, sz, h1, h2, h3, h4, by unfold SrcRow at *; rw [hb.block p hlt]; exact hr⟩, ?_⟩
  rcases hc with hc | ⟨xb, xo, ha, hx, hcell⟩
  · exact .inl hc
  · refine .inr ⟨xb, xo, ha, hx, fun i hi => ?_⟩
    obtain ⟨c, c0, c1, hci⟩ := hcell i hi
    exact ⟨c, c0, c1, by rw [hb.cell (p := ⟨xb, xo + i, none⟩) (by show xb < _; omega)]; exact hci⟩

theorem touch_own {w w1 w2 : World} {p : Nat} {row : Option Nat} (h : w.grownBy w1 (some p)) (k : w1.grownBy w2 row) (hr : ∀ j, row = some j → w.heap.size ≤ j) : w.grownBy w2 (some p) :=
  ⟨k.os.trans h.os, k.tape.trans h.tape, k.output.trans h.output, Nat.le_trans h.size k.size, fun i hi hne => (k.block i (Nat.lt_of_lt_of_le hi h.size) (fun e => by have := hr i e.symm; omega)).trans (h.block i hi hne)⟩

/-- The source behind a step that writes a block above it alone. -/
theorem Src.other {T : TypeId} {B p : Nat} {a : Option Addr} {len cap : Nat} {w w' : World} {row : Option Nat} (h : Src T B p a len cap w) (hg : w.grownBy w' row) (hr : ∀ j, row = some j → p < j) : Src T B p a len cap w' := by
  have hlt := h.lt
  obtain ⟨hB, hl, ⟨at0, mix, sz, h1, h2, h3, h4, hr1⟩, hc⟩ := h
  refine ⟨hB, hl, ⟨at0, mix, sz, h1, h2, h3, h4, by unfold SrcRow at *; rw [hg.block p hlt (fun e => by have := hr p e.symm; omega)]; exact hr1⟩, ?_⟩
  rcases hc with hc | ⟨xb, xo, ha, hx, hcell⟩
  · exact .inl hc
  · refine .inr ⟨xb, xo, ha, hx, fun i hi => ?_⟩
    obtain ⟨c, c0, c1, hci⟩ := hcell i hi
    exact ⟨c, c0, c1, hg.cell hci (fun e => by have := hr xb e.symm; omega)⟩

/-- The size that the source has. -/
theorem Src.size {T : TypeId} {B p : Nat} {a : Option Addr} {len cap : Nat} {w : World} (h : Src T B p a len cap w) : ∃ z : Int, 0 ≤ z ∧ z ≤ 12 ∧ w.cell? ⟨p, 3, none⟩ = some (.int .i64 z) := by
  obtain ⟨_, _, ⟨_, _, z, _, _, _, h4, hr⟩, _⟩ := h
  exact ⟨z, h4.1, h4.2, hr.cell.2.2.2⟩

theorem draw_bd (X most : Int) (hm : 1 < most) (hm2 : most ≤ 9223372036854775807) : 0 ≤ wrap64 ((IntKind.u64.wrap X).tmod most) ∧ wrap64 ((IntKind.u64.wrap X).tmod most) < most := by
  have h0 : 0 ≤ IntKind.u64.wrap X := by simp [IntKind.wrap, IntKind.bits, IntKind.signed]; omega
  rw [Int.tmod_eq_emod_of_nonneg h0]
  have h1 := Int.emod_nonneg (IntKind.u64.wrap X) (show most ≠ 0 by omega)
  have h2 := Int.emod_lt_of_pos (IntKind.u64.wrap X) (show 0 < most by omega)
  have h3 : wrap64 (IntKind.u64.wrap X % most) = IntKind.u64.wrap X % most := by unfold wrap64; omega
  rw [h3]; exact ⟨h1, h2⟩
end Go.Proofs.YtkhffoailfnepabGreatDoor
