/-
  Parts of one proof, laid as one text: SlA, BxK, SlB, OwnS, SgnB, OwnB, PadI; what each says stands at its head.
-/
import Derived.Test.YtnjegmffjelnpaaGreatDoorRows
import Derived.Test.YtnjegmffjelnpaaGreatDoorBytesDigMathTurnIWholeR
import Derived.Test.YtnjegmffjelnpaaGreatDoorTreeMath
import Derived.Handy
import Derived.OwnWalk
import Derived.Deep.QuietTactic
import Derived.BigQuiet
import Derived.Deep.AppendLies
import Derived.WalkSmall
import Derived.ArgAppend
import Derived.Lib.LazyBuf
import Derived.Laws.BytesArg
import Derived.Laws.OwnMore
/-
  Slices of texts that are only read: what areDigests, entriesRight and l03Entries answer.
  Conditions: the slice's cells hold those texts; it is at most 2^47 long.
-/
namespace Go.Proofs.YtnjegmffjelnpaaGreatDoor
open Go.RowKit Go.Lib
set_option linter.unusedVariables false

/-- The cells that a slice of texts leads to hold these texts (of none nothing is asked: also nil). -/
def TxtAt (w : World) (p : Option Addr) (ss : List ByteArray) : Prop :=
  ∀ i (h : i < ss.length), ∃ b off, p = some ⟨b, off, none⟩ ∧ b < w.heap.size ∧ w.cell? ⟨b, off + i, none⟩ = some (.string ss[i])
theorem TxtAt.below {w w' : World} {p : Option Addr} {ss : List ByteArray} (h : TxtAt w p ss) (hb : Below w.heap.size w w') : TxtAt w' p ss := by
  intro i hi
  obtain ⟨b, off, rfl, h1, h2⟩ := h i hi
  exact ⟨b, off, rfl, Nat.lt_of_lt_of_le h1 hb.size, (hb.cell (p := ⟨b, off + i, none⟩) h1).trans h2⟩
theorem TxtAt.nil (w : World) (p : Option Addr) : TxtAt w p [] := fun i h => by simp at h
theorem TxtAt.take {w : World} {p : Option Addr} {ss : List ByteArray} (h : TxtAt w p ss) (k : Nat) : TxtAt w p (ss.take k) := by
  intro i hi
  obtain ⟨b, off, h0, h1, h2⟩ := h i (by simp at hi; omega)
  exact ⟨b, off, h0, h1, by rw [h2, List.getElem_take]⟩
theorem TxtAt.drop {w : World} {b off : Nat} {ss : List ByteArray} (h : TxtAt w (some ⟨b, off, none⟩) ss) (k : Nat) : TxtAt w (some ⟨b, off + k, none⟩) (ss.drop k) := by
  intro i hi
  obtain ⟨b', off', h0, h1, h2⟩ := h (k + i) (by simp at hi; omega)
  cases h0
  exact ⟨b, off + k, rfl, h1, by rw [List.getElem_drop, ← h2, Nat.add_assoc]⟩
theorem TxtAt.at {w : World} {b off : Nat} {ss : List ByteArray} (h : TxtAt w (some ⟨b, off, none⟩) ss) (i : Nat) (hi : i < ss.length) : w.cell? ⟨b, off + i, none⟩ = some (.string ss[i]) := by
  obtain ⟨b', off', h0, h1, h2⟩ := h i hi
  cases h0; exact h2

theorem chainB {w w1 w2 : World} (b1 : Below w.heap.size w w1) (b2 : Below w1.heap.size w1 w2) : Below w.heap.size w w2 := b1.trans (b2.mono b1.size)
def wideB (ss : List ByteArray) : Bool := ss.all fun x => x.size == 32
def entB (ss : List ByteArray) : Bool := decide (ss.length ≤ 64) && ss.all fun x => decide (x.size ≤ 100)
theorem wideB_true {ss : List ByteArray} (h : ∀ j (h : j < ss.length), ss[j].size = 32) : wideB ss = true := by
  unfold wideB; rw [List.all_eq_true]; intro x hx
  obtain ⟨j, hj, rfl⟩ := List.getElem_of_mem hx
  simpa using h j hj
theorem wideB_false {ss : List ByteArray} {k : Nat} (hk : k < ss.length) (h : ss[k].size ≠ 32) : wideB ss = false := by
  unfold wideB; rw [List.all_eq_false]; exact ⟨_, List.getElem_mem hk, by simpa using h⟩
theorem wideB_all {ss : List ByteArray} (h : wideB ss = true) : ∀ x ∈ ss, x.size = 32 := by
  unfold wideB at h; rw [List.all_eq_true] at h; intro x hx; simpa using h x hx
theorem entB_true {ss : List ByteArray} (hl : ss.length ≤ 64) (h : ∀ j (h : j < ss.length), ss[j].size ≤ 100) : entB ss = true := by
  unfold entB; rw [Bool.and_eq_true, List.all_eq_true]; refine ⟨by simpa using hl, fun x hx => ?_⟩
  obtain ⟨j, hj, rfl⟩ := List.getElem_of_mem hx
  simpa using h j hj
theorem entB_false {ss : List ByteArray} {k : Nat} (hk : k < ss.length) (h : ¬ ss[k].size ≤ 100) : entB ss = false := by
  unfold entB; rw [Bool.and_eq_false_iff]; right; rw [List.all_eq_false]; exact ⟨_, List.getElem_mem hk, by simpa using h⟩
theorem entB_long {ss : List ByteArray} (h : ¬ ss.length ≤ 64) : entB ss = false := by
  unfold entB; rw [Bool.and_eq_false_iff]; left; simpa using h
theorem entB_len {ss : List ByteArray} (h : entB ss = true) : ss.length ≤ 64 := by
  unfold entB at h; rw [Bool.and_eq_true] at h; simpa using h.1
theorem entB_all {ss : List ByteArray} (h : entB ss = true) : ∀ x ∈ ss, x.size ≤ 100 := by
  unfold entB at h; rw [Bool.and_eq_true, List.all_eq_true] at h; intro x hx; simpa using h.2 x hx
theorem ret_bool {a b : Bool} (h : a = b) : Ending.returned (.bool a) = .returned (.bool b) := by rw [h]

set_option maxHeartbeats 400000 in
theorem areD_any (p : Option Addr) (cap : Nat) (ss : List ByteArray) (w : World) (hp : TxtAt w p ss) (hn : ss.length ≤ 140737488355328) (hcap : ss.length ≤ cap) :
    Calls Tryz.prog 23 #[.slice p ss.length cap] w fun e w' => e = .returned (.bool (wideB ss)) ∧ w' = w := by
  have HP : Hid (TxtAt w p ss) := hp
  clear hp
  go_enter Tryz.func23, Tryz.ntmps23
  go_wp2
  go_loop [7] (fun i => ∃ k : Nat, k ≤ ss.length ∧ i = .int .i64 k ∧ Hid (∀ j (h : j < ss.length), j < k → ss[j].size = 32)) (fun i => ss.length - (Go.RowKit.intOf i).toNat)
  case atStart => exact ⟨0, Nat.zero_le _, rfl, fun j h hk => by omega⟩
  case round =>
    obtain ⟨k, hk, rfl, HK⟩ := hrel
    by_cases hlt : k < ss.length
    · obtain ⟨b, off, rfl, hb, hck⟩ := HP.out k hlt
      by_cases h32 : ss[k].size = 32
      · have HK2 : Hid (∀ j (h : j < ss.length), j < k + 1 → ss[j].size = 32) := fun j h hj => if he : j = k then by subst he; exact h32 else HK.out j h (by omega)
        generalize ss[k] = q at *
        have h33 : (q.size : Int) = 32 := by omega
        go_wp2
        go_round
        case rel => exact ⟨k + 1, by omega, by go_num, HK2⟩
        case measure => simp [Go.RowKit.intOf]; omega
      · have HF : Hid (wideB ss = false) := wideB_false hlt h32
        generalize ss[k] = q at *
        have h33 : ¬ (q.size : Int) = 32 := by omega
        go_wp2
        go_ret
        exact ⟨ret_bool HF.out.symm, rfl⟩
    · have HF : Hid (wideB ss = true) := wideB_true fun j h => HK.out j h (by omega)
      go_wp2
      go_ret
      exact ⟨ret_bool HF.out.symm, rfl⟩

set_option maxHeartbeats 400000 in
theorem entR_any (p : Option Addr) (cap : Nat) (ss : List ByteArray) (w : World) (hp : TxtAt w p ss) (hn : ss.length ≤ 140737488355328) (hcap : ss.length ≤ cap) :
    Calls Tryz.prog 93 #[.slice p ss.length cap] w fun e w' => e = .returned (.bool (entB ss)) ∧ w' = w := by
  have HP : Hid (TxtAt w p ss) := hp
  clear hp
  by_cases hl : ss.length ≤ 64
  · go_enter Tryz.func93, Tryz.ntmps93
    go_wp2
    go_loop [10] (fun i => ∃ k : Nat, k ≤ ss.length ∧ i = .int .i64 k ∧ Hid (∀ j (h : j < ss.length), j < k → ss[j].size ≤ 100)) (fun i => ss.length - (Go.RowKit.intOf i).toNat)
    case atStart => exact ⟨0, Nat.zero_le _, rfl, fun j h hk => by omega⟩
    case round =>
      obtain ⟨k, hk, rfl, HK⟩ := hrel
      by_cases hlt : k < ss.length
      · obtain ⟨b, off, rfl, hb, hck⟩ := HP.out k hlt
        by_cases h32 : ss[k].size ≤ 100
        · have HK2 : Hid (∀ j (h : j < ss.length), j < k + 1 → ss[j].size ≤ 100) := fun j h hj => if he : j = k then by subst he; exact h32 else HK.out j h (by omega)
          generalize ss[k] = q at *
          have h33 : (q.size : Int) ≤ 100 := by omega
          go_wp2
          go_round
          case rel => exact ⟨k + 1, by omega, by go_num, HK2⟩
          case measure => simp [Go.RowKit.intOf]; omega
        · have HF : Hid (entB ss = false) := entB_false hlt h32
          generalize ss[k] = q at *
          have h33 : ¬ (q.size : Int) ≤ 100 := by omega
          go_wp2
          go_ret
          exact ⟨ret_bool HF.out.symm, rfl⟩
      · have HF : Hid (entB ss = true) := entB_true hl fun j h => HK.out j h (by omega)
        go_wp2
        go_ret
        exact ⟨ret_bool HF.out.symm, rfl⟩
  · have HF : Hid (entB ss = false) := entB_long hl
    go_enter Tryz.func93, Tryz.ntmps93
    go_wp2
    go_ret
    exact ⟨ret_bool HF.out.symm, rfl⟩

end Go.Proofs.YtnjegmffjelnpaaGreatDoor
/-
  Boxes: what a block of a struct's cells holds, behind stores and new memory; what stays below.
-/
namespace Go.Proofs.YtnjegmffjelnpaaGreatDoor
open Go.RowKit Go.Lib
set_option linter.unusedVariables false

theorem below_none {w w' : World} (h : w.grownBy w' none) : Below w.heap.size w w' := ⟨h.os, h.tape, h.output, h.size, fun g hg => h.block g hg (by simp)⟩
theorem szA (w : World) (o : Obj) : (w.alloc o).heap.size = w.heap.size + 1 := by simp
theorem szD (w : World) : w.drew.heap.size = w.heap.size := rfl
theorem alB {W X : World} (h : Below W.heap.size W X) (o : Obj) : Below W.heap.size W (X.alloc o) := h.alloc h.size o
/-- What a box holds. -/
def Bxs (w : World) (g : Nat) (T : TypeId) (cs : Array Value) : Prop := w.heap[g]? = some (.cells cs T (0, 0))
theorem Bxs.lt {w : World} {g : Nat} {T : TypeId} {cs : Array Value} (h : Bxs w g T cs) : g < w.heap.size := lt_of_block h
theorem Bxs.new (w : World) (T : TypeId) (cs : Array Value) : Bxs (w.alloc (.cells cs T)) w.heap.size T cs := (MapKept.heap_alloc w _).1
theorem Bxs.below {w w' : World} {g : Nat} {T : TypeId} {cs : Array Value} (h : Bxs w g T cs) (hb : Below w.heap.size w w') : Bxs w' g T cs := (hb.block g h.lt).trans h
theorem Bxs.alloc {w : World} {g : Nat} {T : TypeId} {cs : Array Value} (h : Bxs w g T cs) (o : Obj) : Bxs (w.alloc o) g T cs := h.below ((Below.refl _ _).alloc (Nat.le_refl _) o)
theorem Bxs.cell {w : World} {g : Nat} {T : TypeId} {cs : Array Value} (h : Bxs w g T cs) (i : Nat) : w.cell? ⟨g, i, none⟩ = cs[i]? := by
  unfold Bxs at h
  cases hc : cs[i]? <;> simp [World.cell?, h, hc]
theorem Bxs.fr {w : World} {g : Nat} {T : TypeId} {cs : Array Value} (h : Bxs w g T cs) (i : Nat) : w.frozen? ⟨g, i, none⟩ = false := by
  unfold Bxs at h
  simp [World.frozen?, h]
theorem Bxs.set {w : World} {g : Nat} {T : TypeId} {cs : Array Value} (h : Bxs w g T cs) (i : Nat) (v : Value) : Bxs (w.setCell ⟨g, i, none⟩ v) g T (cs.setIfInBounds i v) := by
  unfold Bxs at h ⊢
  simp [World.setCell, Array.getElem?_modify, h]
theorem Bxs.other {w : World} {g : Nat} {T : TypeId} {cs : Array Value} (h : Bxs w g T cs) (g' i : Nat) (hne : g' ≠ g) (v : Value) : Bxs (w.setCell ⟨g', i, none⟩ v) g T cs := by
  unfold Bxs at h ⊢
  rw [show (w.setCell ⟨g', i, none⟩ v).heap[g]? = w.heap[g]? by simp [World.setCell, Array.getElem?_modify, hne]]
  exact h

theorem Bxs.grown {w w' : World} {g : Nat} {T : TypeId} {cs : Array Value} (h : Bxs w g T cs) {row : Option Nat} (hg : w.grownBy w' row) (hne : some g ≠ row) : Bxs w' g T cs := (hg.block g h.lt hne).trans h
theorem Bxs.two {w : World} {g : Nat} {T : TypeId} {a b : Value} (h : Bxs w g T #[a, b]) : w.cell? ⟨g, 0, none⟩ = some a ∧ w.cell? ⟨g, 1, none⟩ = some b := ⟨h.cell 0, h.cell 1⟩
theorem Bxs.four {w : World} {g : Nat} {T : TypeId} {a b c d : Value} (h : Bxs w g T #[a, b, c, d]) : w.cell? ⟨g, 0, none⟩ = some a ∧ w.cell? ⟨g, 1, none⟩ = some b ∧ w.cell? ⟨g, 2, none⟩ = some c ∧ w.cell? ⟨g, 3, none⟩ = some d := ⟨h.cell 0, h.cell 1, h.cell 2, h.cell 3⟩
theorem Bxs.five {w : World} {g : Nat} {T : TypeId} {a b c d e : Value} (h : Bxs w g T #[a, b, c, d, e]) : w.cell? ⟨g, 0, none⟩ = some a ∧ w.cell? ⟨g, 1, none⟩ = some b ∧ w.cell? ⟨g, 2, none⟩ = some c ∧ w.cell? ⟨g, 3, none⟩ = some d ∧ w.cell? ⟨g, 4, none⟩ = some e := ⟨h.cell 0, h.cell 1, h.cell 2, h.cell 3, h.cell 4⟩
theorem below_set2 {B : Nat} {a w : World} (h : Below B a w) {g : Nat} (hg : B ≤ g) (x0 x1 : Value) : Below B a ((w.setCell ⟨g, 0, none⟩ x0).setCell ⟨g, 1, none⟩ x1) := (h.setCell hg _).setCell hg _
theorem below_set3 {B : Nat} {a w : World} (h : Below B a w) {g : Nat} (hg : B ≤ g) (x0 x1 x2 : Value) : Below B a (((w.setCell ⟨g, 0, none⟩ x0).setCell ⟨g, 1, none⟩ x1).setCell ⟨g, 2, none⟩ x2) := ((h.setCell hg _).setCell hg _).setCell hg _
theorem below_set4 {B : Nat} {a w : World} (h : Below B a w) {g : Nat} (hg : B ≤ g) (x0 x1 x2 x3 : Value) : Below B a ((((w.setCell ⟨g, 0, none⟩ x0).setCell ⟨g, 1, none⟩ x1).setCell ⟨g, 2, none⟩ x2).setCell ⟨g, 3, none⟩ x3) := (((h.setCell hg _).setCell hg _).setCell hg _).setCell hg _
theorem below_set5 {B : Nat} {a w : World} (h : Below B a w) {g : Nat} (hg : B ≤ g) (x0 x1 x2 x3 x4 : Value) : Below B a (((((w.setCell ⟨g, 0, none⟩ x0).setCell ⟨g, 1, none⟩ x1).setCell ⟨g, 2, none⟩ x2).setCell ⟨g, 3, none⟩ x3).setCell ⟨g, 4, none⟩ x4) := (below_set4 h hg x0 x1 x2 x3).setCell hg _
end Go.Proofs.YtnjegmffjelnpaaGreatDoor
/-
  A block that holds texts (BlkS), made and written; nothing here speaks of a function of the program.
-/
namespace Go.Proofs.YtnjegmffjelnpaaGreatDoor
open Go.RowKit Go.Lib
set_option linter.unusedVariables false

def strRow (l : List ByteArray) : List Value := l.map Value.string
/-- A block that holds these texts and no more; nothing of it is frozen. -/
def BlkS (w : World) (g : Nat) (l : List ByteArray) : Prop := w.heap[g]? = some (.cells (strRow l).toArray 9 (0, 0))
theorem BlkS.lt {w : World} {g : Nat} {l : List ByteArray} (h : BlkS w g l) : g < w.heap.size := by
  rcases Nat.lt_or_ge g w.heap.size with q | q
  · exact q
  · unfold BlkS at h; rw [Array.getElem?_eq_none q] at h; cases h
theorem BlkS.cell {w : World} {g : Nat} {l : List ByteArray} (h : BlkS w g l) (i : Nat) (hi : i < l.length) : w.cell? ⟨g, i, none⟩ = some (.string l[i]) ∧ w.frozen? ⟨g, i, none⟩ = false := by
  unfold BlkS at h
  constructor
  · simp [World.cell?, h, strRow, hi]
  · simp [World.frozen?, h]
theorem BlkS.txt {w : World} {g : Nat} {l : List ByteArray} (h : BlkS w g l) : TxtAt w (some ⟨g, 0, none⟩) l := fun i hi => ⟨g, 0, rfl, h.lt, by rw [Nat.zero_add]; exact (h.cell i hi).1⟩
theorem BlkS.below {w w' : World} {g : Nat} {l : List ByteArray} (h : BlkS w g l) {B : Nat} (hb : Below B w w') (hg : g < B) : BlkS w' g l := (hb.block g hg).trans h
theorem BlkS.set {w : World} {g : Nat} {l : List ByteArray} (h : BlkS w g l) (k : Nat) (s : ByteArray) : BlkS (w.setCell ⟨g, k, none⟩ (.string s)) g (l.set k s) := by
  unfold BlkS at h ⊢
  simp [World.setCell, Array.getElem?_modify, h, strRow, List.map_set]
theorem BlkS.setOther {w : World} {g : Nat} {l : List ByteArray} (h : BlkS w g l) (g' k : Nat) (hne : g' ≠ g) (v : Value) : BlkS (w.setCell ⟨g', k, none⟩ v) g l := by
  unfold BlkS at h ⊢
  have : (w.setCell ⟨g', k, none⟩ v).heap[g]? = w.heap[g]? := by simp [World.setCell, Array.getElem?_modify, hne]
  rw [this, h]
theorem BlkS.own {w : World} {g : Nat} {l : List ByteArray} (h : BlkS w g l) (base : Nat) (hb : base ≤ g) (hm : l.length ≤ maxLen) : w.ownsRow base 9 1 (.slice (some ⟨g, 0, none⟩) l.length l.length) l.length (strRow l) :=
  ⟨by simp [strRow], .inr ⟨g, l.length, (strRow l).toArray, rfl, hb, h, Nat.le_refl _, hm, by simp [strRow], by rw [Nat.mul_one]; exact List.take_of_length_le (by simp [strRow])⟩⟩

theorem infoStr : (Tryz.prog.info? 9).map (fun i => (i.zero, i.size, i.bytes)) = some (some (.string ByteArray.empty), 1, 16) := by kernel_rfl
theorem made_str (n : Nat) : madeCells #[.string ByteArray.empty] n = (strRow (List.replicate n ByteArray.empty)).toArray := by
  unfold madeCells strRow
  apply Array.ext
  · simp
  · intro i h1 h2; simp [Nat.mod_one]
theorem run_make_str (n : Nat) (hn : n ≤ 1048576) (w : World) :
    (Instr.makeSlice 24 (.int .i64 (n : Int)) (.int .i64 (n : Int))).run Tryz.prog w = .ok (.slice (some ⟨w.heap.size, 0, none⟩) n n) (w.alloc (.cells (strRow (List.replicate n ByteArray.empty)).toArray 9)) := by
  obtain ⟨i0, hi, hz0, hz1, hz2⟩ := info_parts infoStr
  have := run_make (P := Tryz.prog) w 24 9 i0 (.string ByteArray.empty) Tryz.underlying24 hi hz0 .i64 .i64 (n : Int) (n : Int) (by omega) (by omega) (by rw [hz2]; omega) (by omega)
  rw [this, hz1]
  simp only [Int.toNat_natCast, Nat.mul_one]
  rw [← made_str]; rfl

theorem alloc_str (w : World) (l : List ByteArray) : BlkS (w.alloc (.cells (strRow l).toArray 9)) w.heap.size l := by
  exact (MapKept.heap_alloc w _).1

theorem toList_inj {x y : ByteArray} (h : x.toList = y.toList) : x = y := by rw [ByteArray.toList_eq, ByteArray.toList_eq] at h; exact ByteArray.ext (Array.toList_inj.1 h)
end Go.Proofs.YtnjegmffjelnpaaGreatDoor
/-
  Rows of texts that a call owns: carried over what turns nothing that was there.
-/
namespace Go.Proofs.YtnjegmffjelnpaaGreatDoor
open Go.RowKit Go.Lib
set_option linter.unusedVariables false

theorem ownS_below {w w' : World} {base : Nat} {e : TypeId} {s : Nat} {v : Value} {n : Nat} {xs : List Value} (h : w.ownsRow base e s v n xs) (hb : Below w.heap.size w w') : w'.ownsRow base e s v n xs := by
  refine ⟨h.1, ?_⟩
  rcases h.2 with h0 | ⟨g, cap, cur, h1, h2, h3, h4⟩
  · exact .inl h0
  · exact .inr ⟨g, cap, cur, h1, h2, (hb.block g (lt_of_block h3)).trans h3, h4⟩
theorem ownS_mono {w : World} {base base' : Nat} {e : TypeId} {s : Nat} {v : Value} {n : Nat} {xs : List Value} (h : w.ownsRow base e s v n xs) (hb : base' ≤ base) : w.ownsRow base' e s v n xs := by
  refine ⟨h.1, ?_⟩
  rcases h.2 with h0 | ⟨g, cap, cur, h1, h2, h3⟩
  · exact .inl h0
  · exact .inr ⟨g, cap, cur, h1, Nat.le_trans hb h2, h3⟩
theorem ownS_none (w : World) : (w.alloc (.cells #[] 9)).ownsRow w.heap.size 9 1 (.slice (some ⟨w.heap.size, 0, none⟩) 0 0) ([] : List ByteArray).length (strRow []) :=
  World.ownsRow_made w #[] 0 (Nat.le_refl _) (by unfold maxLen; omega) rfl
theorem alloc_own (w : World) (T : ByteArray) : (w.alloc (.cells #[.string T] 9)).ownsRow w.heap.size 9 1 (.slice (some ⟨w.heap.size, 0, none⟩) 1 1) [T].length (strRow [T]) :=
  (alloc_str w [T]).own w.heap.size (Nat.le_refl _) (by unfold maxLen; simp)
/-- What a value that owns a row of texts is, for a walk that reads it. -/
theorem ownS_form {w : World} {base : Nat} {v : Value} {l : List ByteArray} (h : w.ownsRow base 9 1 v l.length (strRow l)) : ∃ p cap, v = .slice p l.length cap ∧ l.length ≤ cap ∧ TxtAt w p l := by
  rcases h.2 with ⟨rfl, h0⟩ | ⟨g, cap, cur, rfl, h2, h3, h4, h5, h6, h7⟩
  · have hl : l = [] := List.length_eq_zero_iff.1 h0
    subst hl
    exact ⟨none, 0, rfl, Nat.le_refl _, TxtAt.nil _ _⟩
  · refine ⟨some ⟨g, 0, none⟩, cap, rfl, h4, fun i hi => ⟨g, 0, rfl, lt_of_block h3, ?_⟩⟩
    have h8 : (cur.toList.take (l.length * 1))[i]? = some (.string l[i]) := by rw [h7]; simp [strRow, hi]
    rw [List.getElem?_take_of_lt (by omega)] at h8
    rw [Nat.zero_add]
    simpa [World.cell?, h3] using h8
theorem ownS_block {w : World} {base : Nat} {e : TypeId} {s : Nat} {v : Value} {n : Nat} {xs : List Value} (h : w.ownsRow base e s v n xs) {g : Nat} (hg : v.ownBlock = some g) : g < w.heap.size := (h.lt g hg).2
end Go.Proofs.YtnjegmffjelnpaaGreatDoor
/-
  When a signature is right, as a plain function.
-/
namespace Go.Proofs.YtnjegmffjelnpaaGreatDoor
open Go.RowKit Go.Lib
set_option linter.unusedVariables false

def sgnB (key : Int) (ends path : List ByteArray) : Bool := decide (0 ≤ key ∧ key ≤ 3) && (decide (ends.length = 6) && (decide (path.length = 2) && (wideB ends && wideB path)))
end Go.Proofs.YtnjegmffjelnpaaGreatDoor
/-
  A row of bytes that the call made, one byte more at a time, also where the row came of a string ('[]byte(s)': the run-time's mark behind its last cell).
  Conditions: the row stays below 2^46 bytes.
-/
namespace Go.Proofs.YtnjegmffjelnpaaGreatDoor
open Go.RowKit Go.Lib
set_option linter.unusedVariables false

structure OwnB (w : World) (base g cap : Nat) (xs : List Int) : Prop where
  lo : base ≤ g
  hi : g < w.heap.size
  fit : xs.length ≤ cap
  max : cap ≤ maxLen
  room : ∀ j, j < cap → (w.cell? ⟨g, j, none⟩).isSome = true ∧ w.frozen? ⟨g, j, none⟩ = false
  cells : ∀ j (h : j < xs.length), w.cell? ⟨g, j, none⟩ = some (.int .u8 xs[j])

theorem OwnB.carry {w w' : World} {base g cap : Nat} {xs : List Int} (h : OwnB w base g cap xs) (hs : w.heap.size ≤ w'.heap.size) (hb : w'.heap[g]? = w.heap[g]?) : OwnB w' base g cap xs :=
  ⟨h.lo, Nat.lt_of_lt_of_le h.hi hs, h.fit, h.max, fun j hj => by
    have e1 : w'.cell? ⟨g, j, none⟩ = w.cell? ⟨g, j, none⟩ := World.cell?_of_block hb
    have e2 : w'.frozen? ⟨g, j, none⟩ = w.frozen? ⟨g, j, none⟩ := World.frozen?_of_block hb
    rw [e1, e2]; exact h.room j hj, fun j hj => by
    have e1 : w'.cell? ⟨g, j, none⟩ = w.cell? ⟨g, j, none⟩ := World.cell?_of_block hb
    rw [e1]; exact h.cells j hj⟩
theorem OwnB.drew {w : World} {base g cap : Nat} {xs : List Int} (h : OwnB w base g cap xs) : OwnB w.drew base g cap xs := h.carry (Nat.le_refl _) rfl
theorem OwnB.alloc {w : World} {base g cap : Nat} {xs : List Int} (h : OwnB w base g cap xs) (o : Obj) : OwnB (w.alloc o) base g cap xs :=
  h.carry (by simp) (Below.heap_alloc w o g h.hi)
theorem OwnB.below {w w' : World} {base g cap : Nat} {xs : List Int} (h : OwnB w base g cap xs) (hb : Below w.heap.size w w') : OwnB w' base g cap xs :=
  h.carry hb.size (hb.block g h.hi)

theorem ownB_of_row {w : World} {base g n cap : Nat} {xs : List Int} {T : TypeId} (h : w.ownsRow base T 1 (.slice (some ⟨g, 0, none⟩) n cap) n (xs.map (Value.int .u8))) (hx : xs.length = n) : OwnB w base g cap xs := by
  have hlt := h.lt g rfl
  rcases h.2 with ⟨h0, _⟩ | ⟨g2, cap2, cur, hv, hb, hg, hn, hc, hs, ht⟩
  · cases h0
  · cases hv
    refine ⟨hb, hlt.2, by omega, hc, fun j hj => ?_, fun j hj => ?_⟩
    · have : j < cur.size := by omega
      simp [World.cell?, World.frozen?, hg, this]
    · rw [h.cellAt j (by omega)]
      simp [List.getElem?_eq_getElem hj]

theorem ownB_of_string (w : World) (s : ByteArray) (T : TypeId) (hs : s.size ≤ maxLen) :
    OwnB (w.drew.alloc (.cells (bytesRow s (grownCap w s.size 0 T)) T ((bytesRow s (grownCap w s.size 0 T)).size, (bytesRow s (grownCap w s.size 0 T)).size + 1))) w.heap.size w.heap.size (grownCap w s.size 0 T) (bytesN s) := by
  have hge := grownCap_ge w s.size 0 T
  have hle := grownCap_le_maxLen w s.size 0 T hs
  generalize grownCap w s.size 0 T = C at *
  have hsz : (bytesRow s C).size = C := by
    have : s.data.size = s.size := rfl
    simp [bytesRow, this]; omega
  have hat : (w.drew.alloc (.cells (bytesRow s C) T ((bytesRow s C).size, (bytesRow s C).size + 1))).heap[w.heap.size]? = some (.cells (bytesRow s C) T ((bytesRow s C).size, (bytesRow s C).size + 1)) := heap_alloc_new w.drew _
  refine ⟨Nat.le_refl _, by simp, by rw [bytesN_len]; exact hge, hle, fun j hj => ?_, fun j hj => ?_⟩
  · rw [hsz] at hat ⊢
    refine ⟨?_, ?_⟩
    · have : j < (bytesRow s C).size := by omega
      simp only [World.cell?, hat]
      simp [this]
    · simp only [World.frozen?, hat]
      simp; omega
  · rw [bytesN_len] at hj
    have h2 : j < s.data.size := hj
    simp only [World.cell?, hat]
    simp [bytesRow, bytesN, Array.getElem?_append, hj]

theorem append_b {P : Program} (w : World) (t ty e : TypeId) (i : TypeInfo) (ht : P.underlying t = some (.slice e)) (hi : P.info? e = some i) (hz : i.zero = some (.int .u8 0)) (hz1 : i.size = 1) (hz2 : i.bytes = 1)
    (base g cap : Nat) (xs : List Int) (h : OwnB w base g cap xs) (ad : Addr) (c : Nat) (x : Int) (hx : w.cell? (ad.add 0) = some (.int .u8 x)) (hlen : xs.length < 70368744177664) (hB : base ≤ w.heap.size) :
    ∃ g' cap' w', (Builtin.append_ #[t, t] ty #[.slice (some ⟨g, 0, none⟩) xs.length cap, .slice (some ad) 1 c]).run P w = .ok (.slice (some ⟨g', 0, none⟩) (xs.length + 1) cap') w' ∧
      OwnB w' base g' cap' (xs ++ [x]) ∧ ∀ w0, Below base w0 w → Below base w0 w' := by
  have hnews : ∀ j u, [Value.int .u8 x][j]? = some u → w.cell? (ad.add j) = some u := fun j u hj => by
    match j with
    | 0 => simp at hj; rw [hx, hj]
    | j + 1 => simp at hj
  by_cases hroom : xs.length + 1 ≤ cap
  · have hr := run_append_room_cells (P := P) w t ty e i ht hi g 0 xs.length cap ad 1 c [.int .u8 x] (by rw [hz1]; rfl) hnews (by simp [Value.oneCell']) hroom
      (fun j hj => by rw [hz1]; have : j = 0 := by simpa using hj
                      subst this; simpa using (h.room xs.length (by omega)).1)
      (fun j hj => by rw [hz1]; have : j = 0 := by simpa using hj
                      subst this; simpa using (h.room xs.length (by omega)).2)
    rw [hz1, Nat.zero_add, Nat.mul_one] at hr
    have e0 : (w.setCells g xs.length [.int .u8 x]) = w.setCell ⟨g, xs.length, none⟩ (.int .u8 x) := rfl
    rw [e0] at hr
    have hcs : (w.cell? ⟨g, xs.length, none⟩).isSome = true := (h.room xs.length (by omega)).1
    have hin := World.cell?_setCells_in g [.int .u8 x] xs.length w (fun j hj => by have : j = 0 := by simpa using hj
                                                                                   subst this; exact hcs) 0 (by simp)
    rw [e0] at hin
    have hout : ∀ j, j ≠ xs.length → (w.setCell ⟨g, xs.length, none⟩ (.int .u8 x)).cell? ⟨g, j, none⟩ = w.cell? ⟨g, j, none⟩ := fun j hj => by
      have := World.cell?_setCells_out g [.int .u8 x] xs.length w ⟨g, j, none⟩ (fun _ _ => by simp; omega)
      rwa [e0] at this
    have hfz : ∀ a, (w.setCell ⟨g, xs.length, none⟩ (.int .u8 x)).frozen? a = w.frozen? a := fun a => by
      have := World.frozen?_setCells g [.int .u8 x] xs.length w a
      rwa [e0] at this
    refine ⟨g, cap, _, hr, ⟨h.lo, by simpa using h.hi, by simpa using hroom, h.max, fun j hj => ?_, fun j hj => ?_⟩, fun w0 hb => hb.setCell h.lo _⟩
    · rw [hfz]
      refine ⟨?_, (h.room j hj).2⟩
      by_cases hjn : j = xs.length
      · subst hjn; simp at hin; simp [hin]
      · rw [hout j hjn]; exact (h.room j hj).1
    · by_cases hjn : j = xs.length
      · subst hjn; simp at hin; simp [hin]
      · have hj' : j < xs.length := by simp at hj; omega
        rw [hout j hjn, h.cells j hj', List.getElem_append_left hj']
  · obtain ⟨v', w', hr, hown, hgr⟩ := run_append_arg_grows (P := P) w t ty e i (.int .u8 0) 1 1 ht hi hz hz1 hz2 rfl (by omega) ⟨g, 0, none⟩ xs.length cap (xs.map (Value.int .u8)) (by simp)
      (fun j u hj => by
        have hjl : j < xs.length := by
          rcases Nat.lt_or_ge j xs.length with hh | hh
          · exact hh
          · rw [List.getElem?_eq_none (by simpa using hh)] at hj; cases hj
        have e : (⟨g, 0, none⟩ : Addr).add j = ⟨g, j, none⟩ := by unfold Addr.add; split <;> simp_all
        rw [e, h.cells j hjl]
        simp [List.getElem?_eq_getElem hjl] at hj
        rw [← hj]) ad 1 c [.int .u8 x] rfl hnews (by omega) (by unfold maxLen; omega) (by omega)
    obtain ⟨g', cap', rfl, hbg, hlt⟩ := hown.form (by omega)
    have ho2 := ownB_of_row (xs := xs ++ [x]) (by rw [List.map_append]; exact hown) (by simp)
    refine ⟨g', cap', w', hr, ⟨Nat.le_trans hB hbg, ho2.hi, ho2.fit, ho2.max, ho2.room, ho2.cells⟩, fun w0 hb => hb.grown hgr hB (fun k hk => by cases hk)⟩

theorem wpList_append_run {P : Program} {w : World} {ops : Array Oper} {rest : List Oper} {o : Oper} {a : Act} {Q : Exit → Act → World → Prop} (hgd : o.guard = none) (s x : Operand) (t : TypeId)
    (ho : o.op = .call { callee := .builtin .append, args := #[s, x], argTypes := #[t, t] }) (v1 v2 v' : Value) (w' : World) (hs : a.eval s = v1) (hx : a.eval x = v2)
    (hr : (Builtin.append_ #[t, t] o.type #[v1, v2]).run P w = .ok v' w') (h : wpList P ops Q rest (a.put o.dst v') w') : wpList P ops Q (o :: rest) a w :=
  wpList_plain hgd fun _ hK => by
    unfold Oper.wp execOp
    simp only [ho, resolve, invoke, builtin, Sem.run_bind, Sem.run_pure, Result.andThen_ok, List.map_toArray, List.map_cons, List.map_nil, hs, hx, hr]
    exact hK _ _ h

theorem conv_b {w : World} {base g cap : Nat} {xs : List Int} (h : OwnB w base g cap xs) (off len c : Nat) (hl : off + len ≤ xs.length) :
    (convert 22 9 (.slice (some ⟨g, off, none⟩) len c)).run Tryz.prog w = .ok (.string (strOfNums ((xs.drop off).take len))) w :=
  run_convert_bytes_arg (P := Tryz.prog) w 22 5 Tryz.underlying22 Tryz.underlying5 g off len c ((xs.drop off).take len) (by simp; omega) (fun i hi => by
    rw [h.cells (off + i) (by omega), List.getD_eq_getElem?_getD, List.getElem?_take_of_lt hi, List.getElem?_drop, List.getElem?_eq_getElem (by omega)]; rfl) 9 Tryz.underlying9
end Go.Proofs.YtnjegmffjelnpaaGreatDoor
/-
  The program's padded: a text filled up to whole blocks: 'padN', in new memory.
  Conditions: the text is at most 2^40 bytes long.
-/
namespace Go.Proofs.YtnjegmffjelnpaaGreatDoor
open Go.RowKit Go.Lib
set_option linter.unusedVariables false
set_option maxRecDepth 20000

theorem infoU8q : (Tryz.prog.info? 5).map (fun i => (i.zero, i.size, i.bytes)) = some (some (.int .u8 0), 1, 1) := by kernel_rfl
theorem sizeU8q : (Tryz.prog.info? 5).map (·.size) = some 1 := by kernel_rfl
theorem run_make_u8q (n : Nat) (hn : n ≤ 281474976710656) (w : World) :
    (Instr.makeSlice 22 (.int .i64 (n : Int)) (.int .i64 (n : Int))).run Tryz.prog w = .ok (.slice (some ⟨w.heap.size, 0, none⟩) n n) (w.alloc (.cells (zrow n).toArray 5)) := by
  obtain ⟨i0, hi, hz0, hz1, hz2⟩ := info_parts infoU8q
  have := run_make (P := Tryz.prog) w 22 5 i0 (.int .u8 0) Tryz.underlying22 hi hz0 .i64 .i64 (n : Int) (n : Int) (by omega) (by omega) (by rw [hz2]; omega) (by omega)
  rw [this, hz1]
  simp only [Int.toNat_natCast, Nat.mul_one]
  rw [← madeZ]; rfl

def rowN (xs : List Int) : List Value := xs.map (Value.int .u8)
theorem ownB_of_heap {w : World} {base g : Nat} {xs : List Int} {T : TypeId} (h : w.heap[g]? = some (.cells (rowN xs).toArray T (0, 0))) (hb : base ≤ g) (hl : xs.length ≤ maxLen) : OwnB w base g xs.length xs := by
  refine ⟨hb, lt_of_block h, Nat.le_refl _, hl, fun j hj => ?_, fun j hj => ?_⟩
  · simp [World.cell?, World.frozen?, h, rowN, hj]
  · simp [World.cell?, h, rowN, hj]
theorem bytesRowN (t : ByteArray) : Go.Lib.byteCells t.data.toList = rowN (bytesN t) := by simp [Go.Lib.byteCells, rowN, bytesN]
theorem pad_zero (t : ByteArray) (L : Nat) (h : t.size ≤ L) : splice (zrow L) 0 (Go.Lib.byteCells t.data.toList) = rowN (bytesN t ++ List.replicate (L - t.size) 0) := by
  have e : (Go.Lib.byteCells t.data.toList).length = t.size := by rw [Go.Lib.byteCells_length, ← size_eq]
  unfold splice
  rw [e, bytesRowN]
  simp [rowN, zrow]
theorem row_set (A B : List Int) (u v : Int) (n : Nat) (h : A.length = n) : (rowN (A ++ u :: B)).toArray.setIfInBounds n (.int .u8 v) = (rowN (A ++ v :: B)).toArray := by
  subst h
  unfold rowN
  rw [List.map_append, List.map_append, List.map_cons, List.map_cons, List.setIfInBounds_toArray, List.set_append_right _ _ (by simp)]
  simp
def padP (t : ByteArray) (i : Nat) : List Int := bytesN t ++ [128] ++ List.replicate (zN t.size + 8 - i) 0 ++ (be8To (8 * (t.size : Int)) 8).drop (8 - i)
theorem padP_eight (t : ByteArray) : padP t 8 = padN t := by simp [padP, padN]
theorem padP_start (t : ByteArray) (L : Nat) (hL : L = 64 * nB t) : (rowN (bytesN t ++ List.replicate (L - t.size) 0)).toArray.setIfInBounds t.size (.int .u8 128) = (rowN (padP t 0)).toArray := by
  have e : L - t.size = (zN t.size + 8) + 1 := by subst hL; unfold nB zN; omega
  rw [e, List.replicate_succ, row_set (bytesN t) _ 0 128 t.size (bytesN_len t)]
  congr 2
  unfold padP
  rw [List.drop_of_length_le (by rw [be8To_len]; omega)]
  simp
theorem padP_step (t : ByteArray) (L : Nat) (hL : L = 64 * nB t) (i : Nat) (hi : i < 8) (n : Nat) (hn : n + 1 + i = L) :
    (rowN (padP t i)).toArray.setIfInBounds n (.int .u8 ((t.size : Int) * 8 / 2 ^ (8 * i) % 256)) = (rowN (padP t (i + 1))).toArray := by
  have e1 : zN t.size + 8 - i = (zN t.size + 8 - (i + 1)) + 1 := by omega
  have e2 : (be8To (8 * (t.size : Int)) 8).drop (8 - (i + 1)) = ((t.size : Int) * 8 / 2 ^ (8 * i) % 256) :: (be8To (8 * (t.size : Int)) 8).drop (8 - i) := by
    rw [List.drop_eq_getElem_cons (by rw [be8To_len]; omega)]
    congr 1
    · simp only [be8To, List.getElem_map, List.getElem_range, bePart]
      rw [Int.mul_comm, show 56 - 8 * (8 - (i + 1)) = 8 * i by omega]
    · congr 1; omega
  have e3 : padP t i = (bytesN t ++ [128] ++ List.replicate (zN t.size + 8 - (i + 1)) 0) ++ 0 :: (be8To (8 * (t.size : Int)) 8).drop (8 - i) := by
    unfold padP; rw [e1, List.replicate_succ']; simp
  rw [e3, row_set _ _ 0 _ n (by
    simp only [List.length_append, bytesN_len, List.length_replicate, List.length_cons, List.length_nil]
    subst hL; unfold nB zN at hn; unfold zN; omega)]
  congr 2
  unfold padP; rw [e2]
theorem padP_len (t : ByteArray) (i : Nat) (hi : i ≤ 8) : (padP t i).length = 64 * nB t := by
  simp only [padP, List.length_append, bytesN_len, List.length_replicate, List.length_cons, List.length_nil, List.length_drop, be8To_len, nB]
  unfold zN; omega
theorem row_cellN {w : World} {g : Nat} {xs : List Int} {T : TypeId} (h : w.heap[g]? = some (.cells (rowN xs).toArray T (0, 0))) (j : Nat) (hj : j < xs.length) : (∃ v, w.cell? ⟨g, j, none⟩ = some v) ∧ w.frozen? ⟨g, j, none⟩ = false := by
  simp [World.cell?, World.frozen?, h, rowN, hj]

set_option maxHeartbeats 1000000 in
theorem padI_any (t : ByteArray) (w : World) (ht : t.size ≤ 1099511627776) :
    Calls Tryz.prog 104 #[.string t] w fun e w' => ∃ g, e = .returned (.slice (some ⟨g, 0, none⟩) (64 * nB t) (64 * nB t)) ∧ OwnB w' w.heap.size g (64 * nB t) (padN t) ∧ Below w.heap.size w w' := by
  obtain ⟨L, hL⟩ : ∃ L, L = 64 * nB t := ⟨_, rfl⟩
  have HL : Hid (L = 64 * nB t) := hL
  have hLb : L ≤ 1099511627900 := by subst hL; unfold nB zN; omega
  have hLs : t.size + 9 ≤ L := by subst hL; unfold nB zN; omega
  have HE : Hid ((t.size : Int) + 1 + 8 + -(((t.size : Int) + 1 + 8) % 64) % 64 = (L : Int)) := by show _ = _; subst hL; unfold nB zN; omega
  have hmk := run_make_u8q L (by omega)
  obtain ⟨w2, hcp, hrow2, hbel⟩ := copy_str (P := Tryz.prog) (w.alloc (.cells (zrow L).toArray 5)) 22 9 3 5 Tryz.underlying22 sizeU8q w.heap.size 0 L L t (zrow L) 5 (heap_alloc_new w _) (by omega) (by simp [zrow]; omega)
  have hb2 := hbel w.heap.size w ((Below.refl _ _).alloc (Nat.le_refl _) _) (Nat.le_refl _)
  rw [pad_zero t L (by omega)] at hrow2
  have hc2 := row_cellN hrow2 t.size (by rw [List.length_append, bytesN_len, List.length_replicate]; omega)
  have HRow : Hid ((w2.setCell ⟨w.heap.size, t.size, none⟩ (.int .u8 128)).heap[w.heap.size]? = some (.cells (rowN (padP t 0)).toArray 5 (0, 0))) := by show _ = _; rw [blk_set hrow2, padP_start t L hL]
  have HB2 : Hid (Below w.heap.size w (w2.setCell ⟨w.heap.size, t.size, none⟩ (.int .u8 128))) := hb2.setCell (Nat.le_refl _) _
  obtain ⟨⟨v0, hc2⟩, hf2⟩ := hc2
  clear hrow2 hbel hb2 hL
  rw [← HL.out]
  go_enter Tryz.func104, Tryz.ntmps104
  go_wp2
  rw [HE.out, hmk]
  simp only [Result.andThen]
  rw [Oper.upon_value]
  go_wp2
  go_loopw [28] (fun x wr => ∃ i : Nat, i ≤ 8 ∧ x = .int .i64 i ∧ Hid (wr.heap[w.heap.size]? = some (.cells (rowN (padP t i)).toArray 5 (0, 0))) ∧ Hid (Below w.heap.size w wr)) (fun x _ => 8 - (Go.RowKit.intOf x).toNat)
  case atStart => exact ⟨0, by omega, rfl, HRow, HB2⟩
  case round =>
    clear HRow HB2 hmk hcp hc2 hf2 HE
    obtain ⟨i, hi, rfl, hrow, hnx⟩ := hrel
    by_cases hlt : i < 8
    · obtain ⟨n, hn⟩ : ∃ n, n + 1 + i = L := ⟨L - 1 - i, by omega⟩
      obtain ⟨⟨v1, hc⟩, hf⟩ := row_cellN hrow.out n (by rw [padP_len t i hi, ← HL.out]; omega)
      have HR : Hid ((wr.setCell ⟨w.heap.size, n, none⟩ (.int .u8 ((t.size : Int) * 8 / 2 ^ (8 * i) % 256))).heap[w.heap.size]? = some (.cells (rowN (padP t (i + 1))).toArray 5 (0, 0))) := by show _ = _; rw [blk_set hrow.out, padP_step t L HL.out i hlt n hn]
      have HB : Hid (Below w.heap.size w (wr.setCell ⟨w.heap.size, n, none⟩ (.int .u8 ((t.size : Int) * 8 / 2 ^ (8 * i) % 256)))) := hnx.out.setCell (Nat.le_refl _) _
      have q1 : ((L : Int) - 1 - (i : Int)).toNat = n := by omega
      have q2 : (i : Int) ≤ (L : Int) - 1 := by omega
      have q3 : (L : Int) - 1 - (i : Int) < (L : Int) := by omega
      have q4 : IntKind.i64.wrap ((L : Int) - 1 - (i : Int)) = (L : Int) - 1 - (i : Int) := by rw [IntKind.wrap_i64]; omega
      have q5 : ((8 : Int) * (i : Int)).toNat = 8 * i := by omega
      have q6 : (0 : Int) ≤ (L : Int) - 1 - (i : Int) := by omega
      clear hn
      go_wp2
      go_roundw
      case rel => exact ⟨i + 1, by omega, by go_num, HR, HB⟩
      case measure => simp [Go.RowKit.intOf]; omega
    · have hi8 : i = 8 := by omega
      subst hi8
      rw [padP_eight] at hrow
      go_wp2
      go_ret
      refine ⟨w.heap.size, rfl, ?_, hnx.out⟩
      have := ownB_of_heap hrow.out (Nat.le_refl w.heap.size) (by rw [padN_len, ← HL.out]; unfold maxLen; omega)
      rw [padN_len, ← HL.out] at this
      exact this
end Go.Proofs.YtnjegmffjelnpaaGreatDoor
