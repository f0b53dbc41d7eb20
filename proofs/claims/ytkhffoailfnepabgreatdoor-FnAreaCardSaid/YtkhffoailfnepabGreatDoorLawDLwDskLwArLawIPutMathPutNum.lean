/-
  Parts of one proof, laid as one text: LawD, LwDsk, LwAr, LawI, PutMath, PutNum; what each says stands at its head.
-/
import Derived.Test.YtkhffoailfnepabGreatDoorRows
import Derived.Test.YtkhffoailfnepabGreatDoorBytesDigMath
import Derived.Test.YtkhffoailfnepabGreatDoorSlASlBOwnSOwnBSrc
import Derived.Test.YtkhffoailfnepabGreatDoorDskLawLawSLawSGLawP
import Derived.Test.YtkhffoailfnepabGreatDoorDrawsDrawKitDskMath
import Derived.Test.YtkhffoailfnepabGreatDoorDskRAppSStepAppDskA
import Derived.Handy
import Derived.WalkSpells
import Derived.OwnWalk
import Derived.Deep.QuietTactic
import Derived.BigQuiet
import Derived.Test.YtkhffoailfnepabGreatDoorDskFDskK
import Derived.WalkKit
import Derived.ProofKit
import Derived.Below
import Derived.Laws.BitsAllLaws
import Derived.Laws.BytesArg
import Derived.Lib.Strings
import Derived.Deep.AppendLies
/-
  What the laws' own helpers answer for disks: szDisk, toDisk, eqDisk, eqDiskOut (of two that are alike).
  Conditions: the slices' cells hold the texts and the pendings.
-/
namespace Go.Proofs.YtkhffoailfnepabGreatDoor
open Go.RowKit Go.Lib
set_option linter.unusedVariables false
set_option maxRecDepth 20000

/-- What a box holds. -/
def Bxs (w : World) (g : Nat) (T : TypeId) (cs : Array Value) : Prop := w.heap[g]? = some (.cells cs T (0, 0))
theorem Bxs.lt {w : World} {g : Nat} {T : TypeId} {cs : Array Value} (h : Bxs w g T cs) : g < w.heap.size := lt_of_block h
theorem Bxs.new (w : World) (T : TypeId) (cs : Array Value) : Bxs (w.alloc (.cells cs T)) w.heap.size T cs := (MapKept.heap_alloc w _).1
theorem Bxs.below {w w' : World} {g : Nat} {T : TypeId} {cs : Array Value} (h : Bxs w g T cs) (hb : Below w.heap.size w w') : Bxs w' g T cs := (hb.block g h.lt).trans h
theorem Bxs.alloc {w : World} {g : Nat} {T : TypeId} {cs : Array Value} (h : Bxs w g T cs) (o : Obj) : Bxs (w.alloc o) g T cs := h.below ((Below.refl _ _).alloc (Nat.le_refl _) o)
theorem Bxs.cell {w : World} {g : Nat} {T : TypeId} {cs : Array Value} (h : Bxs w g T cs) (i : Nat) : w.cell? ⟨g, i, none⟩ = cs[i]? := by
  unfold Bxs at h
  cases hc : cs[i]? <;> simp [World.cell?, h, hc]
theorem Bxs.fr {w : World} {g : Nat} {T : TypeId} {cs : Array Value} (h : Bxs w g T cs) (i : Nat) : w.frozen? ⟨g, i, none⟩ = false := by
  unfold Bxs at h
  simp [World.frozen?, h]
theorem Bxs.set {w : World} {g : Nat} {T : TypeId} {cs : Array Value} (h : Bxs w g T cs) (i : Nat) (v : Value) : Bxs (w.setCell ⟨g, i, none⟩ v) g T (cs.setIfInBounds i v) := by
  unfold Bxs at h ⊢
  simp [World.setCell, Array.getElem?_modify, h]
theorem Bxs.other {w : World} {g : Nat} {T : TypeId} {cs : Array Value} (h : Bxs w g T cs) (g' i : Nat) (hne : g' ≠ g) (v : Value) : Bxs (w.setCell ⟨g', i, none⟩ v) g T cs := by
  unfold Bxs at h ⊢
  rw [show (w.setCell ⟨g', i, none⟩ v).heap[g]? = w.heap[g]? by simp [World.setCell, Array.getElem?_modify, hne]]
  exact h

def SmallT (ss : List ByteArray) : Prop := ss.length ≤ 1048576 ∧ ∀ x ∈ ss, x.size ≤ 1048576
def SmallP (ps : List Pnd) : Prop := ps.length ≤ 1048576 ∧ ∀ p ∈ ps, p.2.size ≤ 1048576
end Go.Proofs.YtkhffoailfnepabGreatDoor
/-
  What lwTexts, lwDisk and lwDisks answer of two that are alike.
  Conditions: the slices' cells hold the texts and the pendings; with the code OK the disk is right.
-/
namespace Go.Proofs.YtkhffoailfnepabGreatDoor
open Go.RowKit Go.Lib
set_option linter.unusedVariables false
set_option maxRecDepth 20000

set_option maxHeartbeats 1000000 in
theorem lwT_any (p q : Option Addr) (cap cap2 : Nat) (ss : List ByteArray) (w : World) (hp : TxtAt w p ss) (hq : TxtAt w q ss) (hn : ss.length ≤ 1048576) (hcap : ss.length ≤ cap) (hcap2 : ss.length ≤ cap2) :
    Calls Tryz.prog 46 #[.slice p ss.length cap, .slice q ss.length cap2] w fun e w' => e = .returned (.bool true) ∧ Below w.heap.size w w' := by
  have HP : Hid (TxtAt w p ss) := hp
  have HQ : Hid (TxtAt w q ss) := hq
  clear hp hq
  go_enter Tryz.func46, Tryz.ntmps46
  go_wp2_with fail
  go_loopw [5] (fun i wr => ∃ k : Nat, k ≤ ss.length ∧ i = .int .i64 k ∧ Hid (Below w.heap.size w wr)) (fun i _ => ss.length - (intOf i).toNat)
  case atStart => exact ⟨0, Nat.zero_le _, rfl, Below.refl _ _⟩
  case round =>
    obtain ⟨k, hk, rfl, HB⟩ := hrel
    by_cases hlt : k < ss.length
    · obtain ⟨b, off, rfl, hb, hck⟩ := (HP.out.below HB.out) k hlt
      obtain ⟨b2, off2, rfl, hb2, hck2⟩ := (HQ.out.below HB.out) k hlt
      have j5 : (k : Int) < ss.length := by omega
      generalize ss[k] = x at *
      go_wp2_with fail
      go_quiet (fail)
      go_wp2_with fail
      go_roundw
      case rel => exact ⟨k + 1, by omega, by go_num, belowD HB.out _⟩
      case measure => simp [intOf]; omega
    · go_wp2_with fail
      go_ret
      exact ⟨rfl, HB.out⟩

set_option maxHeartbeats 2000000 in
theorem lwDisk_any (p1 p2 q1 q2 : Option Addr) (c1 c2 d1 d2 : Nat) (ss : List ByteArray) (ps : List Pnd) (w : World) (h1 : TxtAt w p1 ss) (h2 : PndAt w p2 ps) (g1 : TxtAt w q1 ss) (g2 : PndAt w q2 ps) (n1 : ss.length ≤ 1048576) (n2 : ps.length ≤ 1048576) (m1 : ss.length ≤ c1) (m2 : ps.length ≤ c2) (m3 : ss.length ≤ d1) (m4 : ps.length ≤ d2) :
    Calls Tryz.prog 18 #[.agg #[.slice p1 ss.length c1, .slice p2 ps.length c2], .agg #[.slice q1 ss.length d1, .slice q2 ps.length d2]] w fun e w' => e = .returned (.bool true) ∧ Below w.heap.size w w' := by
  obtain ⟨W0, hW0⟩ : ∃ W0, W0 = w.alloc (.cells #[.slice p1 ss.length c1, .slice p2 ps.length c2] 26) := ⟨_, rfl⟩
  have hz : W0.heap.size = w.heap.size + 1 := by rw [hW0]; simp
  obtain ⟨W1, hW1⟩ : ∃ W1, W1 = W0.alloc (.cells #[.slice q1 ss.length d1, .slice q2 ps.length d2] 26) := ⟨_, rfl⟩
  have HW1 : Hid (W1 = (w.alloc (.cells #[.slice p1 ss.length c1, .slice p2 ps.length c2] 26)).alloc (.cells #[.slice q1 ss.length d1, .slice q2 ps.length d2] 26)) := by rw [hW1, hW0]; exact rfl
  have hB0 : Below w.heap.size w W0 := by rw [hW0]; exact (Below.refl _ _).alloc (Nat.le_refl _) _
  have B1 : Hid (Below w.heap.size w W1) := by rw [hW1]; exact alB hB0 _
  have X1 : Hid (Bxs W1 w.heap.size 26 #[.slice p1 ss.length c1, .slice p2 ps.length c2]) := by rw [hW1]; refine Bxs.alloc ?_ _; rw [hW0]; exact Bxs.new _ _ _
  have X2 : Hid (Bxs W1 (w.heap.size + 1) 26 #[.slice q1 ss.length d1, .slice q2 ps.length d2]) := by rw [hW1, ← hz]; exact Bxs.new _ _ _
  have hE := lwT_any p1 q1 c1 d1 ss W1 (h1.below B1.out) (g1.below B1.out) n1 m1 m3
  have T2 : Hid (PndAt W1 p2 ps ∧ PndAt W1 q2 ps) := ⟨h2.below B1.out, g2.below B1.out⟩
  clear hW1 hW0 h1 h2 g1 g2 hB0 hz
  go_enter Tryz.func18, Tryz.ntmps18
  go_wp2_with fail
  rw [← HW1.out]
  refine hE.mono ?_
  rintro e w1 ⟨rfl, b1⟩
  have x1 : w1.cell? ⟨w.heap.size, 1, none⟩ = some (.slice p2 ps.length c2) := (X1.out.below b1).cell 1
  have x2 : w1.cell? ⟨w.heap.size + 1, 1, none⟩ = some (.slice q2 ps.length d2) := (X2.out.below b1).cell 1
  have Y1 : Hid (Bxs w1 w.heap.size 26 #[.slice p1 ss.length c1, .slice p2 ps.length c2]) := X1.out.below b1
  have Y2 : Hid (Bxs w1 (w.heap.size + 1) 26 #[.slice q1 ss.length d1, .slice q2 ps.length d2]) := X2.out.below b1
  have HP : Hid (PndAt w1 p2 ps) := T2.out.1.below b1
  have HQ : Hid (PndAt w1 q2 ps) := T2.out.2.below b1
  have BW : Hid (Below w.heap.size w w1) := chainB B1.out b1
  clear hE T2 X1 X2 b1
  go_wp2_with fail
  go_loopw [5] (fun i wr => ∃ k : Nat, k ≤ ps.length ∧ i = .int .i64 k ∧ Hid (Below w1.heap.size w1 wr)) (fun i _ => ps.length - (intOf i).toNat)
  case atStart => exact ⟨0, Nat.zero_le _, rfl, Below.refl _ _⟩
  case round =>
    clear x1 x2
    obtain ⟨k, hk, rfl, HB⟩ := hrel
    have x1 : wr.cell? ⟨w.heap.size, 1, none⟩ = some (.slice p2 ps.length c2) := (Y1.out.below HB.out).cell 1
    have x2 : wr.cell? ⟨w.heap.size + 1, 1, none⟩ = some (.slice q2 ps.length d2) := (Y2.out.below HB.out).cell 1
    by_cases hlt : k < ps.length
    · obtain ⟨b, off, rfl, hb, hc1, hc2⟩ := (HP.out.below HB.out) k hlt
      obtain ⟨b2, off2, rfl, hb2, hd1, hd2⟩ := (HQ.out.below HB.out) k hlt
      have j5 : (k : Int) < ps.length := by omega
      generalize ps[k] = P at *
      obtain ⟨a, D⟩ := P
      have hc1 : wr.cell? ⟨b, off + k * 2, none⟩ = some (.int .i64 a) := hc1
      have hc2 : wr.cell? ⟨b, off + k * 2 + 1, none⟩ = some (.string D) := hc2
      have hd1 : wr.cell? ⟨b2, off2 + k * 2, none⟩ = some (.int .i64 a) := hd1
      have hd2 : wr.cell? ⟨b2, off2 + k * 2 + 1, none⟩ = some (.string D) := hd2
      go_wp2_with fail
      go_quiet (fail)
      go_wp2_with fail
      go_roundw
      case rel => exact ⟨k + 1, by omega, by go_num, belowD HB.out _⟩
      case measure => simp [intOf]; omega
    · go_wp2_with fail
      go_ret
      exact ⟨rfl, chainB BW.out HB.out⟩

end Go.Proofs.YtkhffoailfnepabGreatDoor
/-
  What the laws' lwArea answers of two answers that are alike: true.
-/
namespace Go.Proofs.YtkhffoailfnepabGreatDoor
open Go.RowKit Go.Lib
set_option linter.unusedVariables false
set_option maxRecDepth 20000

set_option maxHeartbeats 2000000 in
theorem lwArea_any (t : ByteArray) (n c : Int) (p1 p2 q1 q2 : Option Addr) (c1 c2 d1 d2 : Nat) (ss : List ByteArray) (ps : List Pnd) (w : World) (h1 : TxtAt w p1 ss) (h2 : PndAt w p2 ps) (g1 : TxtAt w q1 ss) (g2 : PndAt w q2 ps) (n1 : ss.length ≤ 1048576) (n2 : ps.length ≤ 1048576) (m1 : ss.length ≤ c1) (m2 : ps.length ≤ c2) (m3 : ss.length ≤ d1) (m4 : ps.length ≤ d2) :
    Calls Tryz.prog 11 #[.agg #[.slice p1 ss.length c1, .slice p2 ps.length c2, .string t, .int .i64 n, .int .i64 c], .agg #[.slice q1 ss.length d1, .slice q2 ps.length d2, .string t, .int .i64 n, .int .i64 c]] w fun e w' => e = .returned (.bool true) ∧ Below w.heap.size w w' := by
  obtain ⟨W0, hW0⟩ : ∃ W0, W0 = w.alloc (.cells #[.slice p1 ss.length c1, .slice p2 ps.length c2, .string t, .int .i64 n, .int .i64 c] 31) := ⟨_, rfl⟩
  obtain ⟨W1, hW1⟩ : ∃ W1, W1 = W0.alloc (.cells #[.slice q1 ss.length d1, .slice q2 ps.length d2, .string t, .int .i64 n, .int .i64 c] 31) := ⟨_, rfl⟩
  have HW1 : Hid (W1 = (w.alloc (.cells #[.slice p1 ss.length c1, .slice p2 ps.length c2, .string t, .int .i64 n, .int .i64 c] 31)).alloc (.cells #[.slice q1 ss.length d1, .slice q2 ps.length d2, .string t, .int .i64 n, .int .i64 c] 31)) := by rw [hW1, hW0]; exact rfl
  have hB0 : Below w.heap.size w W0 := by rw [hW0]; exact (Below.refl _ _).alloc (Nat.le_refl _) _
  have B1 : Hid (Below w.heap.size w W1) := by rw [hW1]; exact alB hB0 _
  have hE := lwDisk_any p1 p2 q1 q2 c1 c2 d1 d2 ss ps W1 (h1.below B1.out) (h2.below B1.out) (g1.below B1.out) (g2.below B1.out) n1 n2 m1 m2 m3 m4
  clear hW1 hW0 h1 h2 g1 g2 hB0
  go_enter Tryz.func11, Tryz.ntmps11
  go_wp2_with fail
  rw [← HW1.out]
  refine hE.mono ?_
  rintro e w1 ⟨rfl, b1⟩
  have b1 := chainB B1.out b1
  go_wp2_with fail
  go_ret
  exact ⟨rfl, b1⟩
end Go.Proofs.YtkhffoailfnepabGreatDoor
/-
  What the laws' own helpers answer for slices of numbers: toInt64S (a copy in new memory), eqInt64S (of two that are alike), markInt64S.
  Conditions: the slices' cells hold the numbers.
-/
namespace Go.Proofs.YtkhffoailfnepabGreatDoor
open Go.RowKit Go.Lib
set_option linter.unusedVariables false
set_option maxRecDepth 20000

def intRow (ks : List Int) : List Value := ks.map (Value.int .i64)
/-- A block that holds these numbers and no more. -/
def BlkI (w : World) (g : Nat) (ks : List Int) : Prop := w.heap[g]? = some (.cells (intRow ks).toArray 2 (0, 0))
theorem BlkI.lt {w : World} {g : Nat} {ks : List Int} (h : BlkI w g ks) : g < w.heap.size := lt_of_block h
theorem BlkI.below {w w' : World} {g : Nat} {ks : List Int} (h : BlkI w g ks) {B : Nat} (hb : Below B w w') (hg : g < B) : BlkI w' g ks := (hb.block g hg).trans h
theorem BlkI.cell {w : World} {g : Nat} {ks : List Int} (h : BlkI w g ks) (i : Nat) (hi : i < ks.length) : w.cell? ⟨g, i, none⟩ = some (.int .i64 ks[i]) ∧ w.frozen? ⟨g, i, none⟩ = false := by
  unfold BlkI at h
  constructor
  · simp [World.cell?, h, intRow, hi]
  · simp [World.frozen?, h]
theorem BlkI.int {w : World} {g : Nat} {ks : List Int} (h : BlkI w g ks) : IntAt w (some ⟨g, 0, none⟩) ks := fun i hi => ⟨g, 0, rfl, h.lt, by rw [Nat.zero_add]; exact (h.cell i hi).1⟩
theorem BlkI.set {w : World} {g : Nat} {ks : List Int} (h : BlkI w g ks) (k : Nat) (s : Int) : BlkI (w.setCell ⟨g, k, none⟩ (.int .i64 s)) g (ks.set k s) := by
  unfold BlkI at h ⊢
  simp [World.setCell, Array.getElem?_modify, h, intRow, List.map_set]
def cutI (ks : List Int) (k : Nat) : List Int := ks.take k ++ List.replicate (ks.length - k) 0
theorem cutI_len (ks : List Int) (k : Nat) (h : k ≤ ks.length) : (cutI ks k).length = ks.length := by simp [cutI]; omega
theorem cutI_set (ks : List Int) (k : Nat) (h : k < ks.length) : (cutI ks k).set k ks[k] = cutI ks (k + 1) := by
  unfold cutI
  rw [show ks.length - k = (ks.length - (k + 1)) + 1 by omega, List.replicate_succ]
  have hl : (ks.take k).length = k := by simp; omega
  rw [List.set_append_right _ _ (by omega), hl, Nat.sub_self, List.set_cons_zero, List.take_succ_eq_append_getElem h, List.append_assoc]; rfl
theorem infoI64k : (Tryz.prog.info? 2).map (fun i => (i.zero, i.size, i.bytes)) = some (some (.int .i64 0), 1, 8) := by kernel_rfl
theorem made_i64 (n : Nat) : madeCells #[.int .i64 0] n = (intRow (List.replicate n 0)).toArray := by
  unfold madeCells intRow
  apply Array.ext
  · simp
  · intro i h1 h2; simp [Nat.mod_one]
theorem run_make_i64 (n : Nat) (hn : n ≤ 1048576) (w : World) :
    (Instr.makeSlice 37 (.int .i64 (n : Int)) (.int .i64 (n : Int))).run Tryz.prog w = .ok (.slice (some ⟨w.heap.size, 0, none⟩) n n) (w.alloc (.cells (intRow (List.replicate n 0)).toArray 2)) := by
  obtain ⟨i0, hi, hz0, hz1, hz2⟩ := info_parts infoI64k
  have := run_make (P := Tryz.prog) w 37 2 i0 _ Tryz.underlying37 hi hz0 .i64 .i64 (n : Int) (n : Int) (by omega) (by omega) (by rw [hz2]; omega) (by omega)
  rw [this, hz1]
  simp only [Int.toNat_natCast, Nat.mul_one]
  rw [← made_i64]; rfl

end Go.Proofs.YtkhffoailfnepabGreatDoor
/-
  The bytes of a number, in plain mathematics: 'fold' lays the sign at the foot, 'putI' cuts into groups of seven bits.
-/
namespace Go.Proofs.YtkhffoailfnepabGreatDoor
open Go.RowKit Go.Lib
set_option linter.unusedVariables false

def foldN (n : Int) : Int := if 0 ≤ n then 2 * n else -2 * n - 1
def putI : Nat → Int → List Int
  | 0, u => [u]
  | f + 1, u => if u < 128 then [u] else (u % 128 + 128) :: putI f (u / 128)
def putB (n : Int) : ByteArray := strOfNums (putI 9 (foldN n))

theorem foldN_bd {n : Int} (h0 : -9223372036854775808 ≤ n) (h1 : n ≤ 9223372036854775807) : 0 ≤ foldN n ∧ foldN n ≤ 18446744073709551615 := by
  unfold foldN; split <;> omega

/-- What a loop over the groups knows: k groups are done ('pre'), 'u' is left. -/
def PutTo (u0 : Int) (k : Nat) (pre : List Int) (u : Int) : Prop :=
  k ≤ 9 ∧ pre.length = k ∧ 0 ≤ u ∧ u * 128 ^ k < 18446744073709551616 ∧ putI 9 u0 = pre ++ putI (9 - k) u ∧ (∀ x ∈ pre, 0 ≤ x ∧ x ≤ 255) ∧ u ≤ u0

theorem putTo_start {u0 : Int} (h0 : 0 ≤ u0) (h1 : u0 ≤ 18446744073709551615) : PutTo u0 0 [] u0 :=
  ⟨by omega, rfl, h0, by simp; omega, rfl, by simp, Int.le_refl _⟩

theorem putTo_more {u0 : Int} {k : Nat} {pre : List Int} {u : Int} (h : PutTo u0 k pre u) (hu : 128 ≤ u) : k ≤ 8 := by
  obtain ⟨hk, _, _, hb, _⟩ := h
  rcases Nat.lt_or_ge 8 k with h9 | h9
  · have : k = 9 := by omega
    subst this
    have : (128 : Int) ^ 9 = 9223372036854775808 := by decide
    rw [this] at hb; omega
  · exact h9

theorem putTo_step {u0 : Int} {k : Nat} {pre : List Int} {u : Int} (h : PutTo u0 k pre u) (hu : 128 ≤ u) : PutTo u0 (k + 1) (pre ++ [u % 128 + 128]) (u / 128) := by
  have hk := putTo_more h hu
  obtain ⟨_, hl, h0, hb, hp, hx, hle⟩ := h
  refine ⟨by omega, by simp [hl], by omega, ?_, ?_, ?_, by omega⟩
  · have e : (128 : Int) ^ (k + 1) = 128 ^ k * 128 := Int.pow_succ _ _
    have hpos : (0 : Int) < 128 ^ k := Int.pow_pos (by decide)
    have hd : u / 128 * 128 ≤ u := Int.ediv_mul_le _ (by decide)
    have : u / 128 * (128 ^ k * 128) = (u / 128 * 128) * 128 ^ k := by rw [Int.mul_comm (128 ^ k) 128, ← Int.mul_assoc]
    rw [e, this]
    exact Int.lt_of_le_of_lt (Int.mul_le_mul_of_nonneg_right hd (Int.le_of_lt hpos)) hb
  · rw [hp, List.append_assoc]
    have : 9 - k = (9 - (k + 1)) + 1 := by omega
    rw [this, putI, if_neg (by omega)]; rfl
  · intro x hx'
    rcases List.mem_append.1 hx' with h | h
    · exact hx x h
    · simp at h; subst h; omega

theorem putTo_end {u0 : Int} {k : Nat} {pre : List Int} {u : Int} (h : PutTo u0 k pre u) (hu : u < 128) : putI 9 u0 = pre ++ [u] := by
  obtain ⟨hk, hl, h0, hb, hp, _⟩ := h
  rw [hp]
  congr 1
  cases e : 9 - k with
  | zero => rfl
  | succ m => rw [putI, if_pos hu]

theorem or128 (x : Int) (h0 : 0 ≤ x) : bits .or .u8 (x % 256) 128 = x % 128 + 128 := by
  have key : ∀ y : Fin 256, bits .or .u8 ((y.val : Nat) : Int) 128 = ((y.val % 128 + 128 : Nat) : Int) := by decide +kernel
  have hy : (x % 256).toNat < 256 := by omega
  have := key ⟨(x % 256).toNat, hy⟩
  simp only at this
  rw [show (((x % 256).toNat : Nat) : Int) = x % 256 by omega] at this
  rw [this]; omega

theorem u64max : IntKind.u64.max = 18446744073709551615 := by decide
theorem fold_xor (n : Int) (h0 : n < 0) (h1 : -9223372036854775808 ≤ n) :
    bits .xor .u64 IntKind.u64.max (IntKind.u64.wrap (IntKind.u64.wrap n * 2)) = foldN n := by
  have e1 : IntKind.u64.wrap (IntKind.u64.wrap n * 2) = ((2 * n + 18446744073709551616).toNat : Int) := by
    simp [IntKind.wrap, IntKind.bits, IntKind.signed]; omega
  rw [e1, u64max]
  generalize hm : (2 * n + 18446744073709551616).toNat = m
  have hm' : m < 18446744073709551616 := by omega
  have : bits .xor .u64 18446744073709551615 (m : Int) = 18446744073709551615 - (m : Int) := by
    show IntKind.u64.wrap ((BitVec.ofInt 64 18446744073709551615 ^^^ BitVec.ofInt 64 (m : Int)).toNat : Int) = _
    have h2 : BitVec.ofInt 64 18446744073709551615 = BitVec.allOnes 64 := by decide
    rw [h2, BitVec.allOnes_xor, BitVec.toNat_not, BitVec.ofInt_natCast, BitVec.toNat_ofNat, Nat.mod_eq_of_lt (by omega)]
    simp [IntKind.wrap, IntKind.bits, IntKind.signed]; omega
  rw [this]; unfold foldN; rw [if_neg (by omega)]; omega

/-- The program's array of ten bytes, the first of them laid. -/
def arr10 (pre : List Int) : List Value := pre.map (Value.int .u8) ++ List.replicate (10 - pre.length) (.int .u8 0)
theorem arr10_nil : (arr10 []).toArray = #[.int .u8 0, .int .u8 0, .int .u8 0, .int .u8 0, .int .u8 0, .int .u8 0, .int .u8 0, .int .u8 0, .int .u8 0, .int .u8 0] := rfl
theorem arr10_set (pre : List Int) (x : Int) (h : pre.length < 10) : ((arr10 pre).toArray.setIfInBounds pre.length (.int .u8 x)) = (arr10 (pre ++ [x])).toArray := by
  rw [List.setIfInBounds_toArray]
  congr 1
  unfold arr10
  rw [List.set_append_right _ _ (by simp)]
  have e : 10 - pre.length = (10 - (pre ++ [x]).length) + 1 := by simp; omega
  rw [e, List.replicate_succ]
  simp
theorem arr10_cell {w : World} {g : Nat} {T : TypeId} {pre : List Int} (h : w.heap[g]? = some (.cells (arr10 pre).toArray T (0, 0))) (hl : pre.length < 10) :
    w.cell? ⟨g, pre.length, none⟩ = some (.int .u8 0) ∧ w.frozen? ⟨g, pre.length, none⟩ = false := by
  have e : 10 - pre.length = (9 - pre.length) + 1 := by omega
  constructor
  · simp [World.cell?, h, arr10]; rw [e, List.replicate_succ]; simp
  · simp [World.frozen?, h]
theorem arr10_at {w : World} {g : Nat} {T : TypeId} {pre : List Int} (h : w.heap[g]? = some (.cells (arr10 pre).toArray T (0, 0))) (i : Nat) (hi : i < pre.length) :
    w.cell? ⟨g, 0 + i, none⟩ = some (.int .u8 (pre.getD i 0)) := by
  simp [World.cell?, h, arr10, List.getElem?_append_left, hi]
end Go.Proofs.YtkhffoailfnepabGreatDoor
/-
  What PutNum answers, in the program and in the specification: the bytes 'putB n', in new memory.
  Conditions: n is an int64.
-/
namespace Go.Proofs.YtkhffoailfnepabGreatDoor
open Go.RowKit Go.Lib
set_option linter.unusedVariables false

theorem ret_intP {k : IntKind} {a b : Int} (h : a = b) : Ending.returned (.int k a) = .returned (.int k b) := by rw [h]
theorem infoU8p : (Tryz.prog.info? 5).map (fun i => (i.zero, i.size, i.bytes)) = some (some (.int .u8 0), 1, 1) := by kernel_rfl

set_option maxHeartbeats 400000 in
theorem specFold_any (n : Int) (w : World) (h0 : -9223372036854775808 ≤ n) (h1 : n ≤ 9223372036854775807) :
    Calls Tryz.prog 85 #[.int .i64 n] w fun e w' => e = .returned (.int .u64 (foldN n)) ∧ w' = w := by
  by_cases hn : 0 ≤ n
  · have H : Hid (foldN n = 2 * n) := if_pos hn
    go_enter Tryz.func85, Tryz.ntmps85
    go_wp2
    go_ret
    exact ⟨ret_intP H.out.symm, rfl⟩
  · have H : Hid (foldN n = -2 * n - 1) := if_neg hn
    go_enter Tryz.func85, Tryz.ntmps85
    go_wp2
    go_ret
    exact ⟨ret_intP (by rw [H.out]; omega), rfl⟩

theorem own_conv {w : World} {base g k cap : Nat} {xs : List Int} (h : w.ownsRow base 5 1 (.slice (some ⟨g, 0, none⟩) k cap) k (xs.map (Value.int .u8))) (hl : xs.length = k) :
    (convert 22 9 (.slice (some ⟨g, 0, none⟩) k cap)).run Tryz.prog w = .ok (.string (strOfNums xs)) w :=
  run_convert_bytes_arg (P := Tryz.prog) w 22 5 Tryz.underlying22 Tryz.underlying5 g 0 k cap xs hl (fun i hi => by
    rw [Nat.zero_add, h.cellAt i (by omega)]
    have : i < xs.length := by omega
    simp [List.getD, List.getElem?_eq_getElem this]) 9 Tryz.underlying9

set_option maxHeartbeats 1000000 in
theorem specPutNum_any (n : Int) (w : World) (h0 : -9223372036854775808 ≤ n) (h1 : n ≤ 9223372036854775807) :
    Calls Tryz.prog 71 #[.int .i64 n] w fun e w' => e = .returned (.string (putB n)) ∧ Below w.heap.size w w' := by
  have hfb := foldN_bd h0 h1
  obtain ⟨i0, hi, hz0, hz1, hz2⟩ := info_parts infoU8p
  go_enter Tryz.func71, Tryz.ntmps71
  go_wp2_with (go_at_call 85; refine (specFold_any _ _ h0 h1).mono ?_; rintro e w1 ⟨rfl, hw⟩)
  subst hw
  go_loopw [3, 4] (fun x v wr => ∃ (k : Nat) (pre : List Int) (u : Int) (g cap : Nat), x = .int .u64 u ∧ v = .slice (some ⟨g, 0, none⟩) k cap ∧ Hid (PutTo (foldN n) k pre u) ∧ wr.ownsRow w1.heap.size 5 1 (.slice (some ⟨g, 0, none⟩) k cap) k (pre.map (Value.int .u8)) ∧ Below w1.heap.size w1 wr) (fun x _ _ => (intOf x).toNat)
  case atStart =>
    exact ⟨0, [], foldN n, w1.heap.size, 0, rfl, rfl, putTo_start hfb.1 hfb.2, World.ownsRow_made w1 #[] 0 (Nat.le_refl _) (by unfold maxLen; omega) rfl, (Below.refl _ _).alloc (Nat.le_refl _) _⟩
  case round =>
    obtain ⟨k, pre, u, g, cap, rfl, rfl, HP, hown, hnx⟩ := hrel
    have hk : k ≤ 9 := HP.out.1
    have hu0 : 0 ≤ u := HP.out.2.2.1
    have hu1 : u ≤ 18446744073709551615 := by have := HP.out.2.2.2.2.2.2; omega
    have hlen : pre.length = k := HP.out.2.1
    have HL : Hid (pre.length = k) := hlen
    have hsz : w1.heap.size ≤ wr.heap.size := hnx.size
    clear hlen
    by_cases hlt : 128 ≤ u
    · have HQ : Hid (PutTo (foldN n) (k + 1) (pre ++ [u % 128 + 128]) (u / 128)) := putTo_step HP.out hlt
      go_wp2_with (at_builtin; refine wpList_append_lies _ rfl _ _ 22 rfl w1.heap.size 5 i0 (.int .u8 0) 1 1 Tryz.underlying22 hi hz0 hz1 hz2 rfl (by omega) _ k _ rfl (hown.alloc _) ⟨wr.heap.size, 0, none⟩ 1 1 [.int .u8 (u % 128 + 128)] rfl rfl (World.news_of_block (cs := #[.int .u8 (u % 128 + 128)]) (t := 5) (fr := (0, 0)) (heap_alloc_new wr _)) (by simp [Value.oneCell']) (by omega) (by unfold maxLen; omega) (by omega) (by simp; omega) (wr.heap.size + 1) (by simp) ?_; intro g2 cap2 w2 hown2 hgrow hat hltg)
      have hb2 : Below w1.heap.size w1 w2 := (hnx.alloc hsz _).grown hgrow (by simp; omega) (fun j hj => (hown.lt j hj).1)
      have ho2 : w2.ownsRow w1.heap.size 5 1 (.slice (some ⟨g2, 0, none⟩) (k + 1) cap2) (k + 1) ((pre ++ [u % 128 + 128]).map (Value.int .u8)) := by rw [List.map_append]; exact hown2
      go_roundw
      case rel => exact ⟨k + 1, pre ++ [u % 128 + 128], u / 128, g2, cap2, rfl, rfl, HQ, ho2, hb2⟩
      case measure => simp [intOf]; omega
    · have HE : Hid (putB n = strOfNums (pre ++ [u])) := by show putB n = _; unfold putB; rw [putTo_end HP.out (by omega)]
      go_wp2_with (at_builtin; refine wpList_append_lies _ rfl _ _ 22 rfl w1.heap.size 5 i0 (.int .u8 0) 1 1 Tryz.underlying22 hi hz0 hz1 hz2 rfl (by omega) _ k _ rfl (hown.alloc _) ⟨wr.heap.size, 0, none⟩ 1 1 [.int .u8 u] rfl rfl (World.news_of_block (cs := #[.int .u8 u]) (t := 5) (fr := (0, 0)) (heap_alloc_new wr _)) (by simp [Value.oneCell']) (by omega) (by unfold maxLen; omega) (by omega) (by simp; omega) (wr.heap.size + 1) (by simp) ?_; intro g2 cap2 w2 hown2 hgrow hat hltg; have hconv := own_conv (xs := pre ++ [u]) (by rw [List.map_append]; exact hown2) (by rw [List.length_append, HL.out]; rfl))
      go_ret
      exact ⟨ret_str HE.out.symm, (hnx.alloc hsz _).grown hgrow (by simp; omega) (fun j hj => (hown.lt j hj).1)⟩

theorem heap_set {w : World} {g i : Nat} {cs : Array Value} {T : TypeId} (hg : w.heap[g]? = some (.cells cs T (0, 0))) (v : Value) : (w.setCell ⟨g, i, none⟩ v).heap[g]? = some (.cells (cs.setIfInBounds i v) T (0, 0)) := by
  simp [World.setCell, Array.getElem?_modify, hg]

theorem arr_conv {w : World} {g k : Nat} {pre : List Int} (h : w.heap[g]? = some (.cells (arr10 pre).toArray 147 (0, 0))) (hl : pre.length = k) :
    (convert 22 9 (.slice (some ⟨g, 0, none⟩) k 10)).run Tryz.prog w = .ok (.string (strOfNums pre)) w :=
  run_convert_bytes_arg (P := Tryz.prog) w 22 5 Tryz.underlying22 Tryz.underlying5 g 0 k 10 pre hl (fun i hi => arr10_at h i (by omega)) 9 Tryz.underlying9

theorem len10 : Tryz.prog.arrayLen 147 = 10 := by kernel_rfl
theorem under10 : Tryz.prog.underlying 147 = some (.array (Tryz.prog.arrayLen 147) (Tryz.prog.elem 147)) := by kernel_rfl
theorem size10 (wx : World) : (sizeOf (Tryz.prog.elem 147)).run Tryz.prog wx = .ok 1 wx := by kernel_rfl
theorem arr_slice (g k : Nat) (hk : k ≤ 9) (wx : World) :
    (Instr.sliceAt 147 (.pointer (some ⟨g, 0, none⟩)) none (some (.int .i64 ((k : Int) + 1))) none).run Tryz.prog wx = .ok (.slice (some ⟨g, 0, none⟩) (k + 1) 10) wx := by
  have h10 := len10
  rw [run_sliceAt_array_h (P := Tryz.prog) wx 147 ⟨g, 0, none⟩ under10 .i64 ((k : Int) + 1) (by omega) (by rw [h10]; omega), size10, h10]
  simp [Result.andThen, slicedAt, Addr.add]

set_option maxHeartbeats 1000000 in
theorem implPutNum_any (n : Int) (w : World) (h0 : -9223372036854775808 ≤ n) (h1 : n ≤ 9223372036854775807) :
    Calls Tryz.prog 82 #[.int .i64 n] w fun e w' => e = .returned (.string (putB n)) ∧ Below w.heap.size w w' := by
  have hfb := foldN_bd h0 h1
  have HF : Hid (putB n = strOfNums (putI 9 (foldN n))) := rfl
  have HS : Hid ((w.alloc (.cells (arr10 []).toArray 147)).heap[w.heap.size]? = some (.cells (arr10 []).toArray 147 (0, 0))) := (MapKept.heap_alloc w _).1
  rw [arr10_nil] at HS
  obtain ⟨u0, hu⟩ : ∃ u0, u0 = foldN n := ⟨_, rfl⟩
  have HU : Hid (u0 = foldN n) := hu
  rw [← hu] at hfb HF
  by_cases hn : 0 ≤ n
  · have hx : n * 2 = u0 := by rw [hu]; unfold foldN; rw [if_pos hn]; omega
    have HX : Hid (n * 2 = u0) := hx
    clear hu hx
    go_enter Tryz.func82, Tryz.ntmps82
    go_wp2
    go_loopw [3, 5] (fun x i wr => ∃ (k : Nat) (pre : List Int) (u : Int), x = .int .u64 u ∧ i = .int .i64 k ∧ Hid (PutTo u0 k pre u) ∧ Hid (wr.heap[w.heap.size]? = some (.cells (arr10 pre).toArray 147 (0, 0))) ∧ Below w.heap.size w wr) (fun x _ _ => (intOf x).toNat)
    case atStart => exact ⟨0, [], u0, by rw [HX.out], rfl, putTo_start hfb.1 hfb.2, HS, (Below.refl _ _).alloc (Nat.le_refl _) _⟩
    case round =>
      obtain ⟨k, pre, u, rfl, rfl, HP, hrow, hnx⟩ := hrel
      have hk : k ≤ 9 := HP.out.1
      have hu0 : 0 ≤ u := HP.out.2.2.1
      have hu1 : u ≤ 18446744073709551615 := by have := HP.out.2.2.2.2.2.2; omega
      have hlen : pre.length = k := HP.out.2.1
      have hsz : w.heap.size < wr.heap.size := lt_of_block hrow.out
      obtain ⟨hck, hfk⟩ := arr10_cell hrow.out (by omega)
      rw [hlen] at hck hfk
      by_cases hlt : 128 ≤ u
      · have HQ : Hid (PutTo u0 (k + 1) (pre ++ [u % 128 + 128]) (u / 128)) := putTo_step HP.out hlt
        have HO : Hid (bits .or .u8 (u % 256) 128 = u % 128 + 128) := or128 u hu0
        have HR : Hid ((wr.setCell ⟨w.heap.size, k, none⟩ (.int .u8 (bits .or .u8 (u % 256) 128))).heap[w.heap.size]? = some (.cells (arr10 (pre ++ [u % 128 + 128])).toArray 147 (0, 0))) := by
          show _ = _; rw [HO.out, heap_set hrow.out, ← hlen, arr10_set _ _ (by omega)]
        clear hlen
        have hb2 : Below w.heap.size w (wr.setCell ⟨w.heap.size, k, none⟩ (.int .u8 (bits .or .u8 (u % 256) 128))) := hnx.setCell (Nat.le_refl _) _
        go_wp2
        go_roundw
        case rel => exact ⟨k + 1, pre ++ [u % 128 + 128], u / 128, rfl, by go_num, HQ, HR, hb2⟩
        case measure => simp [intOf]; omega
      · have HE : Hid (putB n = strOfNums (pre ++ [u])) := by show putB n = _; rw [HF.out, putTo_end HP.out (by omega)]
        have HR : (wr.setCell ⟨w.heap.size, k, none⟩ (.int .u8 u)).heap[w.heap.size]? = some (.cells (arr10 (pre ++ [u])).toArray 147 (0, 0)) := by
          rw [heap_set hrow.out, ← hlen, arr10_set _ _ (by omega)]
        have hconv := arr_conv HR (k := k + 1) (by simp [hlen])
        have hsl := arr_slice w.heap.size k hk
        clear hlen HR
        go_wp2
        go_ret
        exact ⟨ret_str HE.out.symm, hnx.setCell (Nat.le_refl _) _⟩
  · have hx : bits .xor .u64 IntKind.u64.max (IntKind.u64.wrap (IntKind.u64.wrap n * 2)) = u0 := by rw [hu]; exact fold_xor n (by omega) h0
    have HX : Hid (bits .xor .u64 IntKind.u64.max (IntKind.u64.wrap (IntKind.u64.wrap n * 2)) = u0) := hx
    clear hu hx
    go_enter Tryz.func82, Tryz.ntmps82
    go_wp2
    go_loopw [3, 5] (fun x i wr => ∃ (k : Nat) (pre : List Int) (u : Int), x = .int .u64 u ∧ i = .int .i64 k ∧ Hid (PutTo u0 k pre u) ∧ Hid (wr.heap[w.heap.size]? = some (.cells (arr10 pre).toArray 147 (0, 0))) ∧ Below w.heap.size w wr) (fun x _ _ => (intOf x).toNat)
    case atStart => exact ⟨0, [], u0, by rw [HX.out], rfl, putTo_start hfb.1 hfb.2, HS, (Below.refl _ _).alloc (Nat.le_refl _) _⟩
    case round =>
      obtain ⟨k, pre, u, rfl, rfl, HP, hrow, hnx⟩ := hrel
      have hk : k ≤ 9 := HP.out.1
      have hu0 : 0 ≤ u := HP.out.2.2.1
      have hu1 : u ≤ 18446744073709551615 := by have := HP.out.2.2.2.2.2.2; omega
      have hlen : pre.length = k := HP.out.2.1
      have hsz : w.heap.size < wr.heap.size := lt_of_block hrow.out
      obtain ⟨hck, hfk⟩ := arr10_cell hrow.out (by omega)
      rw [hlen] at hck hfk
      by_cases hlt : 128 ≤ u
      · have HQ : Hid (PutTo u0 (k + 1) (pre ++ [u % 128 + 128]) (u / 128)) := putTo_step HP.out hlt
        have HO : Hid (bits .or .u8 (u % 256) 128 = u % 128 + 128) := or128 u hu0
        have HR : Hid ((wr.setCell ⟨w.heap.size, k, none⟩ (.int .u8 (bits .or .u8 (u % 256) 128))).heap[w.heap.size]? = some (.cells (arr10 (pre ++ [u % 128 + 128])).toArray 147 (0, 0))) := by
          show _ = _; rw [HO.out, heap_set hrow.out, ← hlen, arr10_set _ _ (by omega)]
        clear hlen
        have hb2 : Below w.heap.size w (wr.setCell ⟨w.heap.size, k, none⟩ (.int .u8 (bits .or .u8 (u % 256) 128))) := hnx.setCell (Nat.le_refl _) _
        go_wp2
        go_roundw
        case rel => exact ⟨k + 1, pre ++ [u % 128 + 128], u / 128, rfl, by go_num, HQ, HR, hb2⟩
        case measure => simp [intOf]; omega
      · have HE : Hid (putB n = strOfNums (pre ++ [u])) := by show putB n = _; rw [HF.out, putTo_end HP.out (by omega)]
        have HR : (wr.setCell ⟨w.heap.size, k, none⟩ (.int .u8 u)).heap[w.heap.size]? = some (.cells (arr10 (pre ++ [u])).toArray 147 (0, 0)) := by
          rw [heap_set hrow.out, ← hlen, arr10_set _ _ (by omega)]
        have hconv := arr_conv HR (k := k + 1) (by simp [hlen])
        have hsl := arr_slice w.heap.size k hk
        clear hlen HR
        go_wp2
        go_ret
        exact ⟨ret_str HE.out.symm, hnx.setCell (Nat.le_refl _) _⟩
end Go.Proofs.YtkhffoailfnepabGreatDoor
