/-
  What the program's RowLeaf and fieldCode answer.
  Conditions: the cells of Fields hold the fields; the two tables of the digest lie as laid.
-/
import Derived.Test.YtefakcpclihaeakDoorRows
import Derived.Test.YtefakcpclihaeakDoorBytes
import Derived.Test.YtefakcpclihaeakDoorSlA
import Derived.Test.YtefakcpclihaeakDoorBxK
import Derived.Test.YtefakcpclihaeakDoorGrK
import Derived.Test.YtefakcpclihaeakDoorFldMath
import Derived.Test.YtefakcpclihaeakDoorFldRise
import Derived.Test.YtefakcpclihaeakDoorImplFC
import Derived.Test.YtefakcpclihaeakDoorImplFR
import Derived.Test.YtefakcpclihaeakDoorImplOn
import Derived.Handy
import Derived.WalkSpells
import Derived.OwnWalk
namespace Go.Proofs.YtefakcpclihaeakDoor
open Go.RowKit Go.Lib
set_option linter.unusedVariables false
set_option maxRecDepth 20000

set_option maxHeartbeats 1000000 in
theorem implRowLeaf_any (k : ByteArray) (at_ : Int) (q : Option Addr) (c : Nat) (fs : List Fld) (w : World) (hT : Tabs w) (hf : FldAt w q fs) (hn : fs.length ≤ 1048576) (hc : fs.length ≤ c) (hk : k.size ≤ maxLen) (hz : FldsLe fs) :
    Calls Tryd.prog 29 #[.agg #[.string k, .int .i64 at_, .slice q fs.length c]] w fun e w' => e = .returned (.string (lfB k at_ fs)) ∧ Below w.heap.size w w' := by
  obtain ⟨W2, hW2⟩ : ∃ W2, W2 = (w.alloc (.cells #[.string k, .int .i64 at_, .slice q fs.length c] 38)).alloc (.cells #[.string k, .int .i64 at_, .slice q fs.length c, .int .u32 0, .int .i32 0, .int .u32 0, .string ⟨#[]⟩] 81) := ⟨_, rfl⟩
  have HW2 : Hid (W2 = (w.alloc (.cells #[.string k, .int .i64 at_, .slice q fs.length c] 38)).alloc (.cells #[.string k, .int .i64 at_, .slice q fs.length c, .int .u32 0, .int .i32 0, .int .u32 0, .string ⟨#[]⟩] 81)) := hW2
  have hs1 : (w.alloc (.cells #[.string k, .int .i64 at_, .slice q fs.length c] 38)).heap.size = w.heap.size + 1 := by simp
  have B2 : Hid (Below w.heap.size w W2) := by rw [hW2]; exact ((Below.refl _ _).alloc (Nat.le_refl _) _).alloc (by rw [hs1]; omega) _
  have KR : RawB W2 (w.heap.size + 1) k at_ (.slice q fs.length c) 0 0 ByteArray.empty := by rw [hW2, ← hs1]; exact Bxs.new _ _ _
  have hL := leaf_any (w.heap.size + 1) k at_ q c fs W2 (hT.to B2.out) KR (hf.below B2.out) hn hc hk hz
  clear hW2 hs1 KR hf hT hz hk
  generalize lfB k at_ fs = R at *
  go_enter Tryd.func29, Tryd.ntmps29
  go_wp2_with fail
  rw [← HW2.out]
  refine hL.mono ?_
  rintro e y ⟨rfl, -, hg⟩
  have HE : Hid (Below w.heap.size w y) := below_turned B2.out hg B2.out.size (by omega)
  clear hg
  go_wp2_with fail
  go_ret
  exact ⟨rfl, HE.out⟩
def fldE : Fld := ⟨ByteArray.empty, ByteArray.empty, ByteArray.empty, ByteArray.empty, false⟩
def fcC (k : ByteArray) (at_ : Int) (fs : List Fld) (i ig : Int) : Int := if rwB k at_ fs = true then (if 0 ≤ i ∧ i ≤ (fs.length : Int) - 1 then (if (fs.getD i.toNat fldE).g = true then ig else 0) else 6) else 1
theorem fcC_zero {k : ByteArray} {at_ : Int} {fs : List Fld} {i ig : Int} (hig : ig ≠ 0) (h : fcC k at_ fs i ig = 0) : rwB k at_ fs = true ∧ (0 ≤ i ∧ i ≤ (fs.length : Int) - 1) ∧ (fs.getD i.toNat fldE).g = false := by
  unfold fcC at h
  by_cases h1 : rwB k at_ fs = true
  · rw [if_pos h1] at h
    by_cases h2 : 0 ≤ i ∧ i ≤ (fs.length : Int) - 1
    · rw [if_pos h2] at h
      cases hg : (fs.getD i.toNat fldE).g with
      | true => rw [hg, if_pos rfl] at h; exact absurd h hig
      | false => exact ⟨h1, h2, rfl⟩
    · rw [if_neg h2] at h; cases h
  · rw [if_neg h1] at h; cases h
end Go.Proofs.YtefakcpclihaeakDoor
