/-
  What the program's RowLeaf and fieldCode answer.
  Conditions: the cells of Fields hold the fields; the two tables of the digest lie as laid.
-/
import Derived.Test.YtnaonldkbaapeaaGreatDoorRows
import Derived.Test.YtnaonldkbaapeaaGreatDoorBytesDigMath
import Derived.Test.YtnaonldkbaapeaaGreatDoorSlASlBBxKTakesOwnS
import Derived.Test.YtnaonldkbaapeaaGreatDoorGrKTakesLSpecGNSpecGTTillTwo
import Derived.Test.YtnaonldkbaapeaaGreatDoorJoinedPutTextFldMath
import Derived.Test.YtnaonldkbaapeaaGreatDoorFldRiseScanMath
import Derived.Test.YtnaonldkbaapeaaGreatDoorImplFC
import Derived.Test.YtnaonldkbaapeaaGreatDoorImplFR
import Derived.Test.YtnaonldkbaapeaaGreatDoorImplOn
import Derived.Handy
import Derived.WalkSpells
import Derived.OwnWalk
namespace Go.Proofs.YtnaonldkbaapeaaGreatDoor
open Go.RowKit Go.Lib
set_option linter.unusedVariables false
set_option maxRecDepth 20000

set_option maxHeartbeats 1000000 in
theorem implRowLeaf_any (k : ByteArray) (at_ : Int) (q : Option Addr) (c : Nat) (fs : List Fld) (w : World) (hT : Tabs w) (hf : FldAt w q fs) (hn : fs.length ≤ 1048576) (hc : fs.length ≤ c) (hk : k.size ≤ maxLen) (hz : FldsLe fs) :
    Calls Tryz.prog 76 #[.agg #[.string k, .int .i64 at_, .slice q fs.length c]] w fun e w' => e = .returned (.string (lfB k at_ fs)) ∧ Below w.heap.size w w' := by
  obtain ⟨W2, hW2⟩ : ∃ W2, W2 = (w.alloc (.cells #[.string k, .int .i64 at_, .slice q fs.length c] 29)).alloc (.cells #[.string k, .int .i64 at_, .slice q fs.length c, .int .u32 0, .int .i32 0, .int .u32 0, .string ⟨#[]⟩] 171) := ⟨_, rfl⟩
  have HW2 : Hid (W2 = (w.alloc (.cells #[.string k, .int .i64 at_, .slice q fs.length c] 29)).alloc (.cells #[.string k, .int .i64 at_, .slice q fs.length c, .int .u32 0, .int .i32 0, .int .u32 0, .string ⟨#[]⟩] 171)) := hW2
  have hs1 : (w.alloc (.cells #[.string k, .int .i64 at_, .slice q fs.length c] 29)).heap.size = w.heap.size + 1 := by simp
  have B2 : Hid (Below w.heap.size w W2) := by rw [hW2]; exact ((Below.refl _ _).alloc (Nat.le_refl _) _).alloc (by rw [hs1]; omega) _
  have KR : RawB W2 (w.heap.size + 1) k at_ (.slice q fs.length c) 0 0 ByteArray.empty := by rw [hW2, ← hs1]; exact Bxs.new _ _ _
  have hL := leaf_any (w.heap.size + 1) k at_ q c fs W2 (hT.to B2.out) KR (hf.below B2.out) hn hc hk hz
  clear hW2 hs1 KR hf hT hz hk
  generalize lfB k at_ fs = R at *
  go_enter Tryz.func76, Tryz.ntmps76
  go_wp2_with fail
  rw [← HW2.out]
  refine hL.mono ?_
  rintro e y ⟨rfl, -, hg⟩
  have HE : Hid (Below w.heap.size w y) := below_turned B2.out hg B2.out.size (by omega)
  clear hg
  go_wp2_with fail
  go_ret
  exact ⟨rfl, HE.out⟩
def fldE : Fld := ⟨ByteArray.empty, ByteArray.empty, ByteArray.empty, ByteArray.empty, false⟩
def fcC (k : ByteArray) (at_ : Int) (fs : List Fld) (i ig : Int) : Int := if rwB k at_ fs = true then (if 0 ≤ i ∧ i ≤ (fs.length : Int) - 1 then (if (fs.getD i.toNat fldE).g = true then ig else 0) else 6) else 1
set_option maxHeartbeats 1000000 in
theorem fieldCode_any (k : ByteArray) (at_ : Int) (q : Option Addr) (c : Nat) (fs : List Fld) (ix ig : Int) (w : World) (hT : Tabs w) (hf : FldAt w q fs) (hn : fs.length ≤ 1048576) (hc : fs.length ≤ c) (hk : k.size ≤ maxLen) (hz : FldsLe fs) :
    Calls Tryz.prog 157 #[.agg #[.string k, .int .i64 at_, .slice q fs.length c], .int .i64 ix, .int .i64 ig] w fun e w' => e = .returned (.int .i64 (fcC k at_ fs ix ig)) ∧ Below w.heap.size w w' := by
  obtain ⟨W1, hW1⟩ : ∃ W1, W1 = w.alloc (.cells #[.string k, .int .i64 at_, .slice q fs.length c] 29) := ⟨_, rfl⟩
  have HW1 : Hid (W1 = w.alloc (.cells #[.string k, .int .i64 at_, .slice q fs.length c] 29)) := hW1
  have B1 : Hid (Below w.heap.size w W1) := by rw [hW1]; exact (Below.refl _ _).alloc (Nat.le_refl _) _
  have K1 : Hid (Bxs W1 w.heap.size 29 #[.string k, .int .i64 at_, .slice q fs.length c]) := by rw [hW1]; exact Bxs.new _ _ _
  have HT : Hid (FldAt W1 q fs) := hf.below B1.out
  have hR := implRowRight_any k at_ q c fs W1 (hT.to B1.out) HT.out hn hc hk hz
  have HX : Hid (∀ x, Below W1.heap.size W1 x → x.cell? ⟨w.heap.size, 0, none⟩ = some (.string k) ∧ x.cell? ⟨w.heap.size, 1, none⟩ = some (.int .i64 at_) ∧ x.cell? ⟨w.heap.size, 2, none⟩ = some (.slice q fs.length c)) := fun x hb => ⟨(K1.out.below hb).cell 0, (K1.out.below hb).cell 1, (K1.out.below hb).cell 2⟩
  obtain ⟨t0, t1, t2⟩ := HX.out W1 (Below.refl _ _)
  rw [HW1.out] at t0 t1 t2
  clear hW1 hf hT hz
  cases hr : rwB k at_ fs with
  | false =>
    have HV : Hid (fcC k at_ fs ix ig = 1) := if_neg (by rw [hr]; exact Bool.false_ne_true)
    rw [hr] at hR
    rw [HV.out]
    clear hr
    go_enter Tryz.func157, Tryz.ntmps157
    go_wp2_with fail
    rw [← HW1.out]
    refine hR.mono ?_
    rintro e y ⟨rfl, b1⟩
    have b2 := chainB B1.out b1
    go_wp2_with fail
    go_ret
    exact ⟨rfl, b2⟩
  | true =>
  rw [hr] at hR
  by_cases h0 : ix < 0
  · have HV : Hid (fcC k at_ fs ix ig = 6) := by show _ = _; unfold fcC; rw [if_pos hr, if_neg (by omega)]
    have d0 : decide (ix < 0) = true := decide_eq_true h0
    rw [HV.out]
    clear hr h0
    go_enter Tryz.func157, Tryz.ntmps157
    go_wp2_with fail
    rw [← HW1.out]
    refine hR.mono ?_
    rintro e y ⟨rfl, b1⟩
    have b2 := chainB B1.out b1
    go_wp2_with fail
    go_ret
    exact ⟨rfl, b2⟩
  have d0 : decide (ix < 0) = false := decide_eq_false h0
  obtain ⟨I, rfl⟩ := Int.eq_ofNat_of_zero_le (show 0 ≤ ix by omega)
  by_cases h1 : fs.length ≤ I
  · have HV : Hid (fcC k at_ fs I ig = 6) := by show _ = _; unfold fcC; rw [if_pos hr, if_neg (by omega)]
    have d1 : decide ((fs.length : Int) ≤ (I : Int)) = true := decide_eq_true (by omega)
    have d2 : decide (fs.length ≤ I) = true := decide_eq_true h1
    rw [HV.out]
    clear hr h0 h1
    go_enter Tryz.func157, Tryz.ntmps157
    go_wp2_with fail
    rw [← HW1.out]
    refine hR.mono ?_
    rintro e y ⟨rfl, b1⟩
    have b2 := chainB B1.out b1
    clear t0 t1 t2
    obtain ⟨t0, t1, t2⟩ := HX.out y b1
    go_wp2_with fail
    go_ret
    exact ⟨rfl, b2⟩
  have d1 : decide ((fs.length : Int) ≤ (I : Int)) = false := decide_eq_false (by omega)
  have d2 : decide (fs.length ≤ I) = false := decide_eq_false h1
  have hIl : I < fs.length := by omega
  have i1 : (I : Int) < fs.length := by omega
  obtain ⟨b, off, rfl, hb0⟩ := HT.out.some_of (by omega)
  have HV : Hid (fcC k at_ fs I ig = if fs[I].g = true then ig else 0) := by show _ = _; unfold fcC; rw [if_pos hr, if_pos (by omega), Int.toNat_natCast, List.getD_eq_getElem?_getD, List.getElem?_eq_getElem hIl]; rfl
  have HC : Hid (∀ x, Below W1.heap.size W1 x → x.cell? ⟨b, off + I * 5 + 4, none⟩ = some (.bool fs[I].g)) := fun x hx => ((HT.out.below hx).at I hIl).2.2.2.2
  rw [HV.out]
  clear HV hr h0 h1
  cases hg : fs[I].g with
  | true =>
    rw [hg] at HC
    rw [if_pos rfl]
    clear hg
    go_enter Tryz.func157, Tryz.ntmps157
    go_wp2_with fail
    rw [← HW1.out]
    refine hR.mono ?_
    rintro e y ⟨rfl, b1⟩
    have b2 := chainB B1.out b1
    clear t0 t1 t2
    obtain ⟨t0, t1, t2⟩ := HX.out y b1
    have c4 := HC.out y b1
    go_wp2_with fail
    go_ret
    exact ⟨rfl, b2⟩
  | false =>
    rw [hg] at HC
    rw [if_neg (by exact Bool.false_ne_true)]
    clear hg
    go_enter Tryz.func157, Tryz.ntmps157
    go_wp2_with fail
    rw [← HW1.out]
    refine hR.mono ?_
    rintro e y ⟨rfl, b1⟩
    have b2 := chainB B1.out b1
    clear t0 t1 t2
    obtain ⟨t0, t1, t2⟩ := HX.out y b1
    have c4 := HC.out y b1
    go_wp2_with fail
    go_ret
    exact ⟨rfl, b2⟩
theorem fcC_zero {k : ByteArray} {at_ : Int} {fs : List Fld} {i ig : Int} (hig : ig ≠ 0) (h : fcC k at_ fs i ig = 0) : rwB k at_ fs = true ∧ (0 ≤ i ∧ i ≤ (fs.length : Int) - 1) ∧ (fs.getD i.toNat fldE).g = false := by
  unfold fcC at h
  by_cases h1 : rwB k at_ fs = true
  · rw [if_pos h1] at h
    by_cases h2 : 0 ≤ i ∧ i ≤ (fs.length : Int) - 1
    · rw [if_pos h2] at h
      cases hg : (fs.getD i.toNat fldE).g with
      | true => rw [hg, if_pos rfl] at h; exact absurd h hig
      | false => exact ⟨h1, h2, rfl⟩
    · rw [if_neg h2] at h; cases h
  · rw [if_neg h1] at h; cases h
end Go.Proofs.YtnaonldkbaapeaaGreatDoor
