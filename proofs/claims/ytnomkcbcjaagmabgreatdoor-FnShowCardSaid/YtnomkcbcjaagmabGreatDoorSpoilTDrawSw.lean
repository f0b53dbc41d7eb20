/-
  Parts of one proof, laid as one text: SpoilT, DrawSw; what each says stands at its head.
-/
import Derived.Test.YtnomkcbcjaagmabGreatDoorRows
import Derived.Test.YtnomkcbcjaagmabGreatDoorBytesDigMath
import Derived.Test.YtnomkcbcjaagmabGreatDoorBxKGrKTakesSrc
import Derived.Test.YtnomkcbcjaagmabGreatDoorDrawsDrawKit
import Derived.Handy
import Derived.WalkSpells
import Derived.BigQuiet
import Derived.Deep.RegionHeld3
import Derived.Deep.Cut
import Derived.Deep.CutRange
import Derived.Test.YtnomkcbcjaagmabGreatDoorSlASlBOwnS
import Derived.Test.YtnomkcbcjaagmabGreatDoorLwShwSomeDrawFld
import Derived.Test.YtnomkcbcjaagmabGreatDoorFldRiseFldGShwK
import Derived.Test.YtnomkcbcjaagmabGreatDoorJoinedPutTextFldMath
import Derived.Test.YtnomkcbcjaagmabGreatDoorOneKFldOM
import Derived.Test.YtnomkcbcjaagmabGreatDoorFldO
import Derived.Test.YtnomkcbcjaagmabGreatDoorFldV
import Derived.Test.YtnomkcbcjaagmabGreatDoorFldB
import Derived.Test.YtnomkcbcjaagmabGreatDoorAppSImplFT
import Derived.Test.YtnomkcbcjaagmabGreatDoorDrawRow
import Derived.Test.YtnomkcbcjaagmabGreatDoorDrawSm
import Derived.Test.YtnomkcbcjaagmabGreatDoorDrawRwDrawPut
import Derived.Test.YtnomkcbcjaagmabGreatDoorDrawSh
import Derived.OwnWalk
/-
  What spoil draws of a text: some text that is at most one byte longer.
-/
namespace Go.Proofs.YtnomkcbcjaagmabGreatDoor
open Go.RowKit Go.Lib
set_option linter.unusedVariables false
set_option maxRecDepth 20000

theorem conv_one (n : Int) (w : World) : (convert 22 9 (.slice (some ⟨w.heap.size, 0, none⟩) 1 1)).run Tryz.prog (w.alloc (.cells #[.int .u8 n] 5)) = .ok (.string (strOfNums [n])) (w.alloc (.cells #[.int .u8 n] 5)) :=
  own_convD (base := w.heap.size) (xs := [n]) ⟨by simp, .inr ⟨w.heap.size, 1, #[.int .u8 n], rfl, Nat.le_refl _, heap_alloc_new w _, Nat.le_refl _, by unfold maxLen; omega, rfl, by simp⟩⟩ rfl
theorem size_app3 (a b c : ByteArray) : (a ++ b ++ c).size = a.size + b.size + c.size := by simp [ByteArray.size_append]
theorem belowDN {B : Nat} {a w : World} (h : Below B a w) (n : Nat) : Below B a (w.drewN n) := ⟨h.os, h.tape, h.output, h.size, h.block⟩
def SpoiltT (B p : Nat) (a : Option Addr) (len cap : Nat) (t : ByteArray) (w : World) (e : Ending) (w' : World) : Prop :=
  (∃ u : ByteArray, e = .returned (.string u) ∧ u.size ≤ t.size + 1) ∧ Src 133 B p a len cap w' ∧ w.grownBy w' (some p)
set_option maxHeartbeats 4000000 in
theorem spoilT_any (B p : Nat) (a : Option Addr) (len cap : Nat) (t : ByteArray) (w : World) (hs : Src 133 B p a len cap w) (ht : t.size ≤ 1000) :
    Calls Tryz.prog 75 #[.pointer (some ⟨p, 0, none⟩), .string t] w (SpoiltT B p a len cap t w) := by
  go_enter Tryz.func75, Tryz.ntmps75
  go_wp2_with fail
  refine (n_any B p a len cap ((t.size : Int) + 1) w hs (by omega)).mono ?_
  rintro e w2 ⟨⟨r, rfl, hr0, hr1, hr2⟩, hs2, G2⟩
  obtain ⟨K, rfl⟩ := Int.eq_ofNat_of_zero_le hr0
  have hK : K ≤ t.size := by
    rcases Nat.eq_zero_or_pos t.size with h | h
    · have := hr2 (by omega); omega
    · have := hr1 (by omega); omega
  clear hr0 hr1 hr2 hs
  go_wp2_with fail
  refine (n_any B p a len cap 17 w2 hs2 (by omega)).mono ?_
  rintro e w3 ⟨⟨r, rfl, hr0, hr1, -⟩, hs3, G3⟩
  obtain ⟨R, rfl⟩ := Int.eq_ofNat_of_zero_le hr0
  have hR : R < 17 := by have := hr1 (by omega); omega
  have G3' : Hid (w.grownBy w3 (some p)) := touch_trans G2 G3
  have H3 : Hid (Src 133 B p a len cap w3) := hs3
  clear hr0 hr1 hs2 hs3 G2 G3
  have hcv := fun n => conv_one n w3
  obtain ⟨W4, hW4⟩ : ∃ W4, W4 = fun n : Int => w3.alloc (.cells #[.int .u8 n] 5) := ⟨_, rfl⟩
  have HB : Hid (∀ n, Src 133 B p a len cap (W4 n) ∧ w.grownBy (W4 n) (some p)) := fun n => by
    rw [hW4]
    have b : Below w3.heap.size w3 (w3.alloc (.cells #[.int .u8 n] 5)) := (Below.refl _ _).alloc (Nat.le_refl _) _
    exact ⟨H3.out.below b, touch_below G3'.out b⟩
  have HW4 : Hid (∀ n, w3.alloc (.cells #[.int .u8 n] 5) = W4 n) := fun n => by rw [hW4]
  have hz1 : ∀ n : Int, (strOfNums [n]).size = 1 := fun n => by rw [strOfNums_size]; rfl
  clear hW4 H3 G3'
  go_upto_region 3 with fail
  rw [HW4.out]
  generalize (⟨#[32, 10, 48, 97, 45, 110, 44, 58, 93, 255, 40, 120, 126, 49, 128, 225, 59]⟩ : ByteArray)[R] = cb at *
  obtain ⟨x4, hx4⟩ : ∃ x4, x4 = W4 (cb.toNat : Int) := ⟨_, rfl⟩
  obtain ⟨hs4, hg4⟩ := HB.out (cb.toNat : Int)
  obtain ⟨c1, hc1⟩ : ∃ c1, c1 = strOfNums [(cb.toNat : Int)] := ⟨_, rfl⟩
  have hzc := hz1 (cb.toNat : Int)
  rw [← hx4] at hs4 hg4 ⊢
  rw [← hc1] at hzc ⊢
  clear hx4 HB HW4 hz1 hc1 hcv
  have HK : Hid (K ≤ t.size) := hK
  have hKi : (K : Int) ≤ (t.size : Int) := by omega
  have HZ : Hid (c1.size = 1) := hzc
  have HEnd : Hid (∀ (x : World) (u : ByteArray) (m : Nat), Src 133 B p a len cap x → w.grownBy x (some p) → u.size ≤ t.size + 1 → SpoiltT B p a len cap t w (.returned (.string u)) (x.drewN m)) := fun x u m h1 h2 h3 => ⟨⟨u, rfl, h3⟩, h1.below (belowDN (Below.refl _ _) m), touch_below h2 (belowDN (Below.refl _ _) m)⟩
  have hmz : t.size ≤ 9223372036854775807 := by omega
  have v1 : (t.extract 0 K).size ≤ 1000 := by simp; omega
  have v2 : c1.size ≤ 10 := by omega
  have v3 : (t.extract 0 K ++ c1).size ≤ 1010 := by rw [ByteArray.size_append]; omega
  have v4 : (t.extract K t.size).size ≤ 1000 := by simp; omega
  have v5 : (t.extract (K + 1) t.size).size ≤ 1000 := by simp; omega
  clear hzc
  by_cases hk : K = t.size
  · have e1 : ((K : Int) == (t.size : Int)) = true := beq_iff_eq.2 (by omega)
    have HE : Hid _ := fun m => HEnd.out x4 (t.extract 0 K ++ c1 ++ t.extract K t.size) m hs4 hg4 (by rw [size_app3, HZ.out]; simp; omega)
    clear HEnd hs4 hg4 hk
    go_wp2_with fail
    go_quiet (fail)
    go_wp2_with fail
    go_ret
    exact HE.out _
  have e1 : ((K : Int) == (t.size : Int)) = false := beq_eq_false_iff_ne.2 (by omega)
  have hlt : K < t.size := by omega
  have H4 : Hid (Src 133 B p a len cap x4) := hs4
  have G4 : Hid (w.grownBy x4 (some p)) := hg4
  clear hs4 hg4 hk
  go_wp2_with fail
  refine (one_any B p a len cap 3 x4 H4.out (by omega)).mono ?_
  rintro e x5 ⟨⟨bo, rfl⟩, hs5, hg5⟩
  have hg5 := touch_trans G4.out hg5
  cases bo
  · have H5 : Hid (Src 133 B p a len cap x5) := hs5
    have G5 : Hid (w.grownBy x5 (some p)) := hg5
    clear hs5 hg5 H4 G4
    go_wp2_with fail
    refine (one_any B p a len cap 2 x5 H5.out (by omega)).mono ?_
    rintro e x6 ⟨⟨bo, rfl⟩, hs6, hg6⟩
    have hg6 := touch_trans G5.out hg6
    have hw1 : IntKind.i64.wrap ((K : Int) + 1) = (K : Int) + 1 := by rw [IntKind.wrap_i64]; omega
    have hk1 : (K : Int) + 1 ≤ (t.size : Int) := by omega
    have hk2 : K + 1 ≤ t.size := by omega
    cases bo
    · have HE : Hid _ := fun m => HEnd.out x6 (t.extract 0 K ++ c1 ++ t.extract (K + 1) t.size) m hs6 hg6 (by rw [size_app3, HZ.out]; simp; omega)
      clear HEnd hs6 hg6 H5 G5
      go_wp2_with fail
      go_quiet (fail)
      go_wp2_with fail
      go_ret
      exact HE.out _
    · have HE : Hid _ := fun m => HEnd.out x6 (t.extract 0 K ++ t.extract (K + 1) t.size) m hs6 hg6 (by simp [ByteArray.size_append]; omega)
      clear HEnd hs6 hg6 H5 G5
      go_wp2_with fail
      go_quiet (fail)
      go_wp2_with fail
      go_ret
      exact HE.out _
  · have HE : Hid _ := fun m => HEnd.out x5 (t.extract 0 K ++ c1 ++ t.extract K t.size) m hs5 hg5 (by rw [size_app3, HZ.out]; simp; omega)
    clear HEnd hs5 hg5 H4 G4
    go_wp2_with fail
    go_quiet (fail)
    go_wp2_with fail
    go_ret
    exact HE.out _
end Go.Proofs.YtnomkcbcjaagmabGreatDoor
/-
  What DrawShow, DrawShownLeaf, DrawShownBytes and DrawShownRead draw.
  Conditions: the code's bytes lie there.
-/
namespace Go.Proofs.YtnomkcbcjaagmabGreatDoor
open Go.RowKit Go.Lib
set_option linter.unusedVariables false
set_option maxRecDepth 20000

set_option maxHeartbeats 2000000 in
theorem drawShow_any (B : Nat) (a : Option Addr) (len cap : Nat) (w : World) (hlen : len ≤ 1048576) (hB : B ≤ w.heap.size) (hc : CodeAt B a len w) :
    Calls Tryz.prog 21 #[.slice a len cap] w fun e w' => (∃ (k : ByteArray) (at_ : Int) (fs : List Fld) (v : Value) (q : Int), e = .returned (.tuple #[.agg #[.string k, .int .i64 at_, v], .int .i64 q]) ∧ w'.ownsRow w.heap.size 59 5 v fs.length (fldRow fs) ∧ SmOk 4 k at_ fs ∧ -1 ≤ q ∧ q ≤ 3) ∧ Below w.heap.size w w' := by
  obtain ⟨W1, hW1⟩ : ∃ W1, W1 = w.alloc (.cells #[.string ⟨#[]⟩, .int .i64 0, .slice none 0 0] 44) := ⟨_, rfl⟩
  have HW : Hid (W1 = w.alloc (.cells #[.string ⟨#[]⟩, .int .i64 0, .slice none 0 0] 44)) := hW1
  have b1 : Hid (Below w.heap.size w W1) := by rw [hW1]; exact (Below.refl _ _).alloc (Nat.le_refl _) _
  have R1 : Hid (Bxs W1 w.heap.size 44 #[.string ByteArray.empty, .int .i64 0, .slice none 0 0]) := by rw [hW1]; exact Bxs.new _ _ _
  have hB1 : B ≤ W1.heap.size := Nat.le_trans hB b1.out.size
  have hD := drawForget_any B a len cap W1 hlen hB1 (hc.below (b1.out.mono hB))
  clear hW1 hc
  go_enter Tryz.func21, Tryz.ntmps21
  go_wp2_with fail
  rw [← HW.out]
  refine hD.mono ?_
  rintro e y1 ⟨⟨k, at_, fs, v, q, rfl, own, ok, q0, q3⟩, bb⟩
  obtain ⟨bq, cq, rfl, -⟩ := ownF_one own ok.2.2.1.1
  have R2 := R1.out.below bb
  obtain ⟨d0, d1, d2⟩ : y1.cell? ⟨w.heap.size, 0, none⟩ = some (.string ByteArray.empty) ∧ y1.cell? ⟨w.heap.size, 1, none⟩ = some (.int .i64 0) ∧ y1.cell? ⟨w.heap.size, 2, none⟩ = some (.slice none 0 0) := ⟨R2.cell 0, R2.cell 1, R2.cell 2⟩
  have f0 := R2.fr 0
  have f1 := R2.fr 1
  have f2 := R2.fr 2
  have hn := ownF_ne own R2 (by decide)
  have HB : Hid (∀ x0 x1 x2 : Value, (((y1.setCell ⟨w.heap.size, 0, none⟩ x0).setCell ⟨w.heap.size, 1, none⟩ x1).setCell ⟨w.heap.size, 2, none⟩ x2).ownsRow w.heap.size 59 5 (.slice (some ⟨bq, 0, none⟩) fs.length cq) fs.length (fldRow fs) ∧ Below w.heap.size w (((y1.setCell ⟨w.heap.size, 0, none⟩ x0).setCell ⟨w.heap.size, 1, none⟩ x1).setCell ⟨w.heap.size, 2, none⟩ x2)) := fun x0 x1 x2 => ⟨ownS_mono (ownsRow_setCell_other (ownsRow_setCell_other (ownsRow_setCell_other own hn _) hn _) hn _) b1.out.size, below_set3 (chainB b1.out bb) (Nat.le_refl _) _ _ _⟩
  have HOk : Hid (SmOk 4 k at_ fs) := ok
  clear bb HW own ok hn R2 hD
  go_wp2_with fail
  refine bodyPost_ret (v := .tuple #[.agg #[.string k, .int .i64 at_, .slice (some ⟨bq, 0, none⟩) fs.length cq], .int .i64 q]) (by simp [results, Tryz.results21, go_sem, d0, d1, d2]) rfl ?_
  exact ⟨⟨k, at_, fs, _, q, rfl, (HB.out _ _ _).1, HOk.out, q0, q3⟩, (HB.out _ _ _).2⟩
set_option maxHeartbeats 2000000 in
theorem drawShownLeaf_any (B : Nat) (a : Option Addr) (len cap : Nat) (w : World) (hlen : len ≤ 1048576) (hB : B ≤ w.heap.size) (hc : CodeAt B a len w) :
    Calls Tryz.prog 23 #[.slice a len cap] w fun e w' => (∃ (o : Shw) (q1 : Option Addr) (c1 : Nat) (q2 : Option Addr) (c2 : Nat), e = .returned (.agg #[.string o.k, .int .i64 o.at_, .slice q1 o.ns.length c1, .slice q2 o.cs.length c2, .int .i64 o.ix, .string o.s, .string o.v]) ∧ ShwO w.heap.size o (.slice q1 o.ns.length c1) (.slice q2 o.cs.length c2) w' ∧ ShkOk o) ∧ Below w.heap.size w w' := by
  obtain ⟨W1, hW1⟩ : ∃ W1, W1 = w.alloc (.cells #[.string ⟨#[]⟩, .int .i64 0, .slice none 0 0, .slice none 0 0, .int .i64 0, .string ⟨#[]⟩, .string ⟨#[]⟩] 48) := ⟨_, rfl⟩
  have HW : Hid (W1 = w.alloc (.cells #[.string ⟨#[]⟩, .int .i64 0, .slice none 0 0, .slice none 0 0, .int .i64 0, .string ⟨#[]⟩, .string ⟨#[]⟩] 48)) := hW1
  have b1 : Hid (Below w.heap.size w W1) := by rw [hW1]; exact (Below.refl _ _).alloc (Nat.le_refl _) _
  have R1 : Hid (Bxs W1 w.heap.size 48 #[.string ByteArray.empty, .int .i64 0, .slice none 0 0, .slice none 0 0, .int .i64 0, .string ByteArray.empty, .string ByteArray.empty]) := by rw [hW1]; exact Bxs.new _ _ _
  have hB1 : B ≤ W1.heap.size := Nat.le_trans hB b1.out.size
  have HC : Hid (CodeAt B a len W1) := hc.below (b1.out.mono hB)
  clear hW1 hc
  go_enter Tryz.func23, Tryz.ntmps23
  go_wp2_with fail
  rw [← HW.out]
  refine (source_any B a len cap W1 hlen hB1 HC.out).mono ?_
  rintro e y1 ⟨rfl, s1, bs1⟩
  go_wp2_with fail
  refine (l07Shown_any B W1.heap.size a len cap y1 s1).mono ?_
  rintro e y2 ⟨⟨o, q1, c1, q2, c2, rfl, ow, ok⟩, s2, g2⟩
  have bb : Below W1.heap.size W1 y2 := below_touch bs1 g2 (Nat.le_refl _)
  have R2 := R1.out.below bb
  have d0 : y2.cell? ⟨w.heap.size, 0, none⟩ = some (.string ByteArray.empty) := R2.cell 0
  have d1 : y2.cell? ⟨w.heap.size, 1, none⟩ = some (.int .i64 0) := R2.cell 1
  have d2 : y2.cell? ⟨w.heap.size, 2, none⟩ = some (.slice none 0 0) := R2.cell 2
  have d3 : y2.cell? ⟨w.heap.size, 3, none⟩ = some (.slice none 0 0) := R2.cell 3
  have d4 : y2.cell? ⟨w.heap.size, 4, none⟩ = some (.int .i64 0) := R2.cell 4
  have d5 : y2.cell? ⟨w.heap.size, 5, none⟩ = some (.string ByteArray.empty) := R2.cell 5
  have d6 : y2.cell? ⟨w.heap.size, 6, none⟩ = some (.string ByteArray.empty) := R2.cell 6
  have f0 := R2.fr 0
  have f1 := R2.fr 1
  have f2 := R2.fr 2
  have f3 := R2.fr 3
  have f4 := R2.fr 4
  have f5 := R2.fr 5
  have f6 := R2.fr 6
  have n1 := ownR_ne ow.1 R2 (by decide)
  have n2 := ownR_ne ow.2.1 R2 (by decide)
  have hz : w.heap.size ≤ y1.heap.size := by have := b1.out.size; have := bs1.size; omega
  have HB : Hid (∀ x0 x1 x2 x3 x4 x5 x6 : Value, ShwO w.heap.size o (.slice q1 o.ns.length c1) (.slice q2 o.cs.length c2) (((((((y2.setCell ⟨w.heap.size, 0, none⟩ x0).setCell ⟨w.heap.size, 1, none⟩ x1).setCell ⟨w.heap.size, 2, none⟩ x2).setCell ⟨w.heap.size, 3, none⟩ x3).setCell ⟨w.heap.size, 4, none⟩ x4).setCell ⟨w.heap.size, 5, none⟩ x5).setCell ⟨w.heap.size, 6, none⟩ x6) ∧ Below w.heap.size w (((((((y2.setCell ⟨w.heap.size, 0, none⟩ x0).setCell ⟨w.heap.size, 1, none⟩ x1).setCell ⟨w.heap.size, 2, none⟩ x2).setCell ⟨w.heap.size, 3, none⟩ x3).setCell ⟨w.heap.size, 4, none⟩ x4).setCell ⟨w.heap.size, 5, none⟩ x5).setCell ⟨w.heap.size, 6, none⟩ x6)) := fun x0 x1 x2 x3 x4 x5 x6 => by
    refine ⟨⟨ownS_mono ?_ hz, ownS_mono ?_ hz, ow.2.2⟩, ?_⟩
    · exact ownsRow_setCell_other (ownsRow_setCell_other (ownsRow_setCell_other (ownsRow_setCell_other (ownsRow_setCell_other (ownsRow_setCell_other (ownsRow_setCell_other ow.1 n1 _) n1 _) n1 _) n1 _) n1 _) n1 _) n1 _
    · exact ownsRow_setCell_other (ownsRow_setCell_other (ownsRow_setCell_other (ownsRow_setCell_other (ownsRow_setCell_other (ownsRow_setCell_other (ownsRow_setCell_other ow.2.1 n2 _) n2 _) n2 _) n2 _) n2 _) n2 _) n2 _
    · exact (((((((chainB b1.out bb).setCell (Nat.le_refl _) _).setCell (Nat.le_refl _) _).setCell (Nat.le_refl _) _).setCell (Nat.le_refl _) _).setCell (Nat.le_refl _) _).setCell (Nat.le_refl _) _).setCell (Nat.le_refl _) _
  have HOk : Hid (ShkOk o) := ok
  clear s1 bs1 s2 g2 bb HW HC ow ok R2 n1 n2 hz
  go_wp2_with fail
  refine bodyPost_ret (v := .agg #[.string o.k, .int .i64 o.at_, .slice q1 o.ns.length c1, .slice q2 o.cs.length c2, .int .i64 o.ix, .string o.s, .string o.v]) (by simp [results, Tryz.results23, go_sem, d0, d1, d2, d3, d4, d5, d6]) rfl ?_
  exact ⟨⟨o, q1, c1, q2, c2, rfl, (HB.out _ _ _ _ _ _ _).1, HOk.out⟩, (HB.out _ _ _ _ _ _ _).2⟩
set_option maxHeartbeats 2000000 in
theorem drawShownBytes_any (B : Nat) (a : Option Addr) (len cap : Nat) (w : World) (hlen : len ≤ 1048576) (hB : B ≤ w.heap.size) (hc : CodeAt B a len w) :
    Calls Tryz.prog 24 #[.slice a len cap] w fun e w' => (∃ (o : Shw) (q1 : Option Addr) (c1 : Nat) (q2 : Option Addr) (c2 : Nat), e = .returned (.agg #[.string o.k, .int .i64 o.at_, .slice q1 o.ns.length c1, .slice q2 o.cs.length c2, .int .i64 o.ix, .string o.s, .string o.v]) ∧ ShwO w.heap.size o (.slice q1 o.ns.length c1) (.slice q2 o.cs.length c2) w' ∧ ShkOk o) ∧ Below w.heap.size w w' := by
  obtain ⟨W1, hW1⟩ : ∃ W1, W1 = w.alloc (.cells #[.string ⟨#[]⟩, .int .i64 0, .slice none 0 0, .slice none 0 0, .int .i64 0, .string ⟨#[]⟩, .string ⟨#[]⟩] 48) := ⟨_, rfl⟩
  have HW : Hid (W1 = w.alloc (.cells #[.string ⟨#[]⟩, .int .i64 0, .slice none 0 0, .slice none 0 0, .int .i64 0, .string ⟨#[]⟩, .string ⟨#[]⟩] 48)) := hW1
  have b1 : Hid (Below w.heap.size w W1) := by rw [hW1]; exact (Below.refl _ _).alloc (Nat.le_refl _) _
  have R1 : Hid (Bxs W1 w.heap.size 48 #[.string ByteArray.empty, .int .i64 0, .slice none 0 0, .slice none 0 0, .int .i64 0, .string ByteArray.empty, .string ByteArray.empty]) := by rw [hW1]; exact Bxs.new _ _ _
  have hB1 : B ≤ W1.heap.size := Nat.le_trans hB b1.out.size
  have HC : Hid (CodeAt B a len W1) := hc.below (b1.out.mono hB)
  clear hW1 hc
  go_enter Tryz.func24, Tryz.ntmps24
  go_wp2_with fail
  rw [← HW.out]
  refine (source_any B a len cap W1 hlen hB1 HC.out).mono ?_
  rintro e y1 ⟨rfl, s1, bs1⟩
  go_wp2_with fail
  refine (l07Shown_any B W1.heap.size a len cap y1 s1).mono ?_
  rintro e y2 ⟨⟨o, q1, c1, q2, c2, rfl, ow, ok⟩, s2, g2⟩
  have bb : Below W1.heap.size W1 y2 := below_touch bs1 g2 (Nat.le_refl _)
  have R2 := R1.out.below bb
  have d0 : y2.cell? ⟨w.heap.size, 0, none⟩ = some (.string ByteArray.empty) := R2.cell 0
  have d1 : y2.cell? ⟨w.heap.size, 1, none⟩ = some (.int .i64 0) := R2.cell 1
  have d2 : y2.cell? ⟨w.heap.size, 2, none⟩ = some (.slice none 0 0) := R2.cell 2
  have d3 : y2.cell? ⟨w.heap.size, 3, none⟩ = some (.slice none 0 0) := R2.cell 3
  have d4 : y2.cell? ⟨w.heap.size, 4, none⟩ = some (.int .i64 0) := R2.cell 4
  have d5 : y2.cell? ⟨w.heap.size, 5, none⟩ = some (.string ByteArray.empty) := R2.cell 5
  have d6 : y2.cell? ⟨w.heap.size, 6, none⟩ = some (.string ByteArray.empty) := R2.cell 6
  have f0 := R2.fr 0
  have f1 := R2.fr 1
  have f2 := R2.fr 2
  have f3 := R2.fr 3
  have f4 := R2.fr 4
  have f5 := R2.fr 5
  have f6 := R2.fr 6
  have n1 := ownR_ne ow.1 R2 (by decide)
  have n2 := ownR_ne ow.2.1 R2 (by decide)
  have hz : w.heap.size ≤ y1.heap.size := by have := b1.out.size; have := bs1.size; omega
  have HB : Hid (∀ x0 x1 x2 x3 x4 x5 x6 : Value, ShwO w.heap.size o (.slice q1 o.ns.length c1) (.slice q2 o.cs.length c2) (((((((y2.setCell ⟨w.heap.size, 0, none⟩ x0).setCell ⟨w.heap.size, 1, none⟩ x1).setCell ⟨w.heap.size, 2, none⟩ x2).setCell ⟨w.heap.size, 3, none⟩ x3).setCell ⟨w.heap.size, 4, none⟩ x4).setCell ⟨w.heap.size, 5, none⟩ x5).setCell ⟨w.heap.size, 6, none⟩ x6) ∧ Below w.heap.size w (((((((y2.setCell ⟨w.heap.size, 0, none⟩ x0).setCell ⟨w.heap.size, 1, none⟩ x1).setCell ⟨w.heap.size, 2, none⟩ x2).setCell ⟨w.heap.size, 3, none⟩ x3).setCell ⟨w.heap.size, 4, none⟩ x4).setCell ⟨w.heap.size, 5, none⟩ x5).setCell ⟨w.heap.size, 6, none⟩ x6)) := fun x0 x1 x2 x3 x4 x5 x6 => by
    refine ⟨⟨ownS_mono ?_ hz, ownS_mono ?_ hz, ow.2.2⟩, ?_⟩
    · exact ownsRow_setCell_other (ownsRow_setCell_other (ownsRow_setCell_other (ownsRow_setCell_other (ownsRow_setCell_other (ownsRow_setCell_other (ownsRow_setCell_other ow.1 n1 _) n1 _) n1 _) n1 _) n1 _) n1 _) n1 _
    · exact ownsRow_setCell_other (ownsRow_setCell_other (ownsRow_setCell_other (ownsRow_setCell_other (ownsRow_setCell_other (ownsRow_setCell_other (ownsRow_setCell_other ow.2.1 n2 _) n2 _) n2 _) n2 _) n2 _) n2 _) n2 _
    · exact (((((((chainB b1.out bb).setCell (Nat.le_refl _) _).setCell (Nat.le_refl _) _).setCell (Nat.le_refl _) _).setCell (Nat.le_refl _) _).setCell (Nat.le_refl _) _).setCell (Nat.le_refl _) _).setCell (Nat.le_refl _) _
  have HOk : Hid (ShkOk o) := ok
  clear s1 bs1 s2 g2 bb HW HC ow ok R2 n1 n2 hz
  go_wp2_with fail
  refine bodyPost_ret (v := .agg #[.string o.k, .int .i64 o.at_, .slice q1 o.ns.length c1, .slice q2 o.cs.length c2, .int .i64 o.ix, .string o.s, .string o.v]) (by simp [results, Tryz.results24, go_sem, d0, d1, d2, d3, d4, d5, d6]) rfl ?_
  exact ⟨⟨o, q1, c1, q2, c2, rfl, (HB.out _ _ _ _ _ _ _).1, HOk.out⟩, (HB.out _ _ _ _ _ _ _).2⟩
theorem sbB_le (o : Shw) : (sbB o).size ≤ 990 := by
  unfold sbB
  split
  · rename_i h
    obtain ⟨p1, p2, p3, p4, p5, p6, -⟩ := sbOk_parts h
    have l1 := lfT_le p4
    have l2 := putB_size o.ix
    have l3 := putTextB_le o.s (by omega)
    have l4 := putTextB_le o.v (by omega)
    unfold sbT
    rw [ByteArray.size_append, ByteArray.size_append, ByteArray.size_append]
    omega
  · exact Nat.zero_le _
set_option maxHeartbeats 4000000 in
theorem drawShownRead_any (B : Nat) (a : Option Addr) (len cap : Nat) (w : World) (hlen : len ≤ 1048576) (hB : B ≤ w.heap.size) (hc : CodeAt B a len w) :
    Calls Tryz.prog 26 #[.slice a len cap] w fun e w' => (∃ t : ByteArray, e = .returned (.string t) ∧ t.size ≤ 991) ∧ Below w.heap.size w w' := by
  have HC : Hid (CodeAt B a len w) := hc
  clear hc
  go_enter Tryz.func26, Tryz.ntmps26
  go_wp2_with fail
  refine (source_any B a len cap w hlen hB HC.out).mono ?_
  rintro e y1 ⟨rfl, s1, bs1⟩
  go_wp2_with fail
  refine (l07Shown_any B w.heap.size a len cap y1 s1).mono ?_
  rintro e y2 ⟨⟨o, q1, c1, q2, c2, rfl, ow, ok⟩, s2, g2⟩
  have bb : Below w.heap.size w y2 := below_touch bs1 g2 (Nat.le_refl _)
  have k6 := ok.2.2.2.2.2.1
  have k7 := ok.2.2.2.2.2.2
  have hT : Calls Tryz.prog 33 #[.agg #[.string o.k, .int .i64 o.at_, .slice q1 o.ns.length c1, .slice q2 o.cs.length c2, .int .i64 o.ix, .string o.s, .string o.v]] y2 fun e w' => e = .returned (.string (sbB o)) ∧ Below y2.heap.size y2 w' := by
    obtain ⟨e1, d1, r1, m1, t1⟩ := ownS_form ow.1
    obtain ⟨e2, d2, r2, m2, t2⟩ := ownS_form ow.2.1
    cases r1
    cases r2
    exact specShownBytes_any o _ _ _ _ y2 t1 t2 (by omega) (by omega) m1 m2 ok.le
  have hz := sbB_le o
  generalize sbB o = X at *
  go_wp2_with fail
  refine hT.mono ?_
  rintro e y3 ⟨rfl, b3⟩
  have s3 := s2.below b3
  have bb3 := chainB bb b3
  clear hT s1 bs1 s2 g2 b3 bb ow ok k6 k7
  go_wp2_with fail
  refine (n_any B w.heap.size a len cap 4 y3 s3 (by omega)).mono ?_
  rintro e y4 ⟨⟨q, rfl, q0, q1, -⟩, s4, g4⟩
  have HB4 : Hid (Below w.heap.size w y4) := below_touch bb3 g4 (Nat.le_refl _)
  clear s3 bb3 g4
  by_cases e0 : q = 0
  · subst e0
    go_wp2_with fail
    refine (spoilT_any B w.heap.size a len cap X y4 s4 (by omega)).mono ?_
    rintro e y5 ⟨⟨u, rfl, hu⟩, s5, g5⟩
    have HB5 : Hid (Below w.heap.size w y5) := below_touch HB4.out g5 (Nat.le_refl _)
    have hu2 : u.size ≤ 991 := by omega
    clear s5 g5 s4
    go_wp2_with fail
    go_ret
    exact ⟨⟨u, rfl, hu2⟩, HB5.out⟩
  by_cases e1 : q = 1
  · subst e1
    have hw : IntKind.i64.wrap ((X.size : Int) + 1) = (X.size : Int) + 1 := by rw [IntKind.wrap_i64]; omega
    go_wp2_with fail
    refine (n_any B w.heap.size a len cap ((X.size : Int) + 1) y4 s4 (by omega)).mono ?_
    rintro e y5 ⟨⟨m, rfl, m0, m1, m2⟩, s5, g5⟩
    have HB5 : Hid (Below w.heap.size w y5) := below_touch HB4.out g5 (Nat.le_refl _)
    obtain ⟨M, rfl⟩ := Int.eq_ofNat_of_zero_le m0
    have hM : M ≤ X.size := by
      by_cases h : 1 < (X.size : Int) + 1
      · have := m1 h; omega
      · have := m2 (by omega); omega
    have hsl : ∀ wx, (Instr.slice 9 (.string X) none (some (.int .i64 (M : Int))) none).run Tryz.prog wx = .ok (.string (X.extract 0 M)) wx := fun wx => by
      rw [run_slice_string_h (P := Tryz.prog) wx 9 X Tryz.underlying9 .i64 (M : Int) (by omega) (by omega)]
      rfl
    have hu2 : (X.extract 0 M).size ≤ 991 := by rw [ByteArray.size_extract]; omega
    generalize X.extract 0 M = U at *
    clear s5 g5 s4 m1 m2
    go_wp2_with fail
    go_ret
    exact ⟨⟨U, rfl, hu2⟩, HB5.out⟩
  · have b0 : (q == 0) = false := beq_eq_false_iff_ne.2 e0
    have b1 : (q == 1) = false := beq_eq_false_iff_ne.2 e1
    have hu2 : X.size ≤ 991 := by omega
    go_wp2_with fail
    go_ret
    exact ⟨⟨X, rfl, hu2⟩, HB4.out⟩
end Go.Proofs.YtnomkcbcjaagmabGreatDoor
