/-
  The law FnTomb returns true: what a Tomb's text, TombRead, LeafKind and TombRight answer of drawn codes.
  Conditions: the codes lie there; errors.errorType holds the handle of the type error.
-/
import Derived.Test.YtnomkcbcjaagmabDoorRows
import Derived.Test.YtnomkcbcjaagmabDoorBytes
import Derived.Test.YtnomkcbcjaagmabDoorSlASlBOwnS
import Derived.Test.YtnomkcbcjaagmabDoorBxKGrKTakes
import Derived.Test.YtnomkcbcjaagmabDoorSrc
import Derived.Test.YtnomkcbcjaagmabDoorDraws
import Derived.Test.YtnomkcbcjaagmabDoorDrawKit
import Derived.Test.YtnomkcbcjaagmabDoorTmbMath
import Derived.Test.YtnomkcbcjaagmabDoorFldTb
import Derived.Test.YtnomkcbcjaagmabDoorFldTr
import Derived.Test.YtnomkcbcjaagmabDoorImplTb
import Derived.Test.YtnomkcbcjaagmabDoorImplTr
import Derived.Test.YtnomkcbcjaagmabDoorLeafKFldRise
import Derived.Test.YtnomkcbcjaagmabDoorFldMath
import Derived.Test.YtnomkcbcjaagmabDoorFldL
import Derived.Test.YtnomkcbcjaagmabDoorDrawSm
import Derived.Test.YtnomkcbcjaagmabDoorDrawTb
import Derived.Handy
import Derived.WalkSpells
import Derived.OwnWalk
import Derived.Laws.StructEq
import Derived.Deep.RegionHeld3
import Derived.Deep.Cut
namespace Go.Proofs.YtnomkcbcjaagmabDoor
open Go.RowKit Go.Lib
set_option linter.unusedVariables false
set_option maxRecDepth 20000

theorem neq_tout (r f y a c : Int) (w : World) : (binOp .neq 53 (.agg #[.int .i64 r, .int .i64 f, .int .i64 y, .int .i64 a, .int .i64 c]) (.agg #[.int .i64 r, .int .i64 f, .int .i64 y, .int .i64 a, .int .i64 c])).run Tryd.prog w = .ok (.bool false) w := by
  rw [run_neq_struct, run_equalIn_agg w 9999 53 _ _ (by kernel_rfl) (by kernel_rfl)]
  have hF : Tryd.prog.fieldsOf 53 = Tryd.prog.fieldsOf 53 := rfl
  conv at hF => rhs; simp only [Program.fieldsOf, Tryd.underlying53]
  rw [hF]
  simp [go_sem, Op.eqFields]
theorem lk_one (D : ByteArray) (h : D.size = 32) : lkB (one101 ++ D) = 1 := by
  have hz : (one101 ++ D).size = 33 := by rw [ByteArray.size_append, h]; rfl
  have hh : (one101 ++ D).data.toList.head? = some 101 := by rw [ByteArray.data_append, Array.toList_append]; rfl
  have hi : isRl (one101 ++ D) = true := by unfold isRl; rw [hz, hh]; rfl
  unfold lkB
  rw [if_pos hi]
theorem lk_leaf {k : ByteArray} {at_ : Int} {fs : List Fld} (h : rwB k at_ fs = true) : lkB (lfB k at_ fs) = 1 := by
  have e : lfB k at_ fs = one101 ++ digB (lfT k at_ fs) := if_pos h
  rw [e]
  exact lk_one _ (digB_size _)
theorem lf_kind (k : ByteArray) (at_ : Int) (fs : List Fld) : lfB k at_ fs = ByteArray.empty ∨ lkB (lfB k at_ fs) = 1 := by
  cases h : rwB k at_ fs with
  | true => exact .inr (lk_leaf h)
  | false => exact .inl (if_neg (by rw [h]; exact Bool.false_ne_true))
set_option maxHeartbeats 8000000 in
theorem fnTomb_any (a0 : Option Addr) (len0 cap0 : Nat) (a1 : Option Addr) (len1 cap1 : Nat) (w : World) (hl0 : len0 ≤ 1048576) (hl1 : len1 ≤ 1048576)
    (hc0 : CodeAt w.heap.size a0 len0 w) (hc1 : CodeAt w.heap.size a1 len1 w) (hg : Laid w) :
    Calls Tryd.prog 4 #[.slice a0 len0 cap0, .slice a1 len1 cap1] w fun e w' => e = .returned (.bool true) ∧ Below w.heap.size w w' := by
  have HC0 : Hid (CodeAt w.heap.size a0 len0 w) := hc0
  have HC1 : Hid (CodeAt w.heap.size a1 len1 w) := hc1
  have HG : Hid (Laid w) := hg
  clear hc0 hc1 hg
  have d1 : decide (1048576 < (len0 : Int)) = false := by simp; omega
  have d2 : decide (1048576 < (len1 : Int)) = false := by simp; omega
  go_enter Tryd.func4, Tryd.ntmps4
  go_wp2_with fail
  refine (drawTombText_any w.heap.size a0 len0 cap0 w hl0 (Nat.le_refl _) HC0.out).mono ?_
  rintro e w1 ⟨⟨r, f, y, t, rfl⟩, b1⟩
  obtain ⟨v1, hv1⟩ : ∃ v1, v1 = w1.alloc (.cells #[.int .i64 r, .int .i64 f, .int .i64 y, .int .i64 t] 48) := ⟨_, rfl⟩
  have HV1 : Hid (v1 = w1.alloc (.cells #[.int .i64 r, .int .i64 f, .int .i64 y, .int .i64 t] 48)) := hv1
  have K1 : Hid (Bxs v1 w1.heap.size 48 #[.int .i64 r, .int .i64 f, .int .i64 y, .int .i64 t]) := by rw [hv1]; exact Bxs.new _ _ _
  have B1 : Hid (Below w.heap.size w v1) := by rw [hv1]; exact alB b1 _
  clear hv1 b1
  have hTT : ∀ x, Calls Tryd.prog 24 #[.agg #[.int .i64 r, .int .i64 f, .int .i64 y, .int .i64 t]] x fun e w' => e = .returned (.string (tmT ⟨r, f, y, t⟩)) ∧ Below x.heap.size x w' := fun x => implTombText_any ⟨r, f, y, t⟩ x
  go_wp2_with fail
  rw [← HV1.out]
  refine (hTT v1).mono ?_
  rintro e w2 ⟨rfl, b2⟩
  have B2 : Hid (Below w.heap.size w w2) := chainB B1.out b2
  have K2 : Hid (Bxs w2 w1.heap.size 48 #[.int .i64 r, .int .i64 f, .int .i64 y, .int .i64 t]) := K1.out.below b2
  obtain ⟨Z5, hZ5⟩ : ∃ Z5, Z5 = w1.heap.size := ⟨_, rfl⟩
  rw [← hZ5] at K2
  rw [← hZ5]
  clear b2 HV1 K1 B1 hZ5 hTT
  go_wp2_with fail
  refine (drawTombRead_any w.heap.size a1 len1 cap1 w2 hl1 B2.out.size (HC1.out.below B2.out)).mono ?_
  rintro e w3 ⟨⟨u, rfl, hu⟩, b3⟩
  have B3 : Hid (Below w.heap.size w w3) := chainB B2.out b3
  have K3 : Hid (Bxs w3 Z5 48 #[.int .i64 r, .int .i64 f, .int .i64 y, .int .i64 t]) := K2.out.below b3
  clear b3 B2 K2
  have hTR : Calls Tryd.prog 26 #[.string u] w3 fun e w' => e = .returned (tmO (trO u) (trC u)) ∧ Below w3.heap.size w3 w' := implTombRead_any u w3 (by unfold maxLen; omega) (HG.out.below B3.out)
  have hTS : ∀ x, Calls Tryd.prog 29 #[.string u] x fun e w' => e = .returned (tmO (trO u) (trC u)) ∧ Below x.heap.size x w' := fun x => specTombRead_any u x (by unfold maxLen; omega)
  have HSo : Hid (trC u = 0 → tmT (trO u) = u) := fun h => by
    obtain ⟨-, s1, s2, s3⟩ := tr_sound h
    rw [s3]; unfold tmT; rw [if_pos s1]; exact s2
  unfold tmO at hTR hTS
  obtain ⟨TR, hTRe⟩ : ∃ TR, TR = trO u := ⟨_, rfl⟩
  rw [← hTRe] at hTR hTS HSo
  clear hTRe
  generalize trC u = C at *
  obtain ⟨p1, p2, p3, p4⟩ := TR
  dsimp only at hTR hTS
  go_wp2_with fail
  refine hTR.mono ?_
  rintro e w4 ⟨rfl, b4⟩
  obtain ⟨v4, hv4⟩ : ∃ v4, v4 = w4.alloc (.cells #[.int .i64 p1, .int .i64 p2, .int .i64 p3, .int .i64 p4, .int .i64 C] 53) := ⟨_, rfl⟩
  have HV4 : Hid (v4 = w4.alloc (.cells #[.int .i64 p1, .int .i64 p2, .int .i64 p3, .int .i64 p4, .int .i64 C] 53)) := hv4
  obtain ⟨Z8, hZ8⟩ : ∃ Z8, Z8 = w4.heap.size := ⟨_, rfl⟩
  have HZ8 : Hid (Z8 = w4.heap.size) := hZ8
  have L4 : Hid (Bxs v4 Z8 53 #[.int .i64 p1, .int .i64 p2, .int .i64 p3, .int .i64 p4, .int .i64 C]) := by rw [hv4, hZ8]; exact Bxs.new _ _ _
  have B4 : Hid (Below w.heap.size w v4) := by rw [hv4]; exact alB (chainB B3.out b4) _
  have K4 : Hid (Bxs v4 Z5 48 #[.int .i64 r, .int .i64 f, .int .i64 y, .int .i64 t]) := by rw [hv4]; exact (K3.out.below b4).alloc _
  clear hv4 b4 B3 K3 hTR hZ8
  go_wp2_with fail
  rw [← HV4.out, ← HZ8.out]
  refine (drawLeafKind_any w.heap.size a1 len1 cap1 v4 hl1 B4.out.size (HC1.out.below B4.out)).mono ?_
  rintro e w5 ⟨⟨kt, rfl, hkt⟩, b5⟩
  have B5 : Hid (Below w.heap.size w w5) := chainB B4.out b5
  have K5 : Hid (∀ x, Below w5.heap.size w5 x → Bxs x Z5 48 #[.int .i64 r, .int .i64 f, .int .i64 y, .int .i64 t] ∧ Bxs x Z8 53 #[.int .i64 p1, .int .i64 p2, .int .i64 p3, .int .i64 p4, .int .i64 C]) := fun x hx => ⟨(K4.out.below b5).below hx, (L4.out.below b5).below hx⟩
  have HLx : Hid (∀ x, Below w5.heap.size w5 x → Laid x) := fun x hx => HG.out.below (chainB B5.out hx)
  clear b5 B4 K4 L4 HV4 HZ8
  have HX : Hid (∀ x, Below w5.heap.size w5 x → x.cell? ⟨Z5, 0, none⟩ = some (.int .i64 r) ∧ x.cell? ⟨Z5, 1, none⟩ = some (.int .i64 f) ∧ x.cell? ⟨Z5, 2, none⟩ = some (.int .i64 y) ∧ x.cell? ⟨Z5, 3, none⟩ = some (.int .i64 t) ∧ x.cell? ⟨Z8, 0, none⟩ = some (.int .i64 p1) ∧ x.cell? ⟨Z8, 1, none⟩ = some (.int .i64 p2) ∧ x.cell? ⟨Z8, 2, none⟩ = some (.int .i64 p3) ∧ x.cell? ⟨Z8, 3, none⟩ = some (.int .i64 p4) ∧ x.cell? ⟨Z8, 4, none⟩ = some (.int .i64 C)) := fun x hx => ⟨(K5.out x hx).1.cell 0, (K5.out x hx).1.cell 1, (K5.out x hx).1.cell 2, (K5.out x hx).1.cell 3, (K5.out x hx).2.cell 0, (K5.out x hx).2.cell 1, (K5.out x hx).2.cell 2, (K5.out x hx).2.cell 3, (K5.out x hx).2.cell 4⟩
  have BR : Hid (Below w5.heap.size w5 w5.drew) := (Below.refl _ _).drew
  have hne := neq_tout
  have hku := lk_raw (T := ⟨r, f, y, t⟩)
  have htr := tr_raw (T := ⟨r, f, y, t⟩)
  have hrz := tmRaw_size ⟨r, f, y, t⟩
  have hmT : tmT ⟨r, f, y, t⟩ = if tmB ⟨r, f, y, t⟩ = true then tmRaw ⟨r, f, y, t⟩ else ByteArray.empty := rfl
  have hxz := tmT_size ⟨r, f, y, t⟩
  have QT : Hid (∀ x, Below w5.heap.size w5 x → Calls Tryd.prog 28 #[.agg #[.int .i64 r, .int .i64 f, .int .i64 y, .int .i64 t]] x fun e x1 => e = .returned (.string (tmT ⟨r, f, y, t⟩)) ∧ Below w5.heap.size w5 x1) := fun x hb => (specTombText_any ⟨r, f, y, t⟩ x).mono (by rintro e x1 ⟨rfl, b⟩; exact ⟨rfl, chainB hb b⟩)
  have QR : Hid (∀ x, Below w5.heap.size w5 x → Calls Tryd.prog 29 #[.string u] x fun e x1 => e = .returned (.agg #[.int .i64 p1, .int .i64 p2, .int .i64 p3, .int .i64 p4, .int .i64 C]) ∧ Below w5.heap.size w5 x1) := fun x hb => (hTS x).mono (by rintro e x1 ⟨rfl, b⟩; exact ⟨rfl, chainB hb b⟩)
  have QK : Hid (∀ x, Below w5.heap.size w5 x → Calls Tryd.prog 30 #[.string kt] x fun e x1 => e = .returned (.int .i64 (lkB kt)) ∧ Below w5.heap.size w5 x1) := fun x hb => (implLeafKind_any kt x (by unfold maxLen; omega) (HLx.out x hb)).mono (by rintro e x1 ⟨rfl, b⟩; exact ⟨rfl, chainB hb b⟩)
  have QL : Hid (∀ x, Below w5.heap.size w5 x → Calls Tryd.prog 31 #[.string kt] x fun e x1 => e = .returned (.int .i64 (lkB kt)) ∧ Below w5.heap.size w5 x1) := fun x hb => (specLeafKind_any kt x (by unfold maxLen; omega)).mono (by rintro e x1 ⟨rfl, b⟩; exact ⟨rfl, chainB hb b⟩)
  have QG : Hid (∀ x, Below w5.heap.size w5 x → Calls Tryd.prog 32 #[.agg #[.int .i64 r, .int .i64 f, .int .i64 y, .int .i64 t]] x fun e x1 => e = .returned (.bool (tmB ⟨r, f, y, t⟩)) ∧ Below w5.heap.size w5 x1) := fun x hb => (implTombRight_any ⟨r, f, y, t⟩ x).mono (by rintro e x1 ⟨rfl, b⟩; exact ⟨rfl, chainB hb b⟩)
  have QH : Hid (∀ x, Below w5.heap.size w5 x → Calls Tryd.prog 33 #[.agg #[.int .i64 r, .int .i64 f, .int .i64 y, .int .i64 t]] x fun e x1 => e = .returned (.bool (tmB ⟨r, f, y, t⟩)) ∧ Below w5.heap.size w5 x1) := fun x hb => (specTombRight_any ⟨r, f, y, t⟩ x).mono (by rintro e x1 ⟨rfl, b⟩; exact ⟨rfl, chainB hb b⟩)
  have QX : Hid (∀ x, Below w5.heap.size w5 x → Calls Tryd.prog 26 #[.string (tmT ⟨r, f, y, t⟩)] x fun e x1 => e = .returned (.agg #[.int .i64 (trO (tmT ⟨r, f, y, t⟩)).r, .int .i64 (trO (tmT ⟨r, f, y, t⟩)).f, .int .i64 (trO (tmT ⟨r, f, y, t⟩)).y, .int .i64 (trO (tmT ⟨r, f, y, t⟩)).a, .int .i64 (trC (tmT ⟨r, f, y, t⟩))]) ∧ Below w5.heap.size w5 x1) := fun x hb => (implTombRead_any (tmT ⟨r, f, y, t⟩) x (by unfold maxLen; omega) (HLx.out x hb)).mono (by rintro e x1 ⟨rfl, b⟩; exact ⟨rfl, chainB hb b⟩)
  have QM : Hid (∀ x, Below w5.heap.size w5 x → Calls Tryd.prog 30 #[.string (tmT ⟨r, f, y, t⟩)] x fun e x1 => e = .returned (.int .i64 (lkB (tmT ⟨r, f, y, t⟩))) ∧ Below w5.heap.size w5 x1) := fun x hb => (implLeafKind_any (tmT ⟨r, f, y, t⟩) x (by unfold maxLen; omega) (HLx.out x hb)).mono (by rintro e x1 ⟨rfl, b⟩; exact ⟨rfl, chainB hb b⟩)
  have QU : Hid (∀ x, Below w5.heap.size w5 x → Calls Tryd.prog 24 #[.agg #[.int .i64 p1, .int .i64 p2, .int .i64 p3, .int .i64 p4]] x fun e x1 => e = .returned (.string (tmT ⟨p1, p2, p3, p4⟩)) ∧ Below w5.heap.size w5 x1) := fun x hb => (implTombText_any ⟨p1, p2, p3, p4⟩ x).mono (by rintro e x1 ⟨rfl, b⟩; exact ⟨rfl, chainB hb b⟩)
  have HEm : Hid (tmB ⟨r, f, y, t⟩ = false → tmT ⟨r, f, y, t⟩ = ByteArray.empty) := fun h => by rw [hmT, if_neg (by rw [h]; exact Bool.false_ne_true)]
  have HFu : Hid (tmB ⟨r, f, y, t⟩ = true → (trC (tmT ⟨r, f, y, t⟩) = 0 ∧ trO (tmT ⟨r, f, y, t⟩) = ⟨r, f, y, t⟩) ∧ lkB (tmT ⟨r, f, y, t⟩) = 2 ∧ 1 ≤ (tmT ⟨r, f, y, t⟩).size) := fun h => by rw [hmT, if_pos h]; exact ⟨htr h, hku h, hrz.1⟩
  clear hku htr hrz hmT hTS
  generalize tmT ⟨p1, p2, p3, p4⟩ = V at *
  generalize tmB ⟨r, f, y, t⟩ = G at *
  generalize tmT ⟨r, f, y, t⟩ = X at *
  generalize lkB kt = KK at *
  generalize lkB X = KX at *
  go_upto_region 8 with fail
  refine wp_region_held_drew (S := fun w' => w'.cell? ⟨Z5, 0, none⟩ = some (.int .i64 r) ∧ w'.cell? ⟨Z5, 1, none⟩ = some (.int .i64 f) ∧ w'.cell? ⟨Z5, 2, none⟩ = some (.int .i64 y) ∧ w'.cell? ⟨Z5, 3, none⟩ = some (.int .i64 t) ∧ w'.cell? ⟨Z8, 0, none⟩ = some (.int .i64 p1) ∧ w'.cell? ⟨Z8, 1, none⟩ = some (.int .i64 p2) ∧ w'.cell? ⟨Z8, 2, none⟩ = some (.int .i64 p3) ∧ w'.cell? ⟨Z8, 3, none⟩ = some (.int .i64 p4) ∧ w'.cell? ⟨Z8, 4, none⟩ = some (.int .i64 C)) (by kernel_rfl) (HX.out _ BR.out) (fun hHeld => ?_)
  refine take_at 0 (v := ?_) rfl (by kernel_rfl) (by kernel_rfl) (by kernel_rfl) (fun _ _ _ h => h) hHeld (Or.inl ⟨by rfl, ?_⟩) ?_
  rotate_left
  · (intro w hSw; (try dsimp only at hSw); go_simp; try with_reducible rfl)
  simp only [Act.put, List.setIfInBounds_toArray, List.set_cons_zero, List.set_cons_succ]
  refine take_at 1 (v := ?_) rfl (by kernel_rfl) (by kernel_rfl) (by kernel_rfl) (fun _ _ _ h => h) hHeld (Or.inl ⟨by rfl, ?_⟩) ?_
  rotate_left
  · (intro w hSw; (try dsimp only at hSw); go_simp; try with_reducible rfl)
  simp only [Act.put, List.setIfInBounds_toArray, List.set_cons_zero, List.set_cons_succ]
  refine ready_at 2 rfl (by kernel_rfl) (fun K hK => ?_)
  go_simp
  (go_at_call 28; with_reducible refine (QT.out _ BR.out).mono ?_; rintro e x1 ⟨rfl, z1⟩)
  refine hK.out _ _ (HX.out _ z1) (fun hHeld => ?_)
  clear hK K
  try simp only [Act.put, List.setIfInBounds_toArray, List.set_cons_zero, List.set_cons_succ]
  refine take_at 3 (v := ?_) rfl (by kernel_rfl) (by kernel_rfl) (by kernel_rfl) (fun _ _ _ h => h) hHeld (Or.inl ⟨by rfl, ?_⟩) ?_
  rotate_left
  · (intro w hSw; (try dsimp only at hSw); go_simp; try with_reducible rfl)
  simp only [Act.put, List.setIfInBounds_toArray, List.set_cons_zero, List.set_cons_succ]
  refine take_at 4 (v := ?_) rfl (by kernel_rfl) (by kernel_rfl) (by kernel_rfl) (fun _ _ _ h => h) hHeld (Or.inl ⟨by rfl, ?_⟩) ?_
  rotate_left
  · (intro w hSw; (try dsimp only at hSw); go_simp; try with_reducible rfl)
  simp only [Act.put, List.setIfInBounds_toArray, List.set_cons_zero, List.set_cons_succ]
  refine take_at 5 (v := ?_) rfl (by kernel_rfl) (by kernel_rfl) (by kernel_rfl) (fun _ _ _ h => h) hHeld (Or.inl ⟨by rfl, ?_⟩) ?_
  rotate_left
  · (intro w hSw; (try dsimp only at hSw); go_simp; try with_reducible rfl)
  simp only [Act.put, List.setIfInBounds_toArray, List.set_cons_zero, List.set_cons_succ]
  refine take_at 6 (v := ?_) rfl (by kernel_rfl) (by kernel_rfl) (by kernel_rfl) (fun _ _ _ h => h) hHeld (Or.inl ⟨by rfl, ?_⟩) ?_
  rotate_left
  · (intro w hSw; (try dsimp only at hSw); go_simp; try with_reducible rfl)
  simp only [Act.put, List.setIfInBounds_toArray, List.set_cons_zero, List.set_cons_succ]
  refine ready_at 7 rfl (by kernel_rfl) (fun K hK => ?_)
  go_simp
  (go_at_call 29; with_reducible refine (QR.out _ z1).mono ?_; rintro e x2 ⟨rfl, z2⟩)
  refine hK.out _ _ (HX.out _ z2) (fun hHeld => ?_)
  clear hK K
  try simp only [Act.put, List.setIfInBounds_toArray, List.set_cons_zero, List.set_cons_succ]
  refine take_at 8 (v := ?_) rfl (by kernel_rfl) (by kernel_rfl) (by kernel_rfl) (fun _ _ _ h => h) hHeld (Or.inl ⟨by rfl, ?_⟩) ?_
  rotate_left
  · (intro w hSw; (try dsimp only at hSw); go_simp; try with_reducible rfl)
  simp only [Act.put, List.setIfInBounds_toArray, List.set_cons_zero, List.set_cons_succ]
  refine take_at 9 (v := ?_) rfl (by kernel_rfl) (by kernel_rfl) (by kernel_rfl) (fun _ _ _ h => h) hHeld (Or.inl ⟨by rfl, ?_⟩) ?_
  rotate_left
  · (intro w hSw; (try dsimp only at hSw); go_simp; try with_reducible rfl)
  simp only [Act.put, List.setIfInBounds_toArray, List.set_cons_zero, List.set_cons_succ]
  refine take_at 10 (v := ?_) rfl (by kernel_rfl) (by kernel_rfl) (by kernel_rfl) (fun _ _ _ h => h) hHeld (Or.inl ⟨by rfl, ?_⟩) ?_
  rotate_left
  · (intro w hSw; (try dsimp only at hSw); go_simp; try with_reducible rfl)
  simp only [Act.put, List.setIfInBounds_toArray, List.set_cons_zero, List.set_cons_succ]
  refine take_at 11 (v := ?_) rfl (by kernel_rfl) (by kernel_rfl) (by kernel_rfl) (fun _ _ _ h => h) hHeld (Or.inl ⟨by rfl, ?_⟩) ?_
  rotate_left
  · (intro w hSw; (try dsimp only at hSw); go_simp; try with_reducible rfl)
  simp only [Act.put, List.setIfInBounds_toArray, List.set_cons_zero, List.set_cons_succ]
  refine take_at 13 (v := ?_) rfl (by kernel_rfl) (by kernel_rfl) (by kernel_rfl) (fun _ _ _ h => h) hHeld (Or.inl ⟨by rfl, ?_⟩) ?_
  rotate_left
  · (intro w hSw; (try dsimp only at hSw); go_simp; try with_reducible rfl)
  simp only [Act.put, List.setIfInBounds_toArray, List.set_cons_zero, List.set_cons_succ]
  refine ready_at 12 rfl (by kernel_rfl) (fun K hK => ?_)
  go_simp
  (go_at_call 30; with_reducible refine (QK.out _ z2).mono ?_; rintro e x3 ⟨rfl, z3⟩)
  refine hK.out _ _ (HX.out _ z3) (fun hHeld => ?_)
  clear hK K
  try simp only [Act.put, List.setIfInBounds_toArray, List.set_cons_zero, List.set_cons_succ]
  refine ready_at 14 rfl (by kernel_rfl) (fun K hK => ?_)
  go_simp
  (go_at_call 31; with_reducible refine (QL.out _ z3).mono ?_; rintro e x4 ⟨rfl, z4⟩)
  refine hK.out _ _ (HX.out _ z4) (fun hHeld => ?_)
  clear hK K
  try simp only [Act.put, List.setIfInBounds_toArray, List.set_cons_zero, List.set_cons_succ]
  refine take_at 15 (v := ?_) rfl (by kernel_rfl) (by kernel_rfl) (by kernel_rfl) (fun _ _ _ h => h) hHeld (Or.inl ⟨by rfl, ?_⟩) ?_
  rotate_left
  · (intro w hSw; (try dsimp only at hSw); go_simp; try with_reducible rfl)
  simp only [Act.put, List.setIfInBounds_toArray, List.set_cons_zero, List.set_cons_succ]
  refine take_at 16 (v := ?_) rfl (by kernel_rfl) (by kernel_rfl) (by kernel_rfl) (fun _ _ _ h => h) hHeld (Or.inl ⟨by rfl, ?_⟩) ?_
  rotate_left
  · (intro w hSw; (try dsimp only at hSw); go_simp; try with_reducible rfl)
  simp only [Act.put, List.setIfInBounds_toArray, List.set_cons_zero, List.set_cons_succ]
  refine take_at 17 (v := ?_) rfl (by kernel_rfl) (by kernel_rfl) (by kernel_rfl) (fun _ _ _ h => h) hHeld (Or.inl ⟨by rfl, ?_⟩) ?_
  rotate_left
  · (intro w hSw; (try dsimp only at hSw); go_simp; try with_reducible rfl)
  simp only [Act.put, List.setIfInBounds_toArray, List.set_cons_zero, List.set_cons_succ]
  refine take_at 18 (v := ?_) rfl (by kernel_rfl) (by kernel_rfl) (by kernel_rfl) (fun _ _ _ h => h) hHeld (Or.inl ⟨by rfl, ?_⟩) ?_
  rotate_left
  · (intro w hSw; (try dsimp only at hSw); go_simp; try with_reducible rfl)
  simp only [Act.put, List.setIfInBounds_toArray, List.set_cons_zero, List.set_cons_succ]
  refine take_at 20 (v := ?_) rfl (by kernel_rfl) (by kernel_rfl) (by kernel_rfl) (fun _ _ _ h => h) hHeld (Or.inl ⟨by rfl, ?_⟩) ?_
  rotate_left
  · (intro w hSw; (try dsimp only at hSw); go_simp; try with_reducible rfl)
  simp only [Act.put, List.setIfInBounds_toArray, List.set_cons_zero, List.set_cons_succ]
  refine ready_at 19 rfl (by kernel_rfl) (fun K hK => ?_)
  go_simp
  (go_at_call 32; with_reducible refine (QG.out _ z4).mono ?_; rintro e x5 ⟨rfl, z5⟩)
  refine hK.out _ _ (HX.out _ z5) (fun hHeld => ?_)
  clear hK K
  try simp only [Act.put, List.setIfInBounds_toArray, List.set_cons_zero, List.set_cons_succ]
  refine ready_at 21 rfl (by kernel_rfl) (fun K hK => ?_)
  go_simp
  (go_at_call 33; with_reducible refine (QH.out _ z5).mono ?_; rintro e x6 ⟨rfl, z6⟩)
  refine hK.out _ _ (HX.out _ z6) (fun hHeld => ?_)
  clear hK K
  try simp only [Act.put, List.setIfInBounds_toArray, List.set_cons_zero, List.set_cons_succ]
  refine take_at 22 (v := ?_) rfl (by kernel_rfl) (by kernel_rfl) (by kernel_rfl) (fun _ _ _ h => h) hHeld (Or.inl ⟨by rfl, ?_⟩) ?_
  rotate_left
  · (intro w hSw; (try dsimp only at hSw); go_simp; try with_reducible rfl)
  simp only [Act.put, List.setIfInBounds_toArray, List.set_cons_zero, List.set_cons_succ]
  refine take_at 23 (v := ?_) rfl (by kernel_rfl) (by kernel_rfl) (by kernel_rfl) (fun _ _ _ h => h) hHeld (Or.inl ⟨by rfl, ?_⟩) ?_
  rotate_left
  · (intro w hSw; (try dsimp only at hSw); go_simp; try with_reducible rfl)
  simp only [Act.put, List.setIfInBounds_toArray, List.set_cons_zero, List.set_cons_succ]
  refine wpAnyH_done (by kernel_rfl) ?_ _
  clear hHeld
  go_upto_region 10 with fail
  have HXa : Hid (∀ x, Below x6.heap.size x6 x → Below w5.heap.size w5 x) := fun x hx => chainB z6 hx
  have BR6 : Hid (Below w5.heap.size w5 x6.drew) := z6.drew
  have TAIL : Hid (∀ x, Below w5.heap.size w5 x → Below w.heap.size w x) := fun x hx => chainB B5.out hx
  cases G with
  | false =>
    obtain rfl := HEm.out rfl
    have e1 : ByteArray.empty.toList.isEmpty = true := by rw [ByteArray.toList_eq]; rfl
    have e2 : ByteArray.empty.toList = ([] : List UInt8) := by rw [ByteArray.toList_eq]; rfl
    refine wp_region_held_drew (S := fun w' => w'.cell? ⟨Z5, 0, none⟩ = some (.int .i64 r) ∧ w'.cell? ⟨Z5, 1, none⟩ = some (.int .i64 f) ∧ w'.cell? ⟨Z5, 2, none⟩ = some (.int .i64 y) ∧ w'.cell? ⟨Z5, 3, none⟩ = some (.int .i64 t) ∧ w'.cell? ⟨Z8, 0, none⟩ = some (.int .i64 p1) ∧ w'.cell? ⟨Z8, 1, none⟩ = some (.int .i64 p2) ∧ w'.cell? ⟨Z8, 2, none⟩ = some (.int .i64 p3) ∧ w'.cell? ⟨Z8, 3, none⟩ = some (.int .i64 p4) ∧ w'.cell? ⟨Z8, 4, none⟩ = some (.int .i64 C)) (by kernel_rfl) (HX.out _ BR6.out) (fun hHeld => ?_)
    refine take_at 0 (v := ?_) rfl (by kernel_rfl) (by kernel_rfl) (by kernel_rfl) (fun _ _ _ h => h) hHeld (Or.inl ⟨by rfl, ?_⟩) ?_
    rotate_left
    · (intro w hSw; (try dsimp only at hSw); go_simp; try with_reducible rfl)
    simp only [Act.put, List.setIfInBounds_toArray, List.set_cons_zero, List.set_cons_succ]
    refine take_at 1 (v := ?_) rfl (by kernel_rfl) (by kernel_rfl) (by kernel_rfl) (fun _ _ _ h => h) hHeld (Or.inl ⟨by rfl, ?_⟩) ?_
    rotate_left
    · (intro w hSw; (try dsimp only at hSw); go_simp; try with_reducible rfl)
    simp only [Act.put, List.setIfInBounds_toArray, List.set_cons_zero, List.set_cons_succ]
    refine take_at 2 (v := ?_) rfl (by kernel_rfl) (by kernel_rfl) (by kernel_rfl) (fun _ _ _ h => h) hHeld (Or.inl ⟨by rfl, ?_⟩) ?_
    rotate_left
    · (intro w hSw; (try dsimp only at hSw); go_simp; try with_reducible rfl)
    simp only [Act.put, List.setIfInBounds_toArray, List.set_cons_zero, List.set_cons_succ]
    refine take_at 3 (v := undef) rfl (by kernel_rfl) (by kernel_rfl) (by kernel_rfl) (fun _ _ _ h => h) hHeld (Or.inr ⟨by rfl, rfl⟩) ?_
    simp only [Act.put, List.setIfInBounds_toArray, List.set_cons_zero, List.set_cons_succ]
    refine take_at 4 (v := undef) rfl (by kernel_rfl) (by kernel_rfl) (by kernel_rfl) (fun _ _ _ h => h) hHeld (Or.inr ⟨by rfl, rfl⟩) ?_
    simp only [Act.put, List.setIfInBounds_toArray, List.set_cons_zero, List.set_cons_succ]
    refine take_at 5 (v := undef) rfl (by kernel_rfl) (by kernel_rfl) (by kernel_rfl) (fun _ _ _ h => h) hHeld (Or.inr ⟨by rfl, rfl⟩) ?_
    simp only [Act.put, List.setIfInBounds_toArray, List.set_cons_zero, List.set_cons_succ]
    refine take_at 6 (v := undef) rfl (by kernel_rfl) (by kernel_rfl) (by kernel_rfl) (fun _ _ _ h => h) hHeld (Or.inr ⟨by rfl, rfl⟩) ?_
    simp only [Act.put, List.setIfInBounds_toArray, List.set_cons_zero, List.set_cons_succ]
    refine take_at 7 (v := undef) rfl (by kernel_rfl) (by kernel_rfl) (by kernel_rfl) (fun _ _ _ h => h) hHeld (Or.inr ⟨by rfl, rfl⟩) ?_
    simp only [Act.put, List.setIfInBounds_toArray, List.set_cons_zero, List.set_cons_succ]
    refine take_at 8 (v := undef) rfl (by kernel_rfl) (by kernel_rfl) (by kernel_rfl) (fun _ _ _ h => h) hHeld (Or.inr ⟨by rfl, rfl⟩) ?_
    simp only [Act.put, List.setIfInBounds_toArray, List.set_cons_zero, List.set_cons_succ]
    refine take_at 9 (v := undef) rfl (by kernel_rfl) (by kernel_rfl) (by kernel_rfl) (fun _ _ _ h => h) hHeld (Or.inr ⟨by rfl, rfl⟩) ?_
    simp only [Act.put, List.setIfInBounds_toArray, List.set_cons_zero, List.set_cons_succ]
    refine take_at 10 (v := undef) rfl (by kernel_rfl) (by kernel_rfl) (by kernel_rfl) (fun _ _ _ h => h) hHeld (Or.inr ⟨by rfl, rfl⟩) ?_
    simp only [Act.put, List.setIfInBounds_toArray, List.set_cons_zero, List.set_cons_succ]
    refine take_at 11 (v := undef) rfl (by kernel_rfl) (by kernel_rfl) (by kernel_rfl) (fun _ _ _ h => h) hHeld (Or.inr ⟨by rfl, rfl⟩) ?_
    simp only [Act.put, List.setIfInBounds_toArray, List.set_cons_zero, List.set_cons_succ]
    refine take_at 12 (v := undef) rfl (by kernel_rfl) (by kernel_rfl) (by kernel_rfl) (fun _ _ _ h => h) hHeld (Or.inr ⟨by rfl, rfl⟩) ?_
    simp only [Act.put, List.setIfInBounds_toArray, List.set_cons_zero, List.set_cons_succ]
    refine take_at 13 (v := ?_) rfl (by kernel_rfl) (by kernel_rfl) (by kernel_rfl) (fun _ _ _ h => h) hHeld (Or.inl ⟨by rfl, ?_⟩) ?_
    rotate_left
    · (intro w hSw; (try dsimp only at hSw); go_simp; try with_reducible rfl)
    simp only [Act.put, List.setIfInBounds_toArray, List.set_cons_zero, List.set_cons_succ]
    refine wpAnyH_done (by kernel_rfl) ?_ _
    clear hHeld e1 e2
    go_wp2_with fail
    refine (drawRowLeaf_any w.heap.size a0 len0 cap0 x6.drew hl0 (TAIL.out _ BR6.out).size (HC0.out.below (TAIL.out _ BR6.out))).mono ?_
    rintro e y1 ⟨⟨rk, rt, rs, rv, rfl, own, ok⟩, c1⟩
    have c1 := chainB BR6.out c1
    obtain ⟨qq, cq, rfl, hcq, hf⟩ := ownF_form own
    have hL := specRowLeaf_any rk rt qq cq rs y1 hf (by have := ok.2.2.1.2; omega) hcq (by have := ok.1; unfold maxLen; omega) ok.le
    have hlk := lf_kind rk rt rs
    have hls := lfB_size rk rt rs
    generalize lfB rk rt rs = L at *
    go_wp2_with fail
    refine hL.mono ?_
    rintro e y2 ⟨rfl, c2⟩
    have c2 := chainB c1 c2
    have QN : Hid (∀ x, Below w5.heap.size w5 x → Calls Tryd.prog 30 #[.string L] x fun e x1 => e = .returned (.int .i64 (lkB L)) ∧ Below w5.heap.size w5 x1) := fun x hb => (implLeafKind_any L x (by unfold maxLen; omega) (HLx.out x hb)).mono (by rintro e x1 ⟨rfl, b⟩; exact ⟨rfl, chainB hb b⟩)
    clear hL own ok hf hcq c1
    obtain ⟨k0, k1, k2, k3, k4, k5, k6, k7, k8⟩ := HX.out _ c2
    cases hC : (C != 0) with
    | true =>
      rcases hlk with rfl | hlk
      · have e0 : ByteArray.empty.toList = ([] : List UInt8) := by rw [ByteArray.toList_eq]; rfl
        have HE : Hid (Below w.heap.size w y2) := TAIL.out _ c2
        go_wp2_with fail
        go_ret
        exact ⟨rfl, HE.out⟩
      · cases hm : L.toList.isEmpty with
        | true =>
          have HE : Hid (Below w.heap.size w y2) := TAIL.out _ c2
          go_wp2_with fail
          go_ret
          exact ⟨rfl, HE.out⟩
        | false =>
          go_wp2_with fail
          refine (QN.out _ c2).mono ?_
          rintro e y3 ⟨rfl, c3⟩
          have HE : Hid (Below w.heap.size w y3) := TAIL.out _ c3
          rw [hlk]
          go_wp2_with fail
          go_ret
          exact ⟨rfl, HE.out⟩
    | false =>
      have hC0 : C = 0 := by simpa using hC
      have hVu : V = u := HSo.out hC0
      subst hVu
      go_wp2_with fail
      refine (QU.out _ c2).mono ?_
      rintro e y3 ⟨rfl, c3⟩
      rcases hlk with rfl | hlk
      · have e0 : ByteArray.empty.toList = ([] : List UInt8) := by rw [ByteArray.toList_eq]; rfl
        have HE : Hid (Below w.heap.size w y3) := TAIL.out _ c3
        go_wp2_with fail
        go_ret
        exact ⟨rfl, HE.out⟩
      · cases hm : L.toList.isEmpty with
        | true =>
          have HE : Hid (Below w.heap.size w y3) := TAIL.out _ c3
          go_wp2_with fail
          go_ret
          exact ⟨rfl, HE.out⟩
        | false =>
          go_wp2_with fail
          refine (QN.out _ c3).mono ?_
          rintro e y4 ⟨rfl, c4⟩
          have HE : Hid (Below w.heap.size w y4) := TAIL.out _ c4
          rw [hlk]
          go_wp2_with fail
          go_ret
          exact ⟨rfl, HE.out⟩
  | true =>
    obtain ⟨⟨e3, e4⟩, rfl, e5⟩ := HFu.out rfl
    have e1 : X.toList.isEmpty = false := by rw [ba_nil]; exact decide_eq_false (by omega)
    rw [e3, e4] at QX
    clear e3 e4
    refine wp_region_held_drew (S := fun w' => w'.cell? ⟨Z5, 0, none⟩ = some (.int .i64 r) ∧ w'.cell? ⟨Z5, 1, none⟩ = some (.int .i64 f) ∧ w'.cell? ⟨Z5, 2, none⟩ = some (.int .i64 y) ∧ w'.cell? ⟨Z5, 3, none⟩ = some (.int .i64 t) ∧ w'.cell? ⟨Z8, 0, none⟩ = some (.int .i64 p1) ∧ w'.cell? ⟨Z8, 1, none⟩ = some (.int .i64 p2) ∧ w'.cell? ⟨Z8, 2, none⟩ = some (.int .i64 p3) ∧ w'.cell? ⟨Z8, 3, none⟩ = some (.int .i64 p4) ∧ w'.cell? ⟨Z8, 4, none⟩ = some (.int .i64 C)) (by kernel_rfl) (HX.out _ BR6.out) (fun hHeld => ?_)
    refine take_at 0 (v := ?_) rfl (by kernel_rfl) (by kernel_rfl) (by kernel_rfl) (fun _ _ _ h => h) hHeld (Or.inl ⟨by rfl, ?_⟩) ?_
    rotate_left
    · (intro w hSw; (try dsimp only at hSw); go_simp; try with_reducible rfl)
    simp only [Act.put, List.setIfInBounds_toArray, List.set_cons_zero, List.set_cons_succ]
    refine take_at 1 (v := ?_) rfl (by kernel_rfl) (by kernel_rfl) (by kernel_rfl) (fun _ _ _ h => h) hHeld (Or.inl ⟨by rfl, ?_⟩) ?_
    rotate_left
    · (intro w hSw; (try dsimp only at hSw); go_simp; try with_reducible rfl)
    simp only [Act.put, List.setIfInBounds_toArray, List.set_cons_zero, List.set_cons_succ]
    refine take_at 2 (v := ?_) rfl (by kernel_rfl) (by kernel_rfl) (by kernel_rfl) (fun _ _ _ h => h) hHeld (Or.inl ⟨by rfl, ?_⟩) ?_
    rotate_left
    · (intro w hSw; (try dsimp only at hSw); go_simp; try with_reducible rfl)
    simp only [Act.put, List.setIfInBounds_toArray, List.set_cons_zero, List.set_cons_succ]
    refine take_at 3 (v := ?_) rfl (by kernel_rfl) (by kernel_rfl) (by kernel_rfl) (fun _ _ _ h => h) hHeld (Or.inl ⟨by rfl, ?_⟩) ?_
    rotate_left
    · (intro w hSw; (try dsimp only at hSw); go_simp; try with_reducible rfl)
    simp only [Act.put, List.setIfInBounds_toArray, List.set_cons_zero, List.set_cons_succ]
    refine take_at 5 (v := ?_) rfl (by kernel_rfl) (by kernel_rfl) (by kernel_rfl) (fun _ _ _ h => h) hHeld (Or.inl ⟨by rfl, ?_⟩) ?_
    rotate_left
    · (intro w hSw; (try dsimp only at hSw); go_simp; try with_reducible rfl)
    simp only [Act.put, List.setIfInBounds_toArray, List.set_cons_zero, List.set_cons_succ]
    refine take_at 6 (v := ?_) rfl (by kernel_rfl) (by kernel_rfl) (by kernel_rfl) (fun _ _ _ h => h) hHeld (Or.inl ⟨by rfl, ?_⟩) ?_
    rotate_left
    · (intro w hSw; (try dsimp only at hSw); go_simp; try with_reducible rfl)
    simp only [Act.put, List.setIfInBounds_toArray, List.set_cons_zero, List.set_cons_succ]
    refine ready_at 4 rfl (by kernel_rfl) (fun K hK => ?_)
    go_simp
    (go_at_call 26; with_reducible refine (QX.out _ BR6.out).mono ?_; rintro e x7 ⟨rfl, z7⟩)
    refine hK.out _ _ (HX.out _ z7) (fun hHeld => ?_)
    clear hK K
    refine take_at 7 (v := ?_) rfl (by kernel_rfl) (by kernel_rfl) (by kernel_rfl) (fun _ _ _ h => h) hHeld (Or.inl ⟨by rfl, ?_⟩) ?_
    rotate_left
    · (intro w hSw; (try dsimp only at hSw); go_simp; try with_reducible rfl)
    simp only [Act.put, List.setIfInBounds_toArray, List.set_cons_zero, List.set_cons_succ]
    refine take_at 8 (v := ?_) rfl (by kernel_rfl) (by kernel_rfl) (by kernel_rfl) (fun _ _ _ h => h) hHeld (Or.inl ⟨by rfl, ?_⟩) ?_
    rotate_left
    · (intro w hSw; (try dsimp only at hSw); go_simp; try with_reducible rfl)
    simp only [Act.put, List.setIfInBounds_toArray, List.set_cons_zero, List.set_cons_succ]
    refine take_at 9 (v := ?_) rfl (by kernel_rfl) (by kernel_rfl) (by kernel_rfl) (fun _ _ _ h => h) hHeld (Or.inl ⟨by rfl, ?_⟩) ?_
    rotate_left
    · (intro w hSw; (try dsimp only at hSw); go_simp; try with_reducible rfl)
    simp only [Act.put, List.setIfInBounds_toArray, List.set_cons_zero, List.set_cons_succ]
    refine ready_at 10 rfl (by kernel_rfl) (fun K hK => ?_)
    go_simp
    (go_at_call 30; with_reducible refine (QM.out _ z7).mono ?_; rintro e x8 ⟨rfl, z8⟩)
    refine hK.out _ _ (HX.out _ z8) (fun hHeld => ?_)
    clear hK K
    try simp only [Act.put, List.setIfInBounds_toArray, List.set_cons_zero, List.set_cons_succ]
    refine take_at 11 (v := ?_) rfl (by kernel_rfl) (by kernel_rfl) (by kernel_rfl) (fun _ _ _ h => h) hHeld (Or.inl ⟨by rfl, ?_⟩) ?_
    rotate_left
    · (intro w hSw; (try dsimp only at hSw); go_simp; try with_reducible rfl)
    simp only [Act.put, List.setIfInBounds_toArray, List.set_cons_zero, List.set_cons_succ]
    refine take_at 12 (v := ?_) rfl (by kernel_rfl) (by kernel_rfl) (by kernel_rfl) (fun _ _ _ h => h) hHeld (Or.inl ⟨by rfl, ?_⟩) ?_
    rotate_left
    · (intro w hSw; (try dsimp only at hSw); go_simp; try with_reducible rfl)
    simp only [Act.put, List.setIfInBounds_toArray, List.set_cons_zero, List.set_cons_succ]
    refine take_at 13 (v := ?_) rfl (by kernel_rfl) (by kernel_rfl) (by kernel_rfl) (fun _ _ _ h => h) hHeld (Or.inl ⟨by rfl, ?_⟩) ?_
    rotate_left
    · (intro w hSw; (try dsimp only at hSw); go_simp; try with_reducible rfl)
    simp only [Act.put, List.setIfInBounds_toArray, List.set_cons_zero, List.set_cons_succ]
    refine wpAnyH_done (by kernel_rfl) ?_ _
    clear hHeld
    go_wp2_with fail
    refine (drawRowLeaf_any w.heap.size a0 len0 cap0 x8 hl0 (TAIL.out _ z8).size (HC0.out.below (TAIL.out _ z8))).mono ?_
    rintro e y1 ⟨⟨rk, rt, rs, rv, rfl, own, ok⟩, c1⟩
    have c1 := chainB z8 c1
    obtain ⟨qq, cq, rfl, hcq, hf⟩ := ownF_form own
    have hL := specRowLeaf_any rk rt qq cq rs y1 hf (by have := ok.2.2.1.2; omega) hcq (by have := ok.1; unfold maxLen; omega) ok.le
    have hlk := lf_kind rk rt rs
    have hls := lfB_size rk rt rs
    generalize lfB rk rt rs = L at *
    go_wp2_with fail
    refine hL.mono ?_
    rintro e y2 ⟨rfl, c2⟩
    have c2 := chainB c1 c2
    have QN : Hid (∀ x, Below w5.heap.size w5 x → Calls Tryd.prog 30 #[.string L] x fun e x1 => e = .returned (.int .i64 (lkB L)) ∧ Below w5.heap.size w5 x1) := fun x hb => (implLeafKind_any L x (by unfold maxLen; omega) (HLx.out x hb)).mono (by rintro e x1 ⟨rfl, b⟩; exact ⟨rfl, chainB hb b⟩)
    clear hL own ok hf hcq c1
    obtain ⟨k0, k1, k2, k3, k4, k5, k6, k7, k8⟩ := HX.out _ c2
    cases hC : (C != 0) with
    | true =>
      rcases hlk with rfl | hlk
      · have e0 : ByteArray.empty.toList = ([] : List UInt8) := by rw [ByteArray.toList_eq]; rfl
        have HE : Hid (Below w.heap.size w y2) := TAIL.out _ c2
        go_wp2_with fail
        go_ret
        exact ⟨rfl, HE.out⟩
      · cases hm : L.toList.isEmpty with
        | true =>
          have HE : Hid (Below w.heap.size w y2) := TAIL.out _ c2
          go_wp2_with fail
          go_ret
          exact ⟨rfl, HE.out⟩
        | false =>
          go_wp2_with fail
          refine (QN.out _ c2).mono ?_
          rintro e y3 ⟨rfl, c3⟩
          have HE : Hid (Below w.heap.size w y3) := TAIL.out _ c3
          rw [hlk]
          go_wp2_with fail
          go_ret
          exact ⟨rfl, HE.out⟩
    | false =>
      have hC0 : C = 0 := by simpa using hC
      have hVu : V = u := HSo.out hC0
      subst hVu
      go_wp2_with fail
      refine (QU.out _ c2).mono ?_
      rintro e y3 ⟨rfl, c3⟩
      rcases hlk with rfl | hlk
      · have e0 : ByteArray.empty.toList = ([] : List UInt8) := by rw [ByteArray.toList_eq]; rfl
        have HE : Hid (Below w.heap.size w y3) := TAIL.out _ c3
        go_wp2_with fail
        go_ret
        exact ⟨rfl, HE.out⟩
      · cases hm : L.toList.isEmpty with
        | true =>
          have HE : Hid (Below w.heap.size w y3) := TAIL.out _ c3
          go_wp2_with fail
          go_ret
          exact ⟨rfl, HE.out⟩
        | false =>
          go_wp2_with fail
          refine (QN.out _ c3).mono ?_
          rintro e y4 ⟨rfl, c4⟩
          have HE : Hid (Below w.heap.size w y4) := TAIL.out _ c4
          rw [hlk]
          go_wp2_with fail
          go_ret
          exact ⟨rfl, HE.out⟩
end Go.Proofs.YtnomkcbcjaagmabDoor
