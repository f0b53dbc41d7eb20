/-
  Parts of one proof, laid as one text: FldF, FldL, SpecTg; what each says stands at its head.
-/
import Derived.Test.YtepmoihgemhjcaaGreatDoorRows
import Derived.Test.YtepmoihgemhjcaaGreatDoorBytesDigMath
import Derived.Test.YtepmoihgemhjcaaGreatDoorTreeMathSlABxKSlBOwnS
import Derived.Test.YtepmoihgemhjcaaGreatDoorTimeBPutMathPutNumJoinedPutTextFldMath
import Derived.Test.YtepmoihgemhjcaaGreatDoorAll2FldC
import Derived.Test.YtepmoihgemhjcaaGreatDoorFldR
import Derived.Test.YtepmoihgemhjcaaGreatDoorFldOMFldO
import Derived.Test.YtepmoihgemhjcaaGreatDoorLgAtKLgAnsLgRtShwKOneKFldBlkRwBlk
import Derived.Test.YtepmoihgemhjcaaGreatDoorFldGSrcDrawsDrawKitAppSSomeDrawTreeScanMath
import Derived.Handy
import Derived.WalkSpells
import Derived.OwnWalk
import Derived.Deep.AppendLies
import Derived.Laws.Concat
import Derived.Deep.RegionHeld3
import Derived.Deep.RegionWith
import Derived.Test.YtepmoihgemhjcaaGreatDoorSpecGNSpecGTFldNFldIsFldTbFldTr
import Derived.Test.YtepmoihgemhjcaaGreatDoorGetValGetTxtNumMathFldRdNumFromTmbMathFldRiseLgMath
import Derived.Deep.Cut
/-
  What the specification's l07Copy and Forget answer.
  Conditions: the cells of Fields hold the fields.
-/
namespace Go.Proofs.YtepmoihgemhjcaaGreatDoor
open Go.RowKit Go.Lib
set_option linter.unusedVariables false
set_option maxRecDepth 20000

theorem copy_flds (w : World) (g : Nat) (hg : w.heap[g]? = some (.cells #[] 103 (0, 0))) (p : Option Addr) (cap : Nat) (fs : List Fld) (hp : FldAt w p fs) (h0 : 0 < fs.length) (hn : fs.length ≤ 1000) :
    ∃ b c w', (Builtin.append_ #[27, 27] 27 #[.slice (some ⟨g, 0, none⟩) 0 0, .slice p fs.length cap]).run Tryz.prog w = .ok (.slice (some ⟨b, 0, none⟩) fs.length c) w' ∧ w'.ownsRow w.heap.size 103 5 (.slice (some ⟨b, 0, none⟩) fs.length c) fs.length (fldRow fs) ∧ Below w.heap.size w w' ∧ fs.length ≤ c := by
  obtain ⟨i0, hi, hz0, hz1, hz2⟩ := info_parts infoFld
  obtain ⟨b, off, rfl, hb, _⟩ := hp 0 h0
  obtain ⟨v', w', h1, h2, h3⟩ := run_append_arg_grows (P := Tryz.prog) w 27 27 103 i0 _ 5 72 Tryz.underlying27 hi hz0 hz1 hz2 rfl (by omega) ⟨g, 0, none⟩ 0 0 [] rfl (fun j u hu => by simp at hu) ⟨b, off, none⟩ fs.length cap (fldRow fs) (fldRow_len fs) (fun j u hu => by
    have hj : j < fs.length * 5 := by
      rcases Nat.lt_or_ge j (fs.length * 5) with q | q
      · exact q
      · rw [List.getElem?_eq_none (by rw [fldRow_len]; exact q)] at hu; cases hu
    have hadd : (⟨b, off, none⟩ : Addr).add j = ⟨b, off + j, none⟩ := by unfold Addr.add; split <;> simp_all
    have hc := hp.at (j / 5) (by omega)
    have hr := fldRow_at fs (j / 5) (by omega)
    rw [hadd]
    obtain ⟨c0, c1, c2, c3, c4⟩ := hc
    obtain ⟨r0, r1, r2, r3, r4⟩ := hr
    rw [Nat.add_assoc] at c1 c2 c3 c4
    have hm : j % 5 < 5 := Nat.mod_lt _ (by omega)
    have hd : j = j / 5 * 5 + j % 5 := by omega
    match hq : j % 5, hm with
    | 0, _ => rw [hq, Nat.add_zero] at hd; rw [← hd] at c0 r0; rw [c0, ← hu, r0]
    | 1, _ => rw [hq] at hd; rw [← hd] at c1 r1; rw [c1, ← hu, r1]
    | 2, _ => rw [hq] at hd; rw [← hd] at c2 r2; rw [c2, ← hu, r2]
    | 3, _ => rw [hq] at hd; rw [← hd] at c3 r3; rw [c3, ← hu, r3]
    | 4, _ => rw [hq] at hd; rw [← hd] at c4 r4; rw [c4, ← hu, r4]) (by omega) (by unfold maxLen; omega) (by omega)
  rw [Nat.zero_add, List.nil_append] at h2
  have h2' := h2
  rcases h2'.2 with ⟨hv, hn0⟩ | ⟨b', c', cur, rfl, hb1, hb2, hb3, -⟩
  · omega
  · exact ⟨_, _, w', h1, h2, below_none h3, hb3⟩
set_option maxHeartbeats 1000000 in
theorem l07Copy_any (k : ByteArray) (at_ : Int) (q : Option Addr) (c : Nat) (fs : List Fld) (w : World) (hf : FldAt w q fs) (h0 : 0 < fs.length) (hn : fs.length ≤ 1000) :
    Calls Tryz.prog 76 #[.agg #[.string k, .int .i64 at_, .slice q fs.length c]] w fun e w' => ∃ b cc, e = .returned (.agg #[.string k, .int .i64 at_, .slice (some ⟨b, 0, none⟩) fs.length cc]) ∧ w'.ownsRow w.heap.size 103 5 (.slice (some ⟨b, 0, none⟩) fs.length cc) fs.length (fldRow fs) ∧ Below w.heap.size w w' := by
  obtain ⟨W2, hW2⟩ : ∃ W2, W2 = (w.alloc (.cells #[.string k, .int .i64 at_, .slice q fs.length c] 29)).alloc (.cells #[.string ⟨#[]⟩, .int .i64 0, .slice none 0 0] 29) := ⟨_, rfl⟩
  have HW2 : Hid (W2 = (w.alloc (.cells #[.string k, .int .i64 at_, .slice q fs.length c] 29)).alloc (.cells #[.string ⟨#[]⟩, .int .i64 0, .slice none 0 0] 29)) := hW2
  have hs1 : (w.alloc (.cells #[.string k, .int .i64 at_, .slice q fs.length c] 29)).heap.size = w.heap.size + 1 := by simp
  have hs2 : W2.heap.size = w.heap.size + 2 := by rw [hW2]; simp
  have K0 : Bxs W2 w.heap.size 29 #[.string k, .int .i64 at_, .slice q fs.length c] := by rw [hW2]; exact (Bxs.new _ _ _).alloc _
  have K1 : Bxs W2 (w.heap.size + 1) 29 #[.string ByteArray.empty, .int .i64 0, .slice none 0 0] := by rw [hW2, ← hs1]; exact Bxs.new _ _ _
  have B2 : Below w.heap.size w W2 := by rw [hW2]; exact ((Below.refl _ _).alloc (Nat.le_refl _) _).alloc (by rw [hs1]; omega) _
  have B3 : Below W2.heap.size W2 (W2.alloc (.cells #[] 103)) := (Below.refl _ _).alloc (Nat.le_refl _) _
  obtain ⟨b, cc, y, hrun, hown, hbel, hcc⟩ := copy_flds (W2.alloc (.cells #[] 103)) W2.heap.size (MapKept.heap_alloc W2 _).1 q c fs (hf.below (chainB B2 B3)) h0 hn
  have Ky0 := K0.below (chainB B3 hbel)
  have Ky1 := K1.below (chainB B3 hbel)
  have HE : Hid (∀ x0 x1 x2 x3 : Value, ((((y.setCell ⟨w.heap.size, 2, none⟩ x3).setCell ⟨w.heap.size + 1, 0, none⟩ x0).setCell ⟨w.heap.size + 1, 1, none⟩ x1).setCell ⟨w.heap.size + 1, 2, none⟩ x2).ownsRow w.heap.size 103 5 (.slice (some ⟨b, 0, none⟩) fs.length cc) fs.length (fldRow fs) ∧ Below w.heap.size w ((((y.setCell ⟨w.heap.size, 2, none⟩ x3).setCell ⟨w.heap.size + 1, 0, none⟩ x0).setCell ⟨w.heap.size + 1, 1, none⟩ x1).setCell ⟨w.heap.size + 1, 2, none⟩ x2)) := by
    intro x0 x1 x2 x3
    have n0 := ownF_ne hown Ky0 (by decide)
    have n1 := ownF_ne hown Ky1 (by decide)
    refine ⟨ownS_mono (ownsRow_setCell_other (ownsRow_setCell_other (ownsRow_setCell_other (ownsRow_setCell_other hown n0 _) n1 _) n1 _) n1 _) (by rw [szA]; omega), below_set3 ((chainB B2 (chainB B3 hbel)).setCell (Nat.le_refl _) _) (by omega) _ _ _⟩
  have u2 : (W2.alloc (.cells #[] 103)).cell? ⟨w.heap.size, 2, none⟩ = some (.slice q fs.length c) := (K0.alloc _).cell 2
  obtain ⟨x0, x1, x2⟩ : y.cell? ⟨w.heap.size, 0, none⟩ = some (.string k) ∧ y.cell? ⟨w.heap.size, 1, none⟩ = some (.int .i64 at_) ∧ y.cell? ⟨w.heap.size, 2, none⟩ = some (.slice q fs.length c) := ⟨Ky0.cell 0, Ky0.cell 1, Ky0.cell 2⟩
  obtain ⟨y0, y1, y2⟩ : y.cell? ⟨w.heap.size + 1, 0, none⟩ = some (.string ByteArray.empty) ∧ y.cell? ⟨w.heap.size + 1, 1, none⟩ = some (.int .i64 0) ∧ y.cell? ⟨w.heap.size + 1, 2, none⟩ = some (.slice none 0 0) := ⟨Ky1.cell 0, Ky1.cell 1, Ky1.cell 2⟩
  have f2 := Ky0.fr 2
  have g0 := Ky1.fr 0
  have g1 := Ky1.fr 1
  have g2 := Ky1.fr 2
  clear hown hbel B2 B3 K0 K1 Ky0 Ky1 hf hW2 hs1 hs2
  go_enter Tryz.func76, Tryz.ntmps76
  go_upto_region 1 with fail
  rw [← HW2.out]
  go_wp2_with (at_builtin; refine wpList_append_run rfl _ _ _ rfl _ _ _ _ rfl rfl hrun ?_)
  refine bodyPost_ret (v := .agg #[.string k, .int .i64 at_, .slice (some ⟨b, 0, none⟩) fs.length cc]) (by simp [results, Tryz.results76, go_sem, y0, y1, y2]) rfl ?_
  exact ⟨_, _, rfl, HE.out _ _ _ _⟩
set_option maxHeartbeats 4000000 in
theorem specForget_any (k : ByteArray) (at_ : Int) (q : Option Addr) (c : Nat) (fs : List Fld) (ix : Int) (w : World) (hf : FldAt w q fs) (hn : fs.length ≤ 1048576) (hc : fs.length ≤ c) (hk : k.size ≤ maxLen) (hz : FldsLe fs) :
    Calls Tryz.prog 120 #[.agg #[.string k, .int .i64 at_, .slice q fs.length c], .int .i64 ix] w fun e w' => ∃ v, e = .returned (.agg #[.string (fgK k at_ fs ix), .int .i64 (fgA k at_ fs ix), v, .int .i64 (fgC k at_ fs ix)]) ∧ w'.ownsRow w.heap.size 103 5 v (fgF k at_ fs ix).length (fldRow (fgF k at_ fs ix)) ∧ Below w.heap.size w w' := by
  obtain ⟨W2, hW2⟩ : ∃ W2, W2 = (w.alloc (.cells #[.string k, .int .i64 at_, .slice q fs.length c] 29)).alloc (.cells #[.string ⟨#[]⟩, .int .i64 0, .slice none 0 0, .int .i64 0] 89) := ⟨_, rfl⟩
  have HW2 : Hid (W2 = (w.alloc (.cells #[.string k, .int .i64 at_, .slice q fs.length c] 29)).alloc (.cells #[.string ⟨#[]⟩, .int .i64 0, .slice none 0 0, .int .i64 0] 89)) := hW2
  have hs1 : (w.alloc (.cells #[.string k, .int .i64 at_, .slice q fs.length c] 29)).heap.size = w.heap.size + 1 := by simp
  have HS2 : Hid (W2.heap.size = w.heap.size + 2) := by rw [hW2]; show _ = _; simp
  have K0 : Hid (Bxs W2 w.heap.size 29 #[.string k, .int .i64 at_, .slice q fs.length c]) := by rw [hW2]; exact (Bxs.new _ _ _).alloc _
  have K1 : Hid (Bxs W2 (w.heap.size + 1) 89 #[.string ByteArray.empty, .int .i64 0, .slice none 0 0, .int .i64 0]) := by rw [hW2, ← hs1]; exact Bxs.new _ _ _
  have B2 : Hid (Below w.heap.size w W2) := by rw [hW2]; exact ((Below.refl _ _).alloc (Nat.le_refl _) _).alloc (by rw [hs1]; omega) _
  have HT : Hid (FldAt W2 q fs) := hf.below B2.out
  have HX : Hid (∀ x, Below W2.heap.size W2 x → x.cell? ⟨w.heap.size, 0, none⟩ = some (.string k) ∧ x.cell? ⟨w.heap.size, 1, none⟩ = some (.int .i64 at_) ∧ x.cell? ⟨w.heap.size, 2, none⟩ = some (.slice q fs.length c)) := fun x hb => ⟨(K0.out.below hb).cell 0, (K0.out.below hb).cell 1, (K0.out.below hb).cell 2⟩
  have HR : Hid (∀ x, Bxs x (w.heap.size + 1) 89 #[.string ByteArray.empty, .int .i64 0, .slice none 0 0, .int .i64 0] → x.cell? ⟨w.heap.size + 1, 0, none⟩ = some (.string ByteArray.empty) ∧ x.cell? ⟨w.heap.size + 1, 1, none⟩ = some (.int .i64 0) ∧ x.cell? ⟨w.heap.size + 1, 2, none⟩ = some (.slice none 0 0) ∧ x.cell? ⟨w.heap.size + 1, 3, none⟩ = some (.int .i64 0) ∧ x.frozen? ⟨w.heap.size + 1, 0, none⟩ = false ∧ x.frozen? ⟨w.heap.size + 1, 1, none⟩ = false ∧ x.frozen? ⟨w.heap.size + 1, 2, none⟩ = false ∧ x.frozen? ⟨w.heap.size + 1, 3, none⟩ = false) := fun x hb => ⟨hb.cell 0, hb.cell 1, hb.cell 2, hb.cell 3, hb.fr 0, hb.fr 1, hb.fr 2, hb.fr 3⟩
  have HEr : Hid (∀ (y : World) (c : Int) (x0 x1 x2 x3 : Value), Below W2.heap.size W2 y → fgC k at_ fs ix = c → c ≠ 0 → ∃ v, Ending.returned (.agg #[.string ByteArray.empty, .int .i64 0, .slice none 0 0, .int .i64 c]) = .returned (.agg #[.string (fgK k at_ fs ix), .int .i64 (fgA k at_ fs ix), v, .int .i64 (fgC k at_ fs ix)]) ∧ ((((y.setCell ⟨w.heap.size + 1, 0, none⟩ x0).setCell ⟨w.heap.size + 1, 1, none⟩ x1).setCell ⟨w.heap.size + 1, 2, none⟩ x2).setCell ⟨w.heap.size + 1, 3, none⟩ x3).ownsRow w.heap.size 103 5 v (fgF k at_ fs ix).length (fldRow (fgF k at_ fs ix)) ∧ Below w.heap.size w ((((y.setCell ⟨w.heap.size + 1, 0, none⟩ x0).setCell ⟨w.heap.size + 1, 1, none⟩ x1).setCell ⟨w.heap.size + 1, 2, none⟩ x2).setCell ⟨w.heap.size + 1, 3, none⟩ x3)) := by
    intro y c x0 x1 x2 x3 hb hc hn
    have hn' : ¬ fgC k at_ fs ix = 0 := by rw [hc]; exact hn
    rw [show fgK k at_ fs ix = ByteArray.empty from if_neg hn', show fgA k at_ fs ix = 0 from if_neg hn', show fgF k at_ fs ix = [] from if_neg hn', hc]
    exact ⟨_, rfl, World.ownsRow_nil _ _ _ _, below_set4 (chainB B2.out hb) (by omega) _ _ _ _⟩
  have hD := specRowRight_any k at_ q c fs W2 HT.out hn hc hk hz
  obtain ⟨t0, t1, t2⟩ := HX.out W2 (Below.refl _ _)
  rw [HW2.out] at t0 t1 t2
  clear hW2 hf hs1
  cases hr : rwB k at_ fs with
  | false =>
    have hC : Hid (fgC k at_ fs ix = 1) := if_neg (by rw [hr]; exact Bool.false_ne_true)
    rw [hr] at hD
    clear hr
    go_enter Tryz.func120, Tryz.ntmps120
    go_wp2_with fail
    rw [← HW2.out]
    refine hD.mono ?_
    rintro e y1 ⟨rfl, b1⟩
    go_wp2_with fail
    refine (l07Ill_any 1 y1).mono ?_
    rintro e y2 ⟨rfl, b2⟩
    have b2 := chainB b1 b2
    have HE := fun x0 x1 x2 x3 => HEr.out y2 1 x0 x1 x2 x3 b2 hC.out (by omega)
    obtain ⟨r0, r1, r2, r3, f0, f1, f2, f3⟩ := HR.out y2 (K1.out.below b2)
    clear b1 b2 HEr HR HX t0 t1 t2
    go_wp2_with fail
    refine bodyPost_ret (v := .agg #[.string ByteArray.empty, .int .i64 0, .slice none 0 0, .int .i64 1]) (by simp [results, Tryz.results120, go_sem, r0, r1, r2, r3]) rfl ?_
    exact HE _ _ _ _
  | true =>
  rw [hr] at hD
  obtain ⟨-, -, ⟨l1, l3⟩, -, -⟩ := rwB_parts hr
  have HI : Hid (∀ x, Calls Tryz.prog 78 #[.int .i64 ix, .int .i64 0, .int .i64 ((fs.length : Int) - 1)] x fun e w' => e = .returned (.bool (decide (0 ≤ ix ∧ ix ≤ (fs.length : Int) - 1))) ∧ w' = x) := fun x => l07Is_any _ _ _ x
  by_cases hin : 0 ≤ ix ∧ ix ≤ (fs.length : Int) - 1
  case neg =>
    have hC : Hid (fgC k at_ fs ix = 6) := by show _ = _; unfold fgC; rw [if_pos hr, if_neg hin]
    rw [decide_eq_false hin] at HI
    clear hr hin
    go_enter Tryz.func120, Tryz.ntmps120
    go_wp2_with fail
    rw [← HW2.out]
    refine hD.mono ?_
    rintro e y1 ⟨rfl, b1⟩
    clear t0 t1 t2
    obtain ⟨t0, t1, t2⟩ := HX.out y1 b1
    go_wp2_with fail
    refine (HI.out y1).mono ?_
    rintro e y2 ⟨rfl, rfl⟩
    go_wp2_with fail
    refine (l07Ill_any 6 y2).mono ?_
    rintro e y3 ⟨rfl, b2⟩
    have b2 := chainB b1 b2
    have HE := fun x0 x1 x2 x3 => HEr.out y3 6 x0 x1 x2 x3 b2 hC.out (by omega)
    obtain ⟨r0, r1, r2, r3, f0, f1, f2, f3⟩ := HR.out y3 (K1.out.below b2)
    clear b1 b2 HEr HR HX t0 t1 t2
    go_wp2_with fail
    refine bodyPost_ret (v := .agg #[.string ByteArray.empty, .int .i64 0, .slice none 0 0, .int .i64 6]) (by simp [results, Tryz.results120, go_sem, r0, r1, r2, r3]) rfl ?_
    exact HE _ _ _ _
  rw [decide_eq_true hin] at HI
  obtain ⟨I, hI⟩ := Int.eq_ofNat_of_zero_le hin.1
  subst hI
  have hIl : I < fs.length := by omega
  have i1 : (I : Int) < fs.length := by omega
  obtain ⟨b, off, rfl, hb0⟩ := HT.out.some_of (by omega)
  have HC : Hid (∀ x, Below W2.heap.size W2 x → x.cell? ⟨b, off + I * 5, none⟩ = some (.string fs[I].n) ∧ x.cell? ⟨b, off + I * 5 + 1, none⟩ = some (.string fs[I].c) ∧ x.cell? ⟨b, off + I * 5 + 2, none⟩ = some (.string fs[I].s) ∧ x.cell? ⟨b, off + I * 5 + 3, none⟩ = some (.string fs[I].v) ∧ x.cell? ⟨b, off + I * 5 + 4, none⟩ = some (.bool fs[I].g)) := fun x hx => (HT.out.below hx).at I hIl
  have HG : Hid (fs.getD I fldD = fs[I]) := by show _ = _; rw [List.getD_eq_getElem?_getD, List.getElem?_eq_getElem hIl]; rfl
  have HFC : Hid (fgC k at_ fs I = if fs[I].g = true then 7 else 0) := by show _ = _; unfold fgC; rw [if_pos hr, if_pos hin, Int.toNat_natCast, HG.out]
  have HFF : Hid (fgC k at_ fs I = 0 → fgF k at_ fs I = fs.set I (goneF fs[I])) := by
    intro h
    show (if _ then _ else _) = _
    rw [if_pos h, Int.toNat_natCast, HG.out]
  have HGF : Hid (goneF fs[I] = ⟨fs[I].n, fs[I].c, ByteArray.empty, ByteArray.empty, true⟩) := rfl
  clear HG hin
  generalize fs[I].n = fn at *
  generalize fs[I].c = fc at *
  generalize fs[I].s = fss at *
  generalize fs[I].v = fv at *
  generalize goneF fs[I] = GF at *
  cases hgg : fs[I].g with
  | true =>
    rw [hgg] at HC HFC
    have hC : Hid (fgC k at_ fs I = 7) := by show _ = _; rw [HFC.out]; rfl
    clear hr hgg HFC HFF HGF
    go_enter Tryz.func120, Tryz.ntmps120
    go_wp2_with fail
    rw [← HW2.out]
    refine hD.mono ?_
    rintro e y1 ⟨rfl, b1⟩
    clear t0 t1 t2
    obtain ⟨t0, t1, t2⟩ := HX.out y1 b1
    go_wp2_with fail
    refine (HI.out y1).mono ?_
    rintro e y2 ⟨rfl, rfl⟩
    obtain ⟨c0, c1, c2, c3, c4⟩ := HC.out y2 b1
    go_wp2_with fail
    refine (l07Ill_any 7 _).mono ?_
    rintro e y3 ⟨rfl, b2⟩
    have b2 := chainB (alB b1 _) b2
    have HE := fun x0 x1 x2 x3 => HEr.out y3 7 x0 x1 x2 x3 b2 hC.out (by omega)
    obtain ⟨r0, r1, r2, r3, f0, f1, f2, f3⟩ := HR.out y3 (K1.out.below b2)
    clear b1 b2 HEr HR HX t0 t1 t2 c0 c1 c2 c3 c4
    go_wp2_with fail
    refine bodyPost_ret (v := .agg #[.string ByteArray.empty, .int .i64 0, .slice none 0 0, .int .i64 7]) (by simp [results, Tryz.results120, go_sem, r0, r1, r2, r3]) rfl ?_
    exact HE _ _ _ _
  | false =>
    rw [hgg] at HC HFC
    have hC : Hid (fgC k at_ fs I = 0) := by show _ = _; rw [HFC.out]; rfl
    have HK2 : Hid (fgK k at_ fs I = k) := if_pos hC.out
    have HA2 : Hid (fgA k at_ fs I = at_) := if_pos hC.out
    have HF2 : Hid (fgF k at_ fs I = fs.set I GF) := HFF.out hC.out
    clear hr hgg HFC HFF HEr
    go_enter Tryz.func120, Tryz.ntmps120
    go_wp2_with fail
    rw [← HW2.out]
    refine hD.mono ?_
    rintro e y1 ⟨rfl, b1⟩
    clear t0 t1 t2
    obtain ⟨t0, t1, t2⟩ := HX.out y1 b1
    go_wp2_with fail
    refine (HI.out y1).mono ?_
    rintro e y2 ⟨rfl, rfl⟩
    obtain ⟨c0, c1, c2, c3, c4⟩ := HC.out y2 b1
    go_upto_region 6 with fail
    obtain ⟨y3, hy3⟩ : ∃ y3, y3 = y2.alloc (.cells #[.string fn, .string fc, .string fss, .string fv, .bool false] 103) := ⟨_, rfl⟩
    rw [← hy3]
    have b3 : Hid (Below W2.heap.size W2 y3) := by rw [hy3]; exact alB b1 _
    have KY : Hid (Bxs y3 y2.heap.size 103 #[.string fn, .string fc, .string fss, .string fv, .bool false]) := by rw [hy3]; exact Bxs.new _ _ _
    have hsy : Hid (W2.heap.size ≤ y2.heap.size) := b1.size
    clear hy3 t0 t1 t2 c0 c1 c2 c3 c4 b1
    obtain ⟨t0, t1, t2⟩ := HX.out y3 b3.out
    have u4 : y3.cell? ⟨y2.heap.size, 4, none⟩ = some (.bool false) := KY.out.cell 4
    have hCp := l07Copy_any k at_ (some ⟨b, off, none⟩) c fs y3 (HT.out.below b3.out) (by omega) (by omega)
    go_wp2_with fail
    refine hCp.mono ?_
    rintro e y4 ⟨bb, cc, rfl, own4, b4⟩
    clear t0 t1 t2 u4 hCp
    go_upto_region 9 with fail
    obtain ⟨y5, hy5⟩ : ∃ y5, y5 = y4.alloc (.cells #[.string k, .int .i64 at_, .slice (some ⟨bb, 0, none⟩) fs.length cc] 29) := ⟨_, rfl⟩
    rw [← hy5]
    have b5 : Hid (Below W2.heap.size W2 y5) := by rw [hy5]; exact alB (chainB b3.out b4) _
    have KZ : Hid (Bxs y5 y4.heap.size 29 #[.string k, .int .i64 at_, .slice (some ⟨bb, 0, none⟩) fs.length cc]) := by rw [hy5]; exact Bxs.new _ _ _
    have KY5 : Hid (Bxs y5 y2.heap.size 103 #[.string fn, .string fc, .string fss, .string fv, .bool false]) := by rw [hy5]; exact (KY.out.below b4).alloc _
    have own5 : Hid (y5.ownsRow y3.heap.size 103 5 (.slice (some ⟨bb, 0, none⟩) fs.length cc) fs.length (fldRow fs)) := by rw [hy5]; exact own4.alloc _
    have KR5 : Hid (Bxs y5 (w.heap.size + 1) 89 #[.string ByteArray.empty, .int .i64 0, .slice none 0 0, .int .i64 0]) := K1.out.below b5.out
    have HO : Hid (∀ (x0 x1 x2 x3 : Value), (((((set5 y5 bb (I * 5) GF).setCell ⟨w.heap.size + 1, 0, none⟩ x0).setCell ⟨w.heap.size + 1, 1, none⟩ x1).setCell ⟨w.heap.size + 1, 2, none⟩ x2).setCell ⟨w.heap.size + 1, 3, none⟩ x3).ownsRow w.heap.size 103 5 (.slice (some ⟨bb, 0, none⟩) fs.length cc) (fs.set I GF).length (fldRow (fs.set I GF)) ∧ Below w.heap.size w (((((set5 y5 bb (I * 5) GF).setCell ⟨w.heap.size + 1, 0, none⟩ x0).setCell ⟨w.heap.size + 1, 1, none⟩ x1).setCell ⟨w.heap.size + 1, 2, none⟩ x2).setCell ⟨w.heap.size + 1, 3, none⟩ x3)) := by
      intro x0 x1 x2 x3
      have h6 := own_set5 own5.out I GF
      have hlt := (own5.out.lt bb rfl).1
      have hs3 := b3.out.size
      have hs2 := HS2.out
      have n2 : (Value.slice (some ⟨bb, 0, none⟩) fs.length cc).ownBlock ≠ some (w.heap.size + 1) := by simp [Value.ownBlock]; omega
      rw [List.length_set]
      exact ⟨ownS_mono (ownsRow_setCell_other (ownsRow_setCell_other (ownsRow_setCell_other (ownsRow_setCell_other h6 n2 _) n2 _) n2 _) n2 _) (by omega), below_set4 (set5_below (chainB B2.out b5.out) (by omega) _ _) (by omega) _ _ _ _⟩
    have HK6 : Hid (Bxs (set5 y5 bb (I * 5) GF) y4.heap.size 29 #[.string k, .int .i64 at_, .slice (some ⟨bb, 0, none⟩) fs.length cc] ∧ Bxs (set5 y5 bb (I * 5) GF) (w.heap.size + 1) 89 #[.string ByteArray.empty, .int .i64 0, .slice none 0 0, .int .i64 0]) := by
      have e1 := ownF_ne own5.out KZ.out (by decide)
      have e2 := ownF_ne own5.out KR5.out (by decide)
      exact ⟨set5_other KZ.out (by simpa [Value.ownBlock] using e1) _, set5_other KR5.out (by simpa [Value.ownBlock] using e2) _⟩
    have HSt : Hid (set5 y5 bb (I * 5) GF = ((((y5.setCell ⟨bb, I * 5, none⟩ (.string fn)).setCell ⟨bb, I * 5 + 1, none⟩ (.string fc)).setCell ⟨bb, I * 5 + 2, none⟩ (.string ⟨#[]⟩)).setCell ⟨bb, I * 5 + 3, none⟩ (.string ⟨#[]⟩)).setCell ⟨bb, I * 5 + 4, none⟩ (.bool true)) := by show _ = _; rw [HGF.out]; rfl
    obtain ⟨v0, v1, v2⟩ : y5.cell? ⟨y4.heap.size, 0, none⟩ = some (.string k) ∧ y5.cell? ⟨y4.heap.size, 1, none⟩ = some (.int .i64 at_) ∧ y5.cell? ⟨y4.heap.size, 2, none⟩ = some (.slice (some ⟨bb, 0, none⟩) fs.length cc) := ⟨KZ.out.cell 0, KZ.out.cell 1, KZ.out.cell 2⟩
    obtain ⟨w0, w1⟩ : y5.cell? ⟨y2.heap.size, 0, none⟩ = some (.string fn) ∧ y5.cell? ⟨y2.heap.size, 1, none⟩ = some (.string fc) := ⟨KY5.out.cell 0, KY5.out.cell 1⟩
    obtain ⟨⟨k0, k1, k2, k3, k4⟩, g0, g1, g2, g3, g4⟩ : (y5.cell? ⟨bb, I * 5, none⟩ = some (.string fs[I].n) ∧ y5.cell? ⟨bb, I * 5 + 1, none⟩ = some (.string fs[I].c) ∧ y5.cell? ⟨bb, I * 5 + 2, none⟩ = some (.string fs[I].s) ∧ y5.cell? ⟨bb, I * 5 + 3, none⟩ = some (.string fs[I].v) ∧ y5.cell? ⟨bb, I * 5 + 4, none⟩ = some (.bool fs[I].g)) ∧ y5.frozen? ⟨bb, I * 5, none⟩ = false ∧ y5.frozen? ⟨bb, I * 5 + 1, none⟩ = false ∧ y5.frozen? ⟨bb, I * 5 + 2, none⟩ = false ∧ y5.frozen? ⟨bb, I * 5 + 3, none⟩ = false ∧ y5.frozen? ⟨bb, I * 5 + 4, none⟩ = false := by
      have hr := fldRow_at fs I (by omega)
      rw [← own5.out.cellAt (I * 5) (by omega), ← own5.out.cellAt (I * 5 + 1) (by omega), ← own5.out.cellAt (I * 5 + 2) (by omega), ← own5.out.cellAt (I * 5 + 3) (by omega), ← own5.out.cellAt (I * 5 + 4) (by omega)] at hr
      exact ⟨hr, own5.out.frozenAt _, own5.out.frozenAt _, own5.out.frozenAt _, own5.out.frozenAt _, own5.out.frozenAt _⟩
    clear hy5 own4 b4 KY
    go_upto_region 10 with fail
    rw [← HSt.out]
    obtain ⟨r0, r1, r2, r3, f0, f1, f2, f3⟩ := HR.out _ HK6.out.2
    obtain ⟨x0, x1, x2⟩ : (set5 y5 bb (I * 5) GF).cell? ⟨y4.heap.size, 0, none⟩ = some (.string k) ∧ (set5 y5 bb (I * 5) GF).cell? ⟨y4.heap.size, 1, none⟩ = some (.int .i64 at_) ∧ (set5 y5 bb (I * 5) GF).cell? ⟨y4.heap.size, 2, none⟩ = some (.slice (some ⟨bb, 0, none⟩) fs.length cc) := ⟨HK6.out.1.cell 0, HK6.out.1.cell 1, HK6.out.1.cell 2⟩
    clear HSt HK6 v0 v1 v2 w0 w1 k0 k1 k2 k3 k4 g0 g1 g2 g3 g4 own5 KR5 KZ KY5
    generalize set5 y5 bb (I * 5) GF = y6 at *
    go_wp2_with fail
    refine bodyPost_ret (v := .agg #[.string k, .int .i64 at_, .slice (some ⟨bb, 0, none⟩) fs.length cc, .int .i64 0]) (by simp [results, Tryz.results120, go_sem, r0, r1, r2, r3]) rfl ?_
    rw [HK2.out, HA2.out, HF2.out, hC.out]
    exact ⟨_, rfl, HO.out _ _ _ _⟩
end Go.Proofs.YtepmoihgemhjcaaGreatDoor
/-
  What the specification's l07Leaf and RowLeaf answer.
  Conditions: the cells of Fields hold the fields.
-/
namespace Go.Proofs.YtepmoihgemhjcaaGreatDoor
open Go.RowKit Go.Lib
set_option linter.unusedVariables false
set_option maxRecDepth 20000

theorem putB_ten7 (n : Int) : (putB n).size ≤ 10 := by unfold putB; rw [strOfNums_size]; exact putI_len 9 _
theorem lfTo_drop (t : ByteArray) (fs : List Fld) (i : Nat) (h : i < fs.length) : lfTo t (fs.drop i) = lfTo (t ++ putTextB fs[i].n ++ putTextB fs[i].c) (fs.drop (i + 1)) := by
  rw [List.drop_eq_getElem_cons h]; rfl
set_option maxHeartbeats 4000000 in
theorem l07Leaf_any (k : ByteArray) (at_ : Int) (q : Option Addr) (c : Nat) (fs : List Fld) (w : World) (hf : FldAt w q fs) (hc : fs.length ≤ c) (hr : rwB k at_ fs = true) :
    Calls Tryz.prog 77 #[.agg #[.string k, .int .i64 at_, .slice q fs.length c]] w fun e w' => e = .returned (.string (one101 ++ digB (lfT k at_ fs))) ∧ Below w.heap.size w w' := by
  obtain ⟨r1, r2, r3, r4, r5⟩ := rwB_parts hr
  obtain ⟨hl1, hl3⟩ := r3
  have hk1 := nrB_le r1
  have HZ : Hid (∀ i (h : i < fs.length), fs[i].n.size ≤ 20 ∧ fs[i].c.size = 32) := fun i h => by
    obtain ⟨g1, g2, -⟩ := fdB_parts (r4 _ (List.getElem_mem h))
    exact ⟨(nrB_le g1).2, g2⟩
  clear r4 r5 hr r1
  obtain ⟨W1, hW1⟩ : ∃ W1, W1 = w.alloc (.cells #[.string k, .int .i64 at_, .slice q fs.length c] 29) := ⟨_, rfl⟩
  have HW1 : Hid (W1 = w.alloc (.cells #[.string k, .int .i64 at_, .slice q fs.length c] 29)) := hW1
  have B1 : Hid (Below w.heap.size w W1) := by rw [hW1]; exact (Below.refl _ _).alloc (Nat.le_refl _) _
  have K1 : Hid (Bxs W1 w.heap.size 29 #[.string k, .int .i64 at_, .slice q fs.length c]) := by rw [hW1]; exact Bxs.new _ _ _
  have HT : Hid (FldAt W1 q fs) := hf.below B1.out
  obtain ⟨b, off, rfl, hb0⟩ := HT.out.some_of (by omega)
  have HX : Hid (∀ x, Below W1.heap.size W1 x → x.cell? ⟨w.heap.size, 0, none⟩ = some (.string k) ∧ x.cell? ⟨w.heap.size, 1, none⟩ = some (.int .i64 at_) ∧ x.cell? ⟨w.heap.size, 2, none⟩ = some (.slice (some ⟨b, off, none⟩) fs.length c)) := fun x hb => ⟨(K1.out.below hb).cell 0, (K1.out.below hb).cell 1, (K1.out.below hb).cell 2⟩
  have BW : Hid (Below W1.heap.size W1 W1) := Below.refl _ _
  obtain ⟨x0, x1, x2⟩ := HX.out W1 BW.out
  have QK : Hid (∀ x, Below W1.heap.size W1 x → Calls Tryz.prog 136 #[.string k] x fun e w' => e = .returned (.string (putTextB k)) ∧ Below W1.heap.size W1 w') := fun x hb => (specPutText_any k x (by unfold maxLen; omega)).mono (by rintro e x1 ⟨rfl, b⟩; exact ⟨rfl, chainB hb b⟩)
  have QA : Hid (∀ x, Below W1.heap.size W1 x → Calls Tryz.prog 137 #[.int .i64 at_] x fun e w' => e = .returned (.string (putB at_)) ∧ Below W1.heap.size W1 w') := fun x hb => (specPutNum_any at_ x (by omega) (by omega)).mono (by rintro e x1 ⟨rfl, b⟩; exact ⟨rfl, chainB hb b⟩)
  have QL : Hid (∀ x, Below W1.heap.size W1 x → Calls Tryz.prog 137 #[.int .i64 (fs.length : Int)] x fun e w' => e = .returned (.string (putB (fs.length : Int))) ∧ Below W1.heap.size W1 w') := fun x hb => (specPutNum_any _ x (by omega) (by omega)).mono (by rintro e x1 ⟨rfl, b⟩; exact ⟨rfl, chainB hb b⟩)
  have QT : Hid (∀ i (h : i < fs.length) x, Below W1.heap.size W1 x → (Calls Tryz.prog 136 #[.string fs[i].n] x fun e w' => e = .returned (.string (putTextB fs[i].n)) ∧ Below W1.heap.size W1 w') ∧ (Calls Tryz.prog 136 #[.string fs[i].c] x fun e w' => e = .returned (.string (putTextB fs[i].c)) ∧ Below W1.heap.size W1 w')) := fun i h x hb => by
    have := HZ.out i h
    exact ⟨(specPutText_any _ x (by unfold maxLen; omega)).mono (by rintro e x1 ⟨rfl, b⟩; exact ⟨rfl, chainB hb b⟩), (specPutText_any _ x (by unfold maxLen; omega)).mono (by rintro e x1 ⟨rfl, b⟩; exact ⟨rfl, chainB hb b⟩)⟩
  have HD : Hid (∀ T : ByteArray, T.size ≤ 10000 → ∀ x, Below W1.heap.size W1 x → Calls Tryz.prog 138 #[.string T] x fun e w' => e = .returned (.string (digB T)) ∧ Below W1.heap.size W1 w') := fun T hT x hb => (specAll_any T x (by omega)).mono (by rintro e x1 ⟨rfl, b⟩; exact ⟨rfl, chainB hb b⟩)
  have HV : Hid (lfTo (putTextB k ++ putB at_ ++ putB (fs.length : Int)) fs = lfT k at_ fs) := rfl
  have t1 := putTextB_le k (by omega)
  have t2 := putB_ten7 at_
  have t3 := putB_ten7 (fs.length : Int)
  have t4 : (putTextB k ++ putB at_).size ≤ 40 := by rw [ByteArray.size_append]; omega
  have u1 : ∀ w, (Op.stringOp .add (putTextB k) (putB at_)).run Tryz.prog w = .ok (.string (putTextB k ++ putB at_)) w := fun w => run_string_add w _ _ (by omega) (by omega)
  have u2 : ∀ w, (Op.stringOp .add (putTextB k ++ putB at_) (putB (fs.length : Int))).run Tryz.prog w = .ok (.string (putTextB k ++ putB at_ ++ putB (fs.length : Int))) w := fun w => run_string_add w _ _ (by omega) (by omega)
  have HS : Hid ((putTextB k ++ putB at_ ++ putB (fs.length : Int)).size ≤ 50) := by show _ ≤ _; rw [ByteArray.size_append]; omega
  have HO : Hid (one101 = (⟨#[101]⟩ : ByteArray)) := rfl
  clear hW1 hf
  generalize putTextB k = A at *
  generalize putB at_ = B at *
  generalize putB (fs.length : Int) = C at *
  generalize lfT k at_ fs = L at *
  rw [HO.out]
  go_enter Tryz.func77, Tryz.ntmps77
  go_wp2_with fail
  rw [← HW1.out]
  first
    | (go_region_held3 (fun w' => w'.cell? ⟨w.heap.size, 0, none⟩ = some (.string k) ∧ w'.cell? ⟨w.heap.size, 1, none⟩ = some (.int .i64 at_) ∧ w'.cell? ⟨w.heap.size, 2, none⟩ = some (.slice (some ⟨b, off, none⟩) fs.length c)) ((refine HX.out _ ?hT; (case hT => (with_reducible repeat (first | assumption | exact BW.out | refine Below.drew ?_ | refine alB ?_ _))))) (first
      | (go_at_call 136; with_reducible refine (QK.out _ ?hB).mono ?_; (case hB => first | exact BW.out | exact BW.out.drew); rintro e v1 ⟨rfl, y1⟩)
      | (go_at_call 137; with_reducible refine (QA.out _ ?hB).mono ?_; (case hB => first | exact y1 | exact y1.drew); rintro e v2 ⟨rfl, y2⟩)
      | (go_at_call 137; with_reducible refine (QL.out _ ?hB).mono ?_; (case hB => first | exact y2 | exact y2.drew); rintro e v3 ⟨rfl, y3⟩)))
    | fail
  clear t1 t2 t3 t4 u1 u2 QK QA QL
  go_wp2_with fail
  go_loopw [4, 3] (fun i t wr => ∃ (k : Nat) (T : ByteArray), k ≤ fs.length ∧ i = .int .i64 k ∧ t = .string T ∧ T.size ≤ 50 + 100 * k ∧ Hid (lfTo T (fs.drop k) = L) ∧ Hid (Below W1.heap.size W1 wr)) (fun i _ _ => fs.length - (Go.RowKit.intOf i).toNat)
  case atStart => exact ⟨0, _, Nat.zero_le _, rfl, rfl, HS.out, HV.out, y3⟩
  case round =>
    obtain ⟨i, T, hi, rfl, rfl, hT, HL, HB⟩ := hrel
    obtain ⟨x0, x1, x2⟩ := HX.out wr HB.out
    by_cases hlt : i < fs.length
    · have i1 : (i : Int) < fs.length := by omega
      have HC : Hid (∀ x, Below W1.heap.size W1 x → x.cell? ⟨b, off + i * 5, none⟩ = some (.string fs[i].n) ∧ x.cell? ⟨b, off + i * 5 + 1, none⟩ = some (.string fs[i].c)) := fun x hx => ⟨((HT.out.below hx).at i hlt).1, ((HT.out.below hx).at i hlt).2.1⟩
      have HXr : Hid (∀ x, Below W1.heap.size W1 x → x.cell? ⟨w.heap.size, 2, none⟩ = some (.slice (some ⟨b, off, none⟩) fs.length c)) := fun x hx => (HX.out x hx).2.2
      have HY : Hid (∀ x, Below W1.heap.size W1 x → x.cell? ⟨w.heap.size, 2, none⟩ = some (.slice (some ⟨b, off, none⟩) fs.length c) ∧ x.cell? ⟨b, off + i * 5, none⟩ = some (.string fs[i].n) ∧ x.cell? ⟨b, off + i * 5 + 1, none⟩ = some (.string fs[i].c)) := fun x hx => ⟨HXr.out x hx, HC.out x hx⟩
      have hq := QT.out i hlt
      have QN : Hid (∀ x, Below W1.heap.size W1 x → Calls Tryz.prog 136 #[.string fs[i].n] x fun e w' => e = .returned (.string (putTextB fs[i].n)) ∧ Below W1.heap.size W1 w') := fun x hx => (hq x hx).1
      have QC : Hid (∀ x, Below W1.heap.size W1 x → Calls Tryz.prog 136 #[.string fs[i].c] x fun e w' => e = .returned (.string (putTextB fs[i].c)) ∧ Below W1.heap.size W1 w') := fun x hx => (hq x hx).2
      have hz := HZ.out i hlt
      have s1 := putTextB_le fs[i].n (by omega)
      have s2 := putTextB_le fs[i].c (by omega)
      have HL2 : Hid (lfTo (T ++ putTextB fs[i].n ++ putTextB fs[i].c) (fs.drop (i + 1)) = L) := by show _ = _; rw [← lfTo_drop T fs i hlt]; exact HL.out
      obtain ⟨c0, c1⟩ := HC.out wr HB.out
      have s3 : (T ++ putTextB fs[i].n).size ≤ 1000 := by rw [ByteArray.size_append]; omega
      have u3 : ∀ w, (Op.stringOp .add T (putTextB fs[i].n)).run Tryz.prog w = .ok (.string (T ++ putTextB fs[i].n)) w := fun w => run_string_add w _ _ (by omega) (by omega)
      have u4 : ∀ w, (Op.stringOp .add (T ++ putTextB fs[i].n) (putTextB fs[i].c)).run Tryz.prog w = .ok (.string (T ++ putTextB fs[i].n ++ putTextB fs[i].c)) w := fun w => run_string_add w _ _ (by omega) (by omega)
      have HS2 : Hid ((T ++ putTextB fs[i].n ++ putTextB fs[i].c).size ≤ 50 + 100 * (i + 1)) := by show _ ≤ _; rw [ByteArray.size_append, ByteArray.size_append]; omega
      generalize putTextB fs[i].n = D at *
      generalize putTextB fs[i].c = E at *
      generalize fs[i].n = fn at *
      generalize fs[i].c = fc at *
      clear hz HL hq s1 s2 s3
      go_upto_region 5 with fail
      first
        | (go_region_held3 (fun w' => w'.cell? ⟨w.heap.size, 2, none⟩ = some (.slice (some ⟨b, off, none⟩) fs.length c) ∧ w'.cell? ⟨b, off + i * 5, none⟩ = some (.string fn) ∧ w'.cell? ⟨b, off + i * 5 + 1, none⟩ = some (.string fc)) ((refine HY.out _ ?hT; (case hT => (with_reducible repeat (first | assumption | exact HB.out | refine Below.drew ?_ | refine alB ?_ _))))) (first
          | (go_at_call 136; with_reducible refine (QN.out _ ?hB).mono ?_; (case hB => first | exact HB.out | exact HB.out.drew); rintro e z1 ⟨rfl, y4⟩)
          | (go_at_call 136; with_reducible refine (QC.out _ ?hB).mono ?_; (case hB => first | exact y4 | exact y4.drew); rintro e z2 ⟨rfl, y5⟩)))
        | fail
      go_wp2_with fail
      go_roundw
      case rel => exact ⟨i + 1, _, by omega, by go_num, rfl, HS2.out, HL2, y5⟩
      case measure => simp [Go.RowKit.intOf]; omega
    · obtain rfl : i = fs.length := by omega
      have HL2 : Hid (T = L) := by
        have h := HL.out
        rw [List.drop_eq_nil_of_le (Nat.le_refl _)] at h
        exact h
      obtain rfl := HL2.out
      have hD := HD.out T (by omega) wr HB.out
      have hds : (digB T).size = 32 := digB_size T
      have hz : ((⟨#[101]⟩ : ByteArray) ++ digB T).size = 33 := by rw [ByteArray.size_append, hds]; rfl
      clear HL
      go_wp2_with fail
      refine hD.mono ?_
      rintro e w5 ⟨rfl, b5⟩
      have b5 := chainB B1.out b5
      go_wp2_with fail
      go_ret
      exact ⟨rfl, b5⟩
end Go.Proofs.YtepmoihgemhjcaaGreatDoor
/-
  The place of a field's note and whether a field is gone, as the specification answers.
  Conditions: the cells hold the leaves and rows.
-/
namespace Go.Proofs.YtepmoihgemhjcaaGreatDoor
open Go.RowKit Go.Lib
set_option linter.unusedVariables false
set_option maxRecDepth 20000

theorem tb_next (lv : List ByteArray) (r f : Int) (k : Nat) (h : k < lv.length) : tbFrom r f k (lv.drop k) = if tmHit r f lv[k] = true then (k : Int) else tbFrom r f (k + 1) (lv.drop (k + 1)) := by
  rw [List.drop_eq_getElem_cons h, tbFrom]
theorem tmHit_eq (r f : Int) (t : ByteArray) : tmHit r f t = ((trC t == 0) && (((trO t).r == r) && ((trO t).f == f))) := by
  unfold tmHit
  rw [Bool.eq_iff_iff]
  simp only [Bool.and_eq_true, decide_eq_true_iff, beq_iff_eq]
set_option maxHeartbeats 4000000 in
theorem l09Tomb_any (p : Option Addr) (lv : List ByteArray) (cp : Nat) (r f : Int) (w : World) (hL : TxtAt w p lv) (hl : lv.length ≤ 1048576) (hc : lv.length ≤ cp) (hz : TxtsLe lv) :
    Calls Tryz.prog 87 #[.slice p lv.length cp, .int .i64 r, .int .i64 f] w fun e w' => e = .returned (.int .i64 (tbAt lv r f)) ∧ Below w.heap.size w w' := by
  have HL : Hid (TxtAt w p lv) := hL
  have HZ : Hid (TxtsLe lv) := hz
  clear hL hz
  go_enter Tryz.func87, Tryz.ntmps87
  go_wp2_with fail
  go_loopw [7] (fun i wr => ∃ k : Nat, k ≤ lv.length ∧ i = .int .i64 k ∧ Hid (Below w.heap.size w wr) ∧ Hid (tbAt lv r f = tbFrom r f k (lv.drop k))) (fun i _ => lv.length - (Go.RowKit.intOf i).toNat)
  case atStart => exact ⟨0, Nat.zero_le _, rfl, Below.refl _ _, rfl⟩
  case round =>
    obtain ⟨k, hk, rfl, HB, HV⟩ := hrel
    by_cases hlt : k < lv.length
    · have i1 : (k : Int) < lv.length := by omega
      obtain ⟨b, off, rfl, hb0, c0⟩ := (HL.out.below HB.out) k hlt
      have hR := specTombRead_any lv[k] wr (HZ.out _ (List.getElem_mem hlt))
      have HS : Hid (tbAt lv r f = if tmHit r f lv[k] = true then (k : Int) else tbFrom r f (k + 1) (lv.drop (k + 1))) := HV.out.trans (tb_next lv r f k hlt)
      have HH : Hid (tmHit r f lv[k] = _) := tmHit_eq r f lv[k]
      have HG : Hid (tmHit r f lv[k] = false → tbAt lv r f = tbFrom r f (k + 1) (lv.drop (k + 1))) := fun h => by rw [HS.out, h, if_neg Bool.false_ne_true]
      unfold tmO at hR
      generalize lv[k] = t at *
      generalize trC t = C at *
      generalize (trO t).r = n1 at *
      generalize (trO t).f = n2 at *
      generalize (trO t).y = n3 at *
      generalize (trO t).a = n4 at *
      clear HV hb0
      cases hC : (C == 0) with
      | false =>
        rw [hC, Bool.false_and] at HH
        have HN := HG.out HH.out
        have HN2 : Hid (tbAt lv r f = tbFrom r f (k + 1) (lv.drop (k + 1))) := HN
        clear HS HH HG HN
        go_wp2_with fail
        refine hR.mono ?_
        rintro e y ⟨rfl, by_⟩
        have HBy : Hid (Below w.heap.size w (y.alloc (.cells #[.int .i64 n1, .int .i64 n2, .int .i64 n3, .int .i64 n4, .int .i64 C] 160))) := alB (chainB HB.out by_) _
        go_wp2_with fail
        go_roundw
        case rel => exact ⟨k + 1, by omega, by simp, HBy.out, HN2.out⟩
        case measure => simp [Go.RowKit.intOf]; omega
      | true =>
        rw [hC, Bool.true_and] at HH
        cases h1 : (n1 == r) with
        | false =>
          rw [h1, Bool.false_and] at HH
          have HN := HG.out HH.out
          have HN2 : Hid (tbAt lv r f = tbFrom r f (k + 1) (lv.drop (k + 1))) := HN
          clear HS HH HG HN
          go_wp2_with fail
          refine hR.mono ?_
          rintro e y ⟨rfl, by_⟩
          have HBy : Hid (Below w.heap.size w (y.alloc (.cells #[.int .i64 n1, .int .i64 n2, .int .i64 n3, .int .i64 n4, .int .i64 C] 160))) := alB (chainB HB.out by_) _
          go_wp2_with fail
          go_roundw
          case rel => exact ⟨k + 1, by omega, by simp, HBy.out, HN2.out⟩
          case measure => simp [Go.RowKit.intOf]; omega
        | true =>
          rw [h1, Bool.true_and] at HH
          cases h2 : (n2 == f) with
          | false =>
            rw [h2] at HH
            have HN := HG.out HH.out
            have HN2 : Hid (tbAt lv r f = tbFrom r f (k + 1) (lv.drop (k + 1))) := HN
            clear HS HH HG HN
            go_wp2_with fail
            refine hR.mono ?_
            rintro e y ⟨rfl, by_⟩
            have HBy : Hid (Below w.heap.size w (y.alloc (.cells #[.int .i64 n1, .int .i64 n2, .int .i64 n3, .int .i64 n4, .int .i64 C] 160))) := alB (chainB HB.out by_) _
            go_wp2_with fail
            go_roundw
            case rel => exact ⟨k + 1, by omega, by simp, HBy.out, HN2.out⟩
            case measure => simp [Go.RowKit.intOf]; omega
          | true =>
            rw [h2] at HH
            rw [HH.out, if_pos rfl] at HS
            clear HH HG
            go_wp2_with fail
            refine hR.mono ?_
            rintro e y ⟨rfl, by_⟩
            have HBy : Hid (Below w.heap.size w (y.alloc (.cells #[.int .i64 n1, .int .i64 n2, .int .i64 n3, .int .i64 n4, .int .i64 C] 160))) := alB (chainB HB.out by_) _
            go_wp2_with fail
            go_ret
            exact ⟨by rw [HS.out]; rfl, HBy.out⟩
    · obtain rfl : k = lv.length := by omega
      have HE : Hid (tbAt lv r f = -1) := by show _ = _; rw [HV.out, List.drop_length]; rfl
      clear HV
      go_wp2_with fail
      go_ret
      exact ⟨by rw [HE.out]; rfl, HB.out⟩
set_option maxHeartbeats 4000000 in
theorem l09Gone_any (p : Option Addr) (lv : List ByteArray) (cp : Nat) (q : Option Addr) (rs : List Rw) (cq : Nat) (now : Int) (r f : Int) (w : World) (hR : RwAt w q rs) (hn : rs.length ≤ 1048576) (hcq : rs.length ≤ cq) (hz : ∀ r ∈ rs, r.fs.length ≤ 1048576) :
    Calls Tryz.prog 145 #[.agg #[.slice q rs.length cq, .slice p lv.length cp, .int .i64 now], .int .i64 r, .int .i64 f] w fun e w' => e = .returned (.bool (goneAt rs r f)) ∧ Below w.heap.size w w' := by
  obtain ⟨W1, hW1⟩ : ∃ W1, W1 = w.alloc (.cells #[.slice q rs.length cq, .slice p lv.length cp, .int .i64 now] 26) := ⟨_, rfl⟩
  have HW1 : Hid (W1 = w.alloc (.cells #[.slice q rs.length cq, .slice p lv.length cp, .int .i64 now] 26)) := hW1
  have B1 : Hid (Below w.heap.size w W1) := by rw [hW1]; exact (Below.refl _ _).alloc (Nat.le_refl _) _
  have K1 : Hid (Bxs W1 w.heap.size 26 #[.slice q rs.length cq, .slice p lv.length cp, .int .i64 now]) := by rw [hW1]; exact Bxs.new _ _ _
  have HR : Hid (RwAt W1 q rs) := hR.below B1.out
  have HI1 := l07Is_any r 0 ((rs.length : Int) - 1) W1
  have x0 := K1.out.cell 0
  by_cases h1 : 0 ≤ r ∧ r ≤ (rs.length : Int) - 1
  · rw [decide_eq_true h1] at HI1
    have hrl : r.toNat < rs.length := by omega
    have hre : (r.toNat : Int) = r := Int.toNat_of_nonneg h1.1
    obtain ⟨I, rfl⟩ : ∃ I : Nat, r = (I : Int) := ⟨r.toNat, hre.symm⟩
    rw [Int.toNat_natCast] at hrl
    obtain ⟨b, off, rq, rc, rfl, hb0, c0, c1, c2, c3, c4⟩ := HR.out I hrl
    have hrI : rs.getD I rwZ = rs[I] := by rw [List.getD_eq_getElem?_getD, List.getElem?_eq_getElem hrl, Option.getD_some]
    have hfz := hz _ (List.getElem_mem hrl)
    have HI2 := l07Is_any f 0 ((rs[I].fs.length : Int) - 1) W1
    by_cases h2 : 0 ≤ f ∧ f ≤ (rs[I].fs.length : Int) - 1
    · rw [decide_eq_true h2] at HI2
      have hfl : f.toNat < rs[I].fs.length := by omega
      obtain ⟨F, rfl⟩ : ∃ F : Nat, f = (F : Int) := ⟨f.toNat, (Int.toNat_of_nonneg h2.1).symm⟩
      rw [Int.toNat_natCast] at hfl
      obtain ⟨bf, of, rfl, hbf, f0, f1, f2, f3, f4⟩ := c4 F hfl
      have HV : Hid (goneAt rs (I : Int) (F : Int) = rs[I].fs[F].g) := by
        show _ = _
        unfold goneAt fldOf
        rw [decide_eq_true h1, Int.toNat_natCast, Int.toNat_natCast, hrI, decide_eq_true h2, List.getD_eq_getElem?_getD, List.getElem?_eq_getElem hfl, Option.getD_some]; rfl
      rw [HV.out]
      clear f0 f1 f2 f3 HV
      generalize rs[I].fs[F].g = G at *
      have iI : (I : Int) < rs.length := by omega
      have fI : (F : Int) < rs[I].fs.length := by omega
      clear hfl c4 c0 c1
      generalize rs[I].fs.length = FL at *
      clear hW1 hR HR hz c3 hrI h1 h2 hre hb0 hbf
      rw [HW1.out] at x0 c2 f4 HI1 HI2
      go_enter Tryz.func145, Tryz.ntmps145
      go_wp2_with (first | (go_at_call 78; with_reducible refine HI1.mono ?_; rintro e y ⟨rfl, rfl⟩) | (go_at_call 78; with_reducible refine HI2.mono ?_; rintro e y ⟨rfl, rfl⟩))
      go_ret
      rw [← HW1.out]
      exact ⟨rfl, B1.out⟩
    · rw [decide_eq_false h2] at HI2
      have HV : Hid (goneAt rs (I : Int) f = false) := by
        show _ = _
        unfold goneAt
        rw [Int.toNat_natCast, hrI, decide_eq_false h2, Bool.false_and, Bool.and_false]
      rw [HV.out]
      have iI : (I : Int) < rs.length := by omega
      generalize rs[I].fs.length = FL at *
      clear hW1 hR HR hz HV c0 c1 c3 c4 hrI h1 h2 hre hb0
      rw [HW1.out] at x0 c2 HI1 HI2
      go_enter Tryz.func145, Tryz.ntmps145
      go_wp2_with (first | (go_at_call 78; with_reducible refine HI1.mono ?_; rintro e y ⟨rfl, rfl⟩) | (go_at_call 78; with_reducible refine HI2.mono ?_; rintro e y ⟨rfl, rfl⟩))
      go_ret
      rw [← HW1.out]
      exact ⟨rfl, B1.out⟩
  · rw [decide_eq_false h1] at HI1
    have HV : Hid (goneAt rs r f = false) := by
      show _ = _
      unfold goneAt
      rw [decide_eq_false h1, Bool.false_and]
    rw [HV.out]
    clear hW1 hR HR hz HV h1
    rw [HW1.out] at x0 HI1
    go_enter Tryz.func145, Tryz.ntmps145
    go_wp2_with (first | (go_at_call 78; with_reducible refine HI1.mono ?_; rintro e y ⟨rfl, rfl⟩))
    go_ret
    rw [← HW1.out]
    exact ⟨rfl, B1.out⟩
end Go.Proofs.YtepmoihgemhjcaaGreatDoor
