/-
  What the specification's Show answers.
  Conditions: the cells of Fields hold the fields.
-/
import Derived.Test.YtamdgdkpcoeknaaGreatDoorRows
import Derived.Test.YtamdgdkpcoeknaaGreatDoorBytesDigMath
import Derived.Test.YtamdgdkpcoeknaaGreatDoorTreeMathSlASlBBxKOwnS
import Derived.Test.YtamdgdkpcoeknaaGreatDoorAppSStepAppImplFT
import Derived.Test.YtamdgdkpcoeknaaGreatDoorLawLmLgAnsLgRtTakesL
import Derived.Test.YtamdgdkpcoeknaaGreatDoorTimeBPutMathPutNumJoinedPutTextFldMath
import Derived.Test.YtamdgdkpcoeknaaGreatDoorFldC
import Derived.Test.YtamdgdkpcoeknaaGreatDoorFldR
import Derived.Test.YtamdgdkpcoeknaaGreatDoorFldGShwKFldHPathMathFldRiseScanMath
import Derived.Handy
import Derived.WalkSpells
import Derived.OwnWalk
import Derived.Deep.AppendLies
import Derived.Deep.RegionHeld3
namespace Go.Proofs.YtamdgdkpcoeknaaGreatDoor
open Go.RowKit Go.Lib
set_option linter.unusedVariables false
set_option maxRecDepth 20000

set_option maxHeartbeats 8000000 in
theorem specShow_any (k : ByteArray) (at_ : Int) (q : Option Addr) (c : Nat) (fs : List Fld) (ix : Int) (w : World) (hf : FldAt w q fs) (hn : fs.length ≤ 1048576) (hc : fs.length ≤ c) (hk : k.size ≤ maxLen) (hz : FldsLe fs) :
    Calls Tryz.prog 26 #[.agg #[.string k, .int .i64 at_, .slice q fs.length c], .int .i64 ix] w fun e w' => ∃ v1 v2, e = .returned (.agg #[.string (shO k at_ fs ix).k, .int .i64 (shO k at_ fs ix).at_, v1, v2, .int .i64 (shO k at_ fs ix).ix, .string (shO k at_ fs ix).s, .string (shO k at_ fs ix).v, .int .i64 (shC k at_ fs ix)]) ∧ ShwO w.heap.size (shO k at_ fs ix) v1 v2 w' ∧ Below w.heap.size w w' := by
  obtain ⟨W2, hW2⟩ : ∃ W2, W2 = (w.alloc (.cells #[.string k, .int .i64 at_, .slice q fs.length c] 67)).alloc (.cells #[.string ⟨#[]⟩, .int .i64 0, .slice none 0 0, .slice none 0 0, .int .i64 0, .string ⟨#[]⟩, .string ⟨#[]⟩, .int .i64 0] 63) := ⟨_, rfl⟩
  have HW2 : Hid (W2 = (w.alloc (.cells #[.string k, .int .i64 at_, .slice q fs.length c] 67)).alloc (.cells #[.string ⟨#[]⟩, .int .i64 0, .slice none 0 0, .slice none 0 0, .int .i64 0, .string ⟨#[]⟩, .string ⟨#[]⟩, .int .i64 0] 63)) := hW2
  have hs1 : (w.alloc (.cells #[.string k, .int .i64 at_, .slice q fs.length c] 67)).heap.size = w.heap.size + 1 := by simp
  have HS2 : Hid (W2.heap.size = w.heap.size + 2) := by rw [hW2]; show _ = _; simp
  have K0 : Hid (Bxs W2 w.heap.size 67 #[.string k, .int .i64 at_, .slice q fs.length c]) := by rw [hW2]; exact (Bxs.new _ _ _).alloc _
  have K1 : Hid (Bxs W2 (w.heap.size + 1) 63 #[.string ByteArray.empty, .int .i64 0, .slice none 0 0, .slice none 0 0, .int .i64 0, .string ByteArray.empty, .string ByteArray.empty, .int .i64 0]) := by rw [hW2, ← hs1]; exact Bxs.new _ _ _
  have B2 : Hid (Below w.heap.size w W2) := by rw [hW2]; exact ((Below.refl _ _).alloc (Nat.le_refl _) _).alloc (by rw [hs1]; omega) _
  have HT : Hid (FldAt W2 q fs) := hf.below B2.out
  have HX : Hid (∀ x, Below W2.heap.size W2 x → x.cell? ⟨w.heap.size, 0, none⟩ = some (.string k) ∧ x.cell? ⟨w.heap.size, 1, none⟩ = some (.int .i64 at_) ∧ x.cell? ⟨w.heap.size, 2, none⟩ = some (.slice q fs.length c)) := fun x hb => ⟨(K0.out.below hb).cell 0, (K0.out.below hb).cell 1, (K0.out.below hb).cell 2⟩
  have HEr : Hid (∀ (y : World) (c : Int) (x0 x1 x2 x3 x4 x5 x6 x7 : Value), Below W2.heap.size W2 y → shC k at_ fs ix = c → c ≠ 0 → ∃ v1 v2, Ending.returned (.agg #[.string ByteArray.empty, .int .i64 0, .slice none 0 0, .slice none 0 0, .int .i64 0, .string ByteArray.empty, .string ByteArray.empty, .int .i64 c]) = .returned (.agg #[.string (shO k at_ fs ix).k, .int .i64 (shO k at_ fs ix).at_, v1, v2, .int .i64 (shO k at_ fs ix).ix, .string (shO k at_ fs ix).s, .string (shO k at_ fs ix).v, .int .i64 (shC k at_ fs ix)]) ∧ ShwO w.heap.size (shO k at_ fs ix) v1 v2 (set8 y (w.heap.size + 1) x0 x1 x2 x3 x4 x5 x6 x7) ∧ Below w.heap.size w (set8 y (w.heap.size + 1) x0 x1 x2 x3 x4 x5 x6 x7)) := by
    intro y c x0 x1 x2 x3 x4 x5 x6 x7 hb hc hn
    have hn' : ¬ shC k at_ fs ix = 0 := by rw [hc]; exact hn
    rw [show shO k at_ fs ix = shwZ from if_neg hn', hc]
    exact ⟨_, _, rfl, ShwO.nil _ _, below_set8 (chainB B2.out hb) (by omega) _ _ _ _ _ _ _ _⟩
  have hD := specRowRight_any k at_ q c fs W2 HT.out hn hc hk hz
  obtain ⟨t0, t1, t2⟩ := HX.out W2 (Below.refl _ _)
  rw [HW2.out] at t0 t1 t2
  clear hW2 hf hs1
  cases hr : rwB k at_ fs with
  | false =>
    have hC : Hid (shC k at_ fs ix = 1) := if_neg (by rw [hr]; exact Bool.false_ne_true)
    rw [hr] at hD
    clear hr
    go_enter Tryz.func26, Tryz.ntmps26
    go_wp2_with fail
    rw [← HW2.out]
    refine hD.mono ?_
    rintro e y1 ⟨rfl, b1⟩
    have HE := fun x0 x1 x2 x3 x4 x5 x6 x7 => HEr.out y1 1 x0 x1 x2 x3 x4 x5 x6 x7 b1 hC.out (by omega)
    obtain ⟨r0, r1, r2, r3, r4, r5, r6, r7⟩ := (K1.out.below b1).eight
    obtain ⟨f0, f1, f2, f3, f4, f5, f6, f7⟩ := (K1.out.below b1).free8
    clear HEr HX K0 K1 t0 t1 t2
    go_wp2_with fail
    refine bodyPost_ret (v := .agg #[.string ByteArray.empty, .int .i64 0, .slice none 0 0, .slice none 0 0, .int .i64 0, .string ByteArray.empty, .string ByteArray.empty, .int .i64 1]) (by simp [results, Tryz.results26, go_sem, r0, r1, r2, r3, r4, r5, r6, r7]; rfl) rfl ?_
    exact HE _ _ _ _ _ _ _ _
  | true =>
  rw [hr] at hD
  obtain ⟨-, -, ⟨l1, l3⟩, -, -⟩ := rwB_parts hr
  have HI : Hid (∀ x, Calls Tryz.prog 64 #[.int .i64 ix, .int .i64 0, .int .i64 ((fs.length : Int) - 1)] x fun e w' => e = .returned (.bool (decide (0 ≤ ix ∧ ix ≤ (fs.length : Int) - 1))) ∧ w' = x) := fun x => l07Is_any _ _ _ x
  by_cases hin : 0 ≤ ix ∧ ix ≤ (fs.length : Int) - 1
  case neg =>
    have hC : Hid (shC k at_ fs ix = 6) := by show _ = _; unfold shC; rw [if_pos hr, if_neg hin]
    rw [decide_eq_false hin] at HI
    clear hr hin
    go_enter Tryz.func26, Tryz.ntmps26
    go_wp2_with fail
    rw [← HW2.out]
    refine hD.mono ?_
    rintro e y1 ⟨rfl, b1⟩
    clear t0 t1 t2
    obtain ⟨t0, t1, t2⟩ := HX.out y1 b1
    go_wp2_with fail
    refine (HI.out y1).mono ?_
    rintro e yb ⟨rfl, rfl⟩
    have HE := fun x0 x1 x2 x3 x4 x5 x6 x7 => HEr.out yb 6 x0 x1 x2 x3 x4 x5 x6 x7 b1 hC.out (by omega)
    obtain ⟨r0, r1, r2, r3, r4, r5, r6, r7⟩ := (K1.out.below b1).eight
    obtain ⟨f0, f1, f2, f3, f4, f5, f6, f7⟩ := (K1.out.below b1).free8
    clear HEr HX K0 K1 t0 t1 t2
    go_wp2_with fail
    refine bodyPost_ret (v := .agg #[.string ByteArray.empty, .int .i64 0, .slice none 0 0, .slice none 0 0, .int .i64 0, .string ByteArray.empty, .string ByteArray.empty, .int .i64 6]) (by simp [results, Tryz.results26, go_sem, r0, r1, r2, r3, r4, r5, r6, r7]; rfl) rfl ?_
    exact HE _ _ _ _ _ _ _ _
  rw [decide_eq_true hin] at HI
  obtain ⟨I, hI⟩ := Int.eq_ofNat_of_zero_le hin.1
  subst hI
  have hIl : I < fs.length := by omega
  have i1 : (I : Int) < fs.length := by omega
  obtain ⟨b, off, rfl, hb0⟩ := HT.out.some_of (by omega)
  have HC : Hid (∀ x, Below W2.heap.size W2 x → x.cell? ⟨b, off + I * 5, none⟩ = some (.string fs[I].n) ∧ x.cell? ⟨b, off + I * 5 + 1, none⟩ = some (.string fs[I].c) ∧ x.cell? ⟨b, off + I * 5 + 2, none⟩ = some (.string fs[I].s) ∧ x.cell? ⟨b, off + I * 5 + 3, none⟩ = some (.string fs[I].v) ∧ x.cell? ⟨b, off + I * 5 + 4, none⟩ = some (.bool fs[I].g)) := fun x hx => (HT.out.below hx).at I hIl
  have HG : Hid (fs.getD I fld0 = fs[I]) := by show _ = _; rw [List.getD_eq_getElem?_getD, List.getElem?_eq_getElem hIl]; rfl
  have HFC : Hid (shC k at_ fs I = if fs[I].g = true then 10 else 0) := by show _ = _; unfold shC; rw [if_pos hr, if_pos hin, Int.toNat_natCast, HG.out]
  have HFF : Hid (shC k at_ fs I = 0 → shO k at_ fs I = ⟨k, at_, fs.map (fun f => f.n), fs.map (fun f => f.c), I, fs[I].s, fs[I].v⟩) := by
    intro h
    show (if _ then _ else _) = _
    rw [if_pos h, Int.toNat_natCast, HG.out]
  clear HG hin
  generalize fs[I].s = fss at *
  generalize fs[I].v = fv at *
  cases hgg : fs[I].g with
  | true =>
    rw [hgg] at HC HFC
    have hC : Hid (shC k at_ fs I = 10) := by show _ = _; rw [HFC.out]; rfl
    generalize fs[I].n = fn at *
    generalize fs[I].c = fc at *
    clear hr hgg HFC HFF
    go_enter Tryz.func26, Tryz.ntmps26
    go_wp2_with fail
    rw [← HW2.out]
    refine hD.mono ?_
    rintro e y1 ⟨rfl, b1⟩
    clear t0 t1 t2
    obtain ⟨t0, t1, t2⟩ := HX.out y1 b1
    go_wp2_with fail
    refine (HI.out y1).mono ?_
    rintro e yb ⟨rfl, rfl⟩
    obtain ⟨c0, c1, c2, c3, c4⟩ := HC.out yb b1
    go_upto_region 6 with fail
    obtain ⟨y3, hy3⟩ : ∃ y3, y3 = yb.alloc (.cells #[.string fn, .string fc, .string fss, .string fv, .bool true] 112) := ⟨_, rfl⟩
    rw [← hy3]
    have b3 : Below W2.heap.size W2 y3 := by rw [hy3]; exact alB b1 _
    have u4 : y3.cell? ⟨yb.heap.size, 4, none⟩ = some (.bool true) := by rw [hy3]; exact (Bxs.new _ _ _).cell 4
    clear hy3 c0 c1 c2 c3 c4
    have HE := fun x0 x1 x2 x3 x4 x5 x6 x7 => HEr.out y3 10 x0 x1 x2 x3 x4 x5 x6 x7 b3 hC.out (by omega)
    obtain ⟨r0, r1, r2, r3, r4, r5, r6, r7⟩ := (K1.out.below b3).eight
    obtain ⟨f0, f1, f2, f3, f4, f5, f6, f7⟩ := (K1.out.below b3).free8
    clear HEr HX K0 K1 t0 t1 t2
    go_wp2_with fail
    refine bodyPost_ret (v := .agg #[.string ByteArray.empty, .int .i64 0, .slice none 0 0, .slice none 0 0, .int .i64 0, .string ByteArray.empty, .string ByteArray.empty, .int .i64 10]) (by simp [results, Tryz.results26, go_sem, r0, r1, r2, r3, r4, r5, r6, r7]; rfl) rfl ?_
    exact HE _ _ _ _ _ _ _ _
  | false =>
    rw [hgg] at HC HFC
    have hC : Hid (shC k at_ fs I = 0) := by show _ = _; rw [HFC.out]; rfl
    have HF2 : Hid (shO k at_ fs I = ⟨k, at_, fs.map (fun f => f.n), fs.map (fun f => f.c), I, fss, fv⟩) := HFF.out hC.out
    generalize fs[I].n = fn at *
    generalize fs[I].c = fc at *
    clear hr hgg HFC HFF HEr
    go_enter Tryz.func26, Tryz.ntmps26
    go_wp2_with fail
    rw [← HW2.out]
    refine hD.mono ?_
    rintro e y1 ⟨rfl, b1⟩
    clear t0 t1 t2
    obtain ⟨t0, t1, t2⟩ := HX.out y1 b1
    go_wp2_with fail
    refine (HI.out y1).mono ?_
    rintro e yb ⟨rfl, rfl⟩
    obtain ⟨c0, c1, c2, c3, c4⟩ := HC.out yb b1
    go_upto_region 6 with fail
    obtain ⟨y3, hy3⟩ : ∃ y3, y3 = yb.alloc (.cells #[.string fn, .string fc, .string fss, .string fv, .bool false] 112) := ⟨_, rfl⟩
    rw [← hy3]
    have b3 : Hid (Below W2.heap.size W2 y3) := by rw [hy3]; exact alB b1 _
    have KY : Hid (Bxs y3 yb.heap.size 112 #[.string fn, .string fc, .string fss, .string fv, .bool false]) := by rw [hy3]; exact Bxs.new _ _ _
    clear hy3 t0 t1 t2 c0 c1 c2 c3 c4 b1
    obtain ⟨t0, t1, t2⟩ := HX.out y3 b3.out
    obtain ⟨u2, u3, u4⟩ : y3.cell? ⟨yb.heap.size, 2, none⟩ = some (.string fss) ∧ y3.cell? ⟨yb.heap.size, 3, none⟩ = some (.string fv) ∧ y3.cell? ⟨yb.heap.size, 4, none⟩ = some (.bool false) := ⟨KY.out.cell 2, KY.out.cell 3, KY.out.cell 4⟩
    go_upto_region 9 with fail
    obtain ⟨y4, hy4⟩ : ∃ y4, y4 = y3.alloc (.cells #[.string k, .int .i64 at_, .slice none 0 0, .slice none 0 0, .int .i64 (I : Int), .string fss, .string fv] 30) := ⟨_, rfl⟩
    rw [← hy4]
    obtain ⟨Z, hZ⟩ : ∃ Z, Z = y3.heap.size := ⟨_, rfl⟩
    have S4 : Hid (Two W2 Z 30 #[.string k, .int .i64 at_, .slice none 0 0, .slice none 0 0, .int .i64 (I : Int), .string fss, .string fv] (.slice none 0 0) (.slice none 0 0) ((fs.take 0).map (fun f => f.n)) ((fs.take 0).map (fun f => f.c)) y4) := by
      rw [hy4, hZ]
      exact ⟨alB b3.out _, b3.out.size, by decide, Bxs.new _ _ _, World.ownsRow_nil _ _ _ _, World.ownsRow_nil _ _ _ _, fun g hg => by cases hg⟩
    rw [← hZ]
    clear hy4 hZ t0 t1 t2 u2 u3 u4 KY b3
    go_wp2_with fail
    go_loopw [7] (fun i wr => ∃ (j : Nat) (v1 v2 : Value), j ≤ fs.length ∧ i = .int .i64 j ∧ Hid (Two W2 Z 30 #[.string k, .int .i64 at_, v1, v2, .int .i64 (I : Int), .string fss, .string fv] v1 v2 ((fs.take j).map (fun f => f.n)) ((fs.take j).map (fun f => f.c)) wr)) (fun i _ => fs.length - (intOf i).toNat)
    case atStart => exact ⟨0, _, _, Nat.zero_le _, rfl, S4⟩
    case round =>
      clear S4
      obtain ⟨j, v1, v2, hj, rfl, hS⟩ := hrel
      obtain ⟨t0, t1, t2⟩ := HX.out wr hS.out.bel
      by_cases hlt : j < fs.length
      · have j1 : (j : Int) < fs.length := by omega
        have HN : Hid ((fs.take (j + 1)).map (fun f => f.n) = (fs.take j).map (fun f => f.n) ++ [fs[j].n]) := map_take_succ _ fs j hlt
        have HM : Hid ((fs.take (j + 1)).map (fun f => f.c) = (fs.take j).map (fun f => f.c) ++ [fs[j].c]) := map_take_succ _ fs j hlt
        have HLn : Hid (((fs.take j).map (fun f => f.n)).length + 1 ≤ 1048576) := by show _ ≤ _; simp; omega
        have HLm : Hid (((fs.take j).map (fun f => f.c)).length + 1 ≤ 1048576) := by show _ ≤ _; simp; omega
        have HCn : Hid (∀ x, Below W2.heap.size W2 x → x.cell? ⟨b, off + j * 5, none⟩ = some (.string fs[j].n)) := fun x hx => ((HT.out.below hx).at j hlt).1
        have HCm : Hid (∀ x, Below W2.heap.size W2 x → x.cell? ⟨b, off + j * 5 + 1, none⟩ = some (.string fs[j].c)) := fun x hx => ((HT.out.below hx).at j hlt).2.1
        generalize fs[j].n = gn at *
        generalize fs[j].c = gc at *
        generalize (fs.take j).map (fun f => f.n) = NS at *
        generalize (fs.take j).map (fun f => f.c) = CS at *
        have BR : Hid (Below wr.heap.size wr wr.drew) := (Below.refl _ _).drew
        have HXC : Hid (∀ x, Below W2.heap.size W2 x → x.cell? ⟨w.heap.size, 2, none⟩ = some (.slice (some ⟨b, off, none⟩) fs.length c) ∧ x.cell? ⟨b, off + j * 5, none⟩ = some (.string gn)) := fun x hx => ⟨(HX.out x hx).2.2, HCn.out x hx⟩
        have HY : Hid (∀ x, Below wr.heap.size wr x → x.cell? ⟨Z, 2, none⟩ = some v1 ∧ x.cell? ⟨w.heap.size, 2, none⟩ = some (.slice (some ⟨b, off, none⟩) fs.length c) ∧ x.cell? ⟨b, off + j * 5, none⟩ = some (.string gn)) := fun x hx => ⟨(hS.out.below hx).box.cell 2, HXC.out x (chainB hS.out.bel hx)⟩
        have HA : Hid _ := (hS.out.below BR.out).app 2 gn rfl HLn.out
        clear hS t0 t1
        go_upto_region 12 with fail
        refine region_till (fun w' => w'.cell? ⟨Z, 2, none⟩ = some v1 ∧ w'.cell? ⟨w.heap.size, 2, none⟩ = some (.slice (some ⟨b, off, none⟩) fs.length c) ∧ w'.cell? ⟨b, off + j * 5, none⟩ = some (.string gn)) 11 (by kernel_rfl) (HY.out _ BR.out) (fun hHeld => ?_)
        refine till_take 0 (v := ?_) rfl (by kernel_rfl) (by kernel_rfl) (by kernel_rfl) (by kernel_rfl) (fun _ _ _ h => h) hHeld (Or.inl ⟨by rfl, ?_⟩) ?_
        rotate_left
        · (intro w hSw; (try dsimp only at hSw); go_simp; try with_reducible rfl)
        simp only [Act.put, List.setIfInBounds_toArray, List.set_cons_zero, List.set_cons_succ]
        refine till_take 1 (v := ?_) rfl (by kernel_rfl) (by kernel_rfl) (by kernel_rfl) (by kernel_rfl) (fun _ _ _ h => h) hHeld (Or.inl ⟨by rfl, ?_⟩) ?_
        rotate_left
        · (intro w hSw; (try dsimp only at hSw); go_simp; try with_reducible rfl)
        simp only [Act.put, List.setIfInBounds_toArray, List.set_cons_zero, List.set_cons_succ]
        refine till_take 2 (v := ?_) rfl (by kernel_rfl) (by kernel_rfl) (by kernel_rfl) (by kernel_rfl) (fun _ _ _ h => h) hHeld (Or.inl ⟨by rfl, ?_⟩) ?_
        rotate_left
        · (intro w hSw; (try dsimp only at hSw); go_simp; try with_reducible rfl)
        simp only [Act.put, List.setIfInBounds_toArray, List.set_cons_zero, List.set_cons_succ]
        refine till_take 3 (v := ?_) rfl (by kernel_rfl) (by kernel_rfl) (by kernel_rfl) (by kernel_rfl) (fun _ _ _ h => h) hHeld (Or.inl ⟨by rfl, ?_⟩) ?_
        rotate_left
        · (intro w hSw; (try dsimp only at hSw); go_simp; try with_reducible rfl)
        simp only [Act.put, List.setIfInBounds_toArray, List.set_cons_zero, List.set_cons_succ]
        refine till_take 4 (v := ?_) rfl (by kernel_rfl) (by kernel_rfl) (by kernel_rfl) (by kernel_rfl) (fun _ _ _ h => h) hHeld (Or.inl ⟨by rfl, ?_⟩) ?_
        rotate_left
        · (intro w hSw; (try dsimp only at hSw); go_simp; try with_reducible rfl)
        simp only [Act.put, List.setIfInBounds_toArray, List.set_cons_zero, List.set_cons_succ]
        refine till_take 5 (v := ?_) rfl (by kernel_rfl) (by kernel_rfl) (by kernel_rfl) (by kernel_rfl) (fun _ _ _ h => h) hHeld (Or.inl ⟨by rfl, ?_⟩) ?_
        rotate_left
        · (intro w hSw; (try dsimp only at hSw); go_simp; try with_reducible rfl)
        simp only [Act.put, List.setIfInBounds_toArray, List.set_cons_zero, List.set_cons_succ]
        refine till_take 6 (v := ?_) rfl (by kernel_rfl) (by kernel_rfl) (by kernel_rfl) (by kernel_rfl) (fun _ _ _ h => h) hHeld (Or.inl ⟨by rfl, ?_⟩) ?_
        rotate_left
        · (intro w hSw; (try dsimp only at hSw); go_simp; try with_reducible rfl)
        simp only [Act.put, List.setIfInBounds_toArray, List.set_cons_zero, List.set_cons_succ]
        refine till_take 7 (v := ?_) rfl (by kernel_rfl) (by kernel_rfl) (by kernel_rfl) (by kernel_rfl) (fun _ _ _ h => h) hHeld (Or.inl ⟨by rfl, ?_⟩) ?_
        rotate_left
        · (intro w hSw; (try dsimp only at hSw); go_simp; try with_reducible rfl)
        simp only [Act.put, List.setIfInBounds_toArray, List.set_cons_zero, List.set_cons_succ]
        refine till_ready 8 rfl (by kernel_rfl) (fun K hK => ?_)
        go_simp
        refine hK.out _ _ (HY.out _ (alB BR.out _)) (fun hHeld => ?_)
        clear hK K
        try simp only [Act.put, List.setIfInBounds_toArray, List.set_cons_zero, List.set_cons_succ]
        refine till_ready 9 rfl (by kernel_rfl) (fun K hK => ?_)
        obtain ⟨g, cp, y, hrun, T8, c7, f7, B7⟩ := HA.out; refine step_append_run rfl _ _ 23 rfl v1 (.slice (some ⟨wr.drew.heap.size, 0, none⟩) 1 1) _ _ rfl rfl hrun ?_
        refine hK.out _ _ (⟨c7, HXC.out _ B7⟩) (fun hHeld => ?_)
        clear hK K
        try simp only [Act.put, List.setIfInBounds_toArray, List.set_cons_zero, List.set_cons_succ]
        refine till_take 10 (v := ?_) rfl (by kernel_rfl) (by kernel_rfl) (by kernel_rfl) (by kernel_rfl) (fun _ _ _ h => h) hHeld (Or.inl ⟨by rfl, ?_⟩) ?_
        rotate_left
        · (intro w hSw; (try dsimp only at hSw); go_simp; try with_reducible rfl)
        simp only [Act.put, List.setIfInBounds_toArray, List.set_cons_zero, List.set_cons_succ]
        refine till_last rfl (by kernel_rfl) (by kernel_rfl) (fun K hK => ?_)
        go_simp
        refine hK.out _ _ ?_
        clear hK K
        go_upto_region 13 with fail
        obtain ⟨z1, hz1⟩ : ∃ z1, z1 = y.setCell ⟨Z, 2, none⟩ (.slice (some ⟨g, 0, none⟩) (NS.length + 1) cp) := ⟨_, rfl⟩
        rw [← hz1] at T8 ⊢
        have hS2 : Hid (Two W2 Z 30 #[.string k, .int .i64 at_, .slice (some ⟨g, 0, none⟩) (NS.length + 1) cp, v2, .int .i64 (I : Int), .string fss, .string fv] (.slice (some ⟨g, 0, none⟩) (NS.length + 1) cp) v2 (NS ++ [gn]) CS z1) := T8
        clear hz1 T8 c7 f7 B7 hrun HA HY HXC BR t2 hHeld
        have BR : Hid (Below z1.heap.size z1 z1.drew) := (Below.refl _ _).drew
        have HXC : Hid (∀ x, Below W2.heap.size W2 x → x.cell? ⟨w.heap.size, 2, none⟩ = some (.slice (some ⟨b, off, none⟩) fs.length c) ∧ x.cell? ⟨b, off + j * 5 + 1, none⟩ = some (.string gc)) := fun x hx => ⟨(HX.out x hx).2.2, HCm.out x hx⟩
        have HY : Hid (∀ x, Below z1.heap.size z1 x → x.cell? ⟨Z, 3, none⟩ = some v2 ∧ x.cell? ⟨w.heap.size, 2, none⟩ = some (.slice (some ⟨b, off, none⟩) fs.length c) ∧ x.cell? ⟨b, off + j * 5 + 1, none⟩ = some (.string gc)) := fun x hx => ⟨(hS2.out.below hx).box.cell 3, HXC.out x (chainB hS2.out.bel hx)⟩
        have HA2 : Hid _ := (hS2.out.below BR.out).swap.app 3 gc rfl HLm.out
        clear hS2
        refine region_till (fun w' => w'.cell? ⟨Z, 3, none⟩ = some v2 ∧ w'.cell? ⟨w.heap.size, 2, none⟩ = some (.slice (some ⟨b, off, none⟩) fs.length c) ∧ w'.cell? ⟨b, off + j * 5 + 1, none⟩ = some (.string gc)) 11 (by kernel_rfl) (HY.out _ BR.out) (fun hHeld => ?_)
        refine till_take 0 (v := ?_) rfl (by kernel_rfl) (by kernel_rfl) (by kernel_rfl) (by kernel_rfl) (fun _ _ _ h => h) hHeld (Or.inl ⟨by rfl, ?_⟩) ?_
        rotate_left
        · (intro w hSw; (try dsimp only at hSw); go_simp; try with_reducible rfl)
        simp only [Act.put, List.setIfInBounds_toArray, List.set_cons_zero, List.set_cons_succ]
        refine till_take 1 (v := ?_) rfl (by kernel_rfl) (by kernel_rfl) (by kernel_rfl) (by kernel_rfl) (fun _ _ _ h => h) hHeld (Or.inl ⟨by rfl, ?_⟩) ?_
        rotate_left
        · (intro w hSw; (try dsimp only at hSw); go_simp; try with_reducible rfl)
        simp only [Act.put, List.setIfInBounds_toArray, List.set_cons_zero, List.set_cons_succ]
        refine till_take 2 (v := ?_) rfl (by kernel_rfl) (by kernel_rfl) (by kernel_rfl) (by kernel_rfl) (fun _ _ _ h => h) hHeld (Or.inl ⟨by rfl, ?_⟩) ?_
        rotate_left
        · (intro w hSw; (try dsimp only at hSw); go_simp; try with_reducible rfl)
        simp only [Act.put, List.setIfInBounds_toArray, List.set_cons_zero, List.set_cons_succ]
        refine till_take 3 (v := ?_) rfl (by kernel_rfl) (by kernel_rfl) (by kernel_rfl) (by kernel_rfl) (fun _ _ _ h => h) hHeld (Or.inl ⟨by rfl, ?_⟩) ?_
        rotate_left
        · (intro w hSw; (try dsimp only at hSw); go_simp; try with_reducible rfl)
        simp only [Act.put, List.setIfInBounds_toArray, List.set_cons_zero, List.set_cons_succ]
        refine till_take 4 (v := ?_) rfl (by kernel_rfl) (by kernel_rfl) (by kernel_rfl) (by kernel_rfl) (fun _ _ _ h => h) hHeld (Or.inl ⟨by rfl, ?_⟩) ?_
        rotate_left
        · (intro w hSw; (try dsimp only at hSw); go_simp; try with_reducible rfl)
        simp only [Act.put, List.setIfInBounds_toArray, List.set_cons_zero, List.set_cons_succ]
        refine till_take 5 (v := ?_) rfl (by kernel_rfl) (by kernel_rfl) (by kernel_rfl) (by kernel_rfl) (fun _ _ _ h => h) hHeld (Or.inl ⟨by rfl, ?_⟩) ?_
        rotate_left
        · (intro w hSw; (try dsimp only at hSw); go_simp; try with_reducible rfl)
        simp only [Act.put, List.setIfInBounds_toArray, List.set_cons_zero, List.set_cons_succ]
        refine till_take 6 (v := ?_) rfl (by kernel_rfl) (by kernel_rfl) (by kernel_rfl) (by kernel_rfl) (fun _ _ _ h => h) hHeld (Or.inl ⟨by rfl, ?_⟩) ?_
        rotate_left
        · (intro w hSw; (try dsimp only at hSw); go_simp; try with_reducible rfl)
        simp only [Act.put, List.setIfInBounds_toArray, List.set_cons_zero, List.set_cons_succ]
        refine till_take 7 (v := ?_) rfl (by kernel_rfl) (by kernel_rfl) (by kernel_rfl) (by kernel_rfl) (fun _ _ _ h => h) hHeld (Or.inl ⟨by rfl, ?_⟩) ?_
        rotate_left
        · (intro w hSw; (try dsimp only at hSw); go_simp; try with_reducible rfl)
        simp only [Act.put, List.setIfInBounds_toArray, List.set_cons_zero, List.set_cons_succ]
        refine till_ready 8 rfl (by kernel_rfl) (fun K hK => ?_)
        go_simp
        refine hK.out _ _ (HY.out _ (alB BR.out _)) (fun hHeld => ?_)
        clear hK K
        try simp only [Act.put, List.setIfInBounds_toArray, List.set_cons_zero, List.set_cons_succ]
        refine till_ready 9 rfl (by kernel_rfl) (fun K hK => ?_)
        obtain ⟨g2, cp2, y2, hrun2, T82, c72, f72, B72⟩ := HA2.out; refine step_append_run rfl _ _ 23 rfl v2 (.slice (some ⟨z1.drew.heap.size, 0, none⟩) 1 1) _ _ rfl rfl hrun2 ?_
        refine hK.out _ _ (⟨c72, HXC.out _ B72⟩) (fun hHeld => ?_)
        clear hK K
        try simp only [Act.put, List.setIfInBounds_toArray, List.set_cons_zero, List.set_cons_succ]
        refine till_take 10 (v := ?_) rfl (by kernel_rfl) (by kernel_rfl) (by kernel_rfl) (by kernel_rfl) (fun _ _ _ h => h) hHeld (Or.inl ⟨by rfl, ?_⟩) ?_
        rotate_left
        · (intro w hSw; (try dsimp only at hSw); go_simp; try with_reducible rfl)
        simp only [Act.put, List.setIfInBounds_toArray, List.set_cons_zero, List.set_cons_succ]
        refine till_last rfl (by kernel_rfl) (by kernel_rfl) (fun K hK => ?_)
        go_simp
        refine hK.out _ _ ?_
        clear hK K
        have S9 : Hid (Two W2 Z 30 #[.string k, .int .i64 at_, .slice (some ⟨g, 0, none⟩) (NS.length + 1) cp, .slice (some ⟨g2, 0, none⟩) (CS.length + 1) cp2, .int .i64 (I : Int), .string fss, .string fv] (.slice (some ⟨g, 0, none⟩) (NS.length + 1) cp) (.slice (some ⟨g2, 0, none⟩) (CS.length + 1) cp2) ((fs.take (j + 1)).map (fun f => f.n)) ((fs.take (j + 1)).map (fun f => f.c)) (y2.setCell ⟨Z, 3, none⟩ (.slice (some ⟨g2, 0, none⟩) (CS.length + 1) cp2))) := by
          show Two _ _ _ _ _ _ _ _ _
          rw [HN.out, HM.out]; exact T82.swap
        clear T82 HA2 hrun2
        go_wp2_with fail
        go_roundw
        case rel => exact ⟨j + 1, _, _, by omega, by go_num, S9⟩
        case measure => simp [intOf]; omega
      · obtain rfl : j = fs.length := by omega
        have hS2 : Two W2 Z 30 #[.string k, .int .i64 at_, v1, v2, .int .i64 (I : Int), .string fss, .string fv] v1 v2 (fs.map (fun f => f.n)) (fs.map (fun f => f.c)) wr := by
          have h := hS.out
          rw [List.take_length] at h
          exact h
        obtain ⟨p1, k1, rfl, -, -⟩ := ownS_form hS2.own1
        obtain ⟨p2, k2, rfl, -, -⟩ := ownS_form hS2.own2
        have HD : Hid (∀ x0 x1 x2 x3 x4 x5 x6 x7 : Value, ShwO w.heap.size ⟨k, at_, fs.map (fun f => f.n), fs.map (fun f => f.c), I, fss, fv⟩ (.slice p1 (fs.map (fun f => f.n)).length k1) (.slice p2 (fs.map (fun f => f.c)).length k2) (set8 wr (w.heap.size + 1) x0 x1 x2 x3 x4 x5 x6 x7) ∧ Below w.heap.size w (set8 wr (w.heap.size + 1) x0 x1 x2 x3 x4 x5 x6 x7)) := by
          intro x0 x1 x2 x3 x4 x5 x6 x7
          have hs2 := HS2.out
          exact ⟨⟨ownS_mono (own_set8 hS2.own1 (by omega) _ _ _ _ _ _ _ _) (by omega), ownS_mono (own_set8 hS2.own2 (by omega) _ _ _ _ _ _ _ _) (by omega), hS2.ap⟩, below_set8 (chainB B2.out hS2.bel) (by omega) _ _ _ _ _ _ _ _⟩
        obtain ⟨r0, r1, r2, r3, r4, r5, r6, r7⟩ := (K1.out.below hS2.bel).eight
        obtain ⟨f0, f1, f2, f3, f4, f5, f6, f7⟩ := (K1.out.below hS2.bel).free8
        obtain ⟨x0, x1, x2, x3, x4, x5, x6⟩ : wr.cell? ⟨Z, 0, none⟩ = some (.string k) ∧ wr.cell? ⟨Z, 1, none⟩ = some (.int .i64 at_) ∧ wr.cell? ⟨Z, 2, none⟩ = some (.slice p1 (fs.map (fun f => f.n)).length k1) ∧ wr.cell? ⟨Z, 3, none⟩ = some (.slice p2 (fs.map (fun f => f.c)).length k2) ∧ wr.cell? ⟨Z, 4, none⟩ = some (.int .i64 (I : Int)) ∧ wr.cell? ⟨Z, 5, none⟩ = some (.string fss) ∧ wr.cell? ⟨Z, 6, none⟩ = some (.string fv) := ⟨hS2.box.cell 0, hS2.box.cell 1, hS2.box.cell 2, hS2.box.cell 3, hS2.box.cell 4, hS2.box.cell 5, hS2.box.cell 6⟩
        clear hS2 hS
        generalize fs.map (fun f => f.n) = NS at *
        generalize fs.map (fun f => f.c) = CS at *
        go_wp2_with fail
        refine bodyPost_ret (v := .agg #[.string k, .int .i64 at_, .slice p1 NS.length k1, .slice p2 CS.length k2, .int .i64 (I : Int), .string fss, .string fv, .int .i64 0]) (by simp [results, Tryz.results26, go_sem, r0, r1, r2, r3, r4, r5, r6, r7]) rfl ?_
        rw [HF2.out, hC.out]
        exact ⟨_, _, rfl, HD.out _ _ _ _ _ _ _ _⟩
end Go.Proofs.YtamdgdkpcoeknaaGreatDoor
