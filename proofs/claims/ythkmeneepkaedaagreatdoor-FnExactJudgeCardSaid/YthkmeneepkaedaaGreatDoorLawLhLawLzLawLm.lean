/-
  Parts of one proof, laid as one text: LawLh, LawLz, LawLm; what each says stands at its head.
-/
import Derived.Test.YthkmeneepkaedaaGreatDoorRows
import Derived.Test.YthkmeneepkaedaaGreatDoorBytesDigMath
import Derived.Test.YthkmeneepkaedaaGreatDoorTreeMathSlASlBBxKOwnS
import Derived.Test.YthkmeneepkaedaaGreatDoorFldGShwKFldHTakesAudMathLawAuOpAuFldRiseScanMath
import Derived.Test.YthkmeneepkaedaaGreatDoorTimeBPutMathPutNumJoinedPutTextFldMath
import Derived.Test.YthkmeneepkaedaaGreatDoorLawSXOneKFldBlkLawFLawFM
import Derived.Test.YthkmeneepkaedaaGreatDoorRwBlkLawFRLawLg
import Derived.Test.YthkmeneepkaedaaGreatDoorLgAtKLgAnsLawSLawMLawMGLawPfLawSG
import Derived.Test.YthkmeneepkaedaaGreatDoorGetValGetTxtNumMathFldRdNumFromTmbMathLgMath
import Derived.Handy
import Derived.WalkSpells
import Derived.OwnWalk
import Derived.Deep.RegionHeld3
import Derived.Deep.Cut
import Derived.Laws.OwnMore
/-
  What the laws' own helpers toLog, eqRowS and eqLog answer.
-/
namespace Go.Proofs.YthkmeneepkaedaaGreatDoor
open Go.RowKit Go.Lib
set_option linter.unusedVariables false
set_option maxRecDepth 20000

/-- A log of its own: a block of rows, the fields of each in a block of their own, and behind all these a block of leaves. -/
structure LgB (w : World) (g : Nat) (xs : List (Rw × Nat)) (gl : Nat) (lv : List ByteArray) : Prop where
  rw : RwsB w g xs
  lf : BlkS w gl lv
  gg : g < gl
  gx : ∀ x ∈ xs, x.2 < gl
theorem LgB.below {w w' : World} {g : Nat} {xs : List (Rw × Nat)} {gl : Nat} {lv : List ByteArray} (h : LgB w g xs gl lv) (hb : Below w.heap.size w w') : LgB w' g xs gl lv := ⟨h.rw.below hb, h.lf.below hb h.lf.lt, h.gg, h.gx⟩
theorem BlkS.bxs {w : World} {g : Nat} {l : List ByteArray} (h : BlkS w g l) : Bxs w g 9 (strRow l).toArray := h
set_option maxHeartbeats 4000000 in
theorem toLog_any (q : Option Addr) (cq : Nat) (rs : List Rw) (p : Option Addr) (cp : Nat) (lv : List ByteArray) (now : Int) (w : World) (hq : RwAt w q rs) (hn : rs.length ≤ 1048576) (hcq : rs.length ≤ cq) (hf : ∀ x ∈ rs, x.fs.length ≤ 1048576) (hp : TxtAt w p lv) (hl : lv.length ≤ 1048576) (hcp : lv.length ≤ cp) :
    Calls Tryz.prog 8 #[.agg #[.slice q rs.length cq, .slice p lv.length cp, .int .i64 now]] w fun e w' => ∃ g gl xs, xs.map (·.1) = rs ∧ w.heap.size ≤ g ∧ e = .returned (.agg #[.slice (some ⟨g, 0, none⟩) rs.length rs.length, .slice (some ⟨gl, 0, none⟩) lv.length lv.length, .int .i64 now]) ∧ LgB w' g xs gl lv ∧ Below w.heap.size w w' := by
  obtain ⟨W3, hW3⟩ : ∃ W3, W3 = ((w.alloc (.cells #[.slice q rs.length cq, .slice p lv.length cp, .int .i64 now] 25)).alloc (.cells #[.slice none 0 0, .slice none 0 0, .int .i64 0] 30)).alloc (.cells #[.slice none 0 0, .slice none 0 0, .int .i64 0] 30) := ⟨_, rfl⟩
  have HW3 : Hid (W3 = ((w.alloc (.cells #[.slice q rs.length cq, .slice p lv.length cp, .int .i64 now] 25)).alloc (.cells #[.slice none 0 0, .slice none 0 0, .int .i64 0] 30)).alloc (.cells #[.slice none 0 0, .slice none 0 0, .int .i64 0] 30)) := hW3
  have B3 : Hid (Below w.heap.size w W3) := by rw [hW3]; exact (((Below.refl _ _).alloc (Nat.le_refl _) _).alloc (by simp) _).alloc (by simp; omega) _
  have K0 : Hid (Bxs W3 w.heap.size 25 #[.slice q rs.length cq, .slice p lv.length cp, .int .i64 now]) := by rw [hW3]; exact ((Bxs.new _ _ _).alloc _).alloc _
  have K1 : Hid (Bxs W3 (w.heap.size + 1) 30 #[.slice none 0 0, .slice none 0 0, .int .i64 0]) := by
    rw [hW3]
    have := Bxs.new (w.alloc (.cells #[.slice q rs.length cq, .slice p lv.length cp, .int .i64 now] 25)) 30 #[.slice none 0 0, .slice none 0 0, .int .i64 0]
    rw [szA] at this
    exact this.alloc _
  have K2 : Hid (Bxs W3 (w.heap.size + 2) 30 #[.slice none 0 0, .slice none 0 0, .int .i64 0]) := by
    rw [hW3]
    have := Bxs.new ((w.alloc (.cells #[.slice q rs.length cq, .slice p lv.length cp, .int .i64 now] 25)).alloc (.cells #[.slice none 0 0, .slice none 0 0, .int .i64 0] 30)) 30 #[.slice none 0 0, .slice none 0 0, .int .i64 0]
    rw [szA, szA] at this
    exact this
  have HZ : Hid (W3.heap.size = w.heap.size + 3) := by rw [hW3]; show _ = _; simp
  have hR := toRowS_any q cq rs W3 (hq.below B3.out) hn hcq hf
  have HT : Hid (∀ x, Below w.heap.size w x → Calls Tryz.prog 30 #[.slice p lv.length cp] x fun e w' => e = .returned (.slice (some ⟨x.heap.size, 0, none⟩) lv.length lv.length) ∧ BlkS w' x.heap.size lv ∧ Below x.heap.size x w') := fun x hb => to_any p cp lv x (hp.below hb) hl hcp
  have x0 := K0.out.cell 0
  rw [HW3.out] at x0
  clear hW3 hq hp hf
  go_enter Tryz.func8, Tryz.ntmps8
  go_wp2_with fail
  rw [← HW3.out]
  refine hR.mono ?_
  rintro e y1 ⟨rfl, ⟨xs, hxs, hX⟩, b1⟩
  clear hR x0 HW3
  have k20 := (K2.out.below b1).cell 0
  have k2f := (K2.out.below b1).fr 0
  obtain ⟨Y2, hY2⟩ : ∃ Y2, Y2 = y1.setCell ⟨w.heap.size + 2, 0, none⟩ (.slice (some ⟨W3.heap.size, 0, none⟩) rs.length rs.length) := ⟨_, rfl⟩
  have HY2 : Hid (Y2 = y1.setCell ⟨w.heap.size + 2, 0, none⟩ (.slice (some ⟨W3.heap.size, 0, none⟩) rs.length rs.length)) := hY2
  have hz1 := b1.size
  have hzz := HZ.out
  have J0 : Hid (Bxs Y2 w.heap.size 25 #[.slice q rs.length cq, .slice p lv.length cp, .int .i64 now]) := by rw [hY2]; exact (K0.out.below b1).other _ _ (by omega) _
  have J1 : Hid (Bxs Y2 (w.heap.size + 1) 30 #[.slice none 0 0, .slice none 0 0, .int .i64 0]) := by rw [hY2]; exact (K1.out.below b1).other _ _ (by omega) _
  have J2 : Hid (Bxs Y2 (w.heap.size + 2) 30 #[.slice (some ⟨W3.heap.size, 0, none⟩) rs.length rs.length, .slice none 0 0, .int .i64 0]) := by rw [hY2]; exact (K2.out.below b1).set 0 _
  have JX : Hid (RwsB Y2 W3.heap.size xs) := by
    rw [hY2]
    exact ⟨Bxs.other hX.blk _ _ (by omega) _, fun x hx => Bxs.other (hX.fld x hx) _ _ (by have := hX.up x hx; omega) _, hX.up, hX.apart⟩
  have JB : Hid (Below w.heap.size w Y2) := by rw [hY2]; exact (chainB B3.out b1).setCell (p := ⟨w.heap.size + 2, 0, none⟩) (Nat.le_add_right _ _) _
  have HXS : Hid (xs.map (·.1) = rs) := hxs
  have HZ2 : Hid (w.heap.size + 3 ≤ Y2.heap.size) := by rw [hY2]; show _ ≤ _; simp; omega
  clear hY2 b1 hX hz1 hzz K0 K1 K2 hxs
  have hT := HT.out Y2 JB.out
  have j01 := J0.out.cell 1
  rw [HY2.out] at j01
  go_wp2_with fail
  rw [← HY2.out]
  refine hT.mono ?_
  rintro e y3 ⟨rfl, hS, b3⟩
  clear hT HT j01 HY2 k20 k2f
  have x2 := (J0.out.below b3).cell 2
  obtain ⟨q0, q1, q2⟩ : y3.cell? ⟨w.heap.size + 2, 0, none⟩ = some (.slice (some ⟨W3.heap.size, 0, none⟩) rs.length rs.length) ∧ y3.cell? ⟨w.heap.size + 2, 1, none⟩ = some (.slice none 0 0) ∧ y3.cell? ⟨w.heap.size + 2, 2, none⟩ = some (.int .i64 0) := ⟨(J2.out.below b3).cell 0, (J2.out.below b3).cell 1, (J2.out.below b3).cell 2⟩
  have q1f := (J2.out.below b3).fr 1
  have q2f := (J2.out.below b3).fr 2
  obtain ⟨r0, r1, r2⟩ : y3.cell? ⟨w.heap.size + 1, 0, none⟩ = some (.slice none 0 0) ∧ y3.cell? ⟨w.heap.size + 1, 1, none⟩ = some (.slice none 0 0) ∧ y3.cell? ⟨w.heap.size + 1, 2, none⟩ = some (.int .i64 0) := ⟨(J1.out.below b3).cell 0, (J1.out.below b3).cell 1, (J1.out.below b3).cell 2⟩
  have r0f := (J1.out.below b3).fr 0
  have r1f := (J1.out.below b3).fr 1
  have r2f := (J1.out.below b3).fr 2
  have HEnd : Hid (∀ v0 v1 v2 v3 v4 : Value, LgB (((((y3.setCell ⟨w.heap.size + 2, 1, none⟩ v0).setCell ⟨w.heap.size + 2, 2, none⟩ v1).setCell ⟨w.heap.size + 1, 0, none⟩ v2).setCell ⟨w.heap.size + 1, 1, none⟩ v3).setCell ⟨w.heap.size + 1, 2, none⟩ v4) W3.heap.size xs Y2.heap.size lv ∧ Below w.heap.size w (((((y3.setCell ⟨w.heap.size + 2, 1, none⟩ v0).setCell ⟨w.heap.size + 2, 2, none⟩ v1).setCell ⟨w.heap.size + 1, 0, none⟩ v2).setCell ⟨w.heap.size + 1, 1, none⟩ v3).setCell ⟨w.heap.size + 1, 2, none⟩ v4)) := by
    intro v0 v1 v2 v3 v4
    have hzz := HZ.out
    have hz2 := HZ2.out
    have hX3 := JX.out.below b3
    have oth : ∀ {g : Nat} {T : TypeId} {cs : Array Value}, Bxs y3 g T cs → w.heap.size + 2 < g → Bxs (((((y3.setCell ⟨w.heap.size + 2, 1, none⟩ v0).setCell ⟨w.heap.size + 2, 2, none⟩ v1).setCell ⟨w.heap.size + 1, 0, none⟩ v2).setCell ⟨w.heap.size + 1, 1, none⟩ v3).setCell ⟨w.heap.size + 1, 2, none⟩ v4) g T cs := fun h hg => ((((h.other _ _ (by omega) _).other _ _ (by omega) _).other _ _ (by omega) _).other _ _ (by omega) _).other _ _ (by omega) _
    refine ⟨⟨⟨oth hX3.blk (by omega), fun x hx => oth (hX3.fld x hx) (by have := hX3.up x hx; omega), hX3.up, hX3.apart⟩, oth hS.bxs (by omega), JX.out.lt, fun x hx => Bxs.lt (JX.out.fld x hx)⟩, ?_⟩
    have hb := chainB JB.out b3
    exact ((((hb.setCell (p := ⟨w.heap.size + 2, 1, none⟩) (Nat.le_add_right _ _) _).setCell (p := ⟨w.heap.size + 2, 2, none⟩) (Nat.le_add_right _ _) _).setCell (p := ⟨w.heap.size + 1, 0, none⟩) (Nat.le_add_right _ _) _).setCell (p := ⟨w.heap.size + 1, 1, none⟩) (Nat.le_add_right _ _) _).setCell (p := ⟨w.heap.size + 1, 2, none⟩) (Nat.le_add_right _ _) _
  have HG : Hid (w.heap.size ≤ W3.heap.size) := B3.out.size
  clear hS b3 J0 J1 J2 JX JB HZ2 HZ B3
  generalize Y2.heap.size = gl at *
  generalize W3.heap.size = g at *
  go_wp2_with fail
  refine bodyPost_ret (v := .agg #[.slice (some ⟨g, 0, none⟩) rs.length rs.length, .slice (some ⟨gl, 0, none⟩) lv.length lv.length, .int .i64 now]) (by simp [results, Tryz.results8, go_sem, r0, r1, r2]) rfl ?_
  exact ⟨g, gl, xs, HXS.out, HG.out, rfl, HEnd.out _ _ _ _ _⟩
set_option maxHeartbeats 4000000 in
theorem eqRowS_any (p q : Option Addr) (c d : Nat) (rs : List Rw) (w : World) (hp : RwAt w p rs) (hq : RwAt w q rs) (hn : rs.length ≤ 1048576) (hc : rs.length ≤ c) (hd : rs.length ≤ d) (hf : ∀ x ∈ rs, x.fs.length ≤ 1048576) :
    Calls Tryz.prog 33 #[.slice p rs.length c, .slice q rs.length d] w fun e w' => e = .returned (.bool true) ∧ Below w.heap.size w w' := by
  have HP : Hid (RwAt w p rs) := hp
  have HQ : Hid (RwAt w q rs) := hq
  have HF : Hid (∀ x ∈ rs, x.fs.length ≤ 1048576) := hf
  clear hp hq hf
  go_enter Tryz.func33, Tryz.ntmps33
  go_wp2_with fail
  go_loopw [5] (fun i wr => ∃ k : Nat, k ≤ rs.length ∧ i = .int .i64 k ∧ Hid (Below w.heap.size w wr)) (fun i _ => rs.length - (intOf i).toNat)
  case atStart => exact ⟨0, Nat.zero_le _, rfl, Below.refl _ _⟩
  case round =>
    obtain ⟨k, hk, rfl, HB⟩ := hrel
    by_cases hlt : k < rs.length
    · have i1 : (k : Int) < rs.length := by omega
      obtain ⟨b, off, rq, rc, rfl, hb0, c0, c1, c2, c3, c4⟩ := (HP.out.below HB.out) k hlt
      obtain ⟨b', off', rq', rc', rfl, hb0', c0', c1', c2', c3', c4'⟩ := (HQ.out.below HB.out) k hlt
      have hE := eqRow_any rs[k].k rs[k].a rq rq' rc rc' rs[k].fs wr.drew (c4.below (Below.refl _ _).drew) (c4'.below (Below.refl _ _).drew) (HF.out _ (List.getElem_mem hlt)) c3 c3'
      have HX : Hid (∀ x, Below wr.heap.size wr x → x.cell? ⟨b, off + k * 3, none⟩ = some (.string rs[k].k) ∧ x.cell? ⟨b, off + k * 3 + 1, none⟩ = some (.int .i64 rs[k].a) ∧ x.cell? ⟨b, off + k * 3 + 2, none⟩ = some (.slice rq rs[k].fs.length rc) ∧ x.cell? ⟨b', off' + k * 3, none⟩ = some (.string rs[k].k) ∧ x.cell? ⟨b', off' + k * 3 + 1, none⟩ = some (.int .i64 rs[k].a) ∧ x.cell? ⟨b', off' + k * 3 + 2, none⟩ = some (.slice rq' rs[k].fs.length rc')) := fun x hb => ⟨(hb.cell (p := ⟨b, off + k * 3, none⟩) hb0).trans c0, (hb.cell (p := ⟨b, off + k * 3 + 1, none⟩) hb0).trans c1, (hb.cell (p := ⟨b, off + k * 3 + 2, none⟩) hb0).trans c2, (hb.cell (p := ⟨b', off' + k * 3, none⟩) hb0').trans c0', (hb.cell (p := ⟨b', off' + k * 3 + 1, none⟩) hb0').trans c1', (hb.cell (p := ⟨b', off' + k * 3 + 2, none⟩) hb0').trans c2'⟩
      clear c0 c1 c2 c3 c4 c0' c1' c2' c3' c4'
      generalize rs[k].k = rk at *
      generalize rs[k].a = ra at *
      generalize rs[k].fs.length = fl at *
      go_upto_region 6 with fail
      refine wp_region_held_drew (S := (fun w' => w'.cell? ⟨b, off + k * 3, none⟩ = some (.string rk) ∧ w'.cell? ⟨b, off + k * 3 + 1, none⟩ = some (.int .i64 ra) ∧ w'.cell? ⟨b, off + k * 3 + 2, none⟩ = some (.slice rq fl rc) ∧ w'.cell? ⟨b', off' + k * 3, none⟩ = some (.string rk) ∧ w'.cell? ⟨b', off' + k * 3 + 1, none⟩ = some (.int .i64 ra) ∧ w'.cell? ⟨b', off' + k * 3 + 2, none⟩ = some (.slice rq' fl rc'))) (by kernel_rfl) (HX.out _ (Below.refl _ _).drew) (fun hHeld => ?_)
      refine take_at 0 (v := ?_) rfl (by kernel_rfl) (by kernel_rfl) (by kernel_rfl) (fun _ _ _ h => h) hHeld (Or.inl ⟨by rfl, ?_⟩) ?_
      rotate_left
      · (intro w hSw; (try dsimp only at hSw); go_simp; try with_reducible rfl)
      simp only [Act.put, List.setIfInBounds_toArray, List.set_cons_zero, List.set_cons_succ]
      refine take_at 1 (v := ?_) rfl (by kernel_rfl) (by kernel_rfl) (by kernel_rfl) (fun _ _ _ h => h) hHeld (Or.inl ⟨by rfl, ?_⟩) ?_
      rotate_left
      · (intro w hSw; (try dsimp only at hSw); go_simp; try with_reducible rfl)
      simp only [Act.put, List.setIfInBounds_toArray, List.set_cons_zero, List.set_cons_succ]
      refine take_at 2 (v := ?_) rfl (by kernel_rfl) (by kernel_rfl) (by kernel_rfl) (fun _ _ _ h => h) hHeld (Or.inl ⟨by rfl, ?_⟩) ?_
      rotate_left
      · (intro w hSw; (try dsimp only at hSw); go_simp; try with_reducible rfl)
      simp only [Act.put, List.setIfInBounds_toArray, List.set_cons_zero, List.set_cons_succ]
      refine take_at 3 (v := ?_) rfl (by kernel_rfl) (by kernel_rfl) (by kernel_rfl) (fun _ _ _ h => h) hHeld (Or.inl ⟨by rfl, ?_⟩) ?_
      rotate_left
      · (intro w hSw; (try dsimp only at hSw); go_simp; try with_reducible rfl)
      simp only [Act.put, List.setIfInBounds_toArray, List.set_cons_zero, List.set_cons_succ]
      refine take_at 4 (v := ?_) rfl (by kernel_rfl) (by kernel_rfl) (by kernel_rfl) (fun _ _ _ h => h) hHeld (Or.inl ⟨by rfl, ?_⟩) ?_
      rotate_left
      · (intro w hSw; (try dsimp only at hSw); go_simp; try with_reducible rfl)
      simp only [Act.put, List.setIfInBounds_toArray, List.set_cons_zero, List.set_cons_succ]
      refine take_at 5 (v := ?_) rfl (by kernel_rfl) (by kernel_rfl) (by kernel_rfl) (fun _ _ _ h => h) hHeld (Or.inl ⟨by rfl, ?_⟩) ?_
      rotate_left
      · (intro w hSw; (try dsimp only at hSw); go_simp; try with_reducible rfl)
      simp only [Act.put, List.setIfInBounds_toArray, List.set_cons_zero, List.set_cons_succ]
      refine take_at 6 (v := ?_) rfl (by kernel_rfl) (by kernel_rfl) (by kernel_rfl) (fun _ _ _ h => h) hHeld (Or.inl ⟨by rfl, ?_⟩) ?_
      rotate_left
      · (intro w hSw; (try dsimp only at hSw); go_simp; try with_reducible rfl)
      simp only [Act.put, List.setIfInBounds_toArray, List.set_cons_zero, List.set_cons_succ]
      refine take_at 7 (v := ?_) rfl (by kernel_rfl) (by kernel_rfl) (by kernel_rfl) (fun _ _ _ h => h) hHeld (Or.inl ⟨by rfl, ?_⟩) ?_
      rotate_left
      · (intro w hSw; (try dsimp only at hSw); go_simp; try with_reducible rfl)
      simp only [Act.put, List.setIfInBounds_toArray, List.set_cons_zero, List.set_cons_succ]
      refine ready_at 8 rfl (by kernel_rfl) (fun K hK => ?_)
      go_simp
      (go_at_call 73; with_reducible refine hE.mono ?_; rintro e ya ⟨rfl, z0⟩; have z1 : Below wr.heap.size wr ya := chainB (Below.refl _ _).drew z0)
      refine hK.out _ _ (HX.out _ z1) (fun hHeld => ?_)
      clear hK K
      try simp only [Act.put, List.setIfInBounds_toArray, List.set_cons_zero, List.set_cons_succ]
      refine take_at 9 (v := ?_) rfl (by kernel_rfl) (by kernel_rfl) (by kernel_rfl) (fun _ _ _ h => h) hHeld (Or.inl ⟨by rfl, ?_⟩) ?_
      rotate_left
      · (intro w hSw; (try dsimp only at hSw); go_simp; try with_reducible rfl)
      simp only [Act.put, List.setIfInBounds_toArray, List.set_cons_zero, List.set_cons_succ]
      refine wpAnyH_done (by kernel_rfl) ?_ _
      go_wp2_with fail
      go_roundw
      case rel => exact ⟨k + 1, by omega, by simp, chainB HB.out z1⟩
      case measure => simp [intOf]; omega
    · obtain rfl : k = rs.length := by omega
      go_wp2_with fail
      go_ret
      exact ⟨rfl, HB.out⟩
set_option maxHeartbeats 2000000 in
theorem eqLog_any (q q' : Option Addr) (cq cq' : Nat) (rs : List Rw) (p p' : Option Addr) (cp cp' : Nat) (lv : List ByteArray) (now : Int) (w : World) (hq : RwAt w q rs) (hq' : RwAt w q' rs) (hn : rs.length ≤ 1048576) (hcq : rs.length ≤ cq) (hcq' : rs.length ≤ cq') (hf : ∀ x ∈ rs, x.fs.length ≤ 1048576) (hp : TxtAt w p lv) (hp' : TxtAt w p' lv) (hl : lv.length ≤ 1048576) (hcp : lv.length ≤ cp) (hcp' : lv.length ≤ cp') :
    Calls Tryz.prog 10 #[.agg #[.slice q rs.length cq, .slice p lv.length cp, .int .i64 now], .agg #[.slice q' rs.length cq', .slice p' lv.length cp', .int .i64 now]] w fun e w' => e = .returned (.bool true) ∧ Below w.heap.size w w' := by
  obtain ⟨W2, hW2⟩ : ∃ W2, W2 = (w.alloc (.cells #[.slice q rs.length cq, .slice p lv.length cp, .int .i64 now] 30)).alloc (.cells #[.slice q' rs.length cq', .slice p' lv.length cp', .int .i64 now] 30) := ⟨_, rfl⟩
  have HW2 : Hid (W2 = (w.alloc (.cells #[.slice q rs.length cq, .slice p lv.length cp, .int .i64 now] 30)).alloc (.cells #[.slice q' rs.length cq', .slice p' lv.length cp', .int .i64 now] 30)) := hW2
  have B2 : Hid (Below w.heap.size w W2) := by rw [hW2]; exact ((Below.refl _ _).alloc (Nat.le_refl _) _).alloc (by simp) _
  have K0 : Hid (Bxs W2 w.heap.size 30 #[.slice q rs.length cq, .slice p lv.length cp, .int .i64 now]) := by rw [hW2]; exact (Bxs.new _ _ _).alloc _
  have K1 : Hid (Bxs W2 (w.heap.size + 1) 30 #[.slice q' rs.length cq', .slice p' lv.length cp', .int .i64 now]) := by
    rw [hW2]
    have := Bxs.new (w.alloc (.cells #[.slice q rs.length cq, .slice p lv.length cp, .int .i64 now] 30)) 30 #[.slice q' rs.length cq', .slice p' lv.length cp', .int .i64 now]
    rwa [szA] at this
  have hR := eqRowS_any q q' cq cq' rs W2 (hq.below B2.out) (hq'.below B2.out) hn hcq hcq' hf
  have HT : Hid (∀ x, Below w.heap.size w x → Calls Tryz.prog 34 #[.slice p lv.length cp, .slice p' lv.length cp'] x fun e w' => e = .returned (.bool true) ∧ Below x.heap.size x w') := fun x hb => (eq_any p p' cp cp' lv lv x (hp.below hb) (hp'.below hb) (by omega) (by omega) hcp hcp').mono (by rintro e y ⟨rfl, h⟩; exact ⟨by rw [decide_eq_true rfl], h⟩)
  have x0 := K0.out.cell 0
  have x1 := K1.out.cell 0
  rw [HW2.out] at x0 x1
  clear hW2 hq hq' hp hp' hf
  go_enter Tryz.func10, Tryz.ntmps10
  go_wp2_with fail
  rw [← HW2.out]
  refine hR.mono ?_
  rintro e y ⟨rfl, by_⟩
  clear hR x0 x1 HW2
  have a1 := (K0.out.below by_).cell 1
  have b1 := (K1.out.below by_).cell 1
  have hT := HT.out y (chainB B2.out by_)
  go_wp2_with fail
  refine hT.mono ?_
  rintro e y2 ⟨rfl, by2⟩
  clear hT HT a1 b1
  have a2 := ((K0.out.below by_).below by2).cell 2
  have b2 := ((K1.out.below by_).below by2).cell 2
  go_wp2_with fail
  go_ret
  exact ⟨rfl, chainB (chainB B2.out by_) by2⟩
end Go.Proofs.YthkmeneepkaedaaGreatDoor
/-
  What the laws' own helpers szFieldS, szRow, szRowS, szStringS and szLog answer, the sum kept: of what is few and small a number that is not below 0 and that leaves room for the count of all rows, fields and leaves; else -1.
-/
namespace Go.Proofs.YthkmeneepkaedaaGreatDoor
open Go.RowKit Go.Lib
set_option linter.unusedVariables false
set_option maxRecDepth 20000

/-- How many fields the rows have, all together. -/
def fsN (rs : List Rw) : Nat := (rs.map (fun r => r.fs.length)).sum
theorem fsN_take (rs : List Rw) (k : Nat) (h : k < rs.length) : fsN (rs.take (k + 1)) = fsN (rs.take k) + rs[k].fs.length := by
  unfold fsN
  rw [List.take_succ_eq_append_getElem h, List.map_append, List.sum_append]; simp
theorem fsN_all (rs : List Rw) : fsN (rs.take rs.length) = fsN rs := by rw [List.take_length]
theorem fsN_mem {rs : List Rw} {x : Rw} (h : x ∈ rs) : x.fs.length ≤ fsN rs := by
  unfold fsN
  induction rs with
  | nil => cases h
  | cons y l ih =>
    rw [List.map_cons, List.sum_cons]
    rcases List.mem_cons.1 h with rfl | h
    · omega
    · have := ih h; omega
set_option maxHeartbeats 1000000 in
theorem szFz_any (l0 : Int) (l00 : 0 ≤ l0) (l01 : l0 ≤ 1048576) (p : Option Addr) (cap : Nat) (fs : List Fld) (w : World) (hp : FldAt w p fs) (hn : fs.length ≤ 9223372036854775807) (hcap : fs.length ≤ cap) (hs : FldsBig fs) :
    Calls Tryz.prog 96 #[.slice p fs.length cap, .int .i64 l0] w fun e w' => (∃ r : Int, e = .returned (.int .i64 r) ∧ (r = -1 ∨ (0 ≤ r ∧ r + fs.length ≤ l0))) ∧ Below w.heap.size w w' := by
  have HP : Hid (FldAt w p fs) := hp
  have HS : Hid (FldsBig fs) := hs
  clear hp hs
  by_cases hl : (fs.length : Int) ≤ l0
  · go_enter Tryz.func96, Tryz.ntmps96
    go_wp2_with fail
    go_loopw [5, 1] (fun i x wr => ∃ (k : Nat) (l : Int), k ≤ fs.length ∧ i = .int .i64 k ∧ x = .int .i64 l ∧ 0 ≤ l ∧ l + fs.length ≤ l0 ∧ Hid (Below w.heap.size w wr)) (fun i _ _ => fs.length - (intOf i).toNat)
    case atStart => exact ⟨0, _, Nat.zero_le _, rfl, rfl, by omega, by omega, Below.refl _ _⟩
    case round =>
      obtain ⟨k, l, hk, rfl, rfl, hl0, hl1, HB⟩ := hrel
      by_cases hlt : k < fs.length
      · obtain ⟨b, off, rfl, hb, hc1, hc2, hc3, hc4, hc5⟩ := (HP.out.below HB.out) k hlt
        have hsz := HS.out fs[k] (List.getElem_mem hlt)
        have j5 : (k : Int) < fs.length := by omega
        generalize fs[k] = f at *
        obtain ⟨n, c, s, v, g⟩ := f
        have hc1 : wr.cell? ⟨b, off + k * 5, none⟩ = some (.string n) := hc1
        have hc2 : wr.cell? ⟨b, off + k * 5 + 1, none⟩ = some (.string c) := hc2
        have hc3 : wr.cell? ⟨b, off + k * 5 + 2, none⟩ = some (.string s) := hc3
        have hc4 : wr.cell? ⟨b, off + k * 5 + 3, none⟩ = some (.string v) := hc4
        have hc5 : wr.cell? ⟨b, off + k * 5 + 4, none⟩ = some (.bool g) := hc5
        have hS := szFld_any ⟨n, c, s, v, g⟩ l wr hl0 (by omega) hsz.1 hsz.2.1 hsz.2.2.1 hsz.2.2.2
        clear hsz
        go_wp2_with fail
        refine hS.mono ?_
        rintro e w1 ⟨⟨r, rfl, hr⟩, b1⟩
        have HB1 : Hid (Below w.heap.size w w1) := chainB HB.out b1
        clear b1 HB hS hc1 hc2 hc3 hc4 hc5
        rcases hr with rfl | ⟨r0, r1⟩
        · go_wp2_with fail
          go_ret
          exact ⟨⟨_, rfl, .inl rfl⟩, HB1.out⟩
        · have dl : decide (r < 0) = false := decide_eq_false (by omega)
          go_wp2_with fail
          go_roundw
          case rel => exact ⟨k + 1, r, by omega, by go_num, rfl, by omega, by omega, HB1⟩
          case measure => simp [intOf]; omega
      · go_wp2_with fail
        go_ret
        exact ⟨⟨_, rfl, .inr ⟨hl0, by omega⟩⟩, HB.out⟩
  · go_enter Tryz.func96, Tryz.ntmps96
    go_wp2_with fail
    go_ret
    exact ⟨⟨_, rfl, .inl rfl⟩, Below.refl _ _⟩
set_option maxHeartbeats 400000 in
theorem szGz_any (l0 : Int) (l00 : 0 ≤ l0) (l01 : l0 ≤ 1048576) (p : Option Addr) (cap : Nat) (ss : List ByteArray) (w : World) (hp : TxtAt w p ss) (hn : ss.length ≤ 9223372036854775807) (hcap : ss.length ≤ cap) (hs : ∀ x ∈ ss, x.size ≤ 9223372036854775807) :
    Calls Tryz.prog 24 #[.slice p ss.length cap, .int .i64 l0] w fun e w' => (∃ r : Int, e = .returned (.int .i64 r) ∧ (r = -1 ∨ (0 ≤ r ∧ r + ss.length ≤ l0))) ∧ w' = w := by
  have HP : Hid (TxtAt w p ss) := hp
  have HS : Hid (∀ x ∈ ss, x.size ≤ 9223372036854775807) := hs
  clear hp hs
  by_cases hl : (ss.length : Int) ≤ l0
  · go_enter Tryz.func24, Tryz.ntmps24
    go_wp2
    go_loop [5, 1] (fun i x => ∃ (k : Nat) (l : Int), k ≤ ss.length ∧ i = .int .i64 k ∧ x = .int .i64 l ∧ 0 ≤ l ∧ l + ss.length ≤ l0) (fun i _ => ss.length - (intOf i).toNat)
    case atStart => exact ⟨0, _, Nat.zero_le _, rfl, rfl, by omega, by omega⟩
    case round =>
      obtain ⟨k, l, hk, rfl, rfl, hl0, hl1⟩ := hrel
      by_cases hlt : k < ss.length
      · obtain ⟨b, off, rfl, hb, hck⟩ := HP.out k hlt
        have hsz := HS.out ss[k] (List.getElem_mem hlt)
        by_cases h32 : (ss[k].size : Int) ≤ l
        · generalize ss[k] = q at *
          go_wp2
          go_round
          case rel => exact ⟨k + 1, l - q.size, by omega, by go_num, by go_num, by omega, by omega⟩
          case measure => simp [intOf]; omega
        · generalize ss[k] = q at *
          go_wp2
          go_ret
          exact ⟨⟨_, rfl, .inl rfl⟩, rfl⟩
      · go_wp2
        go_ret
        exact ⟨⟨_, rfl, .inr ⟨hl0, by omega⟩⟩, rfl⟩
  · go_enter Tryz.func24, Tryz.ntmps24
    go_wp2
    go_ret
    exact ⟨⟨_, rfl, .inl rfl⟩, rfl⟩
set_option maxHeartbeats 1000000 in
theorem szRowZ_any (l0 : Int) (l00 : 0 ≤ l0) (l01 : l0 ≤ 1048576) (kd : ByteArray) (at_ : Int) (p : Option Addr) (c : Nat) (fs : List Fld) (w : World) (h1 : FldAt w p fs) (n1 : fs.length ≤ 9223372036854775807) (m1 : fs.length ≤ c) (s1 : FldsBig fs) (s0 : kd.size ≤ 9223372036854775807) :
    Calls Tryz.prog 63 #[.agg #[.string kd, .int .i64 at_, .slice p fs.length c], .int .i64 l0] w fun e w' => (∃ r : Int, e = .returned (.int .i64 r) ∧ (r = -1 ∨ (0 ≤ r ∧ r + fs.length ≤ l0))) ∧ Below w.heap.size w w' := by
  obtain ⟨W1, hW1⟩ : ∃ W1, W1 = w.alloc (.cells #[.string kd, .int .i64 at_, .slice p fs.length c] 114) := ⟨_, rfl⟩
  have HW1 : Hid (W1 = w.alloc (.cells #[.string kd, .int .i64 at_, .slice p fs.length c] 114)) := hW1
  have B1 : Hid (Below w.heap.size w W1) := by rw [hW1]; exact (Below.refl _ _).alloc (Nat.le_refl _) _
  have H2 : Hid (∀ (l0 : Int), 0 ≤ l0 → l0 ≤ 1048576 → Calls Tryz.prog 96 #[.slice p fs.length c, .int .i64 l0] W1 fun e w' => (∃ r : Int, e = .returned (.int .i64 r) ∧ (r = -1 ∨ (0 ≤ r ∧ r + fs.length ≤ l0))) ∧ Below W1.heap.size W1 w') := fun l0 a b => szFz_any l0 a b p c fs W1 (h1.below B1.out) n1 m1 s1
  clear h1 s1 hW1
  by_cases hk : (kd.size : Int) ≤ l0
  · have H3 := H2.out (l0 - kd.size) (by omega) (by omega)
    have d0 : decide (l0 - (kd.size : Int) < 0) = false := decide_eq_false (by omega)
    clear H2
    go_enter Tryz.func63, Tryz.ntmps63
    go_wp2_with fail
    rw [← HW1.out]
    refine H3.mono ?_
    rintro e w2 ⟨⟨r', rfl, hr'⟩, b2⟩
    have b2 := chainB B1.out b2
    clear H3
    rcases hr' with rfl | ⟨r4, r5⟩
    · go_wp2_with fail
      go_ret
      exact ⟨⟨_, rfl, .inl rfl⟩, b2⟩
    · have dr : decide (r' < 0) = false := decide_eq_false (by omega)
      go_wp2_with fail
      go_ret
      exact ⟨⟨_, rfl, .inr ⟨r4, by omega⟩⟩, b2⟩
  · have d0 : decide (l0 - (kd.size : Int) < 0) = true := decide_eq_true (by omega)
    clear H2
    go_enter Tryz.func63, Tryz.ntmps63
    go_wp2_with fail
    rw [← HW1.out]
    go_ret
    exact ⟨⟨_, rfl, .inl rfl⟩, B1.out⟩
set_option maxHeartbeats 2000000 in
theorem szRowsZ_any (p : Option Addr) (cap : Nat) (rs : List Rw) (w : World) (hp : RwAt w p rs) (hn : rs.length ≤ 9223372036854775807) (hcap : rs.length ≤ cap) (hs : RwsBig rs) :
    Calls Tryz.prog 23 #[.slice p rs.length cap, .int .i64 1048576] w fun e w' => (∃ r : Int, e = .returned (.int .i64 r) ∧ (r = -1 ∨ (0 ≤ r ∧ r + rs.length + fsN rs ≤ 1048576))) ∧ Below w.heap.size w w' := by
  have HP : Hid (RwAt w p rs) := hp
  have HS : Hid (RwsBig rs) := hs
  clear hp hs
  by_cases hl : (rs.length : Int) ≤ 1048576
  · have d0 : decide ((1048576 : Int) - (rs.length : Int) < 0) = false := decide_eq_false (by omega)
    go_enter Tryz.func23, Tryz.ntmps23
    go_wp2_with fail
    go_loopw [5, 1] (fun i x wr => ∃ (k : Nat) (l : Int), k ≤ rs.length ∧ i = .int .i64 k ∧ x = .int .i64 l ∧ 0 ≤ l ∧ l + rs.length + fsN (rs.take k) ≤ 1048576 ∧ Hid (Below w.heap.size w wr)) (fun i _ _ => rs.length - (intOf i).toNat)
    case atStart => exact ⟨0, _, Nat.zero_le _, rfl, rfl, by omega, by simp [fsN], Below.refl _ _⟩
    case round =>
      obtain ⟨k, l, hk, rfl, rfl, l0, l1, HB⟩ := hrel
      by_cases hlt : k < rs.length
      · have i1 : (k : Int) < rs.length := by omega
        obtain ⟨b, off, rq, rc, rfl, hb0, c0, c1, c2, c3, c4⟩ := (HP.out.below HB.out) k hlt
        have hbb := HS.out _ (List.getElem_mem hlt)
        have hZ := szRowZ_any l l0 (by omega) rs[k].k rs[k].a rq rc rs[k].fs wr c4 hbb.1 c3 hbb.2.2 hbb.2.1
        have hsum := fsN_take rs k hlt
        clear hbb hb0 c3 c4
        generalize rs[k].k = rk at *
        generalize rs[k].a = ra at *
        generalize rs[k].fs.length = fl at *
        go_wp2_with fail
        refine hZ.mono ?_
        rintro e y ⟨⟨r', rfl, hr'⟩, b2⟩
        clear hZ c0 c1 c2
        have HB2 : Hid (Below w.heap.size w y) := chainB HB.out b2
        rcases hr' with rfl | ⟨r4, r5⟩
        · go_wp2_with fail
          go_ret
          exact ⟨⟨_, rfl, .inl rfl⟩, HB2.out⟩
        · have dr : decide (r' < 0) = false := decide_eq_false (by omega)
          go_wp2_with fail
          go_roundw
          case rel => exact ⟨k + 1, r', by omega, by simp, rfl, r4, by omega, HB2.out⟩
          case measure => simp [intOf]; omega
      · obtain rfl : k = rs.length := by omega
        rw [fsN_all] at l1
        go_wp2_with fail
        go_ret
        exact ⟨⟨_, rfl, .inr ⟨l0, l1⟩⟩, HB.out⟩
  · have d0 : decide ((1048576 : Int) - (rs.length : Int) < 0) = true := decide_eq_true (by omega)
    go_enter Tryz.func23, Tryz.ntmps23
    go_wp2_with fail
    go_ret
    exact ⟨⟨_, rfl, .inl rfl⟩, Below.refl _ _⟩
set_option maxHeartbeats 2000000 in
theorem szLogZ_any (q : Option Addr) (cq : Nat) (rs : List Rw) (p : Option Addr) (cp : Nat) (lv : List ByteArray) (now : Int) (w : World) (hq : RwAt w q rs) (hn : rs.length ≤ 9223372036854775807) (hcq : rs.length ≤ cq) (hs : RwsBig rs) (hp : TxtAt w p lv) (hl : lv.length ≤ 9223372036854775807) (hcp : lv.length ≤ cp) (hz : ∀ x ∈ lv, x.size ≤ 9223372036854775807) :
    Calls Tryz.prog 6 #[.agg #[.slice q rs.length cq, .slice p lv.length cp, .int .i64 now], .int .i64 1048576] w fun e w' => (∃ r : Int, e = .returned (.int .i64 r) ∧ (r = -1 ∨ (0 ≤ r ∧ rs.length + fsN rs + lv.length ≤ 1048576))) ∧ Below w.heap.size w w' := by
  obtain ⟨W1, hW1⟩ : ∃ W1, W1 = w.alloc (.cells #[.slice q rs.length cq, .slice p lv.length cp, .int .i64 now] 25) := ⟨_, rfl⟩
  have HW1 : Hid (W1 = w.alloc (.cells #[.slice q rs.length cq, .slice p lv.length cp, .int .i64 now] 25)) := hW1
  have B1 : Hid (Below w.heap.size w W1) := by rw [hW1]; exact (Below.refl _ _).alloc (Nat.le_refl _) _
  have K1 : Hid (Bxs W1 w.heap.size 25 #[.slice q rs.length cq, .slice p lv.length cp, .int .i64 now]) := by rw [hW1]; exact Bxs.new _ _ _
  have hR := szRowsZ_any q cq rs W1 (hq.below B1.out) hn hcq hs
  have HT : Hid (∀ (l0 : Int), 0 ≤ l0 → l0 ≤ 1048576 → ∀ x, Below W1.heap.size W1 x → Calls Tryz.prog 24 #[.slice p lv.length cp, .int .i64 l0] x fun e w' => (∃ r : Int, e = .returned (.int .i64 r) ∧ (r = -1 ∨ (0 ≤ r ∧ r + lv.length ≤ l0))) ∧ w' = x) := fun l0 a b x hb => szGz_any l0 a b p cp lv x ((hp.below B1.out).below hb) hl hcp hz
  clear hW1 hq hp hs hz
  go_enter Tryz.func6, Tryz.ntmps6
  go_wp2_with fail
  rw [← HW1.out]
  refine hR.mono ?_
  rintro e y ⟨⟨r, rfl, hr⟩, by_⟩
  clear hR
  have x1 := (K1.out.below by_).cell 1
  rcases hr with rfl | ⟨r0, r1⟩
  · go_wp2_with fail
    go_ret
    exact ⟨⟨_, rfl, .inl rfl⟩, chainB B1.out by_⟩
  · have dr : decide (r < 0) = false := decide_eq_false (by omega)
    have hT := HT.out r r0 (by omega) y by_
    go_wp2_with fail
    refine hT.mono ?_
    rintro e y2 ⟨⟨r', rfl, hr'⟩, rfl⟩
    clear hT HT
    rcases hr' with rfl | ⟨r4, r5⟩
    · go_wp2_with fail
      go_ret
      exact ⟨⟨_, rfl, .inl rfl⟩, chainB B1.out by_⟩
    · have dr' : decide (r' < 0) = false := decide_eq_false (by omega)
      go_wp2_with fail
      go_ret
      exact ⟨⟨_, rfl, .inr ⟨r4, by omega⟩⟩, chainB B1.out by_⟩
end Go.Proofs.YthkmeneepkaedaaGreatDoor
/-
  What the laws' own helpers markRowS and markLog do with a log of its own: all blocks but the log's own stay.
-/
namespace Go.Proofs.YthkmeneepkaedaaGreatDoor
open Go.RowKit Go.Lib
set_option linter.unusedVariables false
set_option maxRecDepth 20000

/-- What lay is as it was, but for the blocks of S. -/
structure But (S : Nat → Prop) (w w' : World) : Prop where
  os : w'.os = w.os
  tape : w'.tape = w.tape
  output : w'.output = w.output
  size : w.heap.size ≤ w'.heap.size
  block : ∀ k, k < w.heap.size → ¬ S k → w'.heap[k]? = w.heap[k]?
theorem But.refl (S : Nat → Prop) (w : World) : But S w w := ⟨rfl, rfl, rfl, Nat.le_refl _, fun _ _ _ => rfl⟩
theorem But.more {S : Nat → Prop} {a b c : World} (h : But S a b) (k : Below b.heap.size b c) : But S a c :=
  ⟨k.os.trans h.os, k.tape.trans h.tape, k.output.trans h.output, Nat.le_trans h.size k.size, fun q hq hn => (k.block q (Nat.lt_of_lt_of_le hq h.size)).trans (h.block q hq hn)⟩
theorem But.put {S : Nat → Prop} {a b : World} (h : But S a b) {p : Addr} (hp : S p.block) (v : Value) : But S a (b.setCell p v) :=
  ⟨h.os, h.tape, h.output, by simpa [World.setCell] using h.size, fun q hq hn => (Below.heap_setCell b p v q (fun e => hn (e ▸ hp))).trans (h.block q hq hn)⟩
theorem But.grown {S : Nat → Prop} {a b c : World} (h : But S a b) {g : Nat} (k : b.grownBy c (some g)) (hg : S g) : But S a c :=
  ⟨k.os.trans h.os, k.tape.trans h.tape, k.output.trans h.output, Nat.le_trans h.size k.size, fun q hq hn => (k.block q (Nat.lt_of_lt_of_le hq h.size) (fun e => hn (by cases e; exact hg))).trans (h.block q hq hn)⟩
theorem But.below {S : Nat → Prop} {a b c : World} {B : Nat} (h : Below B a b) (hB : B ≤ b.heap.size) (k : But S b c) (hS : ∀ q, S q → B ≤ q) : Below B a c :=
  ⟨k.os.trans h.os, k.tape.trans h.tape, k.output.trans h.output, Nat.le_trans h.size k.size, fun q hq => (k.block q (Nat.lt_of_lt_of_le hq hB) (fun e => by have := hS q e; omega)).trans (h.block q hq)⟩
theorem Bxs.but {S : Nat → Prop} {w w' : World} {g : Nat} {T : TypeId} {cs : Array Value} (h : Bxs w g T cs) (k : But S w w') (hn : ¬ S g) : Bxs w' g T cs := (k.block g h.lt hn).trans h
theorem ownS_but {S : Nat → Prop} {w w' : World} {base : Nat} {e : TypeId} {s : Nat} {v : Value} {n : Nat} {xs : List Value} (h : w.ownsRow base e s v n xs) (k : But S w w') (hn : ∀ g, v.ownBlock = some g → ¬ S g) : w'.ownsRow base e s v n xs := by
  refine ⟨h.1, ?_⟩
  rcases h.2 with h0 | ⟨g, cap, cur, h1, h2, h3, h4⟩
  · exact .inl h0
  · exact .inr ⟨g, cap, cur, h1, h2, (k.block g (lt_of_block h3) (hn g (by rw [h1]; rfl))).trans h3, h4⟩
/-- How many fields the first k rows have. -/
def fX (xs : List (Rw × Nat)) (k : Nat) : Nat := fsN ((xs.map (·.1)).take k)
theorem fX_step (xs : List (Rw × Nat)) (k : Nat) (h : k < xs.length) : fX xs (k + 1) = fX xs k + xs[k].1.fs.length := by
  unfold fX
  rw [fsN_take _ k (by simpa using h), List.getElem_map]
theorem fX_le (xs : List (Rw × Nat)) (k : Nat) : fX xs k ≤ fsN (xs.map (·.1)) := by
  unfold fX fsN
  conv => rhs; rw [← List.take_append_drop k (xs.map (·.1))]
  rw [List.map_append, List.sum_append]; omega
theorem fX_all (xs : List (Rw × Nat)) : fX xs xs.length = fsN (xs.map (·.1)) := by
  have := fsN_all (xs.map (·.1)); rw [List.length_map] at this; exact this
/-- i rows are marked. -/
structure MkR (S : Nat → Prop) (w : World) (g : Nat) (xs : List (Rw × Nat)) (i : Nat) (x : World) : Prop where
  bl : ∃ row : List Value, row.length = xs.length * 3 ∧ (∀ j (h : j < xs.length), row[j * 3 + 2]? = some (.slice (some ⟨xs[j].2, 0, none⟩) xs[j].1.fs.length xs[j].1.fs.length)) ∧ Bxs x g 64 row.toArray
  fl : ∀ j (h : j < xs.length), i ≤ j → BlkF x xs[j].2 xs[j].1.fs
  but : But S w x
theorem MkR.start {S : Nat → Prop} {w : World} {g : Nat} {xs : List (Rw × Nat)} (h : RwsB w g xs) : MkR S w g xs 0 w := by
  refine ⟨⟨rcRow (xs.map rcOf), by rw [rcRow_len]; simp, fun j hj => ?_, h.blk⟩, fun j hj _ => h.fld _ (List.getElem_mem hj), But.refl _ _⟩
  have := (rcRow_at (xs.map rcOf) j (by simpa using hj)).2.2
  rw [this]; simp [rcOf]
theorem MkR.below {S : Nat → Prop} {w : World} {g : Nat} {xs : List (Rw × Nat)} {i : Nat} {x y : World} (h : MkR S w g xs i x) (hb : Below x.heap.size x y) : MkR S w g xs i y := by
  obtain ⟨row, h1, h2, h3⟩ := h.bl
  exact ⟨⟨row, h1, h2, h3.below hb⟩, fun j hj hi => (h.fl j hj hi).below hb, h.but.more hb⟩
theorem MkR.put {S : Nat → Prop} {w : World} {g : Nat} {xs : List (Rw × Nat)} {i : Nat} {x : World} (h : MkR S w g xs i x) (hS : S g) (hu : ∀ x ∈ xs, g < x.2) (a : Nat) (ha : a % 3 ≠ 2) (v : Value) : MkR S w g xs i (x.setCell ⟨g, a, none⟩ v) := by
  obtain ⟨row, h1, h2, h3⟩ := h.bl
  refine ⟨⟨row.set a v, by simpa using h1, fun j hj => ?_, bxs_set1 h3 a v⟩, fun j hj hi => ?_, h.but.put hS v⟩
  · rw [List.getElem?_set_ne (by omega)]; exact h2 j hj
  · have := hu _ (List.getElem_mem hj)
    exact Bxs.other (h.fl j hj hi) _ _ (by omega) _
theorem MkR.cells {S : Nat → Prop} {w : World} {g : Nat} {xs : List (Rw × Nat)} {i : Nat} {x : World} (h : MkR S w g xs i x) (j : Nat) (hj : j < xs.length) : (∃ v, x.cell? ⟨g, j * 3, none⟩ = some v) ∧ (∃ v, x.cell? ⟨g, j * 3 + 1, none⟩ = some v) ∧ x.cell? ⟨g, j * 3 + 2, none⟩ = some (.slice (some ⟨xs[j].2, 0, none⟩) xs[j].1.fs.length xs[j].1.fs.length) ∧ x.frozen? ⟨g, j * 3, none⟩ = false ∧ x.frozen? ⟨g, j * 3 + 1, none⟩ = false := by
  obtain ⟨row, h1, h2, h3⟩ := h.bl
  have hc : ∀ a, x.cell? ⟨g, a, none⟩ = row[a]? := fun a => by rw [h3.cell a]; simp
  refine ⟨⟨row[j * 3]'(by omega), ?_⟩, ⟨row[j * 3 + 1]'(by omega), ?_⟩, ?_, h3.fr _, h3.fr _⟩
  · rw [hc]; exact List.getElem?_eq_getElem _
  · rw [hc]; exact List.getElem?_eq_getElem _
  · rw [hc]; exact h2 j hj
theorem MkR.fields {S : Nat → Prop} {w : World} {g : Nat} {xs : List (Rw × Nat)} {i : Nat} {x y : World} (h : MkR S w g xs i x) (hi : i < xs.length) (hS : S xs[i].2) (hu : ∀ x ∈ xs, g < x.2) (ha : xs.Pairwise (fun x y => x.2 < y.2)) (hg : x.grownBy y (some xs[i].2)) : MkR S w g xs (i + 1) y := by
  obtain ⟨row, h1, h2, h3⟩ := h.bl
  have := hu _ (List.getElem_mem hi)
  refine ⟨⟨row, h1, h2, h3.grown hg (fun e => by have := Option.some.inj e; omega)⟩, fun j hj hij => ?_, h.but.grown hg hS⟩
  have hl := List.pairwise_iff_getElem.1 ha i j hi hj (by omega)
  exact Bxs.grown (h.fl j hj (by omega)) hg (fun e => by have := Option.some.inj e; omega)

set_option maxHeartbeats 4000000 in
theorem markRowS_any (S : Nat → Prop) (g : Nat) (xs : List (Rw × Nat)) (s : Nat) (w : World) (h : RwsB w g xs) (hs1 : 1 ≤ s) (hS : S g) (hSx : ∀ x ∈ xs, S x.2) (hn : xs.length ≤ 1048576) (hb : s + 2 * xs.length + 5 * fsN (xs.map (·.1)) ≤ 16777210) :
    Calls Tryz.prog 46 #[.slice (some ⟨g, 0, none⟩) xs.length xs.length, .int .i64 (s : Int)] w fun e w' => (∃ r : Nat, e = .returned (.int .i64 (r : Int)) ∧ s ≤ r ∧ r ≤ s + 2 * xs.length + 5 * fsN (xs.map (·.1))) ∧ But S w w' := by
  have HM0 : Hid (MkR S w g xs 0 w) := MkR.start h
  have HU : Hid (∀ x ∈ xs, g < x.2) := h.up
  have HA : Hid (xs.Pairwise (fun x y => x.2 < y.2)) := h.apart
  have HSX : Hid (∀ x ∈ xs, S x.2) := hSx
  have HLE : Hid (∀ k (hk : k < xs.length), fX xs (k + 1) = fX xs k + xs[k].1.fs.length ∧ fX xs (k + 1) ≤ fsN (xs.map (·.1))) := fun k hk => ⟨fX_step xs k hk, fX_le xs (k + 1)⟩
  have hAll : fX xs xs.length = fsN (xs.map (·.1)) := fX_all xs
  have F0 : fX xs 0 = 0 := rfl
  clear h hSx
  generalize fsN (xs.map (·.1)) = T at *
  generalize fX xs = F at *
  go_enter Tryz.func46, Tryz.ntmps46
  go_wp2_with fail
  go_loopw [5, 1] (fun i x wr => ∃ (k : Nat) (c : Nat), k ≤ xs.length ∧ i = .int .i64 k ∧ x = .int .i64 (c : Int) ∧ c = s + 2 * k + 5 * F k ∧ Hid (MkR S w g xs k wr)) (fun i _ _ => xs.length - (intOf i).toNat)
  case atStart => exact ⟨0, s, Nat.zero_le _, rfl, rfl, by omega, HM0⟩
  case round =>
    clear HM0
    obtain ⟨k, c, hk, rfl, rfl, hc, HM⟩ := hrel
    by_cases hlt : k < xs.length
    · have i1 : (k : Int) < xs.length := by omega
      obtain ⟨l1, l2⟩ := HLE.out k hlt
      have A1 : Hid (∀ z : Int, ∀ w, z = (c : Int) → Calls Tryz.prog 83 #[.int .i64 z] w fun e w' => e = .returned (.string (markB c)) ∧ Below w.heap.size w w') := fun z w hz => markText_int z _ hz w (by omega) (by omega)
      have A2 : Hid (∀ z : Int, ∀ x, z = (c : Int) + 1 + 1 → BlkF x xs[k].2 xs[k].1.fs → Calls Tryz.prog 84 #[.slice (some ⟨xs[k].2, 0, none⟩) xs[k].1.fs.length xs[k].1.fs.length, .int .i64 z] x fun e w' => e = .returned (.int .i64 (5 * (xs[k].1.fs.length : Int) + (c + 2 : Nat))) ∧ x.grownBy w' (some xs[k].2)) := fun z x hz hB => by
        have := markF_any (c + 2) (by omega) 0 _ _ x (hB.own 0 (Nat.zero_le _) (by unfold maxLen; omega)) (by omega)
        rw [show ((c + 2 : Nat) : Int) = z by omega] at this
        refine this.mono ?_
        rintro e y ⟨rfl, -, hg⟩
        exact ⟨by rw [show z = ((c + 2 : Nat) : Int) by omega], hg⟩
      have HMf : Hid (∀ x, MkR S w g xs k x → BlkF x xs[k].2 xs[k].1.fs) := fun x hx => hx.fl k hlt (Nat.le_refl _)
      have HMn : Hid (∀ x y, MkR S w g xs k x → x.grownBy y (some xs[k].2) → MkR S w g xs (k + 1) y) := fun x y hx hg => hx.fields hlt (HSX.out _ (List.getElem_mem hlt)) HU.out HA.out hg
      have HMc : Hid (∀ x, MkR S w g xs k x → (∃ v, x.cell? ⟨g, k * 3, none⟩ = some v) ∧ (∃ v, x.cell? ⟨g, k * 3 + 1, none⟩ = some v) ∧ x.cell? ⟨g, k * 3 + 2, none⟩ = some (.slice (some ⟨xs[k].2, 0, none⟩) xs[k].1.fs.length xs[k].1.fs.length) ∧ x.frozen? ⟨g, k * 3, none⟩ = false ∧ x.frozen? ⟨g, k * 3 + 1, none⟩ = false) := fun x hx => hx.cells k hlt
      have HN2 : Hid (5 * xs[k].1.fs.length + (c + 2) = s + 2 * (k + 1) + 5 * F (k + 1)) := by show _ = _; omega
      have c1 : c + 5 * xs[k].1.fs.length ≤ 16777210 := by omega
      clear l1 l2 hc
      generalize xs[k].2 = gk at *
      generalize xs[k].1.fs = fk at *
      generalize markB c = M1 at *
      go_wp2_with fail
      refine (A1.out _ _ (by omega)).mono ?_
      rintro e y ⟨rfl, b⟩
      have HY : Hid (MkR S w g xs k y) := HM.out.below b
      clear b HM A1
      obtain ⟨⟨x0, c0⟩, -, -, f0, -⟩ := HMc.out y HY.out
      have HY1 : Hid (MkR S w g xs k (y.setCell ⟨g, k * 3, none⟩ (.string M1))) := HY.out.put hS HU.out _ (by omega) _
      obtain ⟨-, ⟨x1, c1⟩, -, -, f1⟩ := HMc.out _ HY1.out
      have HY2 : Hid (MkR S w g xs k ((y.setCell ⟨g, k * 3, none⟩ (.string M1)).setCell ⟨g, k * 3 + 1, none⟩ (.int .i64 ((c : Int) + 1)))) := HY1.out.put hS HU.out _ (by omega) _
      obtain ⟨-, -, c2, -, -⟩ := HMc.out _ HY2.out
      have hF := A2.out _ _ rfl (HMf.out _ HY2.out)
      clear HY HY1 A2 HMc HMf
      go_wp2_with fail
      refine hF.mono ?_
      rintro e y3 ⟨rfl, hg3⟩
      have HN : Hid (MkR S w g xs (k + 1) y3) := HMn.out _ _ HY2.out hg3
      clear hF hg3 HY2 HMn c0 f0 c1 f1 c2
      go_wp2_with fail
      go_roundw
      case rel => exact ⟨k + 1, 5 * fk.length + (c + 2), by omega, by go_num, by go_num, HN2.out, HN.out⟩
      case measure => simp [intOf]; omega
    · obtain rfl : k = xs.length := by omega
      have HC : Hid (s ≤ c ∧ c ≤ s + 2 * xs.length + 5 * T) := ⟨by omega, by omega⟩
      clear hc
      go_wp2_with fail
      go_ret
      exact ⟨⟨c, rfl, HC.out.1, HC.out.2⟩, HM.out.but⟩

/-- The blocks of a log of its own. -/
def lgS (g : Nat) (xs : List (Rw × Nat)) (gl : Nat) (k : Nat) : Prop := k = g ∨ k = gl ∨ ∃ x ∈ xs, k = x.2
set_option maxHeartbeats 2000000 in
theorem markLog_any (g : Nat) (xs : List (Rw × Nat)) (gl : Nat) (lv : List ByteArray) (now : Int) (s : Nat) (w : World) (h : LgB w g xs gl lv) (hs1 : 1 ≤ s) (hn : xs.length ≤ 1048576) (hl : lv.length ≤ 1048576) (hb : s + 2 * xs.length + 5 * fsN (xs.map (·.1)) + lv.length ≤ 16777210) :
    Calls Tryz.prog 14 #[.agg #[.slice (some ⟨g, 0, none⟩) xs.length xs.length, .slice (some ⟨gl, 0, none⟩) lv.length lv.length, .int .i64 now], .int .i64 (s : Int)] w fun e w' => (∃ r : Nat, e = .returned (.int .i64 (r : Int))) ∧ But (lgS g xs gl) w w' := by
  obtain ⟨W1, hW1⟩ : ∃ W1, W1 = w.alloc (.cells #[.slice (some ⟨g, 0, none⟩) xs.length xs.length, .slice (some ⟨gl, 0, none⟩) lv.length lv.length, .int .i64 now] 30) := ⟨_, rfl⟩
  have HW1 : Hid (W1 = w.alloc (.cells #[.slice (some ⟨g, 0, none⟩) xs.length xs.length, .slice (some ⟨gl, 0, none⟩) lv.length lv.length, .int .i64 now] 30)) := hW1
  have B1 : Below w.heap.size w W1 := by rw [hW1]; exact (Below.refl _ _).alloc (Nat.le_refl _) _
  have K1 : Hid (Bxs W1 w.heap.size 30 #[.slice (some ⟨g, 0, none⟩) xs.length xs.length, .slice (some ⟨gl, 0, none⟩) lv.length lv.length, .int .i64 now]) := by rw [hW1]; exact Bxs.new _ _ _
  have hL1 := h.below B1
  have hR := markRowS_any (fun k => k = g ∨ ∃ x ∈ xs, k = x.2) g xs s W1 hL1.rw hs1 (.inl rfl) (fun x hx => .inr ⟨x, hx, rfl⟩) hn (by omega)
  have HB1 : Hid (But (lgS g xs gl) w W1) := (But.refl _ _).more B1
  have HLF : Hid (BlkS W1 gl lv) := hL1.lf
  have HG : Hid (gl ≠ g ∧ ∀ x ∈ xs, gl ≠ x.2) := ⟨by have := h.gg; omega, fun x hx => by have := h.gx x hx; omega⟩
  have HLt : Hid (g < w.heap.size ∧ ∀ x ∈ xs, x.2 < w.heap.size) := ⟨h.rw.lt, fun x hx => Bxs.lt (h.rw.fld x hx)⟩
  have x0 := K1.out.cell 0
  rw [HW1.out] at x0
  clear hW1 h hL1 B1
  go_enter Tryz.func14, Tryz.ntmps14
  go_wp2_with fail
  rw [← HW1.out]
  refine hR.mono ?_
  rintro e y ⟨⟨r, rfl, r0, r1⟩, hbut⟩
  clear hR x0 HW1
  have K2 : Bxs y w.heap.size 30 #[.slice (some ⟨g, 0, none⟩) xs.length xs.length, .slice (some ⟨gl, 0, none⟩) lv.length lv.length, .int .i64 now] := K1.out.but hbut (by
    rintro (e | ⟨x, hx, e⟩)
    · have := HLt.out.1; omega
    · have := HLt.out.2 x hx; omega)
  have x1 := K2.cell 1
  have hLF : BlkS y gl lv := Bxs.but HLF.out hbut (by
    rintro (e | ⟨x, hx, e⟩)
    · exact HG.out.1 e
    · exact HG.out.2 x hx e)
  have hM := markG_any r (by omega) 0 _ lv y (hLF.own 0 (Nat.zero_le _) (by unfold maxLen; omega)) (by omega)
  have HB2 : Hid (But (lgS g xs gl) w y) := ⟨hbut.os.trans HB1.out.os, hbut.tape.trans HB1.out.tape, hbut.output.trans HB1.out.output, Nat.le_trans HB1.out.size hbut.size, fun q hq hnq => (hbut.block q (Nat.lt_of_lt_of_le hq HB1.out.size) (fun e => hnq (by rcases e with e | e; exact .inl e; exact .inr (.inr e)))).trans (HB1.out.block q hq hnq)⟩
  clear hbut K2 hLF K1 HLF HB1
  go_wp2_with fail
  refine hM.mono ?_
  rintro e y2 ⟨rfl, -, hg⟩
  have HB3 : Hid (But (lgS g xs gl) w y2) := HB2.out.grown hg (.inr (.inl rfl))
  clear hM hg HB2
  go_wp2_with fail
  go_ret
  exact ⟨⟨lv.length + r, by simp⟩, HB3.out⟩
theorem lgS_from {w : World} {g : Nat} {xs : List (Rw × Nat)} {gl : Nat} {lv : List ByteArray} (h : LgB w g xs gl lv) {q : Nat} (hq : lgS g xs gl q) : g ≤ q ∧ q < w.heap.size := by
  rcases hq with rfl | rfl | ⟨x, hx, rfl⟩
  · exact ⟨Nat.le_refl _, h.rw.lt⟩
  · exact ⟨Nat.le_of_lt h.gg, h.lf.lt⟩
  · exact ⟨Nat.le_of_lt (h.rw.up x hx), Bxs.lt (h.rw.fld x hx)⟩
end Go.Proofs.YthkmeneepkaedaaGreatDoor
