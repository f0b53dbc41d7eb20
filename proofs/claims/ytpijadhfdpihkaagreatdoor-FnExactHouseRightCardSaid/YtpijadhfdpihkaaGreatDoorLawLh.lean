/-
  What the laws' own helpers toLog, eqRowS and eqLog answer.
-/
import Derived.Test.YtpijadhfdpihkaaGreatDoorRows
import Derived.Test.YtpijadhfdpihkaaGreatDoorBytesDigMath
import Derived.Test.YtpijadhfdpihkaaGreatDoorSlASlBBxKOwnS
import Derived.Test.YtpijadhfdpihkaaGreatDoorRwBlkBlNotRulMathIntKPolMathTakes
import Derived.Test.YtpijadhfdpihkaaGreatDoorJoinedPutTextFldMath
import Derived.Test.YtpijadhfdpihkaaGreatDoorFldRiseScanMath
import Derived.Test.YtpijadhfdpihkaaGreatDoorLgAtKShwKOneKFldGFldBlk
import Derived.Test.YtpijadhfdpihkaaGreatDoorLawF
import Derived.Test.YtpijadhfdpihkaaGreatDoorLawFRLawSLawSG
import Derived.Test.YtpijadhfdpihkaaGreatDoorLgMath
import Derived.Test.YtpijadhfdpihkaaGreatDoorLawLg
import Derived.Handy
import Derived.WalkSpells
import Derived.OwnWalk
import Derived.Deep.RegionHeld3
import Derived.Deep.Cut
namespace Go.Proofs.YtpijadhfdpihkaaGreatDoor
open Go.RowKit Go.Lib
set_option linter.unusedVariables false
set_option maxRecDepth 20000

/-- A log of its own: a block of rows, the fields of each in a block of their own, and behind all these a block of leaves. -/
structure LgB (w : World) (g : Nat) (xs : List (Rw × Nat)) (gl : Nat) (lv : List ByteArray) : Prop where
  rw : RwsB w g xs
  lf : BlkS w gl lv
  gg : g < gl
  gx : ∀ x ∈ xs, x.2 < gl
theorem LgB.below {w w' : World} {g : Nat} {xs : List (Rw × Nat)} {gl : Nat} {lv : List ByteArray} (h : LgB w g xs gl lv) (hb : Below w.heap.size w w') : LgB w' g xs gl lv := ⟨h.rw.below hb, h.lf.below hb h.lf.lt, h.gg, h.gx⟩
theorem BlkS.bxs {w : World} {g : Nat} {l : List ByteArray} (h : BlkS w g l) : Bxs w g 9 (strRow l).toArray := h
set_option maxHeartbeats 4000000 in
theorem toLog_any (q : Option Addr) (cq : Nat) (rs : List Rw) (p : Option Addr) (cp : Nat) (lv : List ByteArray) (now : Int) (w : World) (hq : RwAt w q rs) (hn : rs.length ≤ 1048576) (hcq : rs.length ≤ cq) (hf : ∀ x ∈ rs, x.fs.length ≤ 1048576) (hp : TxtAt w p lv) (hl : lv.length ≤ 1048576) (hcp : lv.length ≤ cp) :
    Calls Tryz.prog 13 #[.agg #[.slice q rs.length cq, .slice p lv.length cp, .int .i64 now]] w fun e w' => ∃ g gl xs, xs.map (·.1) = rs ∧ w.heap.size ≤ g ∧ e = .returned (.agg #[.slice (some ⟨g, 0, none⟩) rs.length rs.length, .slice (some ⟨gl, 0, none⟩) lv.length lv.length, .int .i64 now]) ∧ LgB w' g xs gl lv ∧ Below w.heap.size w w' := by
  obtain ⟨W3, hW3⟩ : ∃ W3, W3 = ((w.alloc (.cells #[.slice q rs.length cq, .slice p lv.length cp, .int .i64 now] 25)).alloc (.cells #[.slice none 0 0, .slice none 0 0, .int .i64 0] 36)).alloc (.cells #[.slice none 0 0, .slice none 0 0, .int .i64 0] 36) := ⟨_, rfl⟩
  have HW3 : Hid (W3 = ((w.alloc (.cells #[.slice q rs.length cq, .slice p lv.length cp, .int .i64 now] 25)).alloc (.cells #[.slice none 0 0, .slice none 0 0, .int .i64 0] 36)).alloc (.cells #[.slice none 0 0, .slice none 0 0, .int .i64 0] 36)) := hW3
  have B3 : Hid (Below w.heap.size w W3) := by rw [hW3]; exact (((Below.refl _ _).alloc (Nat.le_refl _) _).alloc (by simp) _).alloc (by simp; omega) _
  have K0 : Hid (Bxs W3 w.heap.size 25 #[.slice q rs.length cq, .slice p lv.length cp, .int .i64 now]) := by rw [hW3]; exact ((Bxs.new _ _ _).alloc _).alloc _
  have K1 : Hid (Bxs W3 (w.heap.size + 1) 36 #[.slice none 0 0, .slice none 0 0, .int .i64 0]) := by
    rw [hW3]
    have := Bxs.new (w.alloc (.cells #[.slice q rs.length cq, .slice p lv.length cp, .int .i64 now] 25)) 36 #[.slice none 0 0, .slice none 0 0, .int .i64 0]
    rw [szA] at this
    exact this.alloc _
  have K2 : Hid (Bxs W3 (w.heap.size + 2) 36 #[.slice none 0 0, .slice none 0 0, .int .i64 0]) := by
    rw [hW3]
    have := Bxs.new ((w.alloc (.cells #[.slice q rs.length cq, .slice p lv.length cp, .int .i64 now] 25)).alloc (.cells #[.slice none 0 0, .slice none 0 0, .int .i64 0] 36)) 36 #[.slice none 0 0, .slice none 0 0, .int .i64 0]
    rw [szA, szA] at this
    exact this
  have HZ : Hid (W3.heap.size = w.heap.size + 3) := by rw [hW3]; show _ = _; simp
  have hR := toRowS_any q cq rs W3 (hq.below B3.out) hn hcq hf
  have HT : Hid (∀ x, Below w.heap.size w x → Calls Tryz.prog 31 #[.slice p lv.length cp] x fun e w' => e = .returned (.slice (some ⟨x.heap.size, 0, none⟩) lv.length lv.length) ∧ BlkS w' x.heap.size lv ∧ Below x.heap.size x w') := fun x hb => to_any p cp lv x (hp.below hb) hl hcp
  have x0 := K0.out.cell 0
  rw [HW3.out] at x0
  clear hW3 hq hp hf
  go_enter Tryz.func13, Tryz.ntmps13
  go_wp2_with fail
  rw [← HW3.out]
  refine hR.mono ?_
  rintro e y1 ⟨rfl, ⟨xs, hxs, hX⟩, b1⟩
  clear hR x0 HW3
  have k20 := (K2.out.below b1).cell 0
  have k2f := (K2.out.below b1).fr 0
  obtain ⟨Y2, hY2⟩ : ∃ Y2, Y2 = y1.setCell ⟨w.heap.size + 2, 0, none⟩ (.slice (some ⟨W3.heap.size, 0, none⟩) rs.length rs.length) := ⟨_, rfl⟩
  have HY2 : Hid (Y2 = y1.setCell ⟨w.heap.size + 2, 0, none⟩ (.slice (some ⟨W3.heap.size, 0, none⟩) rs.length rs.length)) := hY2
  have hz1 := b1.size
  have hzz := HZ.out
  have J0 : Hid (Bxs Y2 w.heap.size 25 #[.slice q rs.length cq, .slice p lv.length cp, .int .i64 now]) := by rw [hY2]; exact (K0.out.below b1).other _ _ (by omega) _
  have J1 : Hid (Bxs Y2 (w.heap.size + 1) 36 #[.slice none 0 0, .slice none 0 0, .int .i64 0]) := by rw [hY2]; exact (K1.out.below b1).other _ _ (by omega) _
  have J2 : Hid (Bxs Y2 (w.heap.size + 2) 36 #[.slice (some ⟨W3.heap.size, 0, none⟩) rs.length rs.length, .slice none 0 0, .int .i64 0]) := by rw [hY2]; exact (K2.out.below b1).set 0 _
  have JX : Hid (RwsB Y2 W3.heap.size xs) := by
    rw [hY2]
    exact ⟨Bxs.other hX.blk _ _ (by omega) _, fun x hx => Bxs.other (hX.fld x hx) _ _ (by have := hX.up x hx; omega) _, hX.up, hX.apart⟩
  have JB : Hid (Below w.heap.size w Y2) := by rw [hY2]; exact (chainB B3.out b1).setCell (p := ⟨w.heap.size + 2, 0, none⟩) (Nat.le_add_right _ _) _
  have HXS : Hid (xs.map (·.1) = rs) := hxs
  have HZ2 : Hid (w.heap.size + 3 ≤ Y2.heap.size) := by rw [hY2]; show _ ≤ _; simp; omega
  clear hY2 b1 hX hz1 hzz K0 K1 K2 hxs
  have hT := HT.out Y2 JB.out
  have j01 := J0.out.cell 1
  rw [HY2.out] at j01
  go_wp2_with fail
  rw [← HY2.out]
  refine hT.mono ?_
  rintro e y3 ⟨rfl, hS, b3⟩
  clear hT HT j01 HY2 k20 k2f
  have x2 := (J0.out.below b3).cell 2
  obtain ⟨q0, q1, q2⟩ : y3.cell? ⟨w.heap.size + 2, 0, none⟩ = some (.slice (some ⟨W3.heap.size, 0, none⟩) rs.length rs.length) ∧ y3.cell? ⟨w.heap.size + 2, 1, none⟩ = some (.slice none 0 0) ∧ y3.cell? ⟨w.heap.size + 2, 2, none⟩ = some (.int .i64 0) := ⟨(J2.out.below b3).cell 0, (J2.out.below b3).cell 1, (J2.out.below b3).cell 2⟩
  have q1f := (J2.out.below b3).fr 1
  have q2f := (J2.out.below b3).fr 2
  obtain ⟨r0, r1, r2⟩ : y3.cell? ⟨w.heap.size + 1, 0, none⟩ = some (.slice none 0 0) ∧ y3.cell? ⟨w.heap.size + 1, 1, none⟩ = some (.slice none 0 0) ∧ y3.cell? ⟨w.heap.size + 1, 2, none⟩ = some (.int .i64 0) := ⟨(J1.out.below b3).cell 0, (J1.out.below b3).cell 1, (J1.out.below b3).cell 2⟩
  have r0f := (J1.out.below b3).fr 0
  have r1f := (J1.out.below b3).fr 1
  have r2f := (J1.out.below b3).fr 2
  have HEnd : Hid (∀ v0 v1 v2 v3 v4 : Value, LgB (((((y3.setCell ⟨w.heap.size + 2, 1, none⟩ v0).setCell ⟨w.heap.size + 2, 2, none⟩ v1).setCell ⟨w.heap.size + 1, 0, none⟩ v2).setCell ⟨w.heap.size + 1, 1, none⟩ v3).setCell ⟨w.heap.size + 1, 2, none⟩ v4) W3.heap.size xs Y2.heap.size lv ∧ Below w.heap.size w (((((y3.setCell ⟨w.heap.size + 2, 1, none⟩ v0).setCell ⟨w.heap.size + 2, 2, none⟩ v1).setCell ⟨w.heap.size + 1, 0, none⟩ v2).setCell ⟨w.heap.size + 1, 1, none⟩ v3).setCell ⟨w.heap.size + 1, 2, none⟩ v4)) := by
    intro v0 v1 v2 v3 v4
    have hzz := HZ.out
    have hz2 := HZ2.out
    have hX3 := JX.out.below b3
    have oth : ∀ {g : Nat} {T : TypeId} {cs : Array Value}, Bxs y3 g T cs → w.heap.size + 2 < g → Bxs (((((y3.setCell ⟨w.heap.size + 2, 1, none⟩ v0).setCell ⟨w.heap.size + 2, 2, none⟩ v1).setCell ⟨w.heap.size + 1, 0, none⟩ v2).setCell ⟨w.heap.size + 1, 1, none⟩ v3).setCell ⟨w.heap.size + 1, 2, none⟩ v4) g T cs := fun h hg => ((((h.other _ _ (by omega) _).other _ _ (by omega) _).other _ _ (by omega) _).other _ _ (by omega) _).other _ _ (by omega) _
    refine ⟨⟨⟨oth hX3.blk (by omega), fun x hx => oth (hX3.fld x hx) (by have := hX3.up x hx; omega), hX3.up, hX3.apart⟩, oth hS.bxs (by omega), JX.out.lt, fun x hx => Bxs.lt (JX.out.fld x hx)⟩, ?_⟩
    have hb := chainB JB.out b3
    exact ((((hb.setCell (p := ⟨w.heap.size + 2, 1, none⟩) (Nat.le_add_right _ _) _).setCell (p := ⟨w.heap.size + 2, 2, none⟩) (Nat.le_add_right _ _) _).setCell (p := ⟨w.heap.size + 1, 0, none⟩) (Nat.le_add_right _ _) _).setCell (p := ⟨w.heap.size + 1, 1, none⟩) (Nat.le_add_right _ _) _).setCell (p := ⟨w.heap.size + 1, 2, none⟩) (Nat.le_add_right _ _) _
  have HG : Hid (w.heap.size ≤ W3.heap.size) := B3.out.size
  clear hS b3 J0 J1 J2 JX JB HZ2 HZ B3
  generalize Y2.heap.size = gl at *
  generalize W3.heap.size = g at *
  go_wp2_with fail
  refine bodyPost_ret (v := .agg #[.slice (some ⟨g, 0, none⟩) rs.length rs.length, .slice (some ⟨gl, 0, none⟩) lv.length lv.length, .int .i64 now]) (by simp [results, Tryz.results13, go_sem, r0, r1, r2]) rfl ?_
  exact ⟨g, gl, xs, HXS.out, HG.out, rfl, HEnd.out _ _ _ _ _⟩
set_option maxHeartbeats 4000000 in
theorem eqRowS_any (p q : Option Addr) (c d : Nat) (rs : List Rw) (w : World) (hp : RwAt w p rs) (hq : RwAt w q rs) (hn : rs.length ≤ 1048576) (hc : rs.length ≤ c) (hd : rs.length ≤ d) (hf : ∀ x ∈ rs, x.fs.length ≤ 1048576) :
    Calls Tryz.prog 38 #[.slice p rs.length c, .slice q rs.length d] w fun e w' => e = .returned (.bool true) ∧ Below w.heap.size w w' := by
  have HP : Hid (RwAt w p rs) := hp
  have HQ : Hid (RwAt w q rs) := hq
  have HF : Hid (∀ x ∈ rs, x.fs.length ≤ 1048576) := hf
  clear hp hq hf
  go_enter Tryz.func38, Tryz.ntmps38
  go_wp2_with fail
  go_loopw [5] (fun i wr => ∃ k : Nat, k ≤ rs.length ∧ i = .int .i64 k ∧ Hid (Below w.heap.size w wr)) (fun i _ => rs.length - (intOf i).toNat)
  case atStart => exact ⟨0, Nat.zero_le _, rfl, Below.refl _ _⟩
  case round =>
    obtain ⟨k, hk, rfl, HB⟩ := hrel
    by_cases hlt : k < rs.length
    · have i1 : (k : Int) < rs.length := by omega
      obtain ⟨b, off, rq, rc, rfl, hb0, c0, c1, c2, c3, c4⟩ := (HP.out.below HB.out) k hlt
      obtain ⟨b', off', rq', rc', rfl, hb0', c0', c1', c2', c3', c4'⟩ := (HQ.out.below HB.out) k hlt
      have hE := eqRow_any rs[k].k rs[k].a rq rq' rc rc' rs[k].fs wr.drew (c4.below (Below.refl _ _).drew) (c4'.below (Below.refl _ _).drew) (HF.out _ (List.getElem_mem hlt)) c3 c3'
      have HX : Hid (∀ x, Below wr.heap.size wr x → x.cell? ⟨b, off + k * 3, none⟩ = some (.string rs[k].k) ∧ x.cell? ⟨b, off + k * 3 + 1, none⟩ = some (.int .i64 rs[k].a) ∧ x.cell? ⟨b, off + k * 3 + 2, none⟩ = some (.slice rq rs[k].fs.length rc) ∧ x.cell? ⟨b', off' + k * 3, none⟩ = some (.string rs[k].k) ∧ x.cell? ⟨b', off' + k * 3 + 1, none⟩ = some (.int .i64 rs[k].a) ∧ x.cell? ⟨b', off' + k * 3 + 2, none⟩ = some (.slice rq' rs[k].fs.length rc')) := fun x hb => ⟨(hb.cell (p := ⟨b, off + k * 3, none⟩) hb0).trans c0, (hb.cell (p := ⟨b, off + k * 3 + 1, none⟩) hb0).trans c1, (hb.cell (p := ⟨b, off + k * 3 + 2, none⟩) hb0).trans c2, (hb.cell (p := ⟨b', off' + k * 3, none⟩) hb0').trans c0', (hb.cell (p := ⟨b', off' + k * 3 + 1, none⟩) hb0').trans c1', (hb.cell (p := ⟨b', off' + k * 3 + 2, none⟩) hb0').trans c2'⟩
      clear c0 c1 c2 c3 c4 c0' c1' c2' c3' c4'
      generalize rs[k].k = rk at *
      generalize rs[k].a = ra at *
      generalize rs[k].fs.length = fl at *
      go_upto_region 6 with fail
      refine wp_region_held_drew (S := (fun w' => w'.cell? ⟨b, off + k * 3, none⟩ = some (.string rk) ∧ w'.cell? ⟨b, off + k * 3 + 1, none⟩ = some (.int .i64 ra) ∧ w'.cell? ⟨b, off + k * 3 + 2, none⟩ = some (.slice rq fl rc) ∧ w'.cell? ⟨b', off' + k * 3, none⟩ = some (.string rk) ∧ w'.cell? ⟨b', off' + k * 3 + 1, none⟩ = some (.int .i64 ra) ∧ w'.cell? ⟨b', off' + k * 3 + 2, none⟩ = some (.slice rq' fl rc'))) (by kernel_rfl) (HX.out _ (Below.refl _ _).drew) (fun hHeld => ?_)
      refine take_at 0 (v := ?_) rfl (by kernel_rfl) (by kernel_rfl) (by kernel_rfl) (fun _ _ _ h => h) hHeld (Or.inl ⟨by rfl, ?_⟩) ?_
      rotate_left
      · (intro w hSw; (try dsimp only at hSw); go_simp; try with_reducible rfl)
      simp only [Act.put, List.setIfInBounds_toArray, List.set_cons_zero, List.set_cons_succ]
      refine take_at 1 (v := ?_) rfl (by kernel_rfl) (by kernel_rfl) (by kernel_rfl) (fun _ _ _ h => h) hHeld (Or.inl ⟨by rfl, ?_⟩) ?_
      rotate_left
      · (intro w hSw; (try dsimp only at hSw); go_simp; try with_reducible rfl)
      simp only [Act.put, List.setIfInBounds_toArray, List.set_cons_zero, List.set_cons_succ]
      refine take_at 2 (v := ?_) rfl (by kernel_rfl) (by kernel_rfl) (by kernel_rfl) (fun _ _ _ h => h) hHeld (Or.inl ⟨by rfl, ?_⟩) ?_
      rotate_left
      · (intro w hSw; (try dsimp only at hSw); go_simp; try with_reducible rfl)
      simp only [Act.put, List.setIfInBounds_toArray, List.set_cons_zero, List.set_cons_succ]
      refine take_at 3 (v := ?_) rfl (by kernel_rfl) (by kernel_rfl) (by kernel_rfl) (fun _ _ _ h => h) hHeld (Or.inl ⟨by rfl, ?_⟩) ?_
      rotate_left
      · (intro w hSw; (try dsimp only at hSw); go_simp; try with_reducible rfl)
      simp only [Act.put, List.setIfInBounds_toArray, List.set_cons_zero, List.set_cons_succ]
      refine take_at 4 (v := ?_) rfl (by kernel_rfl) (by kernel_rfl) (by kernel_rfl) (fun _ _ _ h => h) hHeld (Or.inl ⟨by rfl, ?_⟩) ?_
      rotate_left
      · (intro w hSw; (try dsimp only at hSw); go_simp; try with_reducible rfl)
      simp only [Act.put, List.setIfInBounds_toArray, List.set_cons_zero, List.set_cons_succ]
      refine take_at 5 (v := ?_) rfl (by kernel_rfl) (by kernel_rfl) (by kernel_rfl) (fun _ _ _ h => h) hHeld (Or.inl ⟨by rfl, ?_⟩) ?_
      rotate_left
      · (intro w hSw; (try dsimp only at hSw); go_simp; try with_reducible rfl)
      simp only [Act.put, List.setIfInBounds_toArray, List.set_cons_zero, List.set_cons_succ]
      refine take_at 6 (v := ?_) rfl (by kernel_rfl) (by kernel_rfl) (by kernel_rfl) (fun _ _ _ h => h) hHeld (Or.inl ⟨by rfl, ?_⟩) ?_
      rotate_left
      · (intro w hSw; (try dsimp only at hSw); go_simp; try with_reducible rfl)
      simp only [Act.put, List.setIfInBounds_toArray, List.set_cons_zero, List.set_cons_succ]
      refine take_at 7 (v := ?_) rfl (by kernel_rfl) (by kernel_rfl) (by kernel_rfl) (fun _ _ _ h => h) hHeld (Or.inl ⟨by rfl, ?_⟩) ?_
      rotate_left
      · (intro w hSw; (try dsimp only at hSw); go_simp; try with_reducible rfl)
      simp only [Act.put, List.setIfInBounds_toArray, List.set_cons_zero, List.set_cons_succ]
      refine ready_at 8 rfl (by kernel_rfl) (fun K hK => ?_)
      go_simp
      (go_at_call 57; with_reducible refine hE.mono ?_; rintro e ya ⟨rfl, z0⟩; have z1 : Below wr.heap.size wr ya := chainB (Below.refl _ _).drew z0)
      refine hK.out _ _ (HX.out _ z1) (fun hHeld => ?_)
      clear hK K
      try simp only [Act.put, List.setIfInBounds_toArray, List.set_cons_zero, List.set_cons_succ]
      refine take_at 9 (v := ?_) rfl (by kernel_rfl) (by kernel_rfl) (by kernel_rfl) (fun _ _ _ h => h) hHeld (Or.inl ⟨by rfl, ?_⟩) ?_
      rotate_left
      · (intro w hSw; (try dsimp only at hSw); go_simp; try with_reducible rfl)
      simp only [Act.put, List.setIfInBounds_toArray, List.set_cons_zero, List.set_cons_succ]
      refine wpAnyH_done (by kernel_rfl) ?_ _
      go_wp2_with fail
      go_roundw
      case rel => exact ⟨k + 1, by omega, by simp, chainB HB.out z1⟩
      case measure => simp [intOf]; omega
    · obtain rfl : k = rs.length := by omega
      go_wp2_with fail
      go_ret
      exact ⟨rfl, HB.out⟩
set_option maxHeartbeats 2000000 in
theorem eqLog_any (q q' : Option Addr) (cq cq' : Nat) (rs : List Rw) (p p' : Option Addr) (cp cp' : Nat) (lv : List ByteArray) (now : Int) (w : World) (hq : RwAt w q rs) (hq' : RwAt w q' rs) (hn : rs.length ≤ 1048576) (hcq : rs.length ≤ cq) (hcq' : rs.length ≤ cq') (hf : ∀ x ∈ rs, x.fs.length ≤ 1048576) (hp : TxtAt w p lv) (hp' : TxtAt w p' lv) (hl : lv.length ≤ 1048576) (hcp : lv.length ≤ cp) (hcp' : lv.length ≤ cp') :
    Calls Tryz.prog 17 #[.agg #[.slice q rs.length cq, .slice p lv.length cp, .int .i64 now], .agg #[.slice q' rs.length cq', .slice p' lv.length cp', .int .i64 now]] w fun e w' => e = .returned (.bool true) ∧ Below w.heap.size w w' := by
  obtain ⟨W2, hW2⟩ : ∃ W2, W2 = (w.alloc (.cells #[.slice q rs.length cq, .slice p lv.length cp, .int .i64 now] 36)).alloc (.cells #[.slice q' rs.length cq', .slice p' lv.length cp', .int .i64 now] 36) := ⟨_, rfl⟩
  have HW2 : Hid (W2 = (w.alloc (.cells #[.slice q rs.length cq, .slice p lv.length cp, .int .i64 now] 36)).alloc (.cells #[.slice q' rs.length cq', .slice p' lv.length cp', .int .i64 now] 36)) := hW2
  have B2 : Hid (Below w.heap.size w W2) := by rw [hW2]; exact ((Below.refl _ _).alloc (Nat.le_refl _) _).alloc (by simp) _
  have K0 : Hid (Bxs W2 w.heap.size 36 #[.slice q rs.length cq, .slice p lv.length cp, .int .i64 now]) := by rw [hW2]; exact (Bxs.new _ _ _).alloc _
  have K1 : Hid (Bxs W2 (w.heap.size + 1) 36 #[.slice q' rs.length cq', .slice p' lv.length cp', .int .i64 now]) := by
    rw [hW2]
    have := Bxs.new (w.alloc (.cells #[.slice q rs.length cq, .slice p lv.length cp, .int .i64 now] 36)) 36 #[.slice q' rs.length cq', .slice p' lv.length cp', .int .i64 now]
    rwa [szA] at this
  have hR := eqRowS_any q q' cq cq' rs W2 (hq.below B2.out) (hq'.below B2.out) hn hcq hcq' hf
  have HT : Hid (∀ x, Below w.heap.size w x → Calls Tryz.prog 39 #[.slice p lv.length cp, .slice p' lv.length cp'] x fun e w' => e = .returned (.bool true) ∧ Below x.heap.size x w') := fun x hb => (eq_any p p' cp cp' lv lv x (hp.below hb) (hp'.below hb) (by omega) (by omega) hcp hcp').mono (by rintro e y ⟨rfl, h⟩; exact ⟨by rw [decide_eq_true rfl], h⟩)
  have x0 := K0.out.cell 0
  have x1 := K1.out.cell 0
  rw [HW2.out] at x0 x1
  clear hW2 hq hq' hp hp' hf
  go_enter Tryz.func17, Tryz.ntmps17
  go_wp2_with fail
  rw [← HW2.out]
  refine hR.mono ?_
  rintro e y ⟨rfl, by_⟩
  clear hR x0 x1 HW2
  have a1 := (K0.out.below by_).cell 1
  have b1 := (K1.out.below by_).cell 1
  have hT := HT.out y (chainB B2.out by_)
  go_wp2_with fail
  refine hT.mono ?_
  rintro e y2 ⟨rfl, by2⟩
  clear hT HT a1 b1
  have a2 := ((K0.out.below by_).below by2).cell 2
  have b2 := ((K1.out.below by_).below by2).cell 2
  go_wp2_with fail
  go_ret
  exact ⟨rfl, chainB (chainB B2.out by_) by2⟩
end Go.Proofs.YtpijadhfdpihkaaGreatDoor
