/-
  What the laws' own helpers answer for rows and logs: szRowS, szLog (of few and small ones a number that is not below 0, else -1), toRowS, toLog (a copy in new memory), eqRowS, eqLog (of what is alike true).
-/
import Derived.Test.YtnahmddbmmnilaaGreatDoorRows
import Derived.Test.YtnahmddbmmnilaaGreatDoorBytesDigMath
import Derived.Test.YtnahmddbmmnilaaGreatDoorSlASlBBxKOwnS
import Derived.Test.YtnahmddbmmnilaaGreatDoorOneKFldGFldBlkRwBlkTakes
import Derived.Test.YtnahmddbmmnilaaGreatDoorJoinedPutTextFldMathFldRiseScanMath
import Derived.Test.YtnahmddbmmnilaaGreatDoorLawFLawFRLawSLawSG
import Derived.Test.YtnahmddbmmnilaaGreatDoorLgMathLgAtKShwK
import Derived.Handy
import Derived.WalkSpells
import Derived.OwnWalk
import Derived.Deep.RegionHeld3
import Derived.Deep.Cut
namespace Go.Proofs.YtnahmddbmmnilaaGreatDoor
open Go.RowKit Go.Lib
set_option linter.unusedVariables false
set_option maxRecDepth 20000

set_option maxHeartbeats 1000000 in
theorem szRowL_any (l0 : Int) (l00 : 0 ≤ l0) (l01 : l0 ≤ 1048576) (kd : ByteArray) (at_ : Int) (p : Option Addr) (c : Nat) (fs : List Fld) (w : World) (h1 : FldAt w p fs) (n1 : fs.length ≤ 9223372036854775807) (m1 : fs.length ≤ c) (s1 : FldsBig fs) (s0 : kd.size ≤ 9223372036854775807) :
    Calls Tryz.prog 57 #[.agg #[.string kd, .int .i64 at_, .slice p fs.length c], .int .i64 l0] w fun e w' => (∃ r : Int, e = .returned (.int .i64 r) ∧ (r = -1 ∨ (0 ≤ r ∧ r ≤ l0 ∧ fs.length ≤ 1048576))) ∧ Below w.heap.size w w' := by
  obtain ⟨W1, hW1⟩ : ∃ W1, W1 = w.alloc (.cells #[.string kd, .int .i64 at_, .slice p fs.length c] 77) := ⟨_, rfl⟩
  have HW1 : Hid (W1 = w.alloc (.cells #[.string kd, .int .i64 at_, .slice p fs.length c] 77)) := hW1
  have B1 : Hid (Below w.heap.size w W1) := by rw [hW1]; exact (Below.refl _ _).alloc (Nat.le_refl _) _
  have H2 : Hid (∀ (l0 : Int), 0 ≤ l0 → l0 ≤ 1048576 → Calls Tryz.prog 134 #[.slice p fs.length c, .int .i64 l0] W1 fun e w' => (∃ r : Int, e = .returned (.int .i64 r) ∧ (r = -1 ∨ (0 ≤ r ∧ r ≤ l0 ∧ fs.length ≤ 1048576))) ∧ Below W1.heap.size W1 w') := fun l0 a b => szF_any l0 a b p c fs W1 (h1.below B1.out) n1 m1 s1
  clear h1 s1 hW1
  by_cases hk : (kd.size : Int) ≤ l0
  · have H3 := H2.out (l0 - kd.size) (by omega) (by omega)
    have d0 : decide (l0 - (kd.size : Int) < 0) = false := decide_eq_false (by omega)
    clear H2
    go_enter Tryz.func57, Tryz.ntmps57
    go_wp2_with fail
    rw [← HW1.out]
    refine H3.mono ?_
    rintro e w2 ⟨⟨r', rfl, hr'⟩, b2⟩
    have b2 := chainB B1.out b2
    clear H3
    rcases hr' with rfl | ⟨r4, r5, r6⟩
    · go_wp2_with fail
      go_ret
      exact ⟨⟨_, rfl, .inl rfl⟩, b2⟩
    · have dr : decide (r' < 0) = false := decide_eq_false (by omega)
      go_wp2_with fail
      go_ret
      exact ⟨⟨_, rfl, .inr ⟨r4, by omega, r6⟩⟩, b2⟩
  · have d0 : decide (l0 - (kd.size : Int) < 0) = true := decide_eq_true (by omega)
    clear H2
    go_enter Tryz.func57, Tryz.ntmps57
    go_wp2_with fail
    rw [← HW1.out]
    go_ret
    exact ⟨⟨_, rfl, .inl rfl⟩, B1.out⟩
def RwsBig (rs : List Rw) : Prop := ∀ r ∈ rs, r.fs.length ≤ 9223372036854775807 ∧ r.k.size ≤ 9223372036854775807 ∧ FldsBig r.fs
set_option maxHeartbeats 2000000 in
theorem szRowS_any (p : Option Addr) (cap : Nat) (rs : List Rw) (w : World) (hp : RwAt w p rs) (hn : rs.length ≤ 9223372036854775807) (hcap : rs.length ≤ cap) (hs : RwsBig rs) :
    Calls Tryz.prog 132 #[.slice p rs.length cap, .int .i64 1048576] w fun e w' => (∃ r : Int, e = .returned (.int .i64 r) ∧ (r = -1 ∨ (0 ≤ r ∧ r ≤ 1048576 ∧ rs.length ≤ 1048576 ∧ ∀ x ∈ rs, x.fs.length ≤ 1048576))) ∧ Below w.heap.size w w' := by
  have HP : Hid (RwAt w p rs) := hp
  have HS : Hid (RwsBig rs) := hs
  clear hp hs
  by_cases hl : (rs.length : Int) ≤ 1048576
  · have d0 : decide ((1048576 : Int) - (rs.length : Int) < 0) = false := decide_eq_false (by omega)
    go_enter Tryz.func132, Tryz.ntmps132
    go_wp2_with fail
    go_loopw [5, 1] (fun i x wr => ∃ (k : Nat) (l : Int), k ≤ rs.length ∧ i = .int .i64 k ∧ x = .int .i64 l ∧ 0 ≤ l ∧ l ≤ 1048576 ∧ Hid (Below w.heap.size w wr) ∧ Hid (∀ j (h : j < rs.length), j < k → rs[j].fs.length ≤ 1048576)) (fun i _ _ => rs.length - (intOf i).toNat)
    case atStart => exact ⟨0, _, Nat.zero_le _, rfl, rfl, by omega, by omega, Below.refl _ _, fun j h hk => by omega⟩
    case round =>
      obtain ⟨k, l, hk, rfl, rfl, l0, l1, HB, HF⟩ := hrel
      by_cases hlt : k < rs.length
      · have i1 : (k : Int) < rs.length := by omega
        obtain ⟨b, off, rq, rc, rfl, hb0, c0, c1, c2, c3, c4⟩ := (HP.out.below HB.out) k hlt
        have hbb := HS.out _ (List.getElem_mem hlt)
        have hZ := szRowL_any l l0 l1 rs[k].k rs[k].a rq rc rs[k].fs wr c4 hbb.1 c3 hbb.2.2 hbb.2.1
        have HF1 : Hid (rs[k].fs.length ≤ 1048576 → ∀ j (h : j < rs.length), j < k + 1 → rs[j].fs.length ≤ 1048576) := fun h0 j h hj => if he : j = k then by subst he; exact h0 else HF.out j h (by omega)
        clear HF hbb hb0 c3 c4
        generalize rs[k].k = rk at *
        generalize rs[k].a = ra at *
        generalize rs[k].fs.length = fl at *
        go_wp2_with fail
        refine hZ.mono ?_
        rintro e y ⟨⟨r', rfl, hr'⟩, b2⟩
        clear hZ c0 c1 c2
        have HB2 : Hid (Below w.heap.size w y) := chainB HB.out b2
        rcases hr' with rfl | ⟨r4, r5, r6⟩
        · go_wp2_with fail
          go_ret
          exact ⟨⟨_, rfl, .inl rfl⟩, HB2.out⟩
        · have dr : decide (r' < 0) = false := decide_eq_false (by omega)
          have HF2 : Hid (∀ j (h : j < rs.length), j < k + 1 → rs[j].fs.length ≤ 1048576) := HF1.out r6
          clear HF1
          go_wp2_with fail
          go_roundw
          case rel => exact ⟨k + 1, r', by omega, by simp, rfl, r4, by omega, HB2.out, HF2.out⟩
          case measure => simp [intOf]; omega
      · obtain rfl : k = rs.length := by omega
        go_wp2_with fail
        go_ret
        exact ⟨⟨_, rfl, .inr ⟨l0, l1, by omega, fun x hx => by obtain ⟨j, hj, rfl⟩ := List.getElem_of_mem hx; exact HF.out j hj hj⟩⟩, HB.out⟩
  · have d0 : decide ((1048576 : Int) - (rs.length : Int) < 0) = true := decide_eq_true (by omega)
    go_enter Tryz.func132, Tryz.ntmps132
    go_wp2_with fail
    go_ret
    exact ⟨⟨_, rfl, .inl rfl⟩, Below.refl _ _⟩
set_option maxHeartbeats 2000000 in
theorem szLog_any (q : Option Addr) (cq : Nat) (rs : List Rw) (p : Option Addr) (cp : Nat) (lv : List ByteArray) (now : Int) (w : World) (hq : RwAt w q rs) (hn : rs.length ≤ 9223372036854775807) (hcq : rs.length ≤ cq) (hs : RwsBig rs) (hp : TxtAt w p lv) (hl : lv.length ≤ 9223372036854775807) (hcp : lv.length ≤ cp) (hz : ∀ x ∈ lv, x.size ≤ 9223372036854775807) :
    Calls Tryz.prog 56 #[.agg #[.slice q rs.length cq, .slice p lv.length cp, .int .i64 now], .int .i64 1048576] w fun e w' => (∃ r : Int, e = .returned (.int .i64 r) ∧ (r = -1 ∨ (0 ≤ r ∧ r ≤ 1048576 ∧ (rs.length ≤ 1048576 ∧ ∀ x ∈ rs, x.fs.length ≤ 1048576) ∧ lv.length ≤ 1048576))) ∧ Below w.heap.size w w' := by
  obtain ⟨W1, hW1⟩ : ∃ W1, W1 = w.alloc (.cells #[.slice q rs.length cq, .slice p lv.length cp, .int .i64 now] 74) := ⟨_, rfl⟩
  have HW1 : Hid (W1 = w.alloc (.cells #[.slice q rs.length cq, .slice p lv.length cp, .int .i64 now] 74)) := hW1
  have B1 : Hid (Below w.heap.size w W1) := by rw [hW1]; exact (Below.refl _ _).alloc (Nat.le_refl _) _
  have K1 : Hid (Bxs W1 w.heap.size 74 #[.slice q rs.length cq, .slice p lv.length cp, .int .i64 now]) := by rw [hW1]; exact Bxs.new _ _ _
  have hR := szRowS_any q cq rs W1 (hq.below B1.out) hn hcq hs
  have HT : Hid (∀ (l0 : Int), 0 ≤ l0 → l0 ≤ 1048576 → ∀ x, Below W1.heap.size W1 x → Calls Tryz.prog 133 #[.slice p lv.length cp, .int .i64 l0] x fun e w' => (∃ r : Int, e = .returned (.int .i64 r) ∧ SzTo r l0 lv) ∧ w' = x) := fun l0 a b x hb => szG_any l0 a b p cp lv x ((hp.below B1.out).below hb) hl hcp hz
  clear hW1 hq hp hs hz
  go_enter Tryz.func56, Tryz.ntmps56
  go_wp2_with fail
  rw [← HW1.out]
  refine hR.mono ?_
  rintro e y ⟨⟨r, rfl, hr⟩, by_⟩
  clear hR
  have x1 := (K1.out.below by_).cell 1
  rcases hr with rfl | ⟨r0, r1, r2, r3⟩
  · go_wp2_with fail
    go_ret
    exact ⟨⟨_, rfl, .inl rfl⟩, chainB B1.out by_⟩
  · have dr : decide (r < 0) = false := decide_eq_false (by omega)
    have hT := HT.out r r0 r1 y by_
    go_wp2_with fail
    refine hT.mono ?_
    rintro e y2 ⟨⟨r', rfl, hr'⟩, rfl⟩
    clear hT HT
    rcases hr' with rfl | ⟨r4, r5, r6, r7⟩
    · go_wp2_with fail
      go_ret
      exact ⟨⟨_, rfl, .inl rfl⟩, chainB B1.out by_⟩
    · have dr' : decide (r' < 0) = false := decide_eq_false (by omega)
      go_wp2_with fail
      go_ret
      exact ⟨⟨_, rfl, .inr ⟨r4, by omega, ⟨r2, r3⟩, r6⟩⟩, chainB B1.out by_⟩
/-! ### A copy in new memory -/
def cutR (rs : List Rw) (xs : List (Rw × Nat)) : List Rc := xs.map rcOf ++ List.replicate (rs.length - xs.length) rcE
/-- k rows are copied. -/
structure CpR (w : World) (rs : List Rw) (k : Nat) (W : World) : Prop where
  ex : ∃ xs : List (Rw × Nat), xs.map (·.1) = rs.take k ∧ BlkR W w.heap.size (cutR rs xs) ∧ (∀ x ∈ xs, BlkF W x.2 x.1.fs) ∧ (∀ x ∈ xs, w.heap.size < x.2) ∧ xs.Pairwise (fun x y => x.2 < y.2)
  bel : Below w.heap.size w W
theorem cutR_set (rs : List Rw) (xs : List (Rw × Nat)) (x : Rw × Nat) (h : xs.length < rs.length) : (cutR rs xs).set xs.length (rcOf x) = cutR rs (xs ++ [x]) := by
  unfold cutR
  rw [List.set_append_right _ _ (by simp)]
  simp only [List.length_map, Nat.sub_self, List.map_append, List.map_cons, List.map_nil, List.append_assoc, List.length_append, List.length_cons, List.length_nil]
  congr 1
  obtain ⟨m, hm⟩ : ∃ m, rs.length - xs.length = m + 1 := ⟨rs.length - xs.length - 1, by omega⟩
  rw [hm, show rs.length - (xs.length + (0 + 1)) = m by omega, List.replicate_succ]
  rfl
theorem CpR.put {w : World} {rs : List Rw} {k : Nat} {W y : World} (h : CpR w rs k W) (hk : k < rs.length) {g : Nat} (hb : Below W.heap.size W y) (hg : W.heap.size ≤ g) (hf : BlkF y g rs[k].fs) : CpR w rs (k + 1) (set3 y w.heap.size (k * 3) (rcOf (rs[k], g))) := by
  obtain ⟨xs, h1, h2, h3, h4, h5⟩ := h.ex
  have hl : xs.length = k := by have := congrArg List.length h1; simp at this; omega
  have hlt : w.heap.size < W.heap.size := Bxs.lt h2
  refine ⟨⟨xs ++ [(rs[k], g)], ?_, ?_, ?_, ?_, ?_⟩, set3_below (chainB h.bel hb) (Nat.le_refl _) _ _⟩
  · rw [List.map_append, h1, List.take_succ_eq_append_getElem hk]; rfl
  · rw [← cutR_set rs xs _ (by omega), hl]
    exact BlkR.set3 (Bxs.below h2 hb) k _
  · intro x hx
    rcases List.mem_append.1 hx with hx | hx
    · have hx2 := h4 x hx
      exact set3_other (Bxs.below (h3 x hx) hb) (by omega) _
    · rw [List.mem_singleton] at hx
      subst hx
      exact set3_other hf (by simp; omega) _
  · intro x hx
    rcases List.mem_append.1 hx with hx | hx
    · exact h4 x hx
    · rw [List.mem_singleton] at hx
      subst hx
      simp; omega
  · rw [List.pairwise_append]
    refine ⟨h5, List.pairwise_singleton _ _, fun a ha b hb' => ?_⟩
    rw [List.mem_singleton] at hb'
    subst hb'
    have := Bxs.lt (h3 a ha)
    simp; omega
theorem CpR.slot {w : World} {rs : List Rw} {k : Nat} {W : World} (h : CpR w rs k W) (hk : k < rs.length) : (∃ x1 x2 x3, W.cell? ⟨w.heap.size, k * 3, none⟩ = some x1 ∧ W.cell? ⟨w.heap.size, k * 3 + 1, none⟩ = some x2 ∧ W.cell? ⟨w.heap.size, k * 3 + 2, none⟩ = some x3) ∧ W.frozen? ⟨w.heap.size, k * 3, none⟩ = false ∧ W.frozen? ⟨w.heap.size, k * 3 + 1, none⟩ = false ∧ W.frozen? ⟨w.heap.size, k * 3 + 2, none⟩ = false := by
  obtain ⟨xs, h1, h2, -⟩ := h.ex
  have hl : xs.length = k := by have := congrArg List.length h1; simp at this; omega
  obtain ⟨g1, g2⟩ := h2.cells k (by unfold cutR; simp; omega)
  exact ⟨⟨_, _, _, g1⟩, g2⟩
theorem CpR.below {w : World} {rs : List Rw} {k : Nat} {W y : World} (h : CpR w rs k W) (hb : Below W.heap.size W y) : CpR w rs k y := by
  obtain ⟨xs, h1, h2, h3, h4, h5⟩ := h.ex
  exact ⟨⟨xs, h1, Bxs.below h2 hb, fun x hx => (h3 x hx).below hb, h4, h5⟩, chainB h.bel hb⟩
set_option maxHeartbeats 4000000 in
theorem toRowS_any (p : Option Addr) (cap : Nat) (rs : List Rw) (w : World) (hp : RwAt w p rs) (hn : rs.length ≤ 1048576) (hcap : rs.length ≤ cap) (hf : ∀ x ∈ rs, x.fs.length ≤ 1048576) :
    Calls Tryz.prog 135 #[.slice p rs.length cap] w fun e w' => e = .returned (.slice (some ⟨w.heap.size, 0, none⟩) rs.length rs.length) ∧ (∃ xs : List (Rw × Nat), xs.map (·.1) = rs ∧ RwsB w' w.heap.size xs) ∧ Below w.heap.size w w' := by
  have HP : Hid (RwAt w p rs) := hp
  have HF : Hid (∀ x ∈ rs, x.fs.length ≤ 1048576) := hf
  clear hp hf
  obtain ⟨W1, hW1⟩ : ∃ W1, W1 = w.alloc (.cells (rcRow (List.replicate rs.length rcE)).toArray 29) := ⟨_, rfl⟩
  have hmk := run_make_rc rs.length hn w
  rw [← hW1] at hmk
  have H0 : Hid (CpR w rs 0 W1) := by
    refine ⟨⟨[], by simp, ?_, by simp, by simp, List.Pairwise.nil⟩, ?_⟩
    · rw [hW1]; unfold cutR; simp only [List.map_nil, List.nil_append, List.length_nil, Nat.sub_zero]; exact alloc_rc _ _
    · rw [hW1]; exact (Below.refl _ _).alloc (Nat.le_refl _) _
  clear hW1
  go_enter Tryz.func135, Tryz.ntmps135
  go_wp2_with fail
  go_loopw [4] (fun i wr => ∃ k : Nat, k ≤ rs.length ∧ i = .int .i64 k ∧ Hid (CpR w rs k wr)) (fun i _ => rs.length - (intOf i).toNat)
  case atStart => exact ⟨0, Nat.zero_le _, rfl, H0⟩
  case round =>
    clear H0 hmk
    obtain ⟨k, hk, rfl, HC⟩ := hrel
    by_cases hlt : k < rs.length
    · have i1 : (k : Int) < rs.length := by omega
      obtain ⟨b, off, rq, rc, rfl, hb0, c0, c1, c2, c3, c4⟩ := (HP.out.below HC.out.bel) k hlt
      have hT := toRow_any rs[k].k rs[k].a rq rc rs[k].fs wr c4 (HF.out _ (List.getElem_mem hlt)) c3
      have HS : Hid (∀ y g, Below wr.heap.size wr y → wr.heap.size ≤ g → BlkF y g rs[k].fs → CpR w rs (k + 1) (((y.setCell ⟨w.heap.size, k * 3, none⟩ (.string rs[k].k)).setCell ⟨w.heap.size, k * 3 + 1, none⟩ (.int .i64 rs[k].a)).setCell ⟨w.heap.size, k * 3 + 2, none⟩ (.slice (some ⟨g, 0, none⟩) rs[k].fs.length rs[k].fs.length))) := fun y g hb hg hf => HC.out.put hlt hb hg hf
      have HL : Hid (∀ y, Below wr.heap.size wr y → _) := fun y hb => (HC.out.below hb).slot hlt
      clear hb0 c3 c4 HC
      generalize rs[k].k = rk at *
      generalize rs[k].a = ra at *
      generalize rs[k].fs = fs at *
      go_wp2_with fail
      refine hT.mono ?_
      rintro e y ⟨g, hg, rfl, hBf, by_⟩
      obtain ⟨⟨x1, x2, x3, s1, s2, s3⟩, f1, f2, f3⟩ := HL.out y by_
      have HE : Hid (CpR w rs (k + 1) (((y.setCell ⟨w.heap.size, k * 3, none⟩ (.string rk)).setCell ⟨w.heap.size, k * 3 + 1, none⟩ (.int .i64 ra)).setCell ⟨w.heap.size, k * 3 + 2, none⟩ (.slice (some ⟨g, 0, none⟩) fs.length fs.length))) := HS.out y g by_ hg hBf
      clear HS HL hT by_ hg hBf c0 c1 c2
      go_wp2_with fail
      go_roundw
      case rel => exact ⟨k + 1, by omega, by go_num, HE⟩
      case measure => simp [intOf]; omega
    · have hkk : k = rs.length := by omega
      subst hkk
      have HR : Hid (∃ xs : List (Rw × Nat), xs.map (·.1) = rs ∧ RwsB wr w.heap.size xs) := by
        obtain ⟨xs, h1, h2, h3, h4, h5⟩ := HC.out.ex
        rw [List.take_length] at h1
        have hl : xs.length = rs.length := by rw [← h1]; simp
        refine ⟨xs, h1, ?_, h3, h4, h5⟩
        unfold cutR at h2
        rwa [hl, Nat.sub_self, List.replicate_zero, List.append_nil] at h2
      go_wp2_with fail
      go_ret
      exact ⟨rfl, HR.out, HC.out.bel⟩
end Go.Proofs.YtnahmddbmmnilaaGreatDoor
