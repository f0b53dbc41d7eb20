/-
  Parts of one proof, laid as one text: LawLg, LawLh; what each says stands at its head.
-/
import Derived.Test.YtamdgdkpcoeknaaGreatDoorRows
import Derived.Test.YtamdgdkpcoeknaaGreatDoorBytesDigMath
import Derived.Test.YtamdgdkpcoeknaaGreatDoorTreeMathSlASlBBxKOwnS
import Derived.Test.YtamdgdkpcoeknaaGreatDoorLgMathLgAtKOneKFldBlkRwBlkTakes
import Derived.Test.YtamdgdkpcoeknaaGreatDoorTimeBPutMathPutNumJoinedPutTextFldMath
import Derived.Test.YtamdgdkpcoeknaaGreatDoorFldGShwKFldHPathMathFldRiseScanMath
import Derived.Test.YtamdgdkpcoeknaaGreatDoorLawFLawFRLawSLawSG
import Derived.Handy
import Derived.WalkSpells
import Derived.OwnWalk
import Derived.Deep.RegionHeld3
import Derived.Deep.Cut
/-
  What the laws' own helpers answer for rows and logs: szRowS, szLog (of few and small ones a number that is not below 0, else -1), toRowS, toLog (a copy in new memory), eqRowS, eqLog (of what is alike true).
-/
namespace Go.Proofs.YtamdgdkpcoeknaaGreatDoor
open Go.RowKit Go.Lib
set_option linter.unusedVariables false
set_option maxRecDepth 20000

set_option maxHeartbeats 1000000 in
theorem szRowL_any (l0 : Int) (l00 : 0 ≤ l0) (l01 : l0 ≤ 1048576) (kd : ByteArray) (at_ : Int) (p : Option Addr) (c : Nat) (fs : List Fld) (w : World) (h1 : FldAt w p fs) (n1 : fs.length ≤ 9223372036854775807) (m1 : fs.length ≤ c) (s1 : FldsBig fs) (s0 : kd.size ≤ 9223372036854775807) :
    Calls Tryz.prog 57 #[.agg #[.string kd, .int .i64 at_, .slice p fs.length c], .int .i64 l0] w fun e w' => (∃ r : Int, e = .returned (.int .i64 r) ∧ (r = -1 ∨ (0 ≤ r ∧ r ≤ l0 ∧ fs.length ≤ 1048576))) ∧ Below w.heap.size w w' := by
  obtain ⟨W1, hW1⟩ : ∃ W1, W1 = w.alloc (.cells #[.string kd, .int .i64 at_, .slice p fs.length c] 108) := ⟨_, rfl⟩
  have HW1 : Hid (W1 = w.alloc (.cells #[.string kd, .int .i64 at_, .slice p fs.length c] 108)) := hW1
  have B1 : Hid (Below w.heap.size w W1) := by rw [hW1]; exact (Below.refl _ _).alloc (Nat.le_refl _) _
  have H2 : Hid (∀ (l0 : Int), 0 ≤ l0 → l0 ≤ 1048576 → Calls Tryz.prog 87 #[.slice p fs.length c, .int .i64 l0] W1 fun e w' => (∃ r : Int, e = .returned (.int .i64 r) ∧ (r = -1 ∨ (0 ≤ r ∧ r ≤ l0 ∧ fs.length ≤ 1048576))) ∧ Below W1.heap.size W1 w') := fun l0 a b => szF_any l0 a b p c fs W1 (h1.below B1.out) n1 m1 s1
  clear h1 s1 hW1
  by_cases hk : (kd.size : Int) ≤ l0
  · have H3 := H2.out (l0 - kd.size) (by omega) (by omega)
    have d0 : decide (l0 - (kd.size : Int) < 0) = false := decide_eq_false (by omega)
    clear H2
    go_enter Tryz.func57, Tryz.ntmps57
    go_wp2_with fail
    rw [← HW1.out]
    refine H3.mono ?_
    rintro e w2 ⟨⟨r', rfl, hr'⟩, b2⟩
    have b2 := chainB B1.out b2
    clear H3
    rcases hr' with rfl | ⟨r4, r5, r6⟩
    · go_wp2_with fail
      go_ret
      exact ⟨⟨_, rfl, .inl rfl⟩, b2⟩
    · have dr : decide (r' < 0) = false := decide_eq_false (by omega)
      go_wp2_with fail
      go_ret
      exact ⟨⟨_, rfl, .inr ⟨r4, by omega, r6⟩⟩, b2⟩
  · have d0 : decide (l0 - (kd.size : Int) < 0) = true := decide_eq_true (by omega)
    clear H2
    go_enter Tryz.func57, Tryz.ntmps57
    go_wp2_with fail
    rw [← HW1.out]
    go_ret
    exact ⟨⟨_, rfl, .inl rfl⟩, B1.out⟩
def RwsBig (rs : List Rw) : Prop := ∀ r ∈ rs, r.fs.length ≤ 9223372036854775807 ∧ r.k.size ≤ 9223372036854775807 ∧ FldsBig r.fs
set_option maxHeartbeats 2000000 in
theorem szRowS_any (p : Option Addr) (cap : Nat) (rs : List Rw) (w : World) (hp : RwAt w p rs) (hn : rs.length ≤ 9223372036854775807) (hcap : rs.length ≤ cap) (hs : RwsBig rs) :
    Calls Tryz.prog 20 #[.slice p rs.length cap, .int .i64 1048576] w fun e w' => (∃ r : Int, e = .returned (.int .i64 r) ∧ (r = -1 ∨ (0 ≤ r ∧ r ≤ 1048576 ∧ rs.length ≤ 1048576 ∧ ∀ x ∈ rs, x.fs.length ≤ 1048576))) ∧ Below w.heap.size w w' := by
  have HP : Hid (RwAt w p rs) := hp
  have HS : Hid (RwsBig rs) := hs
  clear hp hs
  by_cases hl : (rs.length : Int) ≤ 1048576
  · have d0 : decide ((1048576 : Int) - (rs.length : Int) < 0) = false := decide_eq_false (by omega)
    go_enter Tryz.func20, Tryz.ntmps20
    go_wp2_with fail
    go_loopw [5, 1] (fun i x wr => ∃ (k : Nat) (l : Int), k ≤ rs.length ∧ i = .int .i64 k ∧ x = .int .i64 l ∧ 0 ≤ l ∧ l ≤ 1048576 ∧ Hid (Below w.heap.size w wr) ∧ Hid (∀ j (h : j < rs.length), j < k → rs[j].fs.length ≤ 1048576)) (fun i _ _ => rs.length - (intOf i).toNat)
    case atStart => exact ⟨0, _, Nat.zero_le _, rfl, rfl, by omega, by omega, Below.refl _ _, fun j h hk => by omega⟩
    case round =>
      obtain ⟨k, l, hk, rfl, rfl, l0, l1, HB, HF⟩ := hrel
      by_cases hlt : k < rs.length
      · have i1 : (k : Int) < rs.length := by omega
        obtain ⟨b, off, rq, rc, rfl, hb0, c0, c1, c2, c3, c4⟩ := (HP.out.below HB.out) k hlt
        have hbb := HS.out _ (List.getElem_mem hlt)
        have hZ := szRowL_any l l0 l1 rs[k].k rs[k].a rq rc rs[k].fs wr c4 hbb.1 c3 hbb.2.2 hbb.2.1
        have HF1 : Hid (rs[k].fs.length ≤ 1048576 → ∀ j (h : j < rs.length), j < k + 1 → rs[j].fs.length ≤ 1048576) := fun h0 j h hj => if he : j = k then by subst he; exact h0 else HF.out j h (by omega)
        clear HF hbb hb0 c3 c4
        generalize rs[k].k = rk at *
        generalize rs[k].a = ra at *
        generalize rs[k].fs.length = fl at *
        go_wp2_with fail
        refine hZ.mono ?_
        rintro e y ⟨⟨r', rfl, hr'⟩, b2⟩
        clear hZ c0 c1 c2
        have HB2 : Hid (Below w.heap.size w y) := chainB HB.out b2
        rcases hr' with rfl | ⟨r4, r5, r6⟩
        · go_wp2_with fail
          go_ret
          exact ⟨⟨_, rfl, .inl rfl⟩, HB2.out⟩
        · have dr : decide (r' < 0) = false := decide_eq_false (by omega)
          have HF2 : Hid (∀ j (h : j < rs.length), j < k + 1 → rs[j].fs.length ≤ 1048576) := HF1.out r6
          clear HF1
          go_wp2_with fail
          go_roundw
          case rel => exact ⟨k + 1, r', by omega, by simp, rfl, r4, by omega, HB2.out, HF2.out⟩
          case measure => simp [intOf]; omega
      · obtain rfl : k = rs.length := by omega
        go_wp2_with fail
        go_ret
        exact ⟨⟨_, rfl, .inr ⟨l0, l1, by omega, fun x hx => by obtain ⟨j, hj, rfl⟩ := List.getElem_of_mem hx; exact HF.out j hj hj⟩⟩, HB.out⟩
  · have d0 : decide ((1048576 : Int) - (rs.length : Int) < 0) = true := decide_eq_true (by omega)
    go_enter Tryz.func20, Tryz.ntmps20
    go_wp2_with fail
    go_ret
    exact ⟨⟨_, rfl, .inl rfl⟩, Below.refl _ _⟩
set_option maxHeartbeats 2000000 in
theorem szLog_any (q : Option Addr) (cq : Nat) (rs : List Rw) (p : Option Addr) (cp : Nat) (lv : List ByteArray) (now : Int) (w : World) (hq : RwAt w q rs) (hn : rs.length ≤ 9223372036854775807) (hcq : rs.length ≤ cq) (hs : RwsBig rs) (hp : TxtAt w p lv) (hl : lv.length ≤ 9223372036854775807) (hcp : lv.length ≤ cp) (hz : ∀ x ∈ lv, x.size ≤ 9223372036854775807) :
    Calls Tryz.prog 5 #[.agg #[.slice q rs.length cq, .slice p lv.length cp, .int .i64 now], .int .i64 1048576] w fun e w' => (∃ r : Int, e = .returned (.int .i64 r) ∧ (r = -1 ∨ (0 ≤ r ∧ r ≤ 1048576 ∧ (rs.length ≤ 1048576 ∧ ∀ x ∈ rs, x.fs.length ≤ 1048576) ∧ lv.length ≤ 1048576))) ∧ Below w.heap.size w w' := by
  obtain ⟨W1, hW1⟩ : ∃ W1, W1 = w.alloc (.cells #[.slice q rs.length cq, .slice p lv.length cp, .int .i64 now] 25) := ⟨_, rfl⟩
  have HW1 : Hid (W1 = w.alloc (.cells #[.slice q rs.length cq, .slice p lv.length cp, .int .i64 now] 25)) := hW1
  have B1 : Hid (Below w.heap.size w W1) := by rw [hW1]; exact (Below.refl _ _).alloc (Nat.le_refl _) _
  have K1 : Hid (Bxs W1 w.heap.size 25 #[.slice q rs.length cq, .slice p lv.length cp, .int .i64 now]) := by rw [hW1]; exact Bxs.new _ _ _
  have hR := szRowS_any q cq rs W1 (hq.below B1.out) hn hcq hs
  have HT : Hid (∀ (l0 : Int), 0 ≤ l0 → l0 ≤ 1048576 → ∀ x, Below W1.heap.size W1 x → Calls Tryz.prog 21 #[.slice p lv.length cp, .int .i64 l0] x fun e w' => (∃ r : Int, e = .returned (.int .i64 r) ∧ SzTo r l0 lv) ∧ w' = x) := fun l0 a b x hb => szG_any l0 a b p cp lv x ((hp.below B1.out).below hb) hl hcp hz
  clear hW1 hq hp hs hz
  go_enter Tryz.func5, Tryz.ntmps5
  go_wp2_with fail
  rw [← HW1.out]
  refine hR.mono ?_
  rintro e y ⟨⟨r, rfl, hr⟩, by_⟩
  clear hR
  have x1 := (K1.out.below by_).cell 1
  rcases hr with rfl | ⟨r0, r1, r2, r3⟩
  · go_wp2_with fail
    go_ret
    exact ⟨⟨_, rfl, .inl rfl⟩, chainB B1.out by_⟩
  · have dr : decide (r < 0) = false := decide_eq_false (by omega)
    have hT := HT.out r r0 r1 y by_
    go_wp2_with fail
    refine hT.mono ?_
    rintro e y2 ⟨⟨r', rfl, hr'⟩, rfl⟩
    clear hT HT
    rcases hr' with rfl | ⟨r4, r5, r6, r7⟩
    · go_wp2_with fail
      go_ret
      exact ⟨⟨_, rfl, .inl rfl⟩, chainB B1.out by_⟩
    · have dr' : decide (r' < 0) = false := decide_eq_false (by omega)
      go_wp2_with fail
      go_ret
      exact ⟨⟨_, rfl, .inr ⟨r4, by omega, ⟨r2, r3⟩, r6⟩⟩, chainB B1.out by_⟩
/-! ### A copy in new memory -/
def cutR (rs : List Rw) (xs : List (Rw × Nat)) : List Rc := xs.map rcOf ++ List.replicate (rs.length - xs.length) rcE
/-- k rows are copied. -/
structure CpR (w : World) (rs : List Rw) (k : Nat) (W : World) : Prop where
  ex : ∃ xs : List (Rw × Nat), xs.map (·.1) = rs.take k ∧ BlkR W w.heap.size (cutR rs xs) ∧ (∀ x ∈ xs, BlkF W x.2 x.1.fs) ∧ (∀ x ∈ xs, w.heap.size < x.2) ∧ xs.Pairwise (fun x y => x.2 < y.2)
  bel : Below w.heap.size w W
theorem cutR_set (rs : List Rw) (xs : List (Rw × Nat)) (x : Rw × Nat) (h : xs.length < rs.length) : (cutR rs xs).set xs.length (rcOf x) = cutR rs (xs ++ [x]) := by
  unfold cutR
  rw [List.set_append_right _ _ (by simp)]
  simp only [List.length_map, Nat.sub_self, List.map_append, List.map_cons, List.map_nil, List.append_assoc, List.length_append, List.length_cons, List.length_nil]
  congr 1
  obtain ⟨m, hm⟩ : ∃ m, rs.length - xs.length = m + 1 := ⟨rs.length - xs.length - 1, by omega⟩
  rw [hm, show rs.length - (xs.length + (0 + 1)) = m by omega, List.replicate_succ]
  rfl
theorem CpR.put {w : World} {rs : List Rw} {k : Nat} {W y : World} (h : CpR w rs k W) (hk : k < rs.length) {g : Nat} (hb : Below W.heap.size W y) (hg : W.heap.size ≤ g) (hf : BlkF y g rs[k].fs) : CpR w rs (k + 1) (set3 y w.heap.size (k * 3) (rcOf (rs[k], g))) := by
  obtain ⟨xs, h1, h2, h3, h4, h5⟩ := h.ex
  have hl : xs.length = k := by have := congrArg List.length h1; simp at this; omega
  have hlt : w.heap.size < W.heap.size := Bxs.lt h2
  refine ⟨⟨xs ++ [(rs[k], g)], ?_, ?_, ?_, ?_, ?_⟩, set3_below (chainB h.bel hb) (Nat.le_refl _) _ _⟩
  · rw [List.map_append, h1, List.take_succ_eq_append_getElem hk]; rfl
  · rw [← cutR_set rs xs _ (by omega), hl]
    exact BlkR.set3 (Bxs.below h2 hb) k _
  · intro x hx
    rcases List.mem_append.1 hx with hx | hx
    · have hx2 := h4 x hx
      exact set3_other (Bxs.below (h3 x hx) hb) (by omega) _
    · rw [List.mem_singleton] at hx
      subst hx
      exact set3_other hf (by simp; omega) _
  · intro x hx
    rcases List.mem_append.1 hx with hx | hx
    · exact h4 x hx
    · rw [List.mem_singleton] at hx
      subst hx
      simp; omega
  · rw [List.pairwise_append]
    refine ⟨h5, List.pairwise_singleton _ _, fun a ha b hb' => ?_⟩
    rw [List.mem_singleton] at hb'
    subst hb'
    have := Bxs.lt (h3 a ha)
    simp; omega
theorem CpR.slot {w : World} {rs : List Rw} {k : Nat} {W : World} (h : CpR w rs k W) (hk : k < rs.length) : (∃ x1 x2 x3, W.cell? ⟨w.heap.size, k * 3, none⟩ = some x1 ∧ W.cell? ⟨w.heap.size, k * 3 + 1, none⟩ = some x2 ∧ W.cell? ⟨w.heap.size, k * 3 + 2, none⟩ = some x3) ∧ W.frozen? ⟨w.heap.size, k * 3, none⟩ = false ∧ W.frozen? ⟨w.heap.size, k * 3 + 1, none⟩ = false ∧ W.frozen? ⟨w.heap.size, k * 3 + 2, none⟩ = false := by
  obtain ⟨xs, h1, h2, -⟩ := h.ex
  have hl : xs.length = k := by have := congrArg List.length h1; simp at this; omega
  obtain ⟨g1, g2⟩ := h2.cells k (by unfold cutR; simp; omega)
  exact ⟨⟨_, _, _, g1⟩, g2⟩
theorem CpR.below {w : World} {rs : List Rw} {k : Nat} {W y : World} (h : CpR w rs k W) (hb : Below W.heap.size W y) : CpR w rs k y := by
  obtain ⟨xs, h1, h2, h3, h4, h5⟩ := h.ex
  exact ⟨⟨xs, h1, Bxs.below h2 hb, fun x hx => (h3 x hx).below hb, h4, h5⟩, chainB h.bel hb⟩
set_option maxHeartbeats 4000000 in
theorem toRowS_any (p : Option Addr) (cap : Nat) (rs : List Rw) (w : World) (hp : RwAt w p rs) (hn : rs.length ≤ 1048576) (hcap : rs.length ≤ cap) (hf : ∀ x ∈ rs, x.fs.length ≤ 1048576) :
    Calls Tryz.prog 28 #[.slice p rs.length cap] w fun e w' => e = .returned (.slice (some ⟨w.heap.size, 0, none⟩) rs.length rs.length) ∧ (∃ xs : List (Rw × Nat), xs.map (·.1) = rs ∧ RwsB w' w.heap.size xs) ∧ Below w.heap.size w w' := by
  have HP : Hid (RwAt w p rs) := hp
  have HF : Hid (∀ x ∈ rs, x.fs.length ≤ 1048576) := hf
  clear hp hf
  obtain ⟨W1, hW1⟩ : ∃ W1, W1 = w.alloc (.cells (rcRow (List.replicate rs.length rcE)).toArray 67) := ⟨_, rfl⟩
  have hmk := run_make_rc rs.length hn w
  rw [← hW1] at hmk
  have H0 : Hid (CpR w rs 0 W1) := by
    refine ⟨⟨[], by simp, ?_, by simp, by simp, List.Pairwise.nil⟩, ?_⟩
    · rw [hW1]; unfold cutR; simp only [List.map_nil, List.nil_append, List.length_nil, Nat.sub_zero]; exact alloc_rc _ _
    · rw [hW1]; exact (Below.refl _ _).alloc (Nat.le_refl _) _
  clear hW1
  go_enter Tryz.func28, Tryz.ntmps28
  go_wp2_with fail
  go_loopw [4] (fun i wr => ∃ k : Nat, k ≤ rs.length ∧ i = .int .i64 k ∧ Hid (CpR w rs k wr)) (fun i _ => rs.length - (intOf i).toNat)
  case atStart => exact ⟨0, Nat.zero_le _, rfl, H0⟩
  case round =>
    clear H0 hmk
    obtain ⟨k, hk, rfl, HC⟩ := hrel
    by_cases hlt : k < rs.length
    · have i1 : (k : Int) < rs.length := by omega
      obtain ⟨b, off, rq, rc, rfl, hb0, c0, c1, c2, c3, c4⟩ := (HP.out.below HC.out.bel) k hlt
      have hT := toRow_any rs[k].k rs[k].a rq rc rs[k].fs wr c4 (HF.out _ (List.getElem_mem hlt)) c3
      have HS : Hid (∀ y g, Below wr.heap.size wr y → wr.heap.size ≤ g → BlkF y g rs[k].fs → CpR w rs (k + 1) (((y.setCell ⟨w.heap.size, k * 3, none⟩ (.string rs[k].k)).setCell ⟨w.heap.size, k * 3 + 1, none⟩ (.int .i64 rs[k].a)).setCell ⟨w.heap.size, k * 3 + 2, none⟩ (.slice (some ⟨g, 0, none⟩) rs[k].fs.length rs[k].fs.length))) := fun y g hb hg hf => HC.out.put hlt hb hg hf
      have HL : Hid (∀ y, Below wr.heap.size wr y → _) := fun y hb => (HC.out.below hb).slot hlt
      clear hb0 c3 c4 HC
      generalize rs[k].k = rk at *
      generalize rs[k].a = ra at *
      generalize rs[k].fs = fs at *
      go_wp2_with fail
      refine hT.mono ?_
      rintro e y ⟨g, hg, rfl, hBf, by_⟩
      obtain ⟨⟨x1, x2, x3, s1, s2, s3⟩, f1, f2, f3⟩ := HL.out y by_
      have HE : Hid (CpR w rs (k + 1) (((y.setCell ⟨w.heap.size, k * 3, none⟩ (.string rk)).setCell ⟨w.heap.size, k * 3 + 1, none⟩ (.int .i64 ra)).setCell ⟨w.heap.size, k * 3 + 2, none⟩ (.slice (some ⟨g, 0, none⟩) fs.length fs.length))) := HS.out y g by_ hg hBf
      clear HS HL hT by_ hg hBf c0 c1 c2
      go_wp2_with fail
      go_roundw
      case rel => exact ⟨k + 1, by omega, by go_num, HE⟩
      case measure => simp [intOf]; omega
    · have hkk : k = rs.length := by omega
      subst hkk
      have HR : Hid (∃ xs : List (Rw × Nat), xs.map (·.1) = rs ∧ RwsB wr w.heap.size xs) := by
        obtain ⟨xs, h1, h2, h3, h4, h5⟩ := HC.out.ex
        rw [List.take_length] at h1
        have hl : xs.length = rs.length := by rw [← h1]; simp
        refine ⟨xs, h1, ?_, h3, h4, h5⟩
        unfold cutR at h2
        rwa [hl, Nat.sub_self, List.replicate_zero, List.append_nil] at h2
      go_wp2_with fail
      go_ret
      exact ⟨rfl, HR.out, HC.out.bel⟩
end Go.Proofs.YtamdgdkpcoeknaaGreatDoor
/-
  What the laws' own helpers toLog, eqRowS and eqLog answer.
-/
namespace Go.Proofs.YtamdgdkpcoeknaaGreatDoor
open Go.RowKit Go.Lib
set_option linter.unusedVariables false
set_option maxRecDepth 20000

/-- A log of its own: a block of rows, the fields of each in a block of their own, and behind all these a block of leaves. -/
structure LgB (w : World) (g : Nat) (xs : List (Rw × Nat)) (gl : Nat) (lv : List ByteArray) : Prop where
  rw : RwsB w g xs
  lf : BlkS w gl lv
  gg : g < gl
  gx : ∀ x ∈ xs, x.2 < gl
theorem LgB.below {w w' : World} {g : Nat} {xs : List (Rw × Nat)} {gl : Nat} {lv : List ByteArray} (h : LgB w g xs gl lv) (hb : Below w.heap.size w w') : LgB w' g xs gl lv := ⟨h.rw.below hb, h.lf.below hb h.lf.lt, h.gg, h.gx⟩
theorem BlkS.bxs {w : World} {g : Nat} {l : List ByteArray} (h : BlkS w g l) : Bxs w g 9 (strRow l).toArray := h
set_option maxHeartbeats 4000000 in
theorem toLog_any (q : Option Addr) (cq : Nat) (rs : List Rw) (p : Option Addr) (cp : Nat) (lv : List ByteArray) (now : Int) (w : World) (hq : RwAt w q rs) (hn : rs.length ≤ 1048576) (hcq : rs.length ≤ cq) (hf : ∀ x ∈ rs, x.fs.length ≤ 1048576) (hp : TxtAt w p lv) (hl : lv.length ≤ 1048576) (hcp : lv.length ≤ cp) :
    Calls Tryz.prog 7 #[.agg #[.slice q rs.length cq, .slice p lv.length cp, .int .i64 now]] w fun e w' => ∃ g gl xs, xs.map (·.1) = rs ∧ w.heap.size ≤ g ∧ e = .returned (.agg #[.slice (some ⟨g, 0, none⟩) rs.length rs.length, .slice (some ⟨gl, 0, none⟩) lv.length lv.length, .int .i64 now]) ∧ LgB w' g xs gl lv ∧ Below w.heap.size w w' := by
  obtain ⟨W3, hW3⟩ : ∃ W3, W3 = ((w.alloc (.cells #[.slice q rs.length cq, .slice p lv.length cp, .int .i64 now] 25)).alloc (.cells #[.slice none 0 0, .slice none 0 0, .int .i64 0] 36)).alloc (.cells #[.slice none 0 0, .slice none 0 0, .int .i64 0] 36) := ⟨_, rfl⟩
  have HW3 : Hid (W3 = ((w.alloc (.cells #[.slice q rs.length cq, .slice p lv.length cp, .int .i64 now] 25)).alloc (.cells #[.slice none 0 0, .slice none 0 0, .int .i64 0] 36)).alloc (.cells #[.slice none 0 0, .slice none 0 0, .int .i64 0] 36)) := hW3
  have B3 : Hid (Below w.heap.size w W3) := by rw [hW3]; exact (((Below.refl _ _).alloc (Nat.le_refl _) _).alloc (by simp) _).alloc (by simp; omega) _
  have K0 : Hid (Bxs W3 w.heap.size 25 #[.slice q rs.length cq, .slice p lv.length cp, .int .i64 now]) := by rw [hW3]; exact ((Bxs.new _ _ _).alloc _).alloc _
  have K1 : Hid (Bxs W3 (w.heap.size + 1) 36 #[.slice none 0 0, .slice none 0 0, .int .i64 0]) := by
    rw [hW3]
    have := Bxs.new (w.alloc (.cells #[.slice q rs.length cq, .slice p lv.length cp, .int .i64 now] 25)) 36 #[.slice none 0 0, .slice none 0 0, .int .i64 0]
    rw [szA] at this
    exact this.alloc _
  have K2 : Hid (Bxs W3 (w.heap.size + 2) 36 #[.slice none 0 0, .slice none 0 0, .int .i64 0]) := by
    rw [hW3]
    have := Bxs.new ((w.alloc (.cells #[.slice q rs.length cq, .slice p lv.length cp, .int .i64 now] 25)).alloc (.cells #[.slice none 0 0, .slice none 0 0, .int .i64 0] 36)) 36 #[.slice none 0 0, .slice none 0 0, .int .i64 0]
    rw [szA, szA] at this
    exact this
  have HZ : Hid (W3.heap.size = w.heap.size + 3) := by rw [hW3]; show _ = _; simp
  have hR := toRowS_any q cq rs W3 (hq.below B3.out) hn hcq hf
  have HT : Hid (∀ x, Below w.heap.size w x → Calls Tryz.prog 29 #[.slice p lv.length cp] x fun e w' => e = .returned (.slice (some ⟨x.heap.size, 0, none⟩) lv.length lv.length) ∧ BlkS w' x.heap.size lv ∧ Below x.heap.size x w') := fun x hb => to_any p cp lv x (hp.below hb) hl hcp
  have x0 := K0.out.cell 0
  rw [HW3.out] at x0
  clear hW3 hq hp hf
  go_enter Tryz.func7, Tryz.ntmps7
  go_wp2_with fail
  rw [← HW3.out]
  refine hR.mono ?_
  rintro e y1 ⟨rfl, ⟨xs, hxs, hX⟩, b1⟩
  clear hR x0 HW3
  have k20 := (K2.out.below b1).cell 0
  have k2f := (K2.out.below b1).fr 0
  obtain ⟨Y2, hY2⟩ : ∃ Y2, Y2 = y1.setCell ⟨w.heap.size + 2, 0, none⟩ (.slice (some ⟨W3.heap.size, 0, none⟩) rs.length rs.length) := ⟨_, rfl⟩
  have HY2 : Hid (Y2 = y1.setCell ⟨w.heap.size + 2, 0, none⟩ (.slice (some ⟨W3.heap.size, 0, none⟩) rs.length rs.length)) := hY2
  have hz1 := b1.size
  have hzz := HZ.out
  have J0 : Hid (Bxs Y2 w.heap.size 25 #[.slice q rs.length cq, .slice p lv.length cp, .int .i64 now]) := by rw [hY2]; exact (K0.out.below b1).other _ _ (by omega) _
  have J1 : Hid (Bxs Y2 (w.heap.size + 1) 36 #[.slice none 0 0, .slice none 0 0, .int .i64 0]) := by rw [hY2]; exact (K1.out.below b1).other _ _ (by omega) _
  have J2 : Hid (Bxs Y2 (w.heap.size + 2) 36 #[.slice (some ⟨W3.heap.size, 0, none⟩) rs.length rs.length, .slice none 0 0, .int .i64 0]) := by rw [hY2]; exact (K2.out.below b1).set 0 _
  have JX : Hid (RwsB Y2 W3.heap.size xs) := by
    rw [hY2]
    exact ⟨Bxs.other hX.blk _ _ (by omega) _, fun x hx => Bxs.other (hX.fld x hx) _ _ (by have := hX.up x hx; omega) _, hX.up, hX.apart⟩
  have JB : Hid (Below w.heap.size w Y2) := by rw [hY2]; exact (chainB B3.out b1).setCell (p := ⟨w.heap.size + 2, 0, none⟩) (Nat.le_add_right _ _) _
  have HXS : Hid (xs.map (·.1) = rs) := hxs
  have HZ2 : Hid (w.heap.size + 3 ≤ Y2.heap.size) := by rw [hY2]; show _ ≤ _; simp; omega
  clear hY2 b1 hX hz1 hzz K0 K1 K2 hxs
  have hT := HT.out Y2 JB.out
  have j01 := J0.out.cell 1
  rw [HY2.out] at j01
  go_wp2_with fail
  rw [← HY2.out]
  refine hT.mono ?_
  rintro e y3 ⟨rfl, hS, b3⟩
  clear hT HT j01 HY2 k20 k2f
  have x2 := (J0.out.below b3).cell 2
  obtain ⟨q0, q1, q2⟩ : y3.cell? ⟨w.heap.size + 2, 0, none⟩ = some (.slice (some ⟨W3.heap.size, 0, none⟩) rs.length rs.length) ∧ y3.cell? ⟨w.heap.size + 2, 1, none⟩ = some (.slice none 0 0) ∧ y3.cell? ⟨w.heap.size + 2, 2, none⟩ = some (.int .i64 0) := ⟨(J2.out.below b3).cell 0, (J2.out.below b3).cell 1, (J2.out.below b3).cell 2⟩
  have q1f := (J2.out.below b3).fr 1
  have q2f := (J2.out.below b3).fr 2
  obtain ⟨r0, r1, r2⟩ : y3.cell? ⟨w.heap.size + 1, 0, none⟩ = some (.slice none 0 0) ∧ y3.cell? ⟨w.heap.size + 1, 1, none⟩ = some (.slice none 0 0) ∧ y3.cell? ⟨w.heap.size + 1, 2, none⟩ = some (.int .i64 0) := ⟨(J1.out.below b3).cell 0, (J1.out.below b3).cell 1, (J1.out.below b3).cell 2⟩
  have r0f := (J1.out.below b3).fr 0
  have r1f := (J1.out.below b3).fr 1
  have r2f := (J1.out.below b3).fr 2
  have HEnd : Hid (∀ v0 v1 v2 v3 v4 : Value, LgB (((((y3.setCell ⟨w.heap.size + 2, 1, none⟩ v0).setCell ⟨w.heap.size + 2, 2, none⟩ v1).setCell ⟨w.heap.size + 1, 0, none⟩ v2).setCell ⟨w.heap.size + 1, 1, none⟩ v3).setCell ⟨w.heap.size + 1, 2, none⟩ v4) W3.heap.size xs Y2.heap.size lv ∧ Below w.heap.size w (((((y3.setCell ⟨w.heap.size + 2, 1, none⟩ v0).setCell ⟨w.heap.size + 2, 2, none⟩ v1).setCell ⟨w.heap.size + 1, 0, none⟩ v2).setCell ⟨w.heap.size + 1, 1, none⟩ v3).setCell ⟨w.heap.size + 1, 2, none⟩ v4)) := by
    intro v0 v1 v2 v3 v4
    have hzz := HZ.out
    have hz2 := HZ2.out
    have hX3 := JX.out.below b3
    have oth : ∀ {g : Nat} {T : TypeId} {cs : Array Value}, Bxs y3 g T cs → w.heap.size + 2 < g → Bxs (((((y3.setCell ⟨w.heap.size + 2, 1, none⟩ v0).setCell ⟨w.heap.size + 2, 2, none⟩ v1).setCell ⟨w.heap.size + 1, 0, none⟩ v2).setCell ⟨w.heap.size + 1, 1, none⟩ v3).setCell ⟨w.heap.size + 1, 2, none⟩ v4) g T cs := fun h hg => ((((h.other _ _ (by omega) _).other _ _ (by omega) _).other _ _ (by omega) _).other _ _ (by omega) _).other _ _ (by omega) _
    refine ⟨⟨⟨oth hX3.blk (by omega), fun x hx => oth (hX3.fld x hx) (by have := hX3.up x hx; omega), hX3.up, hX3.apart⟩, oth hS.bxs (by omega), JX.out.lt, fun x hx => Bxs.lt (JX.out.fld x hx)⟩, ?_⟩
    have hb := chainB JB.out b3
    exact ((((hb.setCell (p := ⟨w.heap.size + 2, 1, none⟩) (Nat.le_add_right _ _) _).setCell (p := ⟨w.heap.size + 2, 2, none⟩) (Nat.le_add_right _ _) _).setCell (p := ⟨w.heap.size + 1, 0, none⟩) (Nat.le_add_right _ _) _).setCell (p := ⟨w.heap.size + 1, 1, none⟩) (Nat.le_add_right _ _) _).setCell (p := ⟨w.heap.size + 1, 2, none⟩) (Nat.le_add_right _ _) _
  have HG : Hid (w.heap.size ≤ W3.heap.size) := B3.out.size
  clear hS b3 J0 J1 J2 JX JB HZ2 HZ B3
  generalize Y2.heap.size = gl at *
  generalize W3.heap.size = g at *
  go_wp2_with fail
  refine bodyPost_ret (v := .agg #[.slice (some ⟨g, 0, none⟩) rs.length rs.length, .slice (some ⟨gl, 0, none⟩) lv.length lv.length, .int .i64 now]) (by simp [results, Tryz.results7, go_sem, r0, r1, r2]) rfl ?_
  exact ⟨g, gl, xs, HXS.out, HG.out, rfl, HEnd.out _ _ _ _ _⟩
set_option maxHeartbeats 4000000 in
theorem eqRowS_any (p q : Option Addr) (c d : Nat) (rs : List Rw) (w : World) (hp : RwAt w p rs) (hq : RwAt w q rs) (hn : rs.length ≤ 1048576) (hc : rs.length ≤ c) (hd : rs.length ≤ d) (hf : ∀ x ∈ rs, x.fs.length ≤ 1048576) :
    Calls Tryz.prog 38 #[.slice p rs.length c, .slice q rs.length d] w fun e w' => e = .returned (.bool true) ∧ Below w.heap.size w w' := by
  have HP : Hid (RwAt w p rs) := hp
  have HQ : Hid (RwAt w q rs) := hq
  have HF : Hid (∀ x ∈ rs, x.fs.length ≤ 1048576) := hf
  clear hp hq hf
  go_enter Tryz.func38, Tryz.ntmps38
  go_wp2_with fail
  go_loopw [5] (fun i wr => ∃ k : Nat, k ≤ rs.length ∧ i = .int .i64 k ∧ Hid (Below w.heap.size w wr)) (fun i _ => rs.length - (intOf i).toNat)
  case atStart => exact ⟨0, Nat.zero_le _, rfl, Below.refl _ _⟩
  case round =>
    obtain ⟨k, hk, rfl, HB⟩ := hrel
    by_cases hlt : k < rs.length
    · have i1 : (k : Int) < rs.length := by omega
      obtain ⟨b, off, rq, rc, rfl, hb0, c0, c1, c2, c3, c4⟩ := (HP.out.below HB.out) k hlt
      obtain ⟨b', off', rq', rc', rfl, hb0', c0', c1', c2', c3', c4'⟩ := (HQ.out.below HB.out) k hlt
      have hE := eqRow_any rs[k].k rs[k].a rq rq' rc rc' rs[k].fs wr.drew (c4.below (Below.refl _ _).drew) (c4'.below (Below.refl _ _).drew) (HF.out _ (List.getElem_mem hlt)) c3 c3'
      have HX : Hid (∀ x, Below wr.heap.size wr x → x.cell? ⟨b, off + k * 3, none⟩ = some (.string rs[k].k) ∧ x.cell? ⟨b, off + k * 3 + 1, none⟩ = some (.int .i64 rs[k].a) ∧ x.cell? ⟨b, off + k * 3 + 2, none⟩ = some (.slice rq rs[k].fs.length rc) ∧ x.cell? ⟨b', off' + k * 3, none⟩ = some (.string rs[k].k) ∧ x.cell? ⟨b', off' + k * 3 + 1, none⟩ = some (.int .i64 rs[k].a) ∧ x.cell? ⟨b', off' + k * 3 + 2, none⟩ = some (.slice rq' rs[k].fs.length rc')) := fun x hb => ⟨(hb.cell (p := ⟨b, off + k * 3, none⟩) hb0).trans c0, (hb.cell (p := ⟨b, off + k * 3 + 1, none⟩) hb0).trans c1, (hb.cell (p := ⟨b, off + k * 3 + 2, none⟩) hb0).trans c2, (hb.cell (p := ⟨b', off' + k * 3, none⟩) hb0').trans c0', (hb.cell (p := ⟨b', off' + k * 3 + 1, none⟩) hb0').trans c1', (hb.cell (p := ⟨b', off' + k * 3 + 2, none⟩) hb0').trans c2'⟩
      clear c0 c1 c2 c3 c4 c0' c1' c2' c3' c4'
      generalize rs[k].k = rk at *
      generalize rs[k].a = ra at *
      generalize rs[k].fs.length = fl at *
      go_upto_region 6 with fail
      refine wp_region_held_drew (S := (fun w' => w'.cell? ⟨b, off + k * 3, none⟩ = some (.string rk) ∧ w'.cell? ⟨b, off + k * 3 + 1, none⟩ = some (.int .i64 ra) ∧ w'.cell? ⟨b, off + k * 3 + 2, none⟩ = some (.slice rq fl rc) ∧ w'.cell? ⟨b', off' + k * 3, none⟩ = some (.string rk) ∧ w'.cell? ⟨b', off' + k * 3 + 1, none⟩ = some (.int .i64 ra) ∧ w'.cell? ⟨b', off' + k * 3 + 2, none⟩ = some (.slice rq' fl rc'))) (by kernel_rfl) (HX.out _ (Below.refl _ _).drew) (fun hHeld => ?_)
      refine take_at 0 (v := ?_) rfl (by kernel_rfl) (by kernel_rfl) (by kernel_rfl) (fun _ _ _ h => h) hHeld (Or.inl ⟨by rfl, ?_⟩) ?_
      rotate_left
      · (intro w hSw; (try dsimp only at hSw); go_simp; try with_reducible rfl)
      simp only [Act.put, List.setIfInBounds_toArray, List.set_cons_zero, List.set_cons_succ]
      refine take_at 1 (v := ?_) rfl (by kernel_rfl) (by kernel_rfl) (by kernel_rfl) (fun _ _ _ h => h) hHeld (Or.inl ⟨by rfl, ?_⟩) ?_
      rotate_left
      · (intro w hSw; (try dsimp only at hSw); go_simp; try with_reducible rfl)
      simp only [Act.put, List.setIfInBounds_toArray, List.set_cons_zero, List.set_cons_succ]
      refine take_at 2 (v := ?_) rfl (by kernel_rfl) (by kernel_rfl) (by kernel_rfl) (fun _ _ _ h => h) hHeld (Or.inl ⟨by rfl, ?_⟩) ?_
      rotate_left
      · (intro w hSw; (try dsimp only at hSw); go_simp; try with_reducible rfl)
      simp only [Act.put, List.setIfInBounds_toArray, List.set_cons_zero, List.set_cons_succ]
      refine take_at 3 (v := ?_) rfl (by kernel_rfl) (by kernel_rfl) (by kernel_rfl) (fun _ _ _ h => h) hHeld (Or.inl ⟨by rfl, ?_⟩) ?_
      rotate_left
      · (intro w hSw; (try dsimp only at hSw); go_simp; try with_reducible rfl)
      simp only [Act.put, List.setIfInBounds_toArray, List.set_cons_zero, List.set_cons_succ]
      refine take_at 4 (v := ?_) rfl (by kernel_rfl) (by kernel_rfl) (by kernel_rfl) (fun _ _ _ h => h) hHeld (Or.inl ⟨by rfl, ?_⟩) ?_
      rotate_left
      · (intro w hSw; (try dsimp only at hSw); go_simp; try with_reducible rfl)
      simp only [Act.put, List.setIfInBounds_toArray, List.set_cons_zero, List.set_cons_succ]
      refine take_at 5 (v := ?_) rfl (by kernel_rfl) (by kernel_rfl) (by kernel_rfl) (fun _ _ _ h => h) hHeld (Or.inl ⟨by rfl, ?_⟩) ?_
      rotate_left
      · (intro w hSw; (try dsimp only at hSw); go_simp; try with_reducible rfl)
      simp only [Act.put, List.setIfInBounds_toArray, List.set_cons_zero, List.set_cons_succ]
      refine take_at 6 (v := ?_) rfl (by kernel_rfl) (by kernel_rfl) (by kernel_rfl) (fun _ _ _ h => h) hHeld (Or.inl ⟨by rfl, ?_⟩) ?_
      rotate_left
      · (intro w hSw; (try dsimp only at hSw); go_simp; try with_reducible rfl)
      simp only [Act.put, List.setIfInBounds_toArray, List.set_cons_zero, List.set_cons_succ]
      refine take_at 7 (v := ?_) rfl (by kernel_rfl) (by kernel_rfl) (by kernel_rfl) (fun _ _ _ h => h) hHeld (Or.inl ⟨by rfl, ?_⟩) ?_
      rotate_left
      · (intro w hSw; (try dsimp only at hSw); go_simp; try with_reducible rfl)
      simp only [Act.put, List.setIfInBounds_toArray, List.set_cons_zero, List.set_cons_succ]
      refine ready_at 8 rfl (by kernel_rfl) (fun K hK => ?_)
      go_simp
      (go_at_call 73; with_reducible refine hE.mono ?_; rintro e ya ⟨rfl, z0⟩; have z1 : Below wr.heap.size wr ya := chainB (Below.refl _ _).drew z0)
      refine hK.out _ _ (HX.out _ z1) (fun hHeld => ?_)
      clear hK K
      try simp only [Act.put, List.setIfInBounds_toArray, List.set_cons_zero, List.set_cons_succ]
      refine take_at 9 (v := ?_) rfl (by kernel_rfl) (by kernel_rfl) (by kernel_rfl) (fun _ _ _ h => h) hHeld (Or.inl ⟨by rfl, ?_⟩) ?_
      rotate_left
      · (intro w hSw; (try dsimp only at hSw); go_simp; try with_reducible rfl)
      simp only [Act.put, List.setIfInBounds_toArray, List.set_cons_zero, List.set_cons_succ]
      refine wpAnyH_done (by kernel_rfl) ?_ _
      go_wp2_with fail
      go_roundw
      case rel => exact ⟨k + 1, by omega, by simp, chainB HB.out z1⟩
      case measure => simp [intOf]; omega
    · obtain rfl : k = rs.length := by omega
      go_wp2_with fail
      go_ret
      exact ⟨rfl, HB.out⟩
set_option maxHeartbeats 2000000 in
theorem eqLog_any (q q' : Option Addr) (cq cq' : Nat) (rs : List Rw) (p p' : Option Addr) (cp cp' : Nat) (lv : List ByteArray) (now : Int) (w : World) (hq : RwAt w q rs) (hq' : RwAt w q' rs) (hn : rs.length ≤ 1048576) (hcq : rs.length ≤ cq) (hcq' : rs.length ≤ cq') (hf : ∀ x ∈ rs, x.fs.length ≤ 1048576) (hp : TxtAt w p lv) (hp' : TxtAt w p' lv) (hl : lv.length ≤ 1048576) (hcp : lv.length ≤ cp) (hcp' : lv.length ≤ cp') :
    Calls Tryz.prog 10 #[.agg #[.slice q rs.length cq, .slice p lv.length cp, .int .i64 now], .agg #[.slice q' rs.length cq', .slice p' lv.length cp', .int .i64 now]] w fun e w' => e = .returned (.bool true) ∧ Below w.heap.size w w' := by
  obtain ⟨W2, hW2⟩ : ∃ W2, W2 = (w.alloc (.cells #[.slice q rs.length cq, .slice p lv.length cp, .int .i64 now] 36)).alloc (.cells #[.slice q' rs.length cq', .slice p' lv.length cp', .int .i64 now] 36) := ⟨_, rfl⟩
  have HW2 : Hid (W2 = (w.alloc (.cells #[.slice q rs.length cq, .slice p lv.length cp, .int .i64 now] 36)).alloc (.cells #[.slice q' rs.length cq', .slice p' lv.length cp', .int .i64 now] 36)) := hW2
  have B2 : Hid (Below w.heap.size w W2) := by rw [hW2]; exact ((Below.refl _ _).alloc (Nat.le_refl _) _).alloc (by simp) _
  have K0 : Hid (Bxs W2 w.heap.size 36 #[.slice q rs.length cq, .slice p lv.length cp, .int .i64 now]) := by rw [hW2]; exact (Bxs.new _ _ _).alloc _
  have K1 : Hid (Bxs W2 (w.heap.size + 1) 36 #[.slice q' rs.length cq', .slice p' lv.length cp', .int .i64 now]) := by
    rw [hW2]
    have := Bxs.new (w.alloc (.cells #[.slice q rs.length cq, .slice p lv.length cp, .int .i64 now] 36)) 36 #[.slice q' rs.length cq', .slice p' lv.length cp', .int .i64 now]
    rwa [szA] at this
  have hR := eqRowS_any q q' cq cq' rs W2 (hq.below B2.out) (hq'.below B2.out) hn hcq hcq' hf
  have HT : Hid (∀ x, Below w.heap.size w x → Calls Tryz.prog 39 #[.slice p lv.length cp, .slice p' lv.length cp'] x fun e w' => e = .returned (.bool true) ∧ Below x.heap.size x w') := fun x hb => (eq_any p p' cp cp' lv lv x (hp.below hb) (hp'.below hb) (by omega) (by omega) hcp hcp').mono (by rintro e y ⟨rfl, h⟩; exact ⟨by rw [decide_eq_true rfl], h⟩)
  have x0 := K0.out.cell 0
  have x1 := K1.out.cell 0
  rw [HW2.out] at x0 x1
  clear hW2 hq hq' hp hp' hf
  go_enter Tryz.func10, Tryz.ntmps10
  go_wp2_with fail
  rw [← HW2.out]
  refine hR.mono ?_
  rintro e y ⟨rfl, by_⟩
  clear hR x0 x1 HW2
  have a1 := (K0.out.below by_).cell 1
  have b1 := (K1.out.below by_).cell 1
  have hT := HT.out y (chainB B2.out by_)
  go_wp2_with fail
  refine hT.mono ?_
  rintro e y2 ⟨rfl, by2⟩
  clear hT HT a1 b1
  have a2 := ((K0.out.below by_).below by2).cell 2
  have b2 := ((K1.out.below by_).below by2).cell 2
  go_wp2_with fail
  go_ret
  exact ⟨rfl, chainB (chainB B2.out by_) by2⟩
end Go.Proofs.YtamdgdkpcoeknaaGreatDoor
