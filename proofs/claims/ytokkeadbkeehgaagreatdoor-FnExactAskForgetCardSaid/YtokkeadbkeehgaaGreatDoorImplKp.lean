/-
  What the program's keepings answer: isHeld, keepingBy, keepingByNone and their functions, keepingOf.
-/
import Derived.Test.YtokkeadbkeehgaaGreatDoorRows
import Derived.Test.YtokkeadbkeehgaaGreatDoorBytesDigMathTreeMathSlASlBBxKOwnSTakesLTillTwo
import Derived.Test.YtokkeadbkeehgaaGreatDoorLgAtKShwKOneKFldGFldBlkRwBlkIntKLawILawOGLawImBlNotRulMathAppS
import Derived.Test.YtokkeadbkeehgaaGreatDoorTimeBPutMathPutNumJoinedPutTextFldMathFldRiseScanMath
import Derived.Test.YtokkeadbkeehgaaGreatDoorGetValGetTxtNumMathFldRdNumFromTmbMathLgMath
import Derived.Test.YtokkeadbkeehgaaGreatDoorRulBlkLawRlLawPoLawSLawM
import Derived.Test.YtokkeadbkeehgaaGreatDoorLawSwLfMathLaMathLfSumPolMathPolIdxRulIdxPolO
import Derived.Test.YtokkeadbkeehgaaGreatDoorSrchR
import Derived.Test.YtokkeadbkeehgaaGreatDoorLawLqLgAnsLgRtLtMathLawLtLawFXLawLa
import Derived.Test.YtokkeadbkeehgaaGreatDoorPolAnsKeepMAfMathLawAfStepAppOwnBTurn2
import Derived.Handy
import Derived.WalkSpells
import Derived.OwnWalk
import Derived.Laws.EntriesVeiled
import Derived.Deep.RegionWith
import Derived.Deep.Cut
import Derived.Deep.CutRange
namespace Go.Proofs.YtokkeadbkeehgaaGreatDoor
open Go.RowKit Go.Lib
set_option linter.unusedVariables false
set_option maxRecDepth 20000

set_option maxHeartbeats 1000000 in
theorem index_any (p2 : Option Addr) (c2 : Nat) (hs : List Int) (r : Int) (w : World) (hh : IntAt w p2 hs) (n2 : hs.length ≤ 1048576) (m2 : hs.length ≤ c2) :
    Calls Tryz.prog 147 #[.slice p2 hs.length c2, .int .i64 r] w fun e w' => e = .returned (.int .i64 (fstI (eqI r) hs)) ∧ Below w.heap.size w w' := by
  have HI : Hid (IntAt w p2 hs) := hh
  clear hh
  go_enter Tryz.func147, Tryz.ntmps147
  go_wp2_with fail
  go_loopw [8] (fun i wr => ∃ k : Nat, k ≤ hs.length ∧ i = .int .i64 k ∧ Hid (wr = w) ∧ Hid (∀ j (h : j < hs.length), j < k → eqI r hs[j] = false)) (fun i _ => hs.length - (Go.RowKit.intOf i).toNat)
  case atStart => exact ⟨0, Nat.zero_le _, rfl, rfl, fun j h hk => by omega⟩
  case round =>
    obtain ⟨k, hk, rfl, HW, HF⟩ := hrel
    have HW := HW.out
    subst HW
    by_cases hlt : k < hs.length
    · have i1 : (k : Int) < hs.length := by omega
      obtain ⟨b, off, rfl, hb, hc⟩ := HI.out k hlt
      cases hq : eqI r hs[k] with
      | true =>
        have HV : Hid (fstI (eqI r) hs = k) := fst_at hlt HF.out hq
        have hx : (hs[k] == r) = true := hq
        have hy : (r == hs[k]) = true := by rw [beq_iff_eq] at hx ⊢; exact hx.symm
        generalize hs[k] = x at *
        clear hq HF
        go_wp2_with fail
        go_ret
        exact ⟨by rw [HV.out]; rfl, Below.refl _ _⟩
      | false =>
        have HF2 : Hid (∀ j (h : j < hs.length), j < k + 1 → eqI r hs[j] = false) := fun j h hj => if he : j = k then by subst he; exact hq else HF.out j h (by omega)
        have hx : (hs[k] == r) = false := hq
        have hy : (r == hs[k]) = false := by rw [beq_eq_false_iff_ne] at hx ⊢; exact hx.symm
        generalize hs[k] = x at *
        clear hq HF
        go_wp2_with fail
        go_roundw
        case rel => exact ⟨k + 1, by omega, by go_num, trivial, HF2⟩
        case measure => simp [Go.RowKit.intOf]; omega
    · have HV : Hid (fstI (eqI r) hs = -1) := fst_none (fun j h => HF.out j h (by omega))
      obtain rfl : k = hs.length := by omega
      clear HF
      go_wp2_with fail
      go_ret
      exact ⟨by rw [HV.out]; rfl, Below.refl _ _⟩
theorem contains_any (p2 : Option Addr) (c2 : Nat) (hs : List Int) (r : Int) (w : World) (hh : IntAt w p2 hs) (n2 : hs.length ≤ 1048576) (m2 : hs.length ≤ c2) :
    Calls Tryz.prog 107 #[.slice p2 hs.length c2, .int .i64 r] w fun e w' => e = .returned (.bool (heldB hs r)) ∧ Below w.heap.size w w' := by
  have hI := index_any p2 c2 hs r w hh n2 m2
  have HV : Hid (heldB hs r = decide (0 ≤ fstI (eqI r) hs)) := rfl
  generalize heldB hs r = V at *
  generalize fstI (eqI r) hs = I at *
  go_enter Tryz.func107, Tryz.ntmps107
  go_wp2_with fail
  refine hI.mono ?_
  rintro e y ⟨rfl, b⟩
  go_wp2_with fail
  go_ret
  exact ⟨by rw [HV.out]; rfl, b⟩
theorem isHeld_any (p1 p2 : Option Addr) (n1 c1 c2 : Nat) (hs : List Int) (r : Int) (w : World) (hh : IntAt w p2 hs) (n2 : hs.length ≤ 1048576) (m2 : hs.length ≤ c2) :
    Calls Tryz.prog 75 #[.agg #[.slice p1 n1 c1, .slice p2 hs.length c2], .int .i64 r] w fun e w' => e = .returned (.bool (heldB hs r)) ∧ Below w.heap.size w w' := by
  obtain ⟨W1, hW1⟩ : ∃ W1, W1 = w.alloc (.cells #[.slice p1 n1 c1, .slice p2 hs.length c2] 40) := ⟨_, rfl⟩
  have HW1 : Hid (W1 = w.alloc (.cells #[.slice p1 n1 c1, .slice p2 hs.length c2] 40)) := hW1
  have B1 : Hid (Below w.heap.size w W1) := by rw [hW1]; exact (Below.refl _ _).alloc (Nat.le_refl _) _
  have K1 : Bxs W1 w.heap.size 40 #[.slice p1 n1 c1, .slice p2 hs.length c2] := by rw [hW1]; exact Bxs.new _ _ _
  have x1 : W1.cell? ⟨w.heap.size, 1, none⟩ = some (.slice p2 hs.length c2) := K1.cell 1
  have hC := contains_any p2 c2 hs r W1 (hh.below B1.out) n2 m2
  rw [hW1] at x1
  clear hW1 hh K1
  go_enter Tryz.func75, Tryz.ntmps75
  go_wp2_with fail
  rw [← HW1.out]
  refine hC.mono ?_
  rintro e y ⟨rfl, b⟩
  go_wp2_with fail
  go_ret
  exact ⟨rfl, chainB B1.out b⟩
theorem byNone_any (n : Int) (w : World) : Calls Tryz.prog 149 #[.int .i64 n] w fun e w' => e = .returned (.int .i64 0) ∧ Below w.heap.size w w' := by
  go_enter Tryz.func149, Tryz.ntmps149
  go_wp2_with fail
  go_ret
  exact ⟨rfl, Below.refl _ _⟩
theorem by_any (n : Int) (L E : Nat) (l e : Int) (w : World) (hL : Bxs w L 2 #[.int .i64 l]) (hE : Bxs w E 2 #[.int .i64 e]) :
    Calls Tryz.prog 150 #[.int .i64 n, .pointer (some ⟨L, 0, none⟩), .pointer (some ⟨E, 0, none⟩)] w fun e' w' => e' = .returned (.int .i64 (stI l e n)) ∧ Below w.heap.size w w' := by
  have x0 : w.cell? ⟨L, 0, none⟩ = some (.int .i64 l) := hL.cell 0
  have x1 : w.cell? ⟨E, 0, none⟩ = some (.int .i64 e) := hE.cell 0
  have HV : Hid (stI l e n = if n < l then 1 else if e ≤ n then 2 else 0) := rfl
  generalize stI l e n = V at *
  clear hL hE
  by_cases h1 : n < l
  · have d1 : decide (n < l) = true := decide_eq_true h1
    rw [if_pos h1] at HV
    clear h1
    go_enter Tryz.func150, Tryz.ntmps150
    go_wp2_with fail
    go_ret
    exact ⟨by rw [HV.out]; rfl, Below.refl _ _⟩
  · have d1 : decide (n < l) = false := decide_eq_false h1
    rw [if_neg h1] at HV
    clear h1
    by_cases h2 : e ≤ n
    · have d2 : decide (e ≤ n) = true := decide_eq_true h2
      rw [if_pos h2] at HV
      clear h2
      go_enter Tryz.func150, Tryz.ntmps150
      go_wp2_with fail
      go_ret
      exact ⟨by rw [HV.out]; rfl, Below.refl _ _⟩
    · have d2 : decide (e ≤ n) = false := decide_eq_false h2
      rw [if_neg h2] at HV
      clear h2
      go_enter Tryz.func150, Tryz.ntmps150
      go_wp2_with fail
      go_ret
      exact ⟨by rw [HV.out]; rfl, Below.refl _ _⟩
theorem keepNone_any (w : World) : Calls Tryz.prog 109 #[] w fun e w' => e = .returned (.agg #[.int .i64 0, .func (.func 149) #[] #[]]) ∧ Below w.heap.size w w' := by
  go_enter Tryz.func109, Tryz.ntmps109
  go_wp2_with fail
  refine bodyPost_ret (v := .agg #[.int .i64 0, .func (.func 149) #[] #[]]) (by simp [results, Tryz.results109, go_sem]) rfl ?_
  exact ⟨rfl, (Below.refl _ _).alloc (Nat.le_refl _) _⟩
theorem two_newI (W : World) (cs ds : Array Value) (T : TypeId) : Bxs ((W.alloc (.cells cs T)).alloc (.cells ds T)).drew W.heap.size T cs ∧ Bxs ((W.alloc (.cells cs T)).alloc (.cells ds T)).drew (W.heap.size + 1) T ds ∧ Below W.heap.size W ((W.alloc (.cells cs T)).alloc (.cells ds T)).drew := by
  have hs : (W.alloc (.cells cs T)).heap.size = W.heap.size + 1 := by simp
  refine ⟨(Bxs.new W T cs).alloc _, ?_, (((Below.refl _ _).alloc (Nat.le_refl _) _).alloc (by rw [hs]; omega) _).drew⟩
  have := Bxs.new (W.alloc (.cells cs T)) T ds
  rw [hs] at this
  exact this
theorem box_neK {w : World} {X Y : Nat} {T U : TypeId} {cs ds : Array Value} (h : Bxs w X T cs) (k : Bxs w Y U ds) (hne : T ≠ U) : X ≠ Y := fun e => by
  subst e
  unfold Bxs at h k
  rw [h] at k
  injection k with h1
  injection h1 with h2 h3
  exact hne h3
set_option maxHeartbeats 2000000 in
theorem keepBy_any (k f : ByteArray) (l m a : Int) (w : World) (hl : 0 ≤ l ∧ l ≤ 1000000) (hm : 0 ≤ m ∧ m ≤ 1000000) (ha : 0 ≤ a ∧ a ≤ 1000000) :
    Calls Tryz.prog 110 #[.agg #[.string k, .string f, .int .i64 l, .int .i64 m], .int .i64 a] w fun e w' => (∃ L E, e = .returned (.agg #[.int .i64 (a + m), .func (.func 150) #[] #[.pointer (some ⟨L, 0, none⟩), .pointer (some ⟨E, 0, none⟩)]]) ∧ Bxs w' L 2 #[.int .i64 (a + l)] ∧ Bxs w' E 2 #[.int .i64 (a + m)]) ∧ Below w.heap.size w w' := by
  have hw1 : IntKind.i64.wrap (a + l) = a + l := by rw [IntKind.wrap_i64]; omega
  have hw2 : IntKind.i64.wrap (a + m) = a + m := by rw [IntKind.wrap_i64]; omega
  obtain ⟨W2, hW2⟩ : ∃ W2, W2 = (w.alloc (.cells #[.string k, .string f, .int .i64 l, .int .i64 m] 101)).alloc (.cells #[.int .i64 0, .nilFunc] 117) := ⟨_, rfl⟩
  have HW2 : Hid (W2 = (w.alloc (.cells #[.string k, .string f, .int .i64 l, .int .i64 m] 101)).alloc (.cells #[.int .i64 0, .nilFunc] 117)) := hW2
  have hs1 : (w.alloc (.cells #[.string k, .string f, .int .i64 l, .int .i64 m] 101)).heap.size = w.heap.size + 1 := by simp
  have B2 : Hid (Below w.heap.size w W2) := by rw [hW2]; exact ((Below.refl _ _).alloc (Nat.le_refl _) _).alloc (by rw [hs1]; omega) _
  have K1 : Hid (Bxs W2 (w.heap.size + 1) 117 #[.int .i64 0, .nilFunc]) := by rw [hW2, ← hs1]; exact Bxs.new _ _ _
  have hzW : W2.heap.size = w.heap.size + 1 + 1 := by rw [hW2]; simp
  have HT1 := two_newI W2 #[.int .i64 (a + l)] #[.int .i64 (a + m)] 2
  have HT2 := two_newI W2 #[.int .i64 (a + m)] #[.int .i64 (a + l)] 2
  rw [hzW] at HT1 HT2
  have HT1 : Hid _ := HT1
  have HT2 : Hid _ := HT2
  have HzW : Hid (W2.heap.size = w.heap.size + 1 + 1) := hzW
  clear hW2 hs1 hzW
  go_enter Tryz.func110, Tryz.ntmps110
  go_upto_region 1 with fail
  go_cut [5, 6] from 7 to 14 (fun s5 s6 wx => ∃ E1 E2, s5 = .pointer (some ⟨E1, 0, none⟩) ∧ s6 = .pointer (some ⟨E2, 0, none⟩) ∧ Hid (Bxs wx E1 2 #[.int .i64 (a + l)]) ∧ Hid (Bxs wx E2 2 #[.int .i64 (a + m)]) ∧ Hid (Below (w.heap.size + 1 + 1) W2 wx))
  case first =>
    go_region
    all_goals
      go_wp2_with fail
      go_meet
      rw [← HW2.out]
      first
        | exact ⟨_, _, rfl, rfl, HT1.out.1, HT1.out.2.1, HT1.out.2.2⟩
        | exact ⟨_, _, rfl, rfl, HT2.out.2.1, HT2.out.1, HT2.out.2.2⟩
  case rest =>
    obtain ⟨E1, E2, rfl, rfl, K5, K6, BX⟩ := hcut
    obtain ⟨w2, rfl⟩ : ∃ w2 : World, w2 = wc := ⟨_, rfl⟩
    rw [← HzW.out] at BX
    have k1 := K1.out.below BX.out
    have r0 : w2.cell? ⟨w.heap.size + 1, 0, none⟩ = some (.int .i64 0) := k1.cell 0
    have r1 : w2.cell? ⟨w.heap.size + 1, 1, none⟩ = some .nilFunc := k1.cell 1
    have g0 := k1.fr 0
    have g1 := k1.fr 1
    have e2 : w2.cell? ⟨E2, 0, none⟩ = some (.int .i64 (a + m)) := K6.out.cell 0
    have n1 := box_neK k1 K5.out (by decide)
    have n2 := box_neK k1 K6.out (by decide)
    have HE : Hid (∀ u0 u1 : Value, Bxs ((w2.setCell ⟨w.heap.size + 1, 0, none⟩ u0).setCell ⟨w.heap.size + 1, 1, none⟩ u1) E1 2 #[.int .i64 (a + l)] ∧ Bxs ((w2.setCell ⟨w.heap.size + 1, 0, none⟩ u0).setCell ⟨w.heap.size + 1, 1, none⟩ u1) E2 2 #[.int .i64 (a + m)] ∧ Below w.heap.size w ((w2.setCell ⟨w.heap.size + 1, 0, none⟩ u0).setCell ⟨w.heap.size + 1, 1, none⟩ u1)) := fun u0 u1 => ⟨(K5.out.other _ _ n1 _).other _ _ n1 _, (K6.out.other _ _ n2 _).other _ _ n2 _, ((chainB B2.out BX.out).setCell (p := ⟨w.heap.size + 1, 0, none⟩) (Nat.le_succ _) u0).setCell (p := ⟨w.heap.size + 1, 1, none⟩) (Nat.le_succ _) u1⟩
    clear HT1 HT2 K1 K5 K6 BX k1 n1 n2 HzW B2
    go_wp2_with fail
    refine bodyPost_ret (v := .agg #[.int .i64 (a + m), .func (.func 150) #[] #[.pointer (some ⟨E1, 0, none⟩), .pointer (some ⟨E2, 0, none⟩)]]) (by simp [results, Tryz.results110, go_sem, r0, r1]) rfl ?_
    exact ⟨⟨E1, E2, rfl, (HE.out _ _).1, (HE.out _ _).2.1⟩, (HE.out _ _).2.2⟩
theorem ru_there {us : List Rul} {k f : ByteArray} (ho : okL ruB ruLt us = true) : (thereB (ltR k f) (eqR k f) us = true → ∃ h : twI (ltR k f) us < us.length, ruI us k f = (twI (ltR k f) us : Int) ∧ ruO us k f = us[twI (ltR k f) us]) ∧ (thereB (ltR k f) (eqR k f) us = false → ruI us k f = -1) := by
  have h0 := fst_there (condR ho k f)
  refine ⟨fun ht => ?_, fun ht => ?_⟩
  · have hi : ruI us k f = (twI (ltR k f) us : Int) := by unfold ruI; rw [h0, if_pos ht]
    have hl : twI (ltR k f) us < us.length := by
      unfold thereB at ht
      split at ht
      · assumption
      · cases ht
    refine ⟨hl, hi, ?_⟩
    unfold ruO
    rw [hi, Int.toNat_natCast, List.getD_eq_getElem?_getD, List.getElem?_eq_getElem hl]; rfl
  · unfold ruI; rw [h0, if_neg (by rw [ht]; simp)]
set_option maxHeartbeats 4000000 in
/-- keepingOf, where there is no rule, and where there is one. -/
theorem keepOf_any (p1 p2 : Option Addr) (c1 n2 c2 : Nat) (us : List Rul) (k : ByteArray) (a : Int) (fq : Option Addr) (fc : Nat) (fs : List Fld) (F : Nat) (hF : F < fs.length) (w : World) (hr : RulAt w p1 us) (hf : FldAt w fq fs) (hcu : us.length ≤ c1) (hu : us.length ≤ 1000) (hfc : fs.length ≤ fc) (ho : okL ruB ruLt us = true) (hlm : ∀ r ∈ us, (0 ≤ r.l ∧ r.l ≤ 1000000) ∧ 0 ≤ r.m ∧ r.m ≤ 1000000) (ha : 0 ≤ a ∧ a ≤ 1000000) :
    Calls Tryz.prog 76 #[.agg #[.slice p1 us.length c1, .slice p2 n2 c2], .agg #[.string k, .int .i64 a, .slice fq fs.length fc], .int .i64 (F : Int)] w fun e w' =>
      ((ruI us k fs[F].n = -1 ∧ e = .returned (.agg #[.int .i64 0, .func (.func 149) #[] #[]])) ∨ (0 ≤ ruI us k fs[F].n ∧ ∃ L E, e = .returned (.agg #[.int .i64 (a + (ruO us k fs[F].n).m), .func (.func 150) #[] #[.pointer (some ⟨L, 0, none⟩), .pointer (some ⟨E, 0, none⟩)]]) ∧ Bxs w' L 2 #[.int .i64 (a + (ruO us k fs[F].n).l)] ∧ Bxs w' E 2 #[.int .i64 (a + (ruO us k fs[F].n).m)])) ∧ Below w.heap.size w w' := by
  obtain ⟨W3, hW3⟩ : ∃ W3, W3 = ((w.alloc (.cells #[.slice p1 us.length c1, .slice p2 n2 c2] 40)).alloc (.cells #[.string k, .int .i64 a, .slice fq fs.length fc] 96)).alloc (.cells #[.int .i64 0, .nilFunc] 117) := ⟨_, rfl⟩
  have HW3 : Hid (W3 = ((w.alloc (.cells #[.slice p1 us.length c1, .slice p2 n2 c2] 40)).alloc (.cells #[.string k, .int .i64 a, .slice fq fs.length fc] 96)).alloc (.cells #[.int .i64 0, .nilFunc] 117)) := hW3
  have hs1 : (w.alloc (.cells #[.slice p1 us.length c1, .slice p2 n2 c2] 40)).heap.size = w.heap.size + 1 := by simp
  have hs2 : ((w.alloc (.cells #[.slice p1 us.length c1, .slice p2 n2 c2] 40)).alloc (.cells #[.string k, .int .i64 a, .slice fq fs.length fc] 96)).heap.size = w.heap.size + 1 + 1 := by simp
  have B3 : Hid (Below w.heap.size w W3) := by rw [hW3]; exact (((Below.refl _ _).alloc (Nat.le_refl _) _).alloc (by rw [hs1]; omega) _).alloc (by rw [hs2]; omega) _
  have K0 : Hid (Bxs W3 w.heap.size 40 #[.slice p1 us.length c1, .slice p2 n2 c2]) := by rw [hW3]; exact ((Bxs.new _ _ _).alloc _).alloc _
  have K1 : Hid (Bxs W3 (w.heap.size + 1) 96 #[.string k, .int .i64 a, .slice fq fs.length fc]) := by rw [hW3, ← hs1]; exact (Bxs.new _ _ _).alloc _
  have K2 : Hid (Bxs W3 (w.heap.size + 1 + 1) 117 #[.int .i64 0, .nilFunc]) := by rw [hW3, ← hs2]; exact Bxs.new _ _ _
  obtain ⟨fb, fo, rfl, hfb, f0, -⟩ := hf F hF
  have HF0 : Hid (∀ x, Below W3.heap.size W3 x → x.cell? ⟨fb, fo + F * 5, none⟩ = some (.string fs[F].n)) := fun x hb => ((chainB B3.out hb).cell (p := ⟨fb, fo + F * 5, none⟩) hfb).trans f0
  have HRu : Hid (∀ x, Below W3.heap.size W3 x → RulAt x p1 us) := fun x hb => hr.below (chainB B3.out hb)
  have HX : Hid (∀ x, Below W3.heap.size W3 x → x.cell? ⟨w.heap.size, 0, none⟩ = some (.slice p1 us.length c1) ∧ x.cell? ⟨w.heap.size + 1, 0, none⟩ = some (.string k) ∧ x.cell? ⟨w.heap.size + 1, 1, none⟩ = some (.int .i64 a) ∧ x.cell? ⟨w.heap.size + 1, 2, none⟩ = some (.slice (some ⟨fb, fo, none⟩) fs.length fc) ∧ x.cell? ⟨w.heap.size + 1 + 1, 0, none⟩ = some (.int .i64 0) ∧ x.cell? ⟨w.heap.size + 1 + 1, 1, none⟩ = some .nilFunc ∧ x.frozen? ⟨w.heap.size + 1 + 1, 0, none⟩ = false ∧ x.frozen? ⟨w.heap.size + 1 + 1, 1, none⟩ = false) := fun x hb => ⟨(K0.out.below hb).cell 0, (K1.out.below hb).cell 0, (K1.out.below hb).cell 1, (K1.out.below hb).cell 2, (K2.out.below hb).cell 0, (K2.out.below hb).cell 1, (K2.out.below hb).fr 0, (K2.out.below hb).fr 1⟩
  have iF : (F : Int) < fs.length := by omega
  obtain ⟨t1, t2⟩ := ru_there (k := k) (f := fs[F].n) ho
  have QS : Hid (∀ x, Below W3.heap.size W3 x → Calls Tryz.prog 108 #[.slice p1 us.length c1, .string k, .string fs[F].n] x fun e w' => e = .returned (.tuple #[.int .i64 (twI (ltR k fs[F].n) us : Nat), .bool (thereB (ltR k fs[F].n) (eqR k fs[F].n) us)]) ∧ Below x.heap.size x w') := fun x hb => ruleAt_any p1 c1 us k fs[F].n x (HRu.out x hb) hu ho
  have HLM : Hid (∀ r ∈ us, (0 ≤ r.l ∧ r.l ≤ 1000000) ∧ 0 ≤ r.m ∧ r.m ≤ 1000000) := hlm
  have HT1 : Hid (thereB (ltR k fs[F].n) (eqR k fs[F].n) us = true → ∃ h : twI (ltR k fs[F].n) us < us.length, ruI us k fs[F].n = (twI (ltR k fs[F].n) us : Int) ∧ ruO us k fs[F].n = us[twI (ltR k fs[F].n) us]) := t1
  have HT2 : Hid (thereB (ltR k fs[F].n) (eqR k fs[F].n) us = false → ruI us k fs[F].n = -1) := t2
  have K2' : Hid (Bxs W3 (w.heap.size + 1 + 1) 117 #[.int .i64 0, .nilFunc]) := K2
  clear hW3 hs1 hs2 f0 hfb hr hf K0 K1 K2 t1 t2 hlm
  generalize hN : fs[F].n = N at *
  clear hN
  generalize twI (ltR k N) us = TW at *
  generalize thereB (ltR k N) (eqR k N) us = TH at *
  go_enter Tryz.func76, Tryz.ntmps76
  go_upto_region 1 with fail
  rw [← HW3.out]
  have BR : Hid (Below W3.heap.size W3 W3.drew) := (Below.refl _ _).drew
  obtain ⟨x0, x1, x2, x3, x4, x5, x6, x7⟩ := HX.out W3 (Below.refl _ _)
  have q0 := HF0.out W3 (Below.refl _ _)
  go_cut [7, 8] from 9 to 22 (fun s7 s8 wx => s7 = .int .i64 (TW : Int) ∧ s8 = .bool TH ∧ Hid (Below W3.heap.size W3 wx))
  case first =>
    go_region_with (first
      | (go_at_call 108; refine (QS.out _ BR.out).mono ?_; rintro e y1 ⟨rfl, z1⟩; have z1 := chainB BR.out z1))
    all_goals
      go_wp2_with fail
      go_meet
      exact ⟨rfl, rfl, z1⟩
  case rest =>
    clear x0 x1 x2 x3 x4 x5 x6 x7 q0 BR QS
    obtain ⟨rfl, rfl, BX⟩ := hcut
    obtain ⟨w2, rfl⟩ : ∃ w2 : World, w2 = wc := ⟨_, rfl⟩
    cases TH
    · have HI1 : Hid (ruI us k N = -1) := HT2.out rfl
      have hK := keepNone_any w2
      clear HT1 HT2
      go_wp2_with fail
      refine hK.mono ?_
      rintro e y ⟨rfl, z⟩
      have by2 := chainB BX.out z
      obtain ⟨-, -, -, -, r0, r1, g0, g1⟩ := HX.out y by2
      have HE : Hid (∀ u0 u1 : Value, Below w.heap.size w ((y.setCell ⟨w.heap.size + 1 + 1, 0, none⟩ u0).setCell ⟨w.heap.size + 1 + 1, 1, none⟩ u1)) := fun u0 u1 => ((chainB B3.out by2).setCell (p := ⟨w.heap.size + 1 + 1, 0, none⟩) (by show w.heap.size ≤ w.heap.size + 1 + 1; omega) u0).setCell (p := ⟨w.heap.size + 1 + 1, 1, none⟩) (by show w.heap.size ≤ w.heap.size + 1 + 1; omega) u1
      clear hK by2 z HX BX HRu HF0 K2'
      go_wp2_with fail
      refine bodyPost_ret (v := .agg #[.int .i64 0, .func (.func 149) #[] #[]]) (by simp [results, Tryz.results76, go_sem, r0, r1]) rfl ?_
      exact ⟨.inl ⟨HI1.out, rfl⟩, HE.out _ _⟩
    · obtain ⟨hTW, hi, hO⟩ := HT1.out rfl
      obtain ⟨rb, ro, rfl, hrb, c0, c1', c2', c3⟩ := (HRu.out w2 BX.out) TW hTW
      have HI1 : Hid (ruI us k N = (TW : Int)) := hi
      have hlm := HLM.out us[TW] (List.getElem_mem hTW)
      rw [← hO] at c0 c1' c2' c3 hlm
      obtain ⟨R, hR⟩ : ∃ R, R = ruO us k N := ⟨_, rfl⟩
      rw [← hR] at c0 c1' c2' c3 hlm
      have HR : Hid (R = ruO us k N) := hR
      clear hR
      have QK : Hid (∀ x, Calls Tryz.prog 110 #[.agg #[.string R.k, .string R.f, .int .i64 R.l, .int .i64 R.m], .int .i64 a] x fun e w' => (∃ L E, e = .returned (.agg #[.int .i64 (a + R.m), .func (.func 150) #[] #[.pointer (some ⟨L, 0, none⟩), .pointer (some ⟨E, 0, none⟩)]]) ∧ Bxs w' L 2 #[.int .i64 (a + R.l)] ∧ Bxs w' E 2 #[.int .i64 (a + R.m)]) ∧ Below x.heap.size x w') := fun x => keepBy_any R.k R.f R.l R.m a x hlm.1 hlm.2 ha
      have iT : (TW : Int) < us.length := by omega
      obtain ⟨x0, x1, x2, x3, x4, x5, x6, x7⟩ := HX.out w2 BX.out
      clear HT1 HT2 hi hO hlm hrb
      go_upto_region 4 with fail
      go_region_with (first
        | (go_at_call 110; refine (QK.out _).mono ?_; rintro e y ⟨⟨L, E, rfl, kL, kE⟩, z⟩; have by2 := chainB BX.out (chainB ((Below.refl _ _).drew) z); obtain ⟨-, -, -, -, r0, r1, g0, g1⟩ := HX.out y by2))
      all_goals
        have k2 := K2'.out.below by2
        have n1 := box_neK k2 kL (by decide)
        have n2 := box_neK k2 kE (by decide)
        have HE : Hid (∀ u0 u1 : Value, (Bxs ((y.setCell ⟨w.heap.size + 1 + 1, 0, none⟩ u0).setCell ⟨w.heap.size + 1 + 1, 1, none⟩ u1) L 2 #[.int .i64 (a + R.l)] ∧ Bxs ((y.setCell ⟨w.heap.size + 1 + 1, 0, none⟩ u0).setCell ⟨w.heap.size + 1 + 1, 1, none⟩ u1) E 2 #[.int .i64 (a + R.m)]) ∧ Below w.heap.size w ((y.setCell ⟨w.heap.size + 1 + 1, 0, none⟩ u0).setCell ⟨w.heap.size + 1 + 1, 1, none⟩ u1)) := fun u0 u1 => ⟨⟨(kL.other _ _ n1 _).other _ _ n1 _, (kE.other _ _ n2 _).other _ _ n2 _⟩, ((chainB B3.out by2).setCell (p := ⟨w.heap.size + 1 + 1, 0, none⟩) (by show w.heap.size ≤ w.heap.size + 1 + 1; omega) u0).setCell (p := ⟨w.heap.size + 1 + 1, 1, none⟩) (by show w.heap.size ≤ w.heap.size + 1 + 1; omega) u1⟩
        clear k2 n1 n2 kL kE by2 z HX BX HRu HF0 K2' QK
        go_wp2_with fail
        refine bodyPost_ret (v := .agg #[.int .i64 (a + R.m), .func (.func 150) #[] #[.pointer (some ⟨L, 0, none⟩), .pointer (some ⟨E, 0, none⟩)]]) (by simp [results, Tryz.results76, go_sem, r0, r1]) rfl ?_
        rw [← HR.out]
        exact ⟨.inr ⟨by rw [HI1.out]; omega, L, E, rfl, (HE.out _ _).1.1, (HE.out _ _).1.2⟩, (HE.out _ _).2⟩
end Go.Proofs.YtokkeadbkeehgaaGreatDoor
