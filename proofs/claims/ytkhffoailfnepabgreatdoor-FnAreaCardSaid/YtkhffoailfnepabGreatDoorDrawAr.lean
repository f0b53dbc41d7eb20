/-
  What l06Disk draws: a disk of its own memory, of at most 64 sectors and 300 pendings, none greater than 100 bytes.
-/
import Derived.Test.YtkhffoailfnepabGreatDoorRows
import Derived.Test.YtkhffoailfnepabGreatDoorBytesDigMath
import Derived.Test.YtkhffoailfnepabGreatDoorSlASlBOwnSOwnBSrc
import Derived.Test.YtkhffoailfnepabGreatDoorDskRAppSStepAppDskA
import Derived.Test.YtkhffoailfnepabGreatDoorDrawsDrawKitDskMath
import Derived.Test.YtkhffoailfnepabGreatDoorDrawKeepDrawDisksDrawArFSpoilT
import Derived.Test.YtkhffoailfnepabGreatDoorDskSDskCDskT
import Derived.Test.YtkhffoailfnepabGreatDoorDskW
import Derived.Test.YtkhffoailfnepabGreatDoorDskFDskK
import Derived.Test.YtkhffoailfnepabGreatDoorDskLawLawSLawSGLawP
import Derived.Test.YtkhffoailfnepabGreatDoorLawDLwDskLwArLawIPutMathPutNum
import Derived.Test.YtkhffoailfnepabGreatDoorImplCrashSomeLawDGDrawDsk
import Derived.Test.YtkhffoailfnepabGreatDoorFourSealAreaAAreaF
import Derived.Test.YtkhffoailfnepabGreatDoorAreaFm
import Derived.Test.YtkhffoailfnepabGreatDoorGetTextITextMathAreaMath
import Derived.Test.YtkhffoailfnepabGreatDoorStpMathAreaPutMUnsealSSpecGN
import Derived.Test.YtkhffoailfnepabGreatDoorAreaPt
import Derived.Test.YtkhffoailfnepabGreatDoorAreaLaw
import Derived.Test.YtkhffoailfnepabGreatDoorPuLeImplDRImplAACopied
import Derived.Test.YtkhffoailfnepabGreatDoorDrawDskF
import Derived.Test.YtkhffoailfnepabGreatDoorDrawDskG
import Derived.Handy
import Derived.WalkSpells
import Derived.OwnWalk
import Derived.Laws.OwnMore
import Derived.Deep.RegionWith
import Derived.Deep.RegionLaw
import Derived.Deep.RegionHeld3
import Derived.Deep.Cut
import Derived.Deep.CutRange
namespace Go.Proofs.YtkhffoailfnepabGreatDoor
open Go.RowKit Go.Lib
set_option linter.unusedVariables false
set_option maxRecDepth 20000

/-- A fresh disk that was formatted. -/
theorem fm_new (n : Nat) (h1 : 3 ≤ n) (h2 : n ≤ 64) : fmC (List.replicate n ByteArray.empty) [] = 0 ∧ dskB (fmS (List.replicate n ByteArray.empty) []) [] = true := by
  have hD : dskB (List.replicate n ByteArray.empty) [] = true := dskB_of (by simp; omega) (by simp) (fun x hx => by rw [List.eq_of_mem_replicate hx]; simp) (fun x hx => by cases hx)
  have hh := headB_small 0 0 0
  have hw : wrC (List.replicate n ByteArray.empty) [] 0 (headB 0 0 0) = 0 := by
    unfold wrC inB
    rw [if_neg (by omega), if_pos ⟨hD, by omega⟩, if_pos (decide_eq_true (by simp; omega)), if_neg (by simp)]
  have hc : fmC (List.replicate n ByteArray.empty) [] = 0 := by
    unfold fmC
    rw [if_pos hD, if_neg (by simp; omega)]
    exact hw
  refine ⟨hc, ?_⟩
  rw [show fmS (List.replicate n ByteArray.empty) [] = _ from if_pos hc]
  exact flush_right (write_right hw)
theorem field_disk (q1 : Option Addr) (n1 d1 : Nat) (x : World) : (Instr.field 31 (.agg #[.slice q1 n1 d1, .slice none 0 0, .string ByteArray.empty, .int .i64 0, .int .i64 0]) 0).run Tryz.prog x = .ok (.agg #[.slice q1 n1 d1, .slice none 0 0]) x := by first | rfl | kernel_rfl
set_option maxHeartbeats 16000000 in
theorem l06Disk_drawn (B p : Nat) (a : Option Addr) (len cap : Nat) (w : World) (hs : Src 81 B p a len cap w) :
    Calls Tryz.prog 21 #[.pointer (some ⟨p, 0, none⟩)] w (DrawnD B p a len cap w) := by
  have hp := hs.lt
  obtain ⟨W1, hW1⟩ : ∃ W1, W1 = w.alloc (.cells #[.slice none 0 0, .slice none 0 0] 26) := ⟨_, rfl⟩
  have HW1 : Hid (W1 = w.alloc (.cells #[.slice none 0 0, .slice none 0 0] 26)) := hW1
  have B1 : Below w.heap.size w W1 := by rw [hW1]; exact (Below.refl _ _).alloc (Nat.le_refl _) _
  have R1 : Bxs W1 w.heap.size 26 #[.slice none 0 0, .slice none 0 0] := by rw [hW1]; exact Bxs.new _ _ _
  have z1 : W1.heap.size = w.heap.size + 1 := by rw [hW1]; simp
  have HS1 : Hid (Src 81 B p a len cap W1) := hs.below B1
  have HRes : Hid (∀ x, W1.grownBy x (some p) → x.cell? ⟨w.heap.size, 0, none⟩ = some (.slice none 0 0) ∧ x.cell? ⟨w.heap.size, 1, none⟩ = some (.slice none 0 0) ∧ x.frozen? ⟨w.heap.size, 0, none⟩ = false ∧ x.frozen? ⟨w.heap.size, 1, none⟩ = false) := fun x hg => by
    have k : Bxs x w.heap.size 26 #[.slice none 0 0, .slice none 0 0] := (hg.block w.heap.size R1.lt (fun e => by cases e; omega)).trans R1
    exact ⟨k.cell 0, k.cell 1, k.fr 0, k.fr 1⟩
  have HEnd : Hid (∀ (x : World) (v1 v2 : Value) (ss : List ByteArray) (ps : List Pnd) (y0 y1 : Value), Src 81 B p a len cap x → W1.grownBy x (some p) → DskO W1.heap.size ss ps v1 v2 x → ss.length ≤ 64 → ps.length ≤ 300 → (∀ x ∈ ss, x.size ≤ 100) → (∀ q ∈ ps, q.2.size ≤ 100) →
      DrawnD B p a len cap w (.returned (.agg #[v1, v2])) ((x.setCell ⟨w.heap.size, 0, none⟩ y0).setCell ⟨w.heap.size, 1, none⟩ y1)) := by
    intro x v1 v2 ss ps y0 y1 hsr hgr hdk l1 l2 l3 l4
    have hg : x.grownBy ((x.setCell ⟨w.heap.size, 0, none⟩ y0).setCell ⟨w.heap.size, 1, none⟩ y1) (some w.heap.size) := by
      refine ⟨rfl, rfl, rfl, by simp [World.setCell], fun q hq hne => ?_⟩
      have hq' : w.heap.size ≠ q := fun e => hne (by rw [e])
      simp [World.setCell, Array.getElem?_modify, hq']
    refine ⟨⟨v1, v2, ss, ps, rfl, ?_, l1, l2, l3, l4⟩, hsr.other hg (fun j hj => by cases hj; exact hp), touch_own (touch_trans (grownBy_none_of_below B1 _) hgr) hg (fun j hj => by cases hj; exact Nat.le_refl _)⟩
    exact (hdk.touch hg (by omega)).mono (by omega)
  have hpW : p < W1.heap.size := by omega
  clear hW1 hs R1
  go_enter Tryz.func21, Tryz.ntmps21
  go_wp2_with fail
  rw [← HW1.out]
  refine (n_any B p a len cap 12 W1 HS1.out (by omega)).mono ?_
  rintro e w2 ⟨⟨r, rfl, hr0, hr1, -⟩, hs2, G2⟩
  have hr : r < 12 := hr1 (by omega)
  obtain ⟨R, rfl⟩ := Int.eq_ofNat_of_zero_le hr0
  have hz2 := G2.size
  have hw3 : IntKind.i64.wrap (3 + (R : Int)) = 3 + (R : Int) := by rw [IntKind.wrap_i64]; omega
  clear hr1 hr0 HS1
  go_wp2_with fail
  refine (specDiskNew_any (3 + (R : Int)) w2).mono ?_
  rintro e w3 ⟨v1, rfl, o3, b3⟩
  have hnw : newS (3 + (R : Int)) = List.replicate (3 + R) ByteArray.empty := (if_pos (by omega)).trans (by rw [show (3 + (R : Int)).toNat = 3 + R by omega])
  obtain ⟨hfc, hfr⟩ := fm_new (3 + R) (by omega) (by omega)
  have hl64 : (newS (3 + (R : Int))).length ≤ 64 := by rw [hnw]; simp; omega
  rw [← hnw] at hfc hfr
  obtain ⟨S0, hS0⟩ : ∃ S0, S0 = newS (3 + (R : Int)) := ⟨_, rfl⟩
  rw [← hS0] at o3 hfc hfr hl64
  clear hS0 hnw
  obtain ⟨q1, d1, rfl, m1, tx⟩ := ownS_form o3
  have hfm := specAreaFormat_any q1 d1 S0 none 0 [] w3 tx (PndAt.nil _ _) (by omega) (by simp) m1 (by simp)
  rw [hfc] at hfm
  have hz3 := b3.size
  have HS3 : Hid (Src 81 B p a len cap w3) := hs2.below b3
  have HG3 : Hid (W1.grownBy w3 (some p)) := touch_below G2 b3
  clear hs2 G2 o3 b3 tx
  go_wp2_with fail
  refine hfm.mono ?_
  rintro e w4 ⟨vf, rfl, of4, b4⟩
  obtain ⟨S1, hS1⟩ : ∃ S1, S1 = fmS S0 [] := ⟨_, rfl⟩
  rw [← hS1] at of4 hfr
  obtain ⟨qf, df, rfl, -, -⟩ := ownS_form of4.own1
  have hfd := field_disk qf S1.length df
  have hz4 := b4.size
  have D4 : Hid (DrS W1 B p a len cap w4.heap.size (.slice qf S1.length df) (.slice none 0 0) S1 [] (w4.alloc (.cells #[.slice qf S1.length df, .slice none 0 0] 26))) := DrS.boxed (HS3.out.below b4) (touch_below HG3.out b4) hpW (of4.mono (by omega))
  have HD0 : Hid (dskB S1 [] = true) := hfr
  clear HS3 HG3 of4 b4 hfr hfc hfm hS1
  go_wp2_with fail
  refine (n_any B p a len cap 5 _ D4.out.src (by omega)).mono ?_
  rintro e w5 ⟨⟨k, rfl, hk0, hk1, -⟩, hs5, hg5⟩
  have hk : k < 5 := hk1 (by omega)
  have D5 : Hid (DrS W1 B p a len cap w4.heap.size (.slice qf S1.length df) (.slice none 0 0) S1 [] w5) := D4.out.step hs5 hg5
  obtain ⟨K, rfl⟩ := Int.eq_ofNat_of_zero_le hk0
  clear D4 hs5 hg5 hk1 hk0 hfd
  obtain ⟨X, hX⟩ : ∃ X, X = w4.heap.size := ⟨_, rfl⟩
  rw [← hX] at D5 ⊢
  clear hX hz3 hz2 hz4
  go_wp2_with fail
  go_loopw [4] (fun i wr => ∃ (k : Nat) (v1 v2 : Value) (ss : List ByteArray) (ps : List Pnd), k ≤ 4 ∧ i = .int .i64 k ∧ Hid (DrS W1 B p a len cap X v1 v2 ss ps wr) ∧ Hid (dskB ss ps = true)) (fun i _ => (intOf i).toNat)
  case atStart => exact ⟨K, _, _, S1, [], by omega, rfl, D5, HD0⟩
  case round =>
    clear D5 HD0
    obtain ⟨k, v1, v2, ss, ps, hk8, rfl, HD, HO⟩ := hrel
    obtain ⟨f1, e1, f2, e2, rfl, rfl, m1, m2⟩ := HD.out.dsk.form
    obtain ⟨⟨l1, l2⟩, l3, l4, l5⟩ := dskB_parts HO.out
    by_cases hlt : 0 < (k : Int)
    · have L4 : Hid (∀ x ∈ ss, x.size ≤ 64) := l4
      have L5 : Hid (∀ q ∈ ps, pndOk ss.length q) := l5
      clear l4 l5
      have QN : Hid (∀ (m : Int) Yo x, 1 < m → m ≤ 90 → DrA W1 B p a len cap X (.slice f1 ss.length e1) (.slice f2 ps.length e2) ss ps Yo x → Calls Tryz.prog 23 #[.pointer (some ⟨p, 0, none⟩), .int .i64 m] x fun e x1 => ∃ r : Int, e = .returned (.int .i64 r) ∧ 0 ≤ r ∧ r < m ∧ DrA W1 B p a len cap X (.slice f1 ss.length e1) (.slice f2 ps.length e2) ss ps Yo x1) := fun m Yo x h1 h9 hT => (n_any B p a len cap m x hT.dr.src (by omega)).mono (by
        rintro e x1 ⟨⟨r, rfl, r0, r1, _⟩, s1, g1⟩
        exact ⟨r, rfl, r0, r1 h1, hT.step s1 g1⟩)
      have QN9 : Hid (∀ Yo x, DrA W1 B p a len cap X (.slice f1 ss.length e1) (.slice f2 ps.length e2) ss ps Yo x → Calls Tryz.prog 23 #[.pointer (some ⟨p, 0, none⟩), .int .i64 90] x fun e x1 => ∃ r : Int, e = .returned (.int .i64 r) ∧ 0 ≤ r ∧ r < 90 ∧ DrA W1 B p a len cap X (.slice f1 ss.length e1) (.slice f2 ps.length e2) ss ps Yo x1) := fun Yo x h => QN.out 90 Yo x (by omega) (by omega) h
      have QB : Hid (∀ (r : Int) Yo x, r < 90 → DrA W1 B p a len cap X (.slice f1 ss.length e1) (.slice f2 ps.length e2) ss ps Yo x → Calls Tryz.prog 22 #[.pointer (some ⟨p, 0, none⟩), .int .i64 r] x fun e x1 => ∃ t : ByteArray, e = .returned (.string t) ∧ t.size ≤ 89 ∧ DrA W1 B p a len cap X (.slice f1 ss.length e1) (.slice f2 ps.length e2) ss ps Yo x1) := fun r Yo x hr hT => (bytes_any B p a len cap r x hT.dr.src (by omega)).mono (by
        rintro e x1 ⟨⟨t, rfl, ht⟩, s1, g1⟩
        exact ⟨t, rfl, by omega, hT.step s1 g1⟩)
      have QP : Hid (∀ (t : ByteArray) (r : Int) Yo x, t.size ≤ 89 → DrA W1 B p a len cap X (.slice f1 ss.length e1) (.slice f2 ps.length e2) ss ps Yo x → Calls Tryz.prog 13 #[.agg #[.slice f1 ss.length e1, .slice f2 ps.length e2], .string t, .int .i64 r] x fun e x1 => ∃ (o1 : Option Addr) (n1 d1 : Nat) (o2 : Option Addr) (n2 d2 : Nat) (c : Int), e = .returned (.agg #[.slice o1 n1 d1, .slice o2 n2 d2, .string ByteArray.empty, .int .i64 0, .int .i64 c]) ∧ DrA W1 B p a len cap X (.slice f1 ss.length e1) (.slice f2 ps.length e2) ss ps Yo x1 ∧ OutP W1 X Yo (.slice o1 n1 d1) (.slice o2 n2 d2) c x1) := fun t r Yo x ht hT => by
        have hrd := hT.dr.dsk.read
        refine (specAreaPut_any f1 e1 ss f2 e2 ps t r x hrd.1 hrd.2 (by omega) (by omega) m1 m2 (by omega)).mono ?_
        rintro e x1 ⟨u1, u2, rfl, ho, hb⟩
        obtain ⟨o1, d1, rfl, -, -⟩ := ownS_form ho.own1
        obtain ⟨o2, d2, rfl, -, -⟩ := ownP_form ho.own2
        have hz := hT.dr.gr.size
        have hlX := hT.dr.box.lt
        exact ⟨o1, _, d1, o2, _, d2, _, rfl, hT.below hb, ⟨_, _, ho.mono hz, fun hc => pu_right hc⟩, own_off ho.own1 (.inl hlX), own_off ho.own2 (.inl hlX), fun Y hY => own_off ho.own1 (.inl (hT.y Y hY).1.lt), fun Y hY => own_off ho.own2 (.inl (hT.y Y hY).1.lt)⟩
      have T0 : Hid (DrA W1 B p a len cap X (.slice f1 ss.length e1) (.slice f2 ps.length e2) ss ps none wr) := DrA.of HD.out
      have QC : Hid (∀ Yo x, DrA W1 B p a len cap X (.slice f1 ss.length e1) (.slice f2 ps.length e2) ss ps Yo x → x.cell? ⟨X, 0, none⟩ = some (.slice f1 ss.length e1) ∧ x.cell? ⟨X, 1, none⟩ = some (.slice f2 ps.length e2)) := fun Yo x h => h.cells
      have d0 : decide (0 < k) = true := decide_eq_true (by omega)
      go_upto_region 5 with fail
      go_cut [5] from 19 to 24 (fun s5 wx => ∃ Y, s5 = .pointer (some ⟨Y, 0, none⟩) ∧ Hid (DrS W1 B p a len cap X (.slice f1 ss.length e1) (.slice f2 ps.length e2) ss ps wx) ∧ Hid (OuA W1 X Y wx) ∧ Hid (some Y ≠ (Value.slice f1 ss.length e1).ownBlock ∧ some Y ≠ (Value.slice f2 ps.length e2).ownBlock))
      case first =>
        go_region_held3 (fun w' => w'.cell? ⟨X, 0, none⟩ = some (.slice f1 ss.length e1) ∧ w'.cell? ⟨X, 1, none⟩ = some (.slice f2 ps.length e2)) ((first | with_reducible exact tW.cells5 _ _ _ _ _ | (refine QC.out ?_ _ ?hT; case hT => (with_reducible repeat (first | assumption | exact T0.out | refine DrA.drew ?_ | refine DrA.al ?_ | refine DrA.alA ?_ _))))) (first
          | (go_at_call 23; with_reducible refine (QN9.out ?_ _ ?hT).mono ?_; (case hT => (with_reducible repeat (first | assumption | exact T0.out | refine DrA.drew ?_ | refine DrA.al ?_ | refine DrA.alA ?_ _))); rintro e x9 ⟨r9, rfl, r90, r91, t9⟩)
          | (go_at_call 22; with_reducible refine (QB.out _ ?_ _ r91 ?hT).mono ?_; (case hT => (with_reducible repeat (first | assumption | exact T0.out | refine DrA.drew ?_ | refine DrA.al ?_ | refine DrA.alA ?_ _))); rintro e xb ⟨tb, rfl, hb4, tB⟩)
          | (go_at_call 13; with_reducible refine (QP.out _ _ ?_ _ hb4 ?hT).mono ?_; (case hT => (with_reducible repeat (first | assumption | exact T0.out | refine DrA.drew ?_ | refine DrA.al ?_ | refine DrA.alA ?_ _))); rintro e xw ⟨o1, n1, d1, o2, n2, d2, cw, rfl, tW, oW⟩; first | (obtain ⟨y0, y1, y2, y3, y4, y5, y6, y7, y8, y9⟩ := tW.outs) | skip))
        all_goals
          go_wp2_with fail
          go_meet
          first
            | exact ⟨_, rfl, tW.dr.al _, OuA.new tW oW, tW.nN⟩
            | exact ⟨_, rfl, tW.set5 _ _ _ _ _, OuA.ofT tW oW, tW.nY⟩
      case rest =>
        obtain ⟨Y, rfl, HDc, HOc, HNY⟩ := hcut
        clear QC T0 QN9
        go_wp2_with fail
        refine (one_any B p a len cap 4 _ HDc.out.src (by omega)).mono ?_
        rintro e w6 ⟨⟨bo, rfl⟩, hs6, hg6⟩
        have D6 : Hid (DrO W1 B p a len cap X Y (.slice f1 ss.length e1) (.slice f2 ps.length e2) ss ps w6) := ⟨HDc.out.step hs6 hg6, HOc.out.touch hg6 hpW⟩
        clear HDc HOc hs6 hg6
        go_upto_if 26 with fail
        go_cut [5] from 27 to 34 (fun s5 wx => s5 = .pointer (some ⟨Y, 0, none⟩) ∧ Hid (DrO W1 B p a len cap X Y (.slice f1 ss.length e1) (.slice f2 ps.length e2) ss ps wx))
        case first =>
          cases bo
          · go_wp2_with fail
            go_meet
            exact ⟨rfl, D6⟩
          · have PN9 : Hid (∀ x, DrO W1 B p a len cap X Y (.slice f1 ss.length e1) (.slice f2 ps.length e2) ss ps x → Calls Tryz.prog 23 #[.pointer (some ⟨p, 0, none⟩), .int .i64 90] x fun e x1 => ∃ r : Int, e = .returned (.int .i64 r) ∧ 0 ≤ r ∧ r < 90 ∧ DrO W1 B p a len cap X Y (.slice f1 ss.length e1) (.slice f2 ps.length e2) ss ps x1) := fun x hT => (n_any B p a len cap 90 x hT.dr.src (by omega)).mono (by
              rintro e x1 ⟨⟨r, rfl, r0, r1, _⟩, s1, g1⟩
              exact ⟨r, rfl, r0, r1 (by omega), hT.step s1 g1 hpW⟩)
            have PN6 : Hid (∀ x, DrO W1 B p a len cap X Y (.slice f1 ss.length e1) (.slice f2 ps.length e2) ss ps x → Calls Tryz.prog 23 #[.pointer (some ⟨p, 0, none⟩), .int .i64 6] x fun e x1 => ∃ r : Int, e = .returned (.int .i64 r) ∧ 0 ≤ r ∧ r < 6 ∧ DrO W1 B p a len cap X Y (.slice f1 ss.length e1) (.slice f2 ps.length e2) ss ps x1) := fun x hT => (n_any B p a len cap 6 x hT.dr.src (by omega)).mono (by
              rintro e x1 ⟨⟨r, rfl, r0, r1, _⟩, s1, g1⟩
              exact ⟨r, rfl, r0, r1 (by omega), hT.step s1 g1 hpW⟩)
            have PB : Hid (∀ (r : Int) x, r < 90 → DrO W1 B p a len cap X Y (.slice f1 ss.length e1) (.slice f2 ps.length e2) ss ps x → Calls Tryz.prog 22 #[.pointer (some ⟨p, 0, none⟩), .int .i64 r] x fun e x1 => ∃ t : ByteArray, e = .returned (.string t) ∧ t.size ≤ 89 ∧ DrO W1 B p a len cap X Y (.slice f1 ss.length e1) (.slice f2 ps.length e2) ss ps x1) := fun r x hr hT => (bytes_any B p a len cap r x hT.dr.src (by omega)).mono (by
              rintro e x1 ⟨⟨t, rfl, ht⟩, s1, g1⟩
              exact ⟨t, rfl, by omega, hT.step s1 g1 hpW⟩)
            have PP : Hid (∀ (t : ByteArray) (r : Int) x, t.size ≤ 89 → DrO W1 B p a len cap X Y (.slice f1 ss.length e1) (.slice f2 ps.length e2) ss ps x → Calls Tryz.prog 13 #[.agg #[.slice f1 ss.length e1, .slice f2 ps.length e2], .string t, .int .i64 r] x fun e x1 => ∃ (o1 : Option Addr) (n1 d1 : Nat) (o2 : Option Addr) (n2 d2 : Nat) (c : Int), e = .returned (.agg #[.slice o1 n1 d1, .slice o2 n2 d2, .string ByteArray.empty, .int .i64 0, .int .i64 c]) ∧ DrO W1 B p a len cap X Y (.slice f1 ss.length e1) (.slice f2 ps.length e2) ss ps x1 ∧ OutP W1 X (some Y) (.slice o1 n1 d1) (.slice o2 n2 d2) c x1) := fun t r x ht hT => by
              have hrd := hT.dr.dsk.read
              refine (specAreaPut_any f1 e1 ss f2 e2 ps t r x hrd.1 hrd.2 (by omega) (by omega) m1 m2 (by omega)).mono ?_
              rintro e x1 ⟨u1, u2, rfl, ho, hb⟩
              obtain ⟨o1, d1, rfl, -, -⟩ := ownS_form ho.own1
              obtain ⟨o2, d2, rfl, -, -⟩ := ownP_form ho.own2
              have hz := hT.dr.gr.size
              have hlX := hT.dr.box.lt
              have hlY := hT.ltY
              exact ⟨o1, _, d1, o2, _, d2, _, rfl, hT.below hb, ⟨_, _, ho.mono hz, fun hc => pu_right hc⟩, own_off ho.own1 (.inl hlX), own_off ho.own2 (.inl hlX), fun Y hY => by cases hY; exact own_off ho.own1 (.inl hlY), fun Y hY => by cases hY; exact own_off ho.own2 (.inl hlY)⟩
            have PC : Hid (∀ x, DrO W1 B p a len cap X Y (.slice f1 ss.length e1) (.slice f2 ps.length e2) ss ps x → x.cell? ⟨X, 0, none⟩ = some (.slice f1 ss.length e1) ∧ x.cell? ⟨X, 1, none⟩ = some (.slice f2 ps.length e2)) := fun x h => ⟨h.dr.cells.1, h.dr.cells.2.1⟩
            have PS : Hid (∀ x (u1 u2 : Value) (c : Int), DrO W1 B p a len cap X Y (.slice f1 ss.length e1) (.slice f2 ps.length e2) ss ps x → OutP W1 X (some Y) u1 u2 c x → DrO W1 B p a len cap X Y (.slice f1 ss.length e1) (.slice f2 ps.length e2) ss ps (((((x.setCell ⟨Y, 0, none⟩ u1).setCell ⟨Y, 1, none⟩ u2).setCell ⟨Y, 2, none⟩ (.string ByteArray.empty)).setCell ⟨Y, 3, none⟩ (.int .i64 0)).setCell ⟨Y, 4, none⟩ (.int .i64 c))) := fun x u1 u2 c h ho => by
              obtain ⟨b1, b2, bc, kb, -⟩ := h.ou.ex
              exact ⟨h.dr.set5 h.ou.hY h.ou.ne HNY.out.1 HNY.out.2 _ _ _ _ _, OuA.put (cs := #[b1, b2, .string ⟨#[]⟩, .int .i64 0, .int .i64 bc]) kb h.ou.hY h.ou.ne ho⟩
            clear QN QB QP
            go_wp2_with fail
            go_region_held3 (fun w' => w'.cell? ⟨X, 0, none⟩ = some (.slice f1 ss.length e1) ∧ w'.cell? ⟨X, 1, none⟩ = some (.slice f2 ps.length e2)) ((refine PC.out _ ?hT; case hT => (with_reducible repeat (first | assumption | exact D6.out | exact PS.out _ _ _ _ tW oW | refine DrO.drew ?_)))) (first
              | (go_at_call 23; with_reducible refine (PN9.out _ ?hT).mono ?_; (case hT => (with_reducible repeat (first | assumption | exact D6.out | refine DrO.drew ?_))); rintro e x9 ⟨r9, rfl, r90, r91, t9⟩)
              | (go_at_call 23; with_reducible refine (PN6.out _ ?hT).mono ?_; (case hT => (with_reducible repeat (first | assumption | exact D6.out | refine DrO.drew ?_))); rintro e x6 ⟨r6, rfl, r60, r61, t6⟩)
              | (go_at_call 22; with_reducible refine (PB.out _ _ r91 ?hT).mono ?_; (case hT => (with_reducible repeat (first | assumption | exact D6.out | refine DrO.drew ?_))); rintro e xb ⟨tb, rfl, hb4, tB⟩)
              | (go_at_call 13; with_reducible refine (PP.out _ _ _ hb4 ?hT).mono ?_; (case hT => (with_reducible repeat (first | assumption | exact D6.out | refine DrO.drew ?_))); rintro e xw ⟨o1, n1, d1, o2, n2, d2, cw, rfl, tW, oW⟩; obtain ⟨y0, y1, y2, y3, y4, y5, y6, y7, y8, y9, y10, y11, y12⟩ := tW.outs))
            all_goals
              go_wp2_with fail
              go_meet
              exact ⟨rfl, PS.out _ _ _ _ tW oW⟩
        case rest =>
          obtain ⟨rfl, HD7⟩ := hcut
          obtain ⟨w7, rfl⟩ : ∃ w7 : World, w7 = wc := ⟨_, rfl⟩
          obtain ⟨u1, u2, c, kY, oP⟩ := HD7.out.ou.ex
          obtain ⟨ss', ps', ho, hrt⟩ := oP.ex
          obtain ⟨ox1, dx1, rfl, -, -⟩ := ownS_form ho.own1
          obtain ⟨ox2, dx2, rfl, -, -⟩ := ownP_form ho.own2
          have k0 := kY.cell 0
          have k1 := kY.cell 1
          have k4 := kY.cell 4
          obtain ⟨c0, c1, a0, a1⟩ := HD7.out.dr.cells
          have HDa : Hid (DrS W1 B p a len cap X (.slice ox1 ss'.length dx1) (.slice ox2 ps'.length dx2) ss' ps' ((w7.setCell ⟨X, 0, none⟩ (.slice ox1 ss'.length dx1)).setCell ⟨X, 1, none⟩ (.slice ox2 ps'.length dx2))) := HD7.out.dr.put ho oP.n1 oP.n2
          have HDb : Hid (DrS W1 B p a len cap X (.slice f1 ss.length e1) (.slice f2 ps.length e2) ss ps w7) := HD7.out.dr
          have HRt : Hid (c = 0 → dskB ss' ps' = true) := hrt
          clear HD7 kY oP ho hrt QN QB QP D6 HNY
          go_upto_if 37 with fail
          go_cut [5] from 38 to 39 (fun s5 wx => s5 = .pointer (some ⟨Y, 0, none⟩) ∧ ∃ (v1 v2 : Value) (ss : List ByteArray) (ps : List Pnd), Hid (DrS W1 B p a len cap X v1 v2 ss ps wx) ∧ Hid (dskB ss ps = true))
          case first =>
            by_cases hc : c = 0
            · have hbe : (c == 0) = true := beq_iff_eq.2 hc
              have HR2 : Hid (dskB ss' ps' = true) := HRt.out hc
              clear hc
              go_wp2_with fail
              go_meet
              exact ⟨rfl, _, _, ss', ps', HDa, HR2⟩
            · have hbe : (c == 0) = false := beq_eq_false_iff_ne.2 hc
              clear hc
              go_wp2_with fail
              go_meet
              exact ⟨rfl, _, _, ss, ps, HDb, HO⟩
          case rest =>
            clear k0 k1 k4 c0 c1 a0 a1 HDa HDb HRt L4 L5 HO HD
            obtain ⟨rfl, z1, z2, us, up, HD8, HO8⟩ := hcut
            obtain ⟨g1, h1, g2, h2, rfl, rfl, n1, n2⟩ := HD8.out.dsk.form
            obtain ⟨⟨ul1, ul2⟩, ul3, -⟩ := dskB_parts HO8.out
            go_wp2_with fail
            refine (one_any B p a len cap 5 _ HD8.out.src (by omega)).mono ?_
            rintro e w9 ⟨⟨bo, rfl⟩, hs9, hg9⟩
            have D9 : Hid (DrS W1 B p a len cap X (.slice g1 us.length h1) (.slice g2 up.length h2) us up w9) := HD8.out.step hs9 hg9
            clear HD8 hs9 hg9
            cases bo
            · go_wp2_with fail
              go_roundw
              case rel => exact ⟨k - 1, _, _, us, up, by omega, by go_num, D9, HO8⟩
              case measure => simp [intOf]; omega
            · have QK : Hid (∀ x, DrS W1 B p a len cap X (.slice g1 us.length h1) (.slice g2 up.length h2) us up x → Calls Tryz.prog 45 #[.pointer (some ⟨p, 0, none⟩)] x fun e x1 => ∃ (q3 : Option Addr) (c3 : Nat) (L : List Int), e = .returned (.slice q3 L.length c3) ∧ x1.ownsRow W1.heap.size 2 1 (.slice q3 L.length c3) L.length (intRow L) ∧ L.length ≤ c3 ∧ L.length ≤ 13 ∧ DrS W1 B p a len cap X (.slice g1 us.length h1) (.slice g2 up.length h2) us up x1) := fun x h => (keep_any B p a len cap x h.src).mono (by
                rintro e x1 ⟨⟨v, L, rfl, hk, hL⟩, s1, g1⟩
                obtain ⟨q3, c3, rfl, hc3, -⟩ := ownI_form hk
                exact ⟨q3, c3, L, rfl, ownS_mono hk h.gr.size, hc3, hL, h.step s1 g1⟩)
              have QX : Hid (∀ x (q3 : Option Addr) (c3 : Nat) (L : List Int), DrS W1 B p a len cap X (.slice g1 us.length h1) (.slice g2 up.length h2) us up x → x.ownsRow W1.heap.size 2 1 (.slice q3 L.length c3) L.length (intRow L) → L.length ≤ c3 → L.length ≤ 13 → Calls Tryz.prog 50 #[.agg #[.slice g1 us.length h1, .slice g2 up.length h2], .slice q3 L.length c3] x fun e x1 => ∃ (o1 : Option Addr) (n1 d1 : Nat) (o2 : Option Addr) (n2 d2 : Nat) (cs : List ByteArray) (cp : List Pnd), e = .returned (.agg #[.slice o1 n1 d1, .slice o2 n2 d2]) ∧ DrS W1 B p a len cap X (.slice g1 us.length h1) (.slice g2 up.length h2) us up x1 ∧ DskO W1.heap.size cs cp (.slice o1 n1 d1) (.slice o2 n2 d2) x1 ∧ some X ≠ (Value.slice o1 n1 d1).ownBlock ∧ some X ≠ (Value.slice o2 n2 d2).ownBlock ∧ dskB cs cp = true) := fun x q3 c3 L h hk hc3 hL => by
                have hrd := h.dsk.read
                obtain ⟨_, _, ev, -, hI⟩ := ownI_form hk
                cases ev
                refine (specDiskCrash_any g1 h1 us g2 h2 up q3 c3 L x hrd.1 hrd.2 hI (by omega) (by omega) (by omega) n1 n2 hc3).mono ?_
                rintro e x1 ⟨u1, u2, rfl, ho, hb⟩
                obtain ⟨o1, d1, rfl, -, -⟩ := ownS_form ho.own1
                obtain ⟨o2, d2, rfl, -, -⟩ := ownP_form ho.own2
                have hz := h.gr.size
                have hlX := h.box.lt
                refine ⟨o1, _, d1, o2, _, d2, _, _, rfl, h.below hb, ho.mono hz, own_off ho.own1 (.inl hlX), own_off ho.own2 (.inl hlX), ?_⟩
                obtain ⟨q1, q2⟩ := crash_of HO8.out L (by omega)
                rw [q1, q2]
                exact crash_right L HO8.out
              obtain ⟨c0, c1, a0, a1⟩ := D9.out.cells
              go_wp2_with fail
              go_region_with (first
                | (go_at_call 45; refine (QK.out _ (by first | exact D9.out | exact D9.out.drew)).mono ?_; rintro e x1 ⟨q3, c3, L, rfl, hk, hc3, hL, t1⟩; obtain ⟨b0, b1, -, -⟩ := t1.cells)
                | (go_at_call 50; refine (QX.out _ _ _ _ (by first | exact t1 | exact t1.drew) (by first | exact hk | exact ownS_below hk (Below.refl _ _).drew) hc3 hL).mono ?_; rintro e x2 ⟨o1, on1, od1, o2, on2, od2, cs, cp, rfl, t2, ho2, nX1, nX2, hr2⟩; obtain ⟨b2, b3, b4, b5⟩ := t2.cells))
              all_goals
                have HDn : Hid (DrS W1 B p a len cap X (.slice o1 on1 od1) (.slice o2 on2 od2) cs cp ((x2.setCell ⟨X, 0, none⟩ (.slice o1 on1 od1)).setCell ⟨X, 1, none⟩ (.slice o2 on2 od2))) := t2.put ho2 nX1 nX2
                have HRn : Hid (dskB cs cp = true) := hr2
                clear QK QX t1 t2 ho2 hk hr2 D9
                go_wp2_with fail
                go_roundw
                case rel => exact ⟨k - 1, _, _, cs, cp, by omega, by go_num, HDn, HRn⟩
                case measure => simp [intOf]; omega
    · obtain rfl : k = 0 := by omega
      have L4 : Hid (∀ x ∈ ss, x.size ≤ 64) := l4
      have L5 : Hid (∀ q ∈ ps, q.2.size ≤ 100) := fun q hq => by have := (l5 q hq).2; omega
      obtain ⟨g, rfl⟩ : ∃ g, f1 = some ⟨g, 0, none⟩ := by
        rcases HD.out.dsk.own1.2 with ⟨-, h0⟩ | ⟨g, cp, cur, h1, -⟩
        · omega
        · cases h1; exact ⟨g, rfl⟩
      clear l4 l5 HO
      go_wp2_with fail
      refine (one_any B p a len cap 12 _ HD.out.src (by omega)).mono ?_
      rintro e w6 ⟨⟨bo, rfl⟩, hs6, hg6⟩
      have D6 : Hid (DrS W1 B p a len cap X (.slice (some ⟨g, 0, none⟩) ss.length e1) (.slice f2 ps.length e2) ss ps w6) := HD.out.step hs6 hg6
      clear HD hs6 hg6
      go_upto_if 47 with fail
      go_cut [6] from 48 to 80 (fun s6 wx => ∃ us : List ByteArray, Hid (DrS W1 B p a len cap X (.slice (some ⟨g, 0, none⟩) ss.length e1) (.slice f2 ps.length e2) us ps wx) ∧ Hid (us.length = ss.length) ∧ Hid (∀ x ∈ us, x.size ≤ 100))
      case first =>
        cases bo
        · go_wp2_with fail
          go_meet
          exact ⟨ss, D6, rfl, fun x hx => by have := L4.out x hx; omega⟩
        · obtain ⟨c0, c1, -, -⟩ := D6.out.cells
          go_wp2_with fail
          refine (n_any B p a len cap (ss.length : Int) _ D6.out.src (by omega)).mono ?_
          rintro e w7 ⟨⟨r, rfl, hr0, hr1, hr2⟩, hs7, hg7⟩
          obtain ⟨A, rfl⟩ := Int.eq_ofNat_of_zero_le hr0
          have hA : A < ss.length := by
            by_cases h1 : ss.length ≤ 1
            · have := hr2 (by omega); omega
            · have := hr1 (by omega); omega
          have D7 : Hid (DrS W1 B p a len cap X (.slice (some ⟨g, 0, none⟩) ss.length e1) (.slice f2 ps.length e2) ss ps w7) := D6.out.step hs7 hg7
          clear D6 hs7 hg7 hr0 hr1 hr2 c0 c1
          have hAi : (A : Int) < (ss.length : Int) := by omega
          obtain ⟨T, hT⟩ : ∃ T, T = ss.getD A ByteArray.empty := ⟨_, rfl⟩
          have HTs : Hid (T.size ≤ 64) := by
            show _ ≤ _
            rw [hT, List.getD_eq_getElem?_getD, List.getElem?_eq_getElem hA]
            exact L4.out _ (List.getElem_mem hA)
          have HTc : Hid (∀ x, DrS W1 B p a len cap X (.slice (some ⟨g, 0, none⟩) ss.length e1) (.slice f2 ps.length e2) ss ps x → x.cell? ⟨g, A, none⟩ = some (.string T) ∧ x.frozen? ⟨g, A, none⟩ = false) := fun x h => by
            refine ⟨?_, h.dsk.own1.frozenAt A⟩
            rw [h.dsk.own1.cellAt A (by omega), hT]
            simp [strRow, List.getD_eq_getElem?_getD, hA]
          clear hT
          have QS : Hid (∀ x, DrS W1 B p a len cap X (.slice (some ⟨g, 0, none⟩) ss.length e1) (.slice f2 ps.length e2) ss ps x → Calls Tryz.prog 51 #[.pointer (some ⟨p, 0, none⟩), .string T] x fun e x1 => ∃ u : ByteArray, e = .returned (.string u) ∧ u.size ≤ 65 ∧ DrS W1 B p a len cap X (.slice (some ⟨g, 0, none⟩) ss.length e1) (.slice f2 ps.length e2) ss ps x1) := fun x h => (spoilT_any B p a len cap T x h.src (by have := HTs.out; omega)).mono (by
            rintro e x1 ⟨⟨u, rfl, hu⟩, s1, g1⟩
            exact ⟨u, rfl, by have := HTs.out; omega, h.step s1 g1⟩)
          obtain ⟨c0, c1, -, -⟩ := D7.out.cells
          obtain ⟨c4, c5⟩ := HTc.out _ D7.out
          go_upto_region 14 with fail
          go_cut [6] from 53 to 63 (fun s6 wx => s6 = .int .i64 (A : Int) ∧ ∃ u : ByteArray, Hid (DrS W1 B p a len cap X (.slice (some ⟨g, 0, none⟩) ss.length e1) (.slice f2 ps.length e2) (ss.set A u) ps wx) ∧ u.size ≤ 65)
          case first =>
            go_region_law (first
              | (go_simp; go_at_call 51; refine (QS.out _ (by first | exact D7.out | exact D7.out.drew)).mono ?_; rintro e x1 ⟨u, rfl, hu, t1⟩; obtain ⟨c2, c3, -, -⟩ := t1.cells; obtain ⟨c6, c7⟩ := HTc.out _ t1))
            all_goals
              have HS : Hid (DrS W1 B p a len cap X (.slice (some ⟨g, 0, none⟩) ss.length e1) (.slice f2 ps.length e2) (ss.set A u) ps (x1.setCell ⟨g, A, none⟩ (.string u))) := t1.sec A u
              clear t1
              go_wp2_with fail
              go_meet
              exact ⟨rfl, u, HS, hu⟩
          case rest =>
            clear c0 c1 c4 c5 QS HTc HTs D7
            obtain ⟨rfl, u, HDu, hu⟩ := hcut
            obtain ⟨w8, rfl⟩ : ∃ w8 : World, w8 = wc := ⟨_, rfl⟩
            obtain ⟨c0, c1, -, -⟩ := HDu.out.cells
            have hou := HDu.out.dsk.own1
            rw [List.length_set] at hou
            have c4 : w8.cell? ⟨g, A, none⟩ = some (.string u) := by
              rw [hou.cellAt A (by omega)]
              simp [strRow, hA]
            have c5 := hou.frozenAt A
            clear hou
            have HLu : Hid (∀ v : ByteArray, v.size ≤ 65 → ∀ x ∈ ss.set A v, x.size ≤ 100) := fun v hv x hx => by
              rcases List.mem_or_eq_of_mem_set hx with h | h
              · have := L4.out x h; omega
              · rw [h]; omega
            by_cases hu6 : 64 < u.size
            · have d6 : decide (64 < (u.size : Int)) = true := decide_eq_true (by omega)
              have hu6i : (64 : Int) ≤ (u.size : Int) := by omega
              have hu6n : 64 ≤ u.size := by omega
              have HDv : Hid (∀ x, DrS W1 B p a len cap X (.slice (some ⟨g, 0, none⟩) ss.length e1) (.slice f2 ps.length e2) (ss.set A u) ps x → DrS W1 B p a len cap X (.slice (some ⟨g, 0, none⟩) ss.length e1) (.slice f2 ps.length e2) (ss.set A (u.extract 0 64)) ps (x.setCell ⟨g, A, none⟩ (.string (u.extract 0 64)))) := fun x h => by
                have := h.sec A (u.extract 0 64)
                rw [List.set_set] at this
                exact this
              go_wp2_with fail
              go_region
              all_goals
                go_wp2_with fail
                go_meet
                exact ⟨ss.set A (u.extract 0 64), by first | exact HDv.out _ HDu.out | exact (HDv.out _ HDu.out).drew | exact HDv.out _ HDu.out.drew, by show _ = _; simp, HLu.out _ (by simp; omega)⟩
            · have d6 : decide (64 < (u.size : Int)) = false := decide_eq_false (by omega)
              go_wp2_with fail
              go_meet
              exact ⟨ss.set A u, HDu, by show _ = _; simp, HLu.out u hu⟩
      case rest =>
        clear D6
        obtain ⟨us, HDs, HLs, HL1⟩ := hcut
        go_wp2_with fail
        refine (one_any B p a len cap 20 _ HDs.out.src (by omega)).mono ?_
        rintro e w9 ⟨⟨bo, rfl⟩, hs9, hg9⟩
        have D9 : DrS W1 B p a len cap X (.slice (some ⟨g, 0, none⟩) ss.length e1) (.slice f2 ps.length e2) us ps w9 := HDs.out.step hs9 hg9
        clear HDs hs9 hg9
        cases bo
        · obtain ⟨c0, c1, -, -⟩ := D9.cells
          obtain ⟨r0, r1, g0, g1⟩ := HRes.out _ D9.gr
          have HE : Hid _ := fun y0 y1 => HEnd.out w9 (.slice (some ⟨g, 0, none⟩) ss.length e1) (.slice f2 ps.length e2) us ps y0 y1 D9.src D9.gr D9.dsk (by have := HLs.out; omega) (by omega) HL1.out L5.out
          clear HRes HEnd D9
          go_wp2_with (fail)
          refine bodyPost_ret (v := .agg #[.slice (some ⟨g, 0, none⟩) ss.length e1, .slice f2 ps.length e2]) (by simp [results, Tryz.results21, go_sem, r0, r1]) rfl ?_
          exact HE.out _ _
        · have HD9 : Hid (DrS W1 B p a len cap X (.slice (some ⟨g, 0, none⟩) ss.length e1) (.slice f2 ps.length e2) us ps w9) := D9
          clear D9
          go_wp2_with fail
          refine (l05Disk_any B p a len cap _ HD9.out.src).mono ?_
          rintro e w10 ⟨⟨u1, u2, s9, p9, rfl, ho, l1, l2, l3, l4⟩, hs10, hg10⟩
          have hz9 := HD9.out.gr.size
          have hgr := touch_trans HD9.out.gr hg10
          obtain ⟨o1, d1, rfl, -, -⟩ := ownS_form ho.own1
          obtain ⟨o2, d2, rfl, -, -⟩ := ownP_form ho.own2
          obtain ⟨r0, r1, g0, g1⟩ := HRes.out _ hgr
          have HE : Hid _ := fun y0 y1 => HEnd.out w10 (.slice o1 s9.length d1) (.slice o2 p9.length d2) s9 p9 y0 y1 hs10 hgr (ho.mono hz9) l1 l2 l3 l4
          clear HRes HEnd HD9 ho hs10 hg10 hgr l3 l4
          go_wp2_with (fail)
          refine bodyPost_ret (v := .agg #[.slice o1 s9.length d1, .slice o2 p9.length d2]) (by simp [results, Tryz.results21, go_sem, r0, r1]) rfl ?_
          exact HE.out _ _
theorem l06Disk_any (B p : Nat) (a : Option Addr) (len cap : Nat) (w : World) (hs : Src 81 B p a len cap w) :
    Calls Tryz.prog 21 #[.pointer (some ⟨p, 0, none⟩)] w fun e w' =>
      (∃ (v1 v2 : Value) (ss : List ByteArray) (ps : List Pnd), e = .returned (.agg #[v1, v2]) ∧ DskO w.heap.size ss ps v1 v2 w' ∧ ss.length ≤ 64 ∧ ps.length ≤ 300 ∧ (∀ x ∈ ss, x.size ≤ 100) ∧ ∀ q ∈ ps, q.2.size ≤ 100) ∧ Src 81 B p a len cap w' ∧ w.grownBy w' (some p) :=
  (l06Disk_drawn B p a len cap w hs).mono (fun e w' h => h)
end Go.Proofs.YtkhffoailfnepabGreatDoor
