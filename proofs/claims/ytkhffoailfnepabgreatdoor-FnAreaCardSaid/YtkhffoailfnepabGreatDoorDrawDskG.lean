/-
  What l05Disk draws: a disk of its own memory, of at most 64 sectors and 300 pendings, none greater than 100 bytes.
-/
import Derived.Test.YtkhffoailfnepabGreatDoorRows
import Derived.Test.YtkhffoailfnepabGreatDoorBytesDigMath
import Derived.Test.YtkhffoailfnepabGreatDoorSlASlBOwnSOwnBSrc
import Derived.Test.YtkhffoailfnepabGreatDoorDskRAppSStepAppDskA
import Derived.Test.YtkhffoailfnepabGreatDoorDrawsDrawKitDskMath
import Derived.Test.YtkhffoailfnepabGreatDoorDskSDskCDskT
import Derived.Test.YtkhffoailfnepabGreatDoorDskW
import Derived.Test.YtkhffoailfnepabGreatDoorDskFDskK
import Derived.Test.YtkhffoailfnepabGreatDoorDskLawLawSLawSGLawP
import Derived.Test.YtkhffoailfnepabGreatDoorLawDLwDskLwArLawIPutMathPutNum
import Derived.Test.YtkhffoailfnepabGreatDoorImplCrashSomeLawDGDrawDsk
import Derived.Test.YtkhffoailfnepabGreatDoorDrawDskF
import Derived.Handy
import Derived.WalkSpells
import Derived.OwnWalk
import Derived.Laws.OwnMore
import Derived.Deep.RegionWith
import Derived.Deep.RegionLaw
import Derived.Deep.RegionHeld3
import Derived.Deep.Cut
import Derived.Deep.CutRange
namespace Go.Proofs.YtkhffoailfnepabGreatDoor
open Go.RowKit Go.Lib
set_option linter.unusedVariables false
set_option maxRecDepth 20000

/-- What is drawn: a disk of its own memory. -/
def DrawnD (B p : Nat) (a : Option Addr) (len cap : Nat) (w : World) (e : Ending) (w' : World) : Prop :=
  (∃ (v1 v2 : Value) (ss : List ByteArray) (ps : List Pnd), e = .returned (.agg #[v1, v2]) ∧ DskO w.heap.size ss ps v1 v2 w' ∧ ss.length ≤ 64 ∧ ps.length ≤ 300 ∧ (∀ x ∈ ss, x.size ≤ 100) ∧ ∀ q ∈ ps, q.2.size ≤ 100) ∧ Src 81 B p a len cap w' ∧ w.grownBy w' (some p)
set_option maxHeartbeats 16000000 in
theorem l05Disk_drawn (B p : Nat) (a : Option Addr) (len cap : Nat) (w : World) (hs : Src 81 B p a len cap w) :
    Calls Tryz.prog 25 #[.pointer (some ⟨p, 0, none⟩)] w (DrawnD B p a len cap w) := by
  have hp := hs.lt
  obtain ⟨W1, hW1⟩ : ∃ W1, W1 = w.alloc (.cells #[.slice none 0 0, .slice none 0 0] 26) := ⟨_, rfl⟩
  have HW1 : Hid (W1 = w.alloc (.cells #[.slice none 0 0, .slice none 0 0] 26)) := hW1
  have B1 : Below w.heap.size w W1 := by rw [hW1]; exact (Below.refl _ _).alloc (Nat.le_refl _) _
  have R1 : Bxs W1 w.heap.size 26 #[.slice none 0 0, .slice none 0 0] := by rw [hW1]; exact Bxs.new _ _ _
  have z1 : W1.heap.size = w.heap.size + 1 := by rw [hW1]; simp
  have HS1 : Hid (Src 81 B p a len cap W1) := hs.below B1
  have HRes : Hid (∀ x, W1.grownBy x (some p) → x.cell? ⟨w.heap.size, 0, none⟩ = some (.slice none 0 0) ∧ x.cell? ⟨w.heap.size, 1, none⟩ = some (.slice none 0 0) ∧ x.frozen? ⟨w.heap.size, 0, none⟩ = false ∧ x.frozen? ⟨w.heap.size, 1, none⟩ = false) := fun x hg => by
    have k : Bxs x w.heap.size 26 #[.slice none 0 0, .slice none 0 0] := (hg.block w.heap.size R1.lt (fun e => by cases e; omega)).trans R1
    exact ⟨k.cell 0, k.cell 1, k.fr 0, k.fr 1⟩
  have HEnd : Hid (∀ (x : World) (X : Nat) (v1 v2 : Value) (ss : List ByteArray) (ps : List Pnd) (y0 y1 : Value), DrS W1 B p a len cap X v1 v2 ss ps x → ss.length ≤ 64 → ps.length ≤ 300 → (∀ x ∈ ss, x.size ≤ 100) → (∀ q ∈ ps, q.2.size ≤ 100) →
      DrawnD B p a len cap w (.returned (.agg #[v1, v2])) ((x.setCell ⟨w.heap.size, 0, none⟩ y0).setCell ⟨w.heap.size, 1, none⟩ y1)) := by
    intro x X v1 v2 ss ps y0 y1 h l1 l2 l3 l4
    have hg : x.grownBy ((x.setCell ⟨w.heap.size, 0, none⟩ y0).setCell ⟨w.heap.size, 1, none⟩ y1) (some w.heap.size) := by
      refine ⟨rfl, rfl, rfl, by simp [World.setCell], fun q hq hne => ?_⟩
      have hq' : w.heap.size ≠ q := fun e => hne (by rw [e])
      simp [World.setCell, Array.getElem?_modify, hq']
    refine ⟨⟨v1, v2, ss, ps, rfl, ?_, l1, l2, l3, l4⟩, h.src.other hg (fun j hj => by cases hj; exact hp), touch_own (touch_trans (grownBy_none_of_below B1 _) h.gr) hg (fun j hj => by cases hj; exact Nat.le_refl _)⟩
    exact (h.dsk.touch hg (by omega)).mono (by omega)
  clear hW1 hs R1
  go_enter Tryz.func25, Tryz.ntmps25
  go_wp2_with fail
  rw [← HW1.out]
  refine (n_any B p a len cap 9 W1 HS1.out (by omega)).mono ?_
  rintro e w2 ⟨⟨r, rfl, hr0, hr1, -⟩, hs2, G2⟩
  have hr : r < 9 := hr1 (by omega)
  have hz2 := G2.size
  clear hr1 HS1
  go_wp2_with fail
  refine (specDiskNew_any (1 + r) w2).mono ?_
  rintro e w3 ⟨v1, rfl, o3, b3⟩
  have hnw : newS (1 + r) = List.replicate (1 + r).toNat ByteArray.empty := if_pos (by omega)
  have hD0 : dskB (newS (1 + r)) [] = true := by
    rw [hnw]
    exact dskB_of (by simp; omega) (by simp) (fun x hx => by rw [List.eq_of_mem_replicate hx]; simp) (fun x hx => by cases hx)
  generalize newS (1 + r) = S0 at *
  obtain ⟨q1, d1, rfl, -, -⟩ := ownS_form o3
  have hoff := own_off o3 (.inr (Nat.le_refl w3.heap.size))
  have hz3 := b3.size
  have D4 : Hid (DrS W1 B p a len cap w3.heap.size (.slice q1 S0.length d1) (.slice none 0 0) S0 [] (w3.alloc (.cells #[.slice q1 S0.length d1, .slice none 0 0] 26))) := by
    have hb := (Below.refl w3.heap.size w3).alloc (Nat.le_refl _) (.cells #[.slice q1 S0.length d1, .slice none 0 0] 26)
    refine ⟨(hs2.below b3).below hb, touch_trans (touch_trans G2 (grownBy_none_of_below b3 _)) (grownBy_none_of_below hb _), by omega, by omega, Bxs.new _ _ _, ?_, hoff, by simp [Value.ownBlock]⟩
    refine DskO.below ⟨ownS_mono o3 (by omega), World.ownsRow_nil _ _ _ _, ?_⟩ hb
    cases h : (Value.slice q1 S0.length d1).ownBlock with
    | none => exact .inl rfl
    | some b => exact .inr (fun e => by cases e)
  have HD0 : Hid (dskB S0 [] = true) := hD0
  clear hs2 G2 o3 b3 hnw hD0 hoff
  go_wp2_with fail
  refine (n_any B p a len cap 9 _ D4.out.src (by omega)).mono ?_
  rintro e w5 ⟨⟨k, rfl, hk0, hk1, -⟩, hs5, hg5⟩
  have hk : k < 9 := hk1 (by omega)
  have D5 : Hid (DrS W1 B p a len cap w3.heap.size (.slice q1 S0.length d1) (.slice none 0 0) S0 [] w5) := D4.out.step hs5 hg5
  obtain ⟨K, rfl⟩ := Int.eq_ofNat_of_zero_le hk0
  clear D4 hs5 hg5 hk1 hk0
  obtain ⟨X, hX⟩ : ∃ X, X = w3.heap.size := ⟨_, rfl⟩
  rw [← hX] at D5 ⊢
  clear hX hz3 hz2
  go_wp2_with fail
  go_loopw [4] (fun i wr => ∃ (k : Nat) (v1 v2 : Value) (ss : List ByteArray) (ps : List Pnd), k ≤ 8 ∧ i = .int .i64 k ∧ Hid (DrS W1 B p a len cap X v1 v2 ss ps wr) ∧ Hid (dskB ss ps = true)) (fun i _ => (intOf i).toNat)
  case atStart => exact ⟨K, _, _, S0, [], by omega, rfl, D5, HD0⟩
  case round =>
    clear D5 HD0
    obtain ⟨k, v1, v2, ss, ps, hk8, rfl, HD, HO⟩ := hrel
    obtain ⟨f1, e1, f2, e2, rfl, rfl, m1, m2⟩ := HD.out.dsk.form
    obtain ⟨⟨l1, l2⟩, l3, l4, l5⟩ := dskB_parts HO.out
    by_cases hlt : 0 < (k : Int)
    · have QN : Hid (∀ (m : Int) Yo x, 1 < m → m ≤ 9 → DrT W1 B p a len cap X (.slice f1 ss.length e1) (.slice f2 ps.length e2) ss ps Yo x → Calls Tryz.prog 23 #[.pointer (some ⟨p, 0, none⟩), .int .i64 m] x fun e x1 => ∃ r : Int, e = .returned (.int .i64 r) ∧ 0 ≤ r ∧ r < m ∧ DrT W1 B p a len cap X (.slice f1 ss.length e1) (.slice f2 ps.length e2) ss ps Yo x1) := fun m Yo x h1 h9 hT => (n_any B p a len cap m x hT.dr.src (by omega)).mono (by
        rintro e x1 ⟨⟨r, rfl, r0, r1, _⟩, s1, g1⟩
        exact ⟨r, rfl, r0, r1 h1, hT.step s1 g1⟩)
      have QN9 : Hid (∀ Yo x, DrT W1 B p a len cap X (.slice f1 ss.length e1) (.slice f2 ps.length e2) ss ps Yo x → Calls Tryz.prog 23 #[.pointer (some ⟨p, 0, none⟩), .int .i64 9] x fun e x1 => ∃ r : Int, e = .returned (.int .i64 r) ∧ 0 ≤ r ∧ r < 9 ∧ DrT W1 B p a len cap X (.slice f1 ss.length e1) (.slice f2 ps.length e2) ss ps Yo x1) := fun Yo x h => QN.out 9 Yo x (by omega) (by omega) h
      have QN5 : Hid (∀ Yo x, DrT W1 B p a len cap X (.slice f1 ss.length e1) (.slice f2 ps.length e2) ss ps Yo x → Calls Tryz.prog 23 #[.pointer (some ⟨p, 0, none⟩), .int .i64 5] x fun e x1 => ∃ r : Int, e = .returned (.int .i64 r) ∧ 0 ≤ r ∧ r < 5 ∧ DrT W1 B p a len cap X (.slice f1 ss.length e1) (.slice f2 ps.length e2) ss ps Yo x1) := fun Yo x h => QN.out 5 Yo x (by omega) (by omega) h
      have QB : Hid (∀ (r : Int) Yo x, r < 5 → DrT W1 B p a len cap X (.slice f1 ss.length e1) (.slice f2 ps.length e2) ss ps Yo x → Calls Tryz.prog 22 #[.pointer (some ⟨p, 0, none⟩), .int .i64 r] x fun e x1 => ∃ t : ByteArray, e = .returned (.string t) ∧ t.size ≤ 4 ∧ DrT W1 B p a len cap X (.slice f1 ss.length e1) (.slice f2 ps.length e2) ss ps Yo x1) := fun r Yo x hr hT => (bytes_any B p a len cap r x hT.dr.src (by omega)).mono (by
        rintro e x1 ⟨⟨t, rfl, ht⟩, s1, g1⟩
        exact ⟨t, rfl, by omega, hT.step s1 g1⟩)
      have QW : Hid (∀ (r : Int) (t : ByteArray) Yo x, t.size ≤ 4 → DrT W1 B p a len cap X (.slice f1 ss.length e1) (.slice f2 ps.length e2) ss ps Yo x → Calls Tryz.prog 41 #[.agg #[.slice f1 ss.length e1, .slice f2 ps.length e2], .int .i64 r, .string t] x fun e x1 => ∃ (o1 : Option Addr) (n1 d1 : Nat) (o2 : Option Addr) (n2 d2 : Nat) (c : Int), e = .returned (.agg #[.slice o1 n1 d1, .slice o2 n2 d2, .string ByteArray.empty, .int .i64 c]) ∧ DrT W1 B p a len cap X (.slice f1 ss.length e1) (.slice f2 ps.length e2) ss ps Yo x1 ∧ OutP W1 X Yo (.slice o1 n1 d1) (.slice o2 n2 d2) c x1) := fun r t Yo x ht hT => by
        have hrd := hT.dr.dsk.read
        refine (specDiskWrite_any f1 e1 ss f2 e2 ps r t x hrd.1 hrd.2 (by omega) (by omega) m1 m2 (by omega)).mono ?_
        rintro e x1 ⟨u1, u2, rfl, ho, hb⟩
        obtain ⟨o1, d1, rfl, -, -⟩ := ownS_form ho.own1
        obtain ⟨o2, d2, rfl, -, -⟩ := ownP_form ho.own2
        have hz := hT.dr.gr.size
        have hlX := hT.dr.box.lt
        refine ⟨o1, _, d1, o2, _, d2, _, rfl, hT.below hb, ⟨_, _, ho.mono hz, fun hc => ?_⟩, own_off ho.own1 (.inl hlX), own_off ho.own2 (.inl hlX), fun Y hY => own_off ho.own1 (.inl (hT.y Y hY).1.lt), fun Y hY => own_off ho.own2 (.inl (hT.y Y hY).1.lt)⟩
        have h1 : wrS ss ps r t = ss := if_pos hc
        have h2 : wrP ss ps r t = ps ++ [(r, t)] := if_pos hc
        rw [h1, h2]
        exact write_right hc
      have T0 : Hid (DrT W1 B p a len cap X (.slice f1 ss.length e1) (.slice f2 ps.length e2) ss ps none wr) := DrT.of HD.out
      have QC : Hid (∀ Yo x, DrT W1 B p a len cap X (.slice f1 ss.length e1) (.slice f2 ps.length e2) ss ps Yo x → x.cell? ⟨X, 0, none⟩ = some (.slice f1 ss.length e1) ∧ x.cell? ⟨X, 1, none⟩ = some (.slice f2 ps.length e2)) := fun Yo x h => h.cells
      have d0 : decide (0 < k) = true := decide_eq_true (by omega)
      go_upto_region 5 with fail
      go_cut [5] from 16 to 23 (fun s5 wx => ∃ Y, s5 = .pointer (some ⟨Y, 0, none⟩) ∧ Hid (DrS W1 B p a len cap X (.slice f1 ss.length e1) (.slice f2 ps.length e2) ss ps wx) ∧ Hid (OutS W1 X Y wx) ∧ Hid (some Y ≠ (Value.slice f1 ss.length e1).ownBlock ∧ some Y ≠ (Value.slice f2 ps.length e2).ownBlock))
      case first =>
        go_region_held3 (fun w' => w'.cell? ⟨X, 0, none⟩ = some (.slice f1 ss.length e1) ∧ w'.cell? ⟨X, 1, none⟩ = some (.slice f2 ps.length e2)) ((first | with_reducible exact tW.cells4 _ _ _ _ | (refine QC.out ?_ _ ?hT; case hT => (with_reducible repeat (first | assumption | exact T0.out | refine DrT.drew ?_ | refine DrT.al ?_ | refine DrT.alA ?_ _))))) (first
          | (go_at_call 23; with_reducible refine (QN9.out ?_ _ ?hT).mono ?_; (case hT => (with_reducible repeat (first | assumption | exact T0.out | refine DrT.drew ?_ | refine DrT.al ?_ | refine DrT.alA ?_ _))); rintro e x9 ⟨r9, rfl, r90, r91, t9⟩)
          | (go_at_call 23; with_reducible refine (QN5.out ?_ _ ?hT).mono ?_; (case hT => (with_reducible repeat (first | assumption | exact T0.out | refine DrT.drew ?_ | refine DrT.al ?_ | refine DrT.alA ?_ _))); rintro e x5 ⟨r5, rfl, r50, r51, t5⟩)
          | (go_at_call 22; with_reducible refine (QB.out _ ?_ _ r51 ?hT).mono ?_; (case hT => (with_reducible repeat (first | assumption | exact T0.out | refine DrT.drew ?_ | refine DrT.al ?_ | refine DrT.alA ?_ _))); rintro e xb ⟨tb, rfl, hb4, tB⟩)
          | (go_at_call 41; with_reducible refine (QW.out _ _ ?_ _ hb4 ?hT).mono ?_; (case hT => (with_reducible repeat (first | assumption | exact T0.out | refine DrT.drew ?_ | refine DrT.al ?_ | refine DrT.alA ?_ _))); rintro e xw ⟨o1, n1, d1, o2, n2, d2, cw, rfl, tW, oW⟩; first | (obtain ⟨y0, y1, y2, y3, y4, y5, y6, y7⟩ := tW.outs) | skip))
        all_goals
          go_wp2_with fail
          go_meet
          first
            | exact ⟨_, rfl, tW.dr.al _, OutS.new tW oW, tW.nN⟩
            | exact ⟨_, rfl, tW.set4 _ _ _ _, OutS.ofT tW oW, tW.nY⟩
      case rest =>
        obtain ⟨Y, rfl, HDc, HOc, HNY⟩ := hcut
        have hpW : p < W1.heap.size := by omega
        clear QN QN9 QN5 QB QW QC T0 HRes HEnd
        go_wp2_with fail
        refine (one_any B p a len cap 5 _ HDc.out.src (by omega)).mono ?_
        rintro e w6 ⟨⟨bo, rfl⟩, hs6, hg6⟩
        have D6 : DrS W1 B p a len cap X (.slice f1 ss.length e1) (.slice f2 ps.length e2) ss ps w6 := HDc.out.step hs6 hg6
        have O6 : OutS W1 X Y w6 := HOc.out.touch hg6 hpW
        clear HDc HOc hs6 hg6
        cases bo
        · obtain ⟨u1, u2, c, k, oP⟩ := O6.ex
          obtain ⟨ss', ps', ho, hrt⟩ := oP.ex
          obtain ⟨ox1, dx1, rfl, -, -⟩ := ownS_form ho.own1
          obtain ⟨ox2, dx2, rfl, -, -⟩ := ownP_form ho.own2
          have k0 := k.cell 0
          have k1 := k.cell 1
          have k3 := k.cell 3
          obtain ⟨c0, c1, a0, a1⟩ := D6.cells
          by_cases hc : c = 0
          · have HD2 : Hid (DrS W1 B p a len cap X (.slice ox1 ss'.length dx1) (.slice ox2 ps'.length dx2) ss' ps' ((w6.setCell ⟨X, 0, none⟩ (.slice ox1 ss'.length dx1)).setCell ⟨X, 1, none⟩ (.slice ox2 ps'.length dx2))) := D6.put ho oP.n1 oP.n2
            have HR2 : Hid (dskB ss' ps' = true) := hrt hc
            have hbe : (c == 0) = true := beq_iff_eq.2 hc
            clear k oP ho hrt hc
            go_wp2_with fail
            go_roundw
            case rel => exact ⟨k - 1, _, _, ss', ps', by omega, by go_num, HD2, HR2⟩
            case measure => simp [intOf]; omega
          · have HD2 : Hid (DrS W1 B p a len cap X (.slice f1 ss.length e1) (.slice f2 ps.length e2) ss ps w6) := D6
            have hbe : (c == 0) = false := beq_eq_false_iff_ne.2 hc
            clear k oP ho hrt hc
            go_wp2_with fail
            go_roundw
            case rel => exact ⟨k - 1, _, _, ss, ps, by omega, by go_num, HD2, HO⟩
            case measure => simp [intOf]; omega

        · obtain ⟨c0, c1, -, -⟩ := D6.cells
          have hrd := D6.dsk.read
          have hfl := specDiskFlush_any f1 e1 ss f2 e2 ps w6 hrd.1 hrd.2 (by omega) (by omega) m1 m2
          rw [show flC ss ps = 0 from if_pos HO.out, show flS ss ps = flushB ss ps from if_pos HO.out] at hfl
          go_wp2_with fail
          refine hfl.mono ?_
          rintro e w7 ⟨uf, rfl, hof, b7⟩
          have hFR := flush_right HO.out
          generalize flushB ss ps = FS at *
          obtain ⟨of1, df1, rfl, -, -⟩ := ownS_form hof.own1
          have D7 := D6.below b7
          have O7 := O6.below b7
          obtain ⟨z1, z2, zc, kz, -⟩ := O7.ex
          have hz6 := D6.gr.size
          have hlX := D6.box.lt
          have hlY : Y < w6.heap.size := (by obtain ⟨_, _, _, q, -⟩ := O6.ex; exact q.lt)
          have HD8 : Hid (DrS W1 B p a len cap X (.slice f1 ss.length e1) (.slice f2 ps.length e2) ss ps ((((w7.setCell ⟨Y, 0, none⟩ (.slice of1 FS.length df1)).setCell ⟨Y, 1, none⟩ (.slice none 0 0)).setCell ⟨Y, 2, none⟩ (.string ByteArray.empty)).setCell ⟨Y, 3, none⟩ (.int .i64 0))) := D7.set4 O7.hY O7.ne HNY.out.1 HNY.out.2 (.slice of1 FS.length df1) (.slice none 0 0) (.string ByteArray.empty) (.int .i64 0)
          have HK8 : Hid (Bxs ((((w7.setCell ⟨Y, 0, none⟩ (.slice of1 FS.length df1)).setCell ⟨Y, 1, none⟩ (.slice none 0 0)).setCell ⟨Y, 2, none⟩ (.string ByteArray.empty)).setCell ⟨Y, 3, none⟩ (.int .i64 0)) Y 66 #[.slice of1 FS.length df1, .slice none 0 0, .string ByteArray.empty, .int .i64 0]) := (((kz.set 0 (.slice of1 FS.length df1)).set 1 (.slice none 0 0)).set 2 (.string ByteArray.empty)).set 3 (.int .i64 0)
          have Hh8 : Hid (DskO W1.heap.size FS [] (.slice of1 FS.length df1) (.slice none 0 0) ((((w7.setCell ⟨Y, 0, none⟩ (.slice of1 FS.length df1)).setCell ⟨Y, 1, none⟩ (.slice none 0 0)).setCell ⟨Y, 2, none⟩ (.string ByteArray.empty)).setCell ⟨Y, 3, none⟩ (.int .i64 0))) := ⟨(ownS_mono hof.own1 hz6).kept (grown_set4 w7 Y _ _ _ _) (.inr (fun e => own_off hof.own1 (.inl hlY) e.symm)), World.ownsRow_nil _ _ _ _, hof.ne⟩
          have HnX : Hid (some X ≠ ((.slice of1 FS.length df1) : Value).ownBlock) := own_off hof.own1 (.inl hlX)
          have HR2 : Hid (dskB FS [] = true) := hFR
          have y0 := kz.cell 0
          have y1 := kz.cell 1
          have y2 := kz.cell 2
          have y3 := kz.cell 3
          have y4 := kz.fr 0
          have y5 := kz.fr 1
          have y6 := kz.fr 2
          have y7 := kz.fr 3
          clear D6 O6 D7 O7 kz hof hrd hfl c0 c1 hz6 hlX hlY b7 hFR
          go_upto_region 8 with fail
          obtain ⟨x8, hx8⟩ : ∃ x8, x8 = ((((w7.setCell ⟨Y, 0, none⟩ (.slice of1 FS.length df1)).setCell ⟨Y, 1, none⟩ (.slice none 0 0)).setCell ⟨Y, 2, none⟩ (.string ByteArray.empty)).setCell ⟨Y, 3, none⟩ (.int .i64 0)) := ⟨_, rfl⟩
          rw [← hx8] at HD8 HK8 Hh8 ⊢
          clear hx8 y0 y1 y2 y3 y4 y5 y6 y7
          have k0 := HK8.out.cell 0
          have k1 := HK8.out.cell 1
          have k3 := HK8.out.cell 3
          obtain ⟨c4, c5, a4, a5⟩ := HD8.out.cells
          have HD2 : Hid (DrS W1 B p a len cap X (.slice of1 FS.length df1) (.slice none 0 0) FS [] ((x8.setCell ⟨X, 0, none⟩ (.slice of1 FS.length df1)).setCell ⟨X, 1, none⟩ (.slice none 0 0))) := HD8.out.put Hh8.out HnX.out (by simp [Value.ownBlock])
          clear HD8 HK8 Hh8 HnX HNY
          go_wp2_with fail
          go_roundw
          case rel => exact ⟨k - 1, _, _, FS, [], by omega, by go_num, HD2, HR2⟩
          case measure => simp [intOf]; omega
    · obtain rfl : k = 0 := by omega
      have L4 : Hid (∀ x ∈ ss, x.size ≤ 100) := fun x hx => by have := l4 x hx; omega
      have L5 : Hid (∀ q ∈ ps, q.2.size ≤ 100) := fun q hq => by have := (l5 q hq).2; omega
      clear l4 l5
      go_wp2_with fail
      refine (one_any B p a len cap 15 _ HD.out.src (by omega)).mono ?_
      rintro e w6 ⟨⟨bo, rfl⟩, hs6, hg6⟩
      have D6 : DrS W1 B p a len cap X (.slice f1 ss.length e1) (.slice f2 ps.length e2) ss ps w6 := HD.out.step hs6 hg6
      clear HD hs6 hg6
      cases bo
      · obtain ⟨c0, c1, -, -⟩ := D6.cells
        obtain ⟨r0, r1, g0, g1⟩ := HRes.out _ D6.gr
        have HE : Hid _ := fun y0 y1 => HEnd.out w6 X (.slice f1 ss.length e1) (.slice f2 ps.length e2) ss ps y0 y1 D6 (by omega) (by omega) L4.out L5.out
        clear HRes HEnd D6
        go_wp2_with (fail)
        refine bodyPost_ret (v := .agg #[.slice f1 ss.length e1, .slice f2 ps.length e2]) (by simp [results, Tryz.results25, go_sem, r0, r1]) rfl ?_
        exact HE.out _ _
      · go_wp2_with fail
        refine (n_any B p a len cap 4 _ D6.src (by omega)).mono ?_
        rintro e w7 ⟨⟨r4, rfl, r40, r41, -⟩, hs7, hg7⟩
        have r42 : r4 < 4 := r41 (by omega)
        have D7 : DrS W1 B p a len cap X (.slice f1 ss.length e1) (.slice f2 ps.length e2) ss ps w7 := D6.step hs7 hg7
        clear D6 hs7 hg7 r41
        obtain ⟨R4, rfl⟩ := Int.eq_ofNat_of_zero_le r40
        obtain ⟨i0, i1, j0, j1⟩ := D7.cells
        match R4, r42 with
        | 0, _ =>
          have D8 := D7.nil0
          obtain ⟨c0, c1, -, -⟩ := D8.cells
          obtain ⟨r0, r1, g0, g1⟩ := HRes.out _ D8.gr
          have HE : Hid _ := fun y0 y1 => HEnd.out (w7.setCell ⟨X, 0, none⟩ (.slice none 0 0)) X (.slice none 0 0) (.slice f2 ps.length e2) [] ps y0 y1 D8 (by simp) (by omega) (fun x hx => by cases hx) L5.out
          clear HRes HEnd D8 D7
          go_wp2_with (fail)
          refine bodyPost_ret (v := .agg #[.slice none 0 0, .slice f2 ps.length e2]) (by simp [results, Tryz.results25, go_sem, r0, r1]) rfl ?_
          exact HE.out _ _
        | 1, _ =>
          obtain ⟨ga, ca, xa, ha, ⟨k0, k1, k2⟩, D8⟩ := D7.app (ss.length : Int) ⟨#[]⟩ (by omega)
          obtain ⟨c0, c1, -, -⟩ := D8.cells
          obtain ⟨r0, r1, g0, g1⟩ := HRes.out _ D8.gr
          have HE : Hid _ := fun y0 y1 => HEnd.out (xa.setCell ⟨X, 1, none⟩ (.slice (some ⟨ga, 0, none⟩) (ps.length + 1) ca)) X (.slice f1 ss.length e1) (.slice (some ⟨ga, 0, none⟩) (ps.length + 1) ca) ss (ps ++ [((ss.length : Int), ⟨#[]⟩)]) y0 y1 D8 (by omega) (by simp; omega) L4.out (fun q hq => by rcases List.mem_append.1 hq with h | h; exact L5.out q h; rw [List.mem_singleton.1 h]; exact Nat.zero_le _)
          clear HRes HEnd D8 D7
          go_wp2_with (at_builtin; refine wpList_append_run rfl _ _ _ rfl _ _ _ _ rfl rfl ha ?_)
          refine bodyPost_ret (v := .agg #[.slice f1 ss.length e1, .slice (some ⟨ga, 0, none⟩) (ps.length + 1) ca]) (by simp [results, Tryz.results25, go_sem, r0, r1]) rfl ?_
          exact HE.out _ _
        | 2, _ =>
          obtain ⟨g, rfl⟩ : ∃ g, f1 = some ⟨g, 0, none⟩ := by
            rcases D7.dsk.own1.2 with ⟨-, h0⟩ | ⟨g, cp, cur, h1, -⟩
            · omega
            · cases h1; exact ⟨g, rfl⟩
          have H7 : Hid (DrS W1 B p a len cap X (.slice (some ⟨g, 0, none⟩) ss.length e1) (.slice f2 ps.length e2) ss ps w7) := D7
          have QN2 : Hid (∀ x, DrS W1 B p a len cap X (.slice (some ⟨g, 0, none⟩) ss.length e1) (.slice f2 ps.length e2) ss ps x → Calls Tryz.prog 23 #[.pointer (some ⟨p, 0, none⟩), .int .i64 2] x fun e x1 => ∃ R : Nat, e = .returned (.int .i64 (R : Int)) ∧ R < 2 ∧ DrS W1 B p a len cap X (.slice (some ⟨g, 0, none⟩) ss.length e1) (.slice f2 ps.length e2) ss ps x1) := fun x h => (n_any B p a len cap 2 x h.src (by omega)).mono (by
            rintro e x1 ⟨⟨r, rfl, q0, q1, _⟩, s1, g1⟩
            have := q1 (by omega)
            obtain ⟨R, rfl⟩ := Int.eq_ofNat_of_zero_le q0
            exact ⟨R, rfl, by omega, h.step s1 g1⟩)
          have il : (0 : Int) < ss.length := by omega
          have il2 : 0 < ss.length := by omega
          clear D7
          go_wp2_with fail
          go_region_law (first
            | (go_simp; go_at_call 23; refine (QN2.out _ (by first | exact H7.out | exact H7.out.drew)).mono ?_; rintro e x1 ⟨R, rfl, hR, t1⟩; obtain ⟨c2, c3, -, -⟩ := t1.cells; have hmk := run_make_u8s (64 + R) (by omega) x1; rw [show (((64 + R : Nat)) : Int) = 64 + (R : Int) by omega] at hmk; have hzc := zconv (64 + R) x1; have HZ : Hid ((strOfNums (List.replicate (64 + R) 0)).size ≤ 100) := (by show _ ≤ _; rw [strOfNums_size, List.length_replicate]; omega); have t2 := t1.al (.cells (zrow (64 + R)).toArray 5); obtain ⟨c4, c5, -, -⟩ := t2.cells; have s0 : (x1.alloc (.cells (zrow (64 + R)).toArray 5)).cell? ⟨g, 0, none⟩ = some (.string (ss.getD 0 ByteArray.empty)) := (by rw [t2.dsk.own1.cellAt 0 (by omega)]; simp [strRow, List.getD_eq_getElem?_getD, show 0 < ss.length by omega]); have s1 := t2.dsk.own1.frozenAt 0; have hwr : IntKind.i64.wrap (64 + (R : Int)) = 64 + (R : Int) := (by rw [IntKind.wrap_i64]; omega); generalize strOfNums (List.replicate (64 + R) 0) = zs at *))
          all_goals
            have D8 := t2.sec 0 zs
            obtain ⟨c0, c1, -, -⟩ := D8.cells
            obtain ⟨r0, r1, g0, g1⟩ := HRes.out _ D8.gr
            have HE : Hid _ := fun y0 y1 => HEnd.out ((x1.alloc (.cells (zrow (64 + R)).toArray 5)).setCell ⟨g, 0, none⟩ (.string zs)) X (.slice (some ⟨g, 0, none⟩) ss.length e1) (.slice f2 ps.length e2) (ss.set 0 zs) ps y0 y1 D8 (by simp; omega) (by omega) (fun x hx => by rcases List.mem_or_eq_of_mem_set hx with h | h; exact L4.out x h; rw [h]; exact HZ.out) L5.out
            clear HRes HEnd D8 t1 t2 QN2 H7
            go_wp2_with (fail)
            refine bodyPost_ret (v := .agg #[.slice (some ⟨g, 0, none⟩) ss.length e1, .slice f2 ps.length e2]) (by simp [results, Tryz.results25, go_sem, r0, r1]) rfl ?_
            exact HE.out _ _
        | 3, _ =>
          have H7 : Hid (DrS W1 B p a len cap X (.slice f1 ss.length e1) (.slice f2 ps.length e2) ss ps w7) := D7
          clear D7 i0 i1 j0 j1
          go_wp2_with fail
          go_loopw [38] (fun _ wr => ∃ (v2 : Value) (qs : List Pnd), Hid (DrS W1 B p a len cap X (.slice f1 ss.length e1) v2 ss qs wr) ∧ qs.length ≤ 250 ∧ Hid (∀ q ∈ qs, q.2.size ≤ 100)) (fun _ wr => 300 - pendAt wr X)
          case atStart => exact ⟨_, ps, H7, by omega, L5⟩
          case round =>
            clear H7
            obtain ⟨v2, qs, HQ, hq, HL⟩ := hrel
            obtain ⟨f3, e3, rfl, m3, -⟩ := ownP_form HQ.out.dsk.own2
            have QN3 : Hid (∀ x, DrS W1 B p a len cap X (.slice f1 ss.length e1) (.slice f3 qs.length e3) ss qs x → Calls Tryz.prog 23 #[.pointer (some ⟨p, 0, none⟩), .int .i64 3] x fun e x1 => ∃ r : Int, e = .returned (.int .i64 r) ∧ 0 ≤ r ∧ r < 3 ∧ DrS W1 B p a len cap X (.slice f1 ss.length e1) (.slice f3 qs.length e3) ss qs x1) := fun x h => (n_any B p a len cap 3 x h.src (by omega)).mono (by
              rintro e x1 ⟨⟨r, rfl, q0, q1, _⟩, s1, g1⟩
              exact ⟨r, rfl, q0, q1 (by omega), h.step s1 g1⟩)
            have hm0 : pendAt wr X = qs.length := by unfold pendAt; rw [HQ.out.cells.2.1]
            obtain ⟨i0, i1, -, -⟩ := HQ.out.cells
            go_wp2_with fail
            go_region_with (first
              | (go_at_call 23; refine (QN3.out _ (by first | exact HQ.out | exact HQ.out.drew)).mono ?_; rintro e x1 ⟨r3, rfl, r30, r31, t1⟩; obtain ⟨c2, c3, a2, a3⟩ := t1.cells; have hwr : IntKind.i64.wrap (199 + r3) = 199 + r3 := (by rw [IntKind.wrap_i64]; omega)))
            all_goals
              by_cases hc : (qs.length : Int) < 199 + r3
              · have dc : decide ((qs.length : Int) < 199 + r3) = true := decide_eq_true hc
                obtain ⟨ga, ca, xa, ha, ⟨k0, k1, k2⟩, D8⟩ := t1.app 0 ⟨#[]⟩ (by omega)
                have hm1 : pendAt (xa.setCell ⟨X, 1, none⟩ (.slice (some ⟨ga, 0, none⟩) (qs.length + 1) ca)) X = qs.length + 1 := by unfold pendAt; rw [D8.cells.2.1]
                have HD8 : Hid (DrS W1 B p a len cap X (.slice f1 ss.length e1) (.slice (some ⟨ga, 0, none⟩) (qs.length + 1) ca) ss (qs ++ [(0, ⟨#[]⟩)]) (xa.setCell ⟨X, 1, none⟩ (.slice (some ⟨ga, 0, none⟩) (qs.length + 1) ca))) := D8
                have HL8 : Hid (∀ q ∈ qs ++ [((0 : Int), (⟨#[]⟩ : ByteArray))], q.2.size ≤ 100) := fun q hq => by rcases List.mem_append.1 hq with h | h; exact HL.out q h; rw [List.mem_singleton.1 h]; exact Nat.zero_le _
                have HM : Hid (300 - pendAt (xa.setCell ⟨X, 1, none⟩ (.slice (some ⟨ga, 0, none⟩) (qs.length + 1) ca)) X < 300 - pendAt wr X) := by show _ < _; rw [hm1, hm0]; omega
                have hql : (qs ++ [((0 : Int), (⟨#[]⟩ : ByteArray))]).length ≤ 250 := by simp; omega
                clear D8 t1 QN3 HQ HL hm0 hm1 HRes HEnd
                go_wp2_with (at_builtin; refine wpList_append_run rfl _ _ _ rfl _ _ _ _ rfl rfl ha ?_)
                go_roundw
                case rel => exact ⟨_, _, HD8, hql, HL8⟩
                case measure => exact HM.out
              · have dc : decide ((qs.length : Int) < 199 + r3) = false := decide_eq_false hc
                obtain ⟨c0, c1, -, -⟩ := t1.cells
                obtain ⟨r0, r1, g0, g1⟩ := HRes.out _ t1.gr
                have HE : Hid _ := fun y0 y1 => HEnd.out x1 X (.slice f1 ss.length e1) (.slice f3 qs.length e3) ss qs y0 y1 t1 (by omega) (by omega) L4.out HL.out
                clear HRes HEnd t1 QN3 HQ hm0
                go_wp2_with (fail)
                refine bodyPost_ret (v := .agg #[.slice f1 ss.length e1, .slice f3 qs.length e3]) (by simp [results, Tryz.results25, go_sem, r0, r1]) rfl ?_
                exact HE.out _ _
theorem l05Disk_any (B p : Nat) (a : Option Addr) (len cap : Nat) (w : World) (hs : Src 81 B p a len cap w) :
    Calls Tryz.prog 25 #[.pointer (some ⟨p, 0, none⟩)] w fun e w' =>
      (∃ (v1 v2 : Value) (ss : List ByteArray) (ps : List Pnd), e = .returned (.agg #[v1, v2]) ∧ DskO w.heap.size ss ps v1 v2 w' ∧ ss.length ≤ 64 ∧ ps.length ≤ 300 ∧ (∀ x ∈ ss, x.size ≤ 100) ∧ ∀ q ∈ ps, q.2.size ≤ 100) ∧ Src 81 B p a len cap w' ∧ w.grownBy w' (some p) :=
  (l05Disk_drawn B p a len cap w hs).mono (fun e w' h => h)
end Go.Proofs.YtkhffoailfnepabGreatDoor
