/-
  What the program's AreaPut answers: as the specification's.
  Conditions: the cells of Sectors and Pending hold the texts and the pendings; the sentinels and errors.errorType are laid.
-/
import Derived.Test.YtkhffoailfnepabGreatDoorRows
import Derived.Test.YtkhffoailfnepabGreatDoorBytesDigMath
import Derived.Test.YtkhffoailfnepabGreatDoorSlASlBOwnSOwnBSrc
import Derived.Test.YtkhffoailfnepabGreatDoorDrawsDrawKitDskMath
import Derived.Test.YtkhffoailfnepabGreatDoorDskRAppSStepAppDskA
import Derived.Test.YtkhffoailfnepabGreatDoorDskSDskCDskT
import Derived.Test.YtkhffoailfnepabGreatDoorLawDLwDskLwArLawIPutMathPutNum
import Derived.Test.YtkhffoailfnepabGreatDoorFourSealAreaAAreaF
import Derived.Test.YtkhffoailfnepabGreatDoorGetTextITextMathAreaMath
import Derived.Test.YtkhffoailfnepabGreatDoorStpMathAreaPutMUnsealSSpecGN
import Derived.Test.YtkhffoailfnepabGreatDoorImplAFIsEImplACErrI
import Derived.Test.YtkhffoailfnepabGreatDoorImplSuImplSv
import Derived.Test.YtkhffoailfnepabGreatDoorImplARImplTSImplNx
import Derived.Test.YtkhffoailfnepabGreatDoorImplPS
import Derived.Test.YtkhffoailfnepabGreatDoorImplRA
import Derived.Handy
import Derived.WalkSpells
import Derived.OwnWalk
import Derived.Deep.RegionHeld3
namespace Go.Proofs.YtkhffoailfnepabGreatDoor
open Go.RowKit Go.Lib
set_option linter.unusedVariables false
set_option maxRecDepth 20000

set_option maxHeartbeats 4000000 in
theorem implAreaPut_any (q1 : Option Addr) (c1 : Nat) (ss : List ByteArray) (q2 : Option Addr) (c2 : Nat) (ps : List Pnd) (t : ByteArray) (k : Int) (a1 a2 a3 a4 : Addr) (w : World) (h1 : TxtAt w q1 ss) (h2 : PndAt w q2 ps) (n1 : ss.length ≤ 1048576) (n2 : ps.length ≤ 1048576) (m1 : ss.length ≤ c1) (m2 : ps.length ≤ c2) (hts : t.size ≤ 1048576) (hS : Sents a1 a2 a3 a4 w) (hLd : Laid w) :
    Calls Tryz.prog 9 #[.agg #[.slice q1 ss.length c1, .slice q2 ps.length c2], .string t, .int .i64 k] w fun e w' => ∃ v1 v2, e = .returned (.agg #[v1, v2, .string ByteArray.empty, .int .i64 0, .int .i64 (puC ss ps t k)]) ∧ DskO w.heap.size (puS ss ps t k) (puP ss ps t k) v1 v2 w' ∧ Below w.heap.size w w' := by
  have hRA : ∀ x, Below w.heap.size w x → Calls Tryz.prog 26 #[.agg #[.slice q1 ss.length c1, .slice q2 ps.length c2]] x fun e x1 => RaP ss ps a1 a2 a3 a4 e ∧ Below x.heap.size x x1 := fun x hb => readArea_any q1 c1 ss q2 c2 ps a1 a2 a3 a4 x (h1.below hb) (h2.below hb) n1 n2 m1 m2 (hS.below hb)
  obtain ⟨W2, hW2⟩ : ∃ W2, W2 = (w.alloc (.cells #[.slice q1 ss.length c1, .slice q2 ps.length c2] 26)).alloc (.cells #[.slice none 0 0, .slice none 0 0, .string ⟨#[]⟩, .int .i64 0, .int .i64 0] 31) := ⟨_, rfl⟩
  have HW2 : Hid (W2 = (w.alloc (.cells #[.slice q1 ss.length c1, .slice q2 ps.length c2] 26)).alloc (.cells #[.slice none 0 0, .slice none 0 0, .string ⟨#[]⟩, .int .i64 0, .int .i64 0] 31)) := hW2
  have hs1 : (w.alloc (.cells #[.slice q1 ss.length c1, .slice q2 ps.length c2] 26)).heap.size = w.heap.size + 1 := by simp
  have S2 : W2.heap.size = w.heap.size + 2 := by rw [hW2]; simp
  have R0 : Bxs W2 w.heap.size 26 #[.slice q1 ss.length c1, .slice q2 ps.length c2] := by rw [hW2]; exact (Bxs.new _ _ _).alloc _
  have R1 : Bxs W2 (w.heap.size + 1) 31 #[.slice none 0 0, .slice none 0 0, .string ByteArray.empty, .int .i64 0, .int .i64 0] := by rw [hW2, ← hs1]; exact Bxs.new _ _ _
  have B2 : Hid (Below w.heap.size w W2) := by rw [hW2]; exact ((Below.refl _ _).alloc (Nat.le_refl _) _).alloc (by rw [hs1]; omega) _
  have T1 : Hid (TxtAt W2 q1 ss) := h1.below B2.out
  have T2 : Hid (PndAt W2 q2 ps) := h2.below B2.out
  have HX : Hid (∀ x, Below W2.heap.size W2 x → x.cell? ⟨w.heap.size, 0, none⟩ = some (.slice q1 ss.length c1) ∧ x.cell? ⟨w.heap.size, 1, none⟩ = some (.slice q2 ps.length c2)) := fun x hb => ⟨(R0.below hb).cell 0, (R0.below hb).cell 1⟩
  have HR : Hid (∀ x, Below W2.heap.size W2 x → x.cell? ⟨w.heap.size + 1, 0, none⟩ = some (.slice none 0 0) ∧ x.cell? ⟨w.heap.size + 1, 1, none⟩ = some (.slice none 0 0) ∧ x.cell? ⟨w.heap.size + 1, 2, none⟩ = some (.string ByteArray.empty) ∧ x.cell? ⟨w.heap.size + 1, 3, none⟩ = some (.int .i64 0) ∧ x.cell? ⟨w.heap.size + 1, 4, none⟩ = some (.int .i64 0) ∧ x.frozen? ⟨w.heap.size + 1, 0, none⟩ = false ∧ x.frozen? ⟨w.heap.size + 1, 1, none⟩ = false ∧ x.frozen? ⟨w.heap.size + 1, 2, none⟩ = false ∧ x.frozen? ⟨w.heap.size + 1, 3, none⟩ = false ∧ x.frozen? ⟨w.heap.size + 1, 4, none⟩ = false) := fun x hb => by
    have k := R1.below hb
    exact ⟨k.cell 0, k.cell 1, k.cell 2, k.cell 3, k.cell 4, k.fr 0, k.fr 1, k.fr 2, k.fr 3, k.fr 4⟩
  have HEr : Hid (∀ (y : World) (c : Int) (x0 x1 x2 x3 x4 : Value), Below W2.heap.size W2 y → puOk ss ps t = c → c ≠ 0 → ∃ v1 v2, Ending.returned (.agg #[.slice none 0 0, .slice none 0 0, .string ByteArray.empty, .int .i64 0, .int .i64 c]) = .returned (.agg #[v1, v2, .string ByteArray.empty, .int .i64 0, .int .i64 (puC ss ps t k)]) ∧ DskO w.heap.size (puS ss ps t k) (puP ss ps t k) v1 v2 (((((y.setCell ⟨w.heap.size + 1, 0, none⟩ x0).setCell ⟨w.heap.size + 1, 1, none⟩ x1).setCell ⟨w.heap.size + 1, 2, none⟩ x2).setCell ⟨w.heap.size + 1, 3, none⟩ x3).setCell ⟨w.heap.size + 1, 4, none⟩ x4) ∧ Below w.heap.size w (((((y.setCell ⟨w.heap.size + 1, 0, none⟩ x0).setCell ⟨w.heap.size + 1, 1, none⟩ x1).setCell ⟨w.heap.size + 1, 2, none⟩ x2).setCell ⟨w.heap.size + 1, 3, none⟩ x3).setCell ⟨w.heap.size + 1, 4, none⟩ x4)) := by
    intro y c x0 x1 x2 x3 x4 hb hc hn
    have hn' : ¬ puOk ss ps t = 0 := by rw [hc]; exact hn
    rw [show puC ss ps t k = c from (if_neg hn').trans hc, show puS ss ps t k = [] from if_neg hn', show puP ss ps t k = [] from if_neg hn']
    exact ⟨_, _, rfl, DskO.nil _ _, below_set5 (chainB B2.out hb) (by omega) _ _ _ _ _⟩
  have HSz : Hid (W2.heap.size = w.heap.size + 2) := S2
  obtain ⟨t0, t1⟩ := HX.out W2 (Below.refl _ _)
  rw [HW2.out] at t0 t1
  by_cases h8 : 8000 < t.size
  · have d8 : decide (8000 < (t.size : Int)) = true := decide_eq_true (by omega)
    have HE : Hid _ := fun x0 x1 x2 x3 x4 => HEr.out W2 2 x0 x1 x2 x3 x4 (Below.refl _ _) (if_pos h8) (by decide)
    obtain ⟨r0, r1, r2, r3, r4, f0, f1, f2, f3, f4⟩ := HR.out W2 (Below.refl _ _)
    clear hW2 R0 R1 h1 h2 hs1 S2 T1 T2 HX HR HEr hRA hS hLd h8 t0 t1
    go_enter Tryz.func9, Tryz.ntmps9
    go_upto_region 2 with fail
    rw [← HW2.out]
    go_wp2_with fail
    refine bodyPost_ret (v := .agg #[.slice none 0 0, .slice none 0 0, .string ByteArray.empty, .int .i64 0, .int .i64 2]) (by simp [results, Tryz.results9, go_sem, r0, r1, r2, r3, r4]; first | done | rfl) rfl ?_
    exact HE.out _ _ _ _ _
  have d8 : decide (8000 < (t.size : Int)) = false := decide_eq_false (by omega)
  have hPS := putSteps_any q1 c1 ss q2 c2 ps t a1 a2 a3 a4 W2 n1 (by omega) (hS.below B2.out) (fun x hb => hRA x (chainB B2.out hb))
  have HCo : Hid (∀ v c x, ErrIs a1 a2 a3 a4 v c → Below W2.heap.size W2 x → Calls Tryz.prog 27 #[v] x fun e w' => e = .returned (.int .i64 c) ∧ Below x.heap.size x w') := fun v c x he hb => areaCode_of he x ((hS.below B2.out).below hb) ((hLd.below B2.out).below hb)
  have HAr : Hid (puOk ss ps t = 0 → dskB ss ps = true) := fun h => by
    have := puC_ok (ss := ss) (ps := ps) (t := t) (k := 0) (by unfold puC; rw [if_pos h]; rfl)
    exact (arC_ok this.2.1).1
  clear hW2 R0 R1 h1 h2 hs1 S2 hRA hS hLd
  go_enter Tryz.func9, Tryz.ntmps9
  go_wp2_with fail
  rw [← HW2.out]
  refine hPS.mono ?_
  rintro e y1 ⟨v, err, rfl, hok, hno, b1⟩
  clear t0 t1 hPS
  obtain ⟨t0, t1⟩ := HX.out y1 b1
  by_cases hz : ¬ puOk ss ps t = 0
  · have hei := hno hz
    obtain ⟨ty, pp, rfl⟩ := hei.iface
    have hco := HCo.out _ _ y1 hei b1
    have HC : Hid (puOk ss ps t ≠ 0) := hz
    have HCe : Hid (∃ c, c = puOk ss ps t) := ⟨_, rfl⟩
    obtain ⟨c, hc⟩ := HCe.out
    rw [← hc] at hco
    have HCc : Hid (puOk ss ps t = c ∧ c ≠ 0) := ⟨hc.symm, by rw [hc]; exact hz⟩
    clear hok hno hz hei hc HCe
    go_wp2_with fail
    refine hco.mono ?_
    rintro e y2 ⟨rfl, b2⟩
    have b2 := chainB b1 b2
    have HE : Hid _ := fun x0 x1 x2 x3 x4 => HEr.out y2 c x0 x1 x2 x3 x4 b2 HCc.out.1 HCc.out.2
    obtain ⟨r0, r1, r2, r3, r4, f0, f1, f2, f3, f4⟩ := HR.out y2 b2
    clear HEr HR HX b2 b1 hco t0 t1
    go_wp2_with fail
    refine bodyPost_ret (v := .agg #[.slice none 0 0, .slice none 0 0, .string ByteArray.empty, .int .i64 0, .int .i64 c]) (by simp [results, Tryz.results9, go_sem, r0, r1, r2, r3, r4]; first | done | rfl) rfl ?_
    exact HE.out _ _ _ _ _
  have hz : puOk ss ps t = 0 := Decidable.byContradiction hz
  obtain ⟨rfl, hSL⟩ := hok hz
  obtain ⟨p, c, rfl, hpc, hst⟩ := stp_at hSL.own
  obtain ⟨L, hLe⟩ : ∃ L, L = puL ss ps t := ⟨_, rfl⟩
  have hL3 : L.length ≤ 1000 ∧ 3 ≤ L.length := by rw [hLe, show (puL ss ps t).length = needN t.size + 3 from putL_len _ _ _ _]; unfold needN; omega
  obtain ⟨C, hCd⟩ : ∃ C, C = doC ss ps (L.take k.toNat) := ⟨_, rfl⟩
  obtain ⟨RS, hRSd⟩ : ∃ RS, RS = doS ss ps (L.take k.toNat) := ⟨_, rfl⟩
  obtain ⟨RP, hRPd⟩ : ∃ RP, RP = doP ss ps (L.take k.toNat) := ⟨_, rfl⟩
  have HV : Hid (puC ss ps t k = C ∧ puS ss ps t k = RS ∧ puP ss ps t k = RP) := by rw [hCd, hRSd, hRPd, hLe]; exact ⟨if_pos hz, if_pos hz, if_pos hz⟩
  have HRt : Hid (dskB ss ps = true) := HAr.out hz
  have HTx : Hid (∀ s ∈ L.take k.toNat, s.t.size ≤ 1048576) := fun s hs => by
    have hs := List.mem_of_mem_take hs
    rw [hLe] at hs
    unfold puL putL at hs
    rcases List.mem_append.1 hs with h | h
    · unfold putW at h
      obtain ⟨j, -, rfl⟩ := List.mem_map.1 h
      show (pieceB t j).size ≤ _
      unfold pieceB; simp; omega
    · simp at h
      have hh := headB_small ((arG ss ps + 1 : Nat) : Int) (otherN ss ps : Int) (t.size : Int)
      rcases h with rfl | rfl | rfl
      · show ByteArray.empty.size ≤ _; simp
      · show (headB _ _ _).size ≤ _; simp at hh ⊢; omega
      · show ByteArray.empty.size ≤ _; simp
  rw [← hLe] at hst hpc ⊢
  have HSt : Hid (StpAt y1 p L) := hst
  have HB1 : Hid (Below W2.heap.size W2 y1) := b1
  have HXy : Hid (∀ x, Below y1.heap.size y1 x → x.cell? ⟨w.heap.size, 0, none⟩ = some (.slice q1 ss.length c1) ∧ x.cell? ⟨w.heap.size, 1, none⟩ = some (.slice q2 ps.length c2)) := fun x hb => HX.out x (chainB b1 hb)
  have HRy : Hid (∀ x, Below y1.heap.size y1 x → x.cell? ⟨w.heap.size + 1, 0, none⟩ = some (.slice none 0 0) ∧ x.cell? ⟨w.heap.size + 1, 1, none⟩ = some (.slice none 0 0) ∧ x.cell? ⟨w.heap.size + 1, 2, none⟩ = some (.string ByteArray.empty) ∧ x.cell? ⟨w.heap.size + 1, 3, none⟩ = some (.int .i64 0) ∧ x.cell? ⟨w.heap.size + 1, 4, none⟩ = some (.int .i64 0) ∧ x.frozen? ⟨w.heap.size + 1, 0, none⟩ = false ∧ x.frozen? ⟨w.heap.size + 1, 1, none⟩ = false ∧ x.frozen? ⟨w.heap.size + 1, 2, none⟩ = false ∧ x.frozen? ⟨w.heap.size + 1, 3, none⟩ = false ∧ x.frozen? ⟨w.heap.size + 1, 4, none⟩ = false) := fun x hb => HR.out x (chainB b1 hb)
  have HX5 : Hid (∀ x (x0 x1 x2 x3 x4 : Value), Below y1.heap.size y1 x → (((((x.setCell ⟨w.heap.size + 1, 0, none⟩ x0).setCell ⟨w.heap.size + 1, 1, none⟩ x1).setCell ⟨w.heap.size + 1, 2, none⟩ x2).setCell ⟨w.heap.size + 1, 3, none⟩ x3).setCell ⟨w.heap.size + 1, 4, none⟩ x4).cell? ⟨w.heap.size, 0, none⟩ = some (.slice q1 ss.length c1) ∧ (((((x.setCell ⟨w.heap.size + 1, 0, none⟩ x0).setCell ⟨w.heap.size + 1, 1, none⟩ x1).setCell ⟨w.heap.size + 1, 2, none⟩ x2).setCell ⟨w.heap.size + 1, 3, none⟩ x3).setCell ⟨w.heap.size + 1, 4, none⟩ x4).cell? ⟨w.heap.size, 1, none⟩ = some (.slice q2 ps.length c2)) := fun x x0 x1 x2 x3 x4 hb => by
    have h := HXy.out x hb
    simpa [World.cell?, World.setCell, Array.getElem?_modify] using h
  have HFin : Hid (∀ (y : World) (p1 : Option Addr) (d1 : Nat) (p2 : Option Addr) (d2 : Nat) (x0 x1 x2 x3 x4 : Value), DskO W2.heap.size RS RP (.slice p1 RS.length d1) (.slice p2 RP.length d2) y → Below y1.heap.size y1 y → ∃ v1 v2, Ending.returned (.agg #[.slice p1 RS.length d1, .slice p2 RP.length d2, .string ByteArray.empty, .int .i64 0, .int .i64 C]) = .returned (.agg #[v1, v2, .string ByteArray.empty, .int .i64 0, .int .i64 (puC ss ps t k)]) ∧ DskO w.heap.size (puS ss ps t k) (puP ss ps t k) v1 v2 (((((y.setCell ⟨w.heap.size + 1, 0, none⟩ x0).setCell ⟨w.heap.size + 1, 1, none⟩ x1).setCell ⟨w.heap.size + 1, 2, none⟩ x2).setCell ⟨w.heap.size + 1, 3, none⟩ x3).setCell ⟨w.heap.size + 1, 4, none⟩ x4) ∧ Below w.heap.size w (((((y.setCell ⟨w.heap.size + 1, 0, none⟩ x0).setCell ⟨w.heap.size + 1, 1, none⟩ x1).setCell ⟨w.heap.size + 1, 2, none⟩ x2).setCell ⟨w.heap.size + 1, 3, none⟩ x3).setCell ⟨w.heap.size + 1, 4, none⟩ x4)) := by
    intro y p1 d1 p2 d2 x0 x1 x2 x3 x4 ho hb
    have hz2 := HSz.out
    rw [HV.out.1, HV.out.2.1, HV.out.2.2]
    exact ⟨_, _, rfl, (ho.set5 (by omega) x0 x1 x2 x3 x4).mono (by omega), below_set5 (chainB B2.out (chainB HB1.out hb)) (by omega) _ _ _ _ _⟩
  have HDr : Hid (Below y1.heap.size y1 y1.drew) := (Below.refl _ _).drew
  clear hok hno hz hSL hst b1 HEr HR HX HCo HAr hLe
  have hcI : (L.length : Int) ≤ (c : Int) := by omega
  by_cases hk0 : k < 0
  · have hlen : (L.take k.toNat).length = 0 := by rw [List.length_take]; omega
    have hA := fun x (hb : Below y1.heap.size y1 x) => allDoneTo_any q1 c1 ss q2 c2 ps p c (L.take k.toNat) x ((T1.out.below HB1.out).below hb) ((T2.out.below HB1.out).below hb) ((HSt.out.below hb).take _) HRt.out m1 m2 (by have := hlen; have := hpc; omega) (by have := hlen; have := hL3; omega) HTx.out
    rw [hlen] at hA
    have QA : Hid (∀ x, Below y1.heap.size y1 x → Calls Tryz.prog 30 #[.agg #[.slice q1 ss.length c1, .slice q2 ps.length c2], .slice p 0 c] x fun e x1 => ∃ p1 d1 p2 d2, e = .returned (.agg #[.slice p1 RS.length d1, .slice p2 RP.length d2, .string ByteArray.empty, .int .i64 0, .int .i64 C]) ∧ DskO W2.heap.size RS RP (.slice p1 RS.length d1) (.slice p2 RP.length d2) x1 ∧ Below y1.heap.size y1 x1) := fun x hb => by
      have h := hA x hb
      rw [← hRSd, ← hRPd, ← hCd] at h
      refine h.mono ?_
      rintro e x1 ⟨v1, v2, rfl, ho, hb1⟩
      obtain ⟨p1, d1, rfl, -, -⟩ := ownS_form ho.own1
      obtain ⟨p2, d2, rfl, -, -⟩ := ownP_form ho.own2
      exact ⟨p1, d1, p2, d2, rfl, ho.mono (Nat.le_trans HB1.out.size hb.size), chainB hb hb1⟩
    clear hA hlen hCd hRSd hRPd hL3
    go_upto_region 7 with fail
    go_region_held3 (fun w' => w'.cell? ⟨w.heap.size, 0, none⟩ = some (.slice q1 ss.length c1) ∧ w'.cell? ⟨w.heap.size, 1, none⟩ = some (.slice q2 ps.length c2)) ((first | with_reducible exact HX5.out _ _ _ _ _ _ z1 | exact HXy.out _ z1 | exact HXy.out _ HDr.out)) (first
      | (go_at_call 30; with_reducible refine (QA.out _ HDr.out).mono ?_; rintro e xa ⟨p1, d1, p2, d2, rfl, ho, z1⟩; obtain ⟨r0, r1, r2, r3, r4, f0, f1, f2, f3, f4⟩ := HRy.out _ z1))
    all_goals
      have HVV : Hid _ := fun x0 x1 x2 x3 x4 => HFin.out xa p1 d1 p2 d2 x0 x1 x2 x3 x4 ho z1
      clear HFin HRy HXy HX5 QA ho
      go_wp2_with fail
      refine bodyPost_ret (v := .agg #[.slice p1 RS.length d1, .slice p2 RP.length d2, .string ByteArray.empty, .int .i64 0, .int .i64 C]) (by simp [results, Tryz.results9, go_sem, r0, r1, r2, r3, r4]; first | done | rfl) rfl ?_
      exact HVV.out _ _ _ _ _
  by_cases hkL : k ≤ (L.length : Int)
  · obtain ⟨K, rfl⟩ := Int.eq_ofNat_of_zero_le (show 0 ≤ k by omega)
    have hKL : K ≤ L.length := by omega
    have hKc : K ≤ c := by omega
    have hn1 : ¬ L.length < K := by omega
    have hn2 : ¬ ((L.length : Int) < (K : Int)) := by omega
    have hlen : (L.take (K : Int).toNat).length = K := by rw [List.length_take]; omega
    have hA := fun x (hb : Below y1.heap.size y1 x) => allDoneTo_any q1 c1 ss q2 c2 ps p c (L.take (K : Int).toNat) x ((T1.out.below HB1.out).below hb) ((T2.out.below HB1.out).below hb) ((HSt.out.below hb).take _) HRt.out m1 m2 (by have := hlen; have := hpc; omega) (by have := hlen; have := hL3; omega) HTx.out
    rw [hlen] at hA
    have QA : Hid (∀ x, Below y1.heap.size y1 x → Calls Tryz.prog 30 #[.agg #[.slice q1 ss.length c1, .slice q2 ps.length c2], .slice p K c] x fun e x1 => ∃ p1 d1 p2 d2, e = .returned (.agg #[.slice p1 RS.length d1, .slice p2 RP.length d2, .string ByteArray.empty, .int .i64 0, .int .i64 C]) ∧ DskO W2.heap.size RS RP (.slice p1 RS.length d1) (.slice p2 RP.length d2) x1 ∧ Below y1.heap.size y1 x1) := fun x hb => by
      have h := hA x hb
      rw [← hRSd, ← hRPd, ← hCd] at h
      refine h.mono ?_
      rintro e x1 ⟨v1, v2, rfl, ho, hb1⟩
      obtain ⟨p1, d1, rfl, -, -⟩ := ownS_form ho.own1
      obtain ⟨p2, d2, rfl, -, -⟩ := ownP_form ho.own2
      exact ⟨p1, d1, p2, d2, rfl, ho.mono (Nat.le_trans HB1.out.size hb.size), chainB hb hb1⟩
    clear hA hlen hCd hRSd hRPd hL3
    go_upto_region 7 with fail
    go_region_held3 (fun w' => w'.cell? ⟨w.heap.size, 0, none⟩ = some (.slice q1 ss.length c1) ∧ w'.cell? ⟨w.heap.size, 1, none⟩ = some (.slice q2 ps.length c2)) ((first | with_reducible exact HX5.out _ _ _ _ _ _ z1 | exact HXy.out _ z1 | exact HXy.out _ HDr.out)) (first
      | (go_at_call 30; with_reducible refine (QA.out _ HDr.out).mono ?_; rintro e xa ⟨p1, d1, p2, d2, rfl, ho, z1⟩; obtain ⟨r0, r1, r2, r3, r4, f0, f1, f2, f3, f4⟩ := HRy.out _ z1))
    all_goals
      have HVV : Hid _ := fun x0 x1 x2 x3 x4 => HFin.out xa p1 d1 p2 d2 x0 x1 x2 x3 x4 ho z1
      clear HFin HRy HXy HX5 QA ho
      go_wp2_with fail
      refine bodyPost_ret (v := .agg #[.slice p1 RS.length d1, .slice p2 RP.length d2, .string ByteArray.empty, .int .i64 0, .int .i64 C]) (by simp [results, Tryz.results9, go_sem, r0, r1, r2, r3, r4]; first | done | rfl) rfl ?_
      exact HVV.out _ _ _ _ _
  · have hn2 : (L.length : Int) < k := by omega
    have hn3 : ¬ (0 > k) := by omega
    have hlen : (L.take k.toNat).length = L.length := by rw [List.length_take]; omega
    have hA := fun x (hb : Below y1.heap.size y1 x) => allDoneTo_any q1 c1 ss q2 c2 ps p c (L.take k.toNat) x ((T1.out.below HB1.out).below hb) ((T2.out.below HB1.out).below hb) ((HSt.out.below hb).take _) HRt.out m1 m2 (by have := hlen; have := hpc; omega) (by have := hlen; have := hL3; omega) HTx.out
    rw [hlen] at hA
    have QA : Hid (∀ x, Below y1.heap.size y1 x → Calls Tryz.prog 30 #[.agg #[.slice q1 ss.length c1, .slice q2 ps.length c2], .slice p L.length c] x fun e x1 => ∃ p1 d1 p2 d2, e = .returned (.agg #[.slice p1 RS.length d1, .slice p2 RP.length d2, .string ByteArray.empty, .int .i64 0, .int .i64 C]) ∧ DskO W2.heap.size RS RP (.slice p1 RS.length d1) (.slice p2 RP.length d2) x1 ∧ Below y1.heap.size y1 x1) := fun x hb => by
      have h := hA x hb
      rw [← hRSd, ← hRPd, ← hCd] at h
      refine h.mono ?_
      rintro e x1 ⟨v1, v2, rfl, ho, hb1⟩
      obtain ⟨p1, d1, rfl, -, -⟩ := ownS_form ho.own1
      obtain ⟨p2, d2, rfl, -, -⟩ := ownP_form ho.own2
      exact ⟨p1, d1, p2, d2, rfl, ho.mono (Nat.le_trans HB1.out.size hb.size), chainB hb hb1⟩
    clear hA hlen hCd hRSd hRPd hL3
    go_upto_region 7 with fail
    go_region_held3 (fun w' => w'.cell? ⟨w.heap.size, 0, none⟩ = some (.slice q1 ss.length c1) ∧ w'.cell? ⟨w.heap.size, 1, none⟩ = some (.slice q2 ps.length c2)) ((first | with_reducible exact HX5.out _ _ _ _ _ _ z1 | exact HXy.out _ z1 | exact HXy.out _ HDr.out)) (first
      | (go_at_call 30; with_reducible refine (QA.out _ HDr.out).mono ?_; rintro e xa ⟨p1, d1, p2, d2, rfl, ho, z1⟩; obtain ⟨r0, r1, r2, r3, r4, f0, f1, f2, f3, f4⟩ := HRy.out _ z1))
    all_goals
      have HVV : Hid _ := fun x0 x1 x2 x3 x4 => HFin.out xa p1 d1 p2 d2 x0 x1 x2 x3 x4 ho z1
      clear HFin HRy HXy HX5 QA ho
      go_wp2_with fail
      refine bodyPost_ret (v := .agg #[.slice p1 RS.length d1, .slice p2 RP.length d2, .string ByteArray.empty, .int .i64 0, .int .i64 C]) (by simp [results, Tryz.results9, go_sem, r0, r1, r2, r3, r4]; first | done | rfl) rfl ?_
      exact HVV.out _ _ _ _ _
end Go.Proofs.YtkhffoailfnepabGreatDoor
