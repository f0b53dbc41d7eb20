/-
  What the program's readArea answers: the head and the text that are there, or why not.
  Conditions: the cells of Sectors and Pending hold the texts and the pendings; the sentinels are laid.
-/
import Derived.Test.YtnppgldafhpchaaDoorRows
import Derived.Test.YtnppgldafhpchaaDoorBytes
import Derived.Test.YtnppgldafhpchaaDoorSlASlBOwnS
import Derived.Test.YtnppgldafhpchaaDoorDskMath
import Derived.Test.YtnppgldafhpchaaDoorDskMap
import Derived.Test.YtnppgldafhpchaaDoorDskA
import Derived.Test.YtnppgldafhpchaaDoorLawD
import Derived.Test.YtnppgldafhpchaaDoorAreaMath
import Derived.Test.YtnppgldafhpchaaDoorImplAA
import Derived.Test.YtnppgldafhpchaaDoorImplDR
import Derived.Test.YtnppgldafhpchaaDoorImplDO
import Derived.Test.YtnppgldafhpchaaDoorCopiedImplDFErrI3
import Derived.Test.YtnppgldafhpchaaDoorSen3PutMath
import Derived.Test.YtnppgldafhpchaaDoorImplHO3
import Derived.Test.YtnppgldafhpchaaDoorImplRH3
import Derived.Test.YtnppgldafhpchaaDoorImplSd3
import Derived.Handy
import Derived.WalkSpells
import Derived.OwnWalk
import Derived.BigQuiet
namespace Go.Proofs.YtnppgldafhpchaaDoor
open Go.RowKit Go.Lib
set_option linter.unusedVariables false
set_option maxRecDepth 20000

theorem hdI_iff {R : ByteArray} (room : Nat) (hu : unC R = 0) : (HdI (unT R) ∧ (hd3 (unT R)).1 ≤ (room : Int)) ↔ HdOk R room := by
  rw [hdOk_iff room hu]
  unfold HdI
  constructor
  · rintro ⟨⟨⟨a1, a2⟩, ⟨b1, b2⟩, ⟨c1, c2⟩, d, e⟩, z⟩
    exact ⟨a1, b1, c1, d, a2, ⟨b2, by omega⟩, c2, z⟩
  · rintro ⟨a1, b1, c1, d, a2, ⟨b2, e⟩, c2, z⟩
    exact ⟨⟨⟨a1, a2⟩, ⟨b1, b2⟩, ⟨c1, c2⟩, d, by omega⟩, z⟩
theorem rhV_ok {R : ByteArray} {room : Nat} (h : seC R room = 0) (a2 : Addr) : rhV R room a2 = .tuple #[.agg #[.int .i64 (seG R room : Nat), .int .i64 (seS R room : Nat), .int .i64 (seZ R room : Nat)], .nilIface] := by
  have hs := h
  unfold seC at h
  by_cases hu : unC R = 0
  · rw [if_pos hu] at h
    by_cases hk : HdOk R room
    · have hi := (hdI_iff room hu).2 hk
      unfold rhV
      rw [if_pos hu, if_pos hi]
      obtain ⟨⟨⟨-, g0⟩, ⟨-, s0⟩, ⟨-, z0⟩, -⟩, -⟩ := hi
      unfold seG seS seZ
      rw [if_pos hs, if_pos hs, if_pos hs, Int.toNat_of_nonneg g0, Int.toNat_of_nonneg s0, Int.toNat_of_nonneg z0]
    · rw [if_neg hk] at h; exact absurd h (by decide)
  · rw [if_neg hu] at h; exact absurd h hu
theorem rhV_no {R : ByteArray} {room : Nat} (h : ¬ seC R room = 0) (a1 a2 a3 a4 : Addr) : ∃ v, rhV R room a2 = .tuple #[.agg #[.int .i64 0, .int .i64 0, .int .i64 0], v] ∧ ErrIs a1 a2 a3 a4 v (seC R room) := by
  unfold seC at h ⊢
  unfold rhV
  by_cases hu : unC R = 0
  · rw [if_pos hu] at h ⊢
    by_cases hk : HdOk R room
    · rw [if_pos hk] at h; exact absurd rfl h
    · rw [if_neg hk, if_pos hu, if_neg (fun hi => hk ((hdI_iff room hu).1 hi))]
      exact ⟨_, rfl, .inr (.inl ⟨rfl, rfl⟩)⟩
  · rw [if_neg hu, if_neg hu]
    exact ⟨_, rfl, .inr (.inr (.inr (.inr rfl)))⟩
set_option maxHeartbeats 4000000 in
theorem readArea_any (q1 : Option Addr) (c1 : Nat) (ss : List ByteArray) (q2 : Option Addr) (c2 : Nat) (ps : List Pnd) (a1 a2 a3 a4 : Addr) (w : World) (h1 : TxtAt w q1 ss) (h2 : PndAt w q2 ps) (n1 : ss.length ≤ 1048576) (n2 : ps.length ≤ 1048576) (m1 : ss.length ≤ c1) (m2 : ps.length ≤ c2) (hS : Sents a1 a2 a3 a4 w) :
    Calls Tryd.prog 29 #[.agg #[.slice q1 ss.length c1, .slice q2 ps.length c2]] w fun e w' => RaP ss ps a1 a2 a3 a4 e ∧ Below w.heap.size w w' := by
  obtain ⟨W2, hW2⟩ : ∃ W2, W2 = (w.alloc (.cells #[.slice q1 ss.length c1, .slice q2 ps.length c2] 30)).alloc (.cells #[.int .i64 0, .int .i64 0, .int .i64 0] 68) := ⟨_, rfl⟩
  have HW2 : Hid (W2 = (w.alloc (.cells #[.slice q1 ss.length c1, .slice q2 ps.length c2] 30)).alloc (.cells #[.int .i64 0, .int .i64 0, .int .i64 0] 68)) := hW2
  have hs1 : (w.alloc (.cells #[.slice q1 ss.length c1, .slice q2 ps.length c2] 30)).heap.size = w.heap.size + 1 := by simp
  have S2 : W2.heap.size = w.heap.size + 2 := by rw [hW2]; simp
  have R0 : Bxs W2 w.heap.size 30 #[.slice q1 ss.length c1, .slice q2 ps.length c2] := by rw [hW2]; exact (Bxs.new _ _ _).alloc _
  have R1 : Bxs W2 (w.heap.size + 1) 68 #[.int .i64 0, .int .i64 0, .int .i64 0] := by rw [hW2, ← hs1]; exact Bxs.new _ _ _
  have B2 : Hid (Below w.heap.size w W2) := by rw [hW2]; exact ((Below.refl _ _).alloc (Nat.le_refl _) _).alloc (by rw [hs1]; omega) _
  have T1 : Hid (TxtAt W2 q1 ss) := h1.below B2.out
  have T2 : Hid (PndAt W2 q2 ps) := h2.below B2.out
  have HS2 : Hid (Sents a1 a2 a3 a4 W2) := hS.below B2.out
  have HX : Hid (∀ x, Below W2.heap.size W2 x → x.cell? ⟨w.heap.size, 0, none⟩ = some (.slice q1 ss.length c1) ∧ x.cell? ⟨w.heap.size, 1, none⟩ = some (.slice q2 ps.length c2)) := fun x hb => ⟨(R0.below hb).cell 0, (R0.below hb).cell 1⟩
  have HR : Hid (∀ x, Below W2.heap.size W2 x → x.cell? ⟨w.heap.size + 1, 0, none⟩ = some (.int .i64 0) ∧ x.cell? ⟨w.heap.size + 1, 1, none⟩ = some (.int .i64 0) ∧ x.cell? ⟨w.heap.size + 1, 2, none⟩ = some (.int .i64 0) ∧ x.frozen? ⟨w.heap.size + 1, 0, none⟩ = false ∧ x.frozen? ⟨w.heap.size + 1, 1, none⟩ = false ∧ x.frozen? ⟨w.heap.size + 1, 2, none⟩ = false) := fun x hb => by
    have k := R1.below hb
    exact ⟨k.cell 0, k.cell 1, k.cell 2, k.fr 0, k.fr 1, k.fr 2⟩
  have HE3 : Hid (∀ (y : World) (x0 x1 x2 : Value), Below W2.heap.size W2 y → Below w.heap.size w (((y.setCell ⟨w.heap.size + 1, 0, none⟩ x0).setCell ⟨w.heap.size + 1, 1, none⟩ x1).setCell ⟨w.heap.size + 1, 2, none⟩ x2)) := fun y x0 x1 x2 hb => below_set3 (chainB B2.out hb) (by omega) _ _ _
  have HLt : Hid (0 < w.heap.size) := World.block_lt_of_cell? w _ hS.c1
  have HSe : Hid (∀ x, Below W2.heap.size W2 x → x.cell? ⟨0, 0, none⟩ = some (.iface 107 (.pointer (some a1)))) := fun x hb => (HS2.out.below hb).c1
  have hDR := implDiskRight_any q1 c1 ss q2 c2 ps W2 T1.out T2.out n1 n2 m1 m2
  obtain ⟨t0, t1⟩ := HX.out W2 (Below.refl _ _)
  rw [HW2.out] at t0 t1
  by_cases hr : ¬ dskB ss ps = true
  · have hrf : dskB ss ps = false := by simpa using hr
    rw [hrf] at hDR
    have HV : Hid (RaP ss ps a1 a2 a3 a4 (.returned (.tuple #[.agg #[.int .i64 0, .int .i64 0, .int .i64 0], .string ByteArray.empty, .iface 107 (.pointer (some a1))]))) := by
      have hc : arC ss ps = 1 := if_neg hr
      exact ⟨0, 0, 0, ByteArray.empty, _, rfl, fun h => by rw [hc] at h; exact absurd h (by decide), fun _ => by rw [hc]; exact .inl ⟨rfl, rfl⟩⟩
    clear hW2 R0 R1 h1 h2 hs1 S2 hr hrf hS T1 T2 HS2
    go_enter Tryd.func29, Tryd.ntmps29
    go_wp2_with fail
    rw [← HW2.out]
    refine hDR.mono ?_
    rintro e y1 ⟨rfl, b1⟩
    clear t0 t1 hDR
    have HG : Hid (y1.drew.cell? ⟨0, 0, none⟩ = some (.iface 107 (.pointer (some a1)))) := HSe.out _ b1.drew
    have hgne : w.heap.size + 1 ≠ 0 := by have h1 := HLt.out; omega
    have HG3 : Hid (∀ x0 x1 x2 : Value, (((y1.drew.setCell ⟨w.heap.size + 1, 0, none⟩ x0).setCell ⟨w.heap.size + 1, 1, none⟩ x1).setCell ⟨w.heap.size + 1, 2, none⟩ x2).cell? ⟨0, 0, none⟩ = some (.iface 107 (.pointer (some a1)))) := fun x0 x1 x2 => by
      rw [cell_off3 hgne]; exact HG.out
    have HED : Hid (∀ x0 x1 x2 : Value, Below w.heap.size w (((y1.drew.setCell ⟨w.heap.size + 1, 0, none⟩ x0).setCell ⟨w.heap.size + 1, 1, none⟩ x1).setCell ⟨w.heap.size + 1, 2, none⟩ x2)) := fun x0 x1 x2 => HE3.out _ x0 x1 x2 b1.drew
    obtain ⟨r0, r1, r2, f0, f1, f2⟩ := HR.out _ b1
    clear hgne b1 HR HX HSe HE3
    go_wp2_with fail
    go_region_held3 (fun w' => w'.cell? ⟨0, 0, none⟩ = some (.iface 107 (.pointer (some a1)))) ((first | exact HG.out | exact HG3.out _ _ _)) (fail)
    all_goals
      go_wp2_with fail
      refine bodyPost_ret (v := .tuple #[.agg #[.int .i64 0, .int .i64 0, .int .i64 0], .string ByteArray.empty, .iface 107 (.pointer (some a1))]) (by simp [results, Tryd.results29, go_sem, r0, r1, r2]; first | done | rfl) rfl ?_
      exact ⟨HV.out, HED.out _ _ _⟩
  have hr : dskB ss ps = true := Decidable.byContradiction hr
  rw [hr] at hDR
  obtain ⟨⟨p1, p2⟩, p3, p4, p5⟩ := dskB_parts hr
  have HOp : Hid (∀ x, Below W2.heap.size W2 x → Calls Tryd.prog 31 #[.slice q1 ss.length c1, .slice q2 ps.length c2] x fun e x1 => ∃ b D, e = .returned (.agg #[.slice q1 ss.length c1, .map (some b)]) ∧ Opn q1 ss b ps.length D ps x1 ∧ Below x.heap.size x x1) := fun x hb => (openDisk_any q1 ss.length c1 q2 c2 ps ss.length x (T2.out.below hb) n2 m2 n1 p5).mono (by
    rintro e x1 ⟨b, D, rfl, -, ho, hm, hb1⟩
    exact ⟨b, D, rfl, ⟨(T1.out.below hb).below hb1, ho, hm⟩, hb1⟩)
  have HRh : Hid (∀ x b D, Below W2.heap.size W2 x → Opn q1 ss b ps.length D ps x → Calls Tryd.prog 39 #[.agg #[.slice q1 ss.length c1, .slice q2 ps.length c2], .func (.func 32) #[.agg #[.slice q1 ss.length c1, .map (some b)]] #[]] x fun e w' => e = .returned (rhV (readB ss ps 0) (roomN ss) a2) ∧ Below x.heap.size x w') := fun x b D hb ho => readHead_any q1 c1 ss q2 c2 ps b ps.length D a1 a2 a3 a4 x ho (HS2.out.below hb) hr m1
  by_cases hsc : ¬ seC (readB ss ps 0) (roomN ss) = 0
  · obtain ⟨v, hv, hei⟩ := rhV_no hsc a1 a2 a3 a4
    rw [hv] at HRh
    obtain ⟨ty, pp, rfl⟩ := hei.iface
    have HV : Hid (RaP ss ps a1 a2 a3 a4 (.returned (.tuple #[.agg #[.int .i64 0, .int .i64 0, .int .i64 0], .string ByteArray.empty, .iface ty pp]))) := by
      have hc : arC ss ps = seC (readB ss ps 0) (roomN ss) := by unfold arC; rw [if_pos hr, if_neg hsc]
      exact ⟨0, 0, 0, ByteArray.empty, _, rfl, fun h => absurd (hc ▸ h) hsc, fun _ => by rw [hc]; exact hei⟩
    clear hW2 R0 R1 h1 h2 hs1 S2 hr hS T1 T2 HS2 hsc hv hei p1 p2 p3 p4 p5
    go_enter Tryd.func29, Tryd.ntmps29
    go_wp2_with fail
    rw [← HW2.out]
    refine hDR.mono ?_
    rintro e y1 ⟨rfl, b1⟩
    clear t0 t1 hDR
    obtain ⟨t0, t1⟩ := HX.out y1 b1
    have HB1 : Hid (Below W2.heap.size W2 y1) := b1
    clear b1
    go_wp2_with fail
    refine (HOp.out y1 HB1.out).mono ?_
    rintro e y2 ⟨b, D, rfl, ho, b2⟩
    have b2 := chainB HB1.out b2
    have hrh := HRh.out y2 b D b2 ho
    clear t0 t1
    obtain ⟨t0, t1⟩ := HX.out y2 b2
    have HB2 : Hid (Below W2.heap.size W2 y2) := b2
    clear b2 ho
    go_wp2_with fail
    refine hrh.mono ?_
    rintro e y3 ⟨rfl, b3⟩
    have b3 := chainB HB2.out b3
    obtain ⟨W4, hW4⟩ : ∃ W4, W4 = y3.alloc (.cells #[.int .i64 0, .int .i64 0, .int .i64 0] 68) := ⟨_, rfl⟩
    have b4 : Below W2.heap.size W2 W4 := by rw [hW4]; exact alB b3 _
    obtain ⟨r0, r1, r2, f0, f1, f2⟩ := HR.out _ b4
    have HED : Hid (∀ x0 x1 x2 : Value, Below w.heap.size w (((W4.setCell ⟨w.heap.size + 1, 0, none⟩ x0).setCell ⟨w.heap.size + 1, 1, none⟩ x1).setCell ⟨w.heap.size + 1, 2, none⟩ x2)) := fun x0 x1 x2 => HE3.out _ x0 x1 x2 b4
    rw [hW4] at r0 r1 r2 f0 f1 f2 HED
    clear t0 t1 hrh b3 b4 HR HX HE3 HSe hW4 HOp HRh
    go_wp2_with fail
    refine bodyPost_ret (v := .tuple #[.agg #[.int .i64 0, .int .i64 0, .int .i64 0], .string ByteArray.empty, .iface ty pp]) (by simp [results, Tryd.results29, go_sem, r0, r1, r2]; first | done | rfl) rfl ?_
    exact ⟨HV.out, HED.out _ _ _⟩
  have hsc : seC (readB ss ps 0) (roomN ss) = 0 := Decidable.byContradiction hsc
  rw [rhV_ok hsc] at HRh
  obtain ⟨-, -, hs1', hz1⟩ := seC_ok hsc
  obtain ⟨G, hG⟩ : ∃ G, G = seG (readB ss ps 0) (roomN ss) := ⟨_, rfl⟩
  obtain ⟨SD, hSD⟩ : ∃ SD, SD = seS (readB ss ps 0) (roomN ss) := ⟨_, rfl⟩
  obtain ⟨Z, hZ⟩ : ∃ Z, Z = seZ (readB ss ps 0) (roomN ss) := ⟨_, rfl⟩
  rw [← hG, ← hSD, ← hZ] at HRh
  rw [← hSD] at hs1'
  rw [← hZ] at hz1
  have HSt : Hid (∀ x b D, Below W2.heap.size W2 x → Opn q1 ss b ps.length D ps x → Calls Tryd.prog 40 #[.agg #[.slice q1 ss.length c1, .slice q2 ps.length c2], .agg #[.int .i64 (G : Int), .int .i64 (SD : Int), .int .i64 (Z : Int)], .func (.func 32) #[.agg #[.slice q1 ss.length c1, .map (some b)]] #[]] x fun e w' => e = .returned (sdV ss ps SD Z a3) ∧ Below x.heap.size x w') := fun x b D hb ho => sideText_any q1 c1 ss q2 c2 ps b ps.length D G SD Z a1 a2 a3 a4 x ho (HS2.out.below hb) hr m1 hs1' hz1
  by_cases hok : sideOk (arRd ss ps SD) Z (needN Z) = true
  · have hv : sdV ss ps SD Z a3 = .tuple #[.string (sideB (arRd ss ps SD) Z (needN Z)), .nilIface] := if_pos hok
    rw [hv] at HSt
    have HV : Hid (RaP ss ps a1 a2 a3 a4 (.returned (.tuple #[.agg #[.int .i64 (G : Int), .int .i64 (SD : Int), .int .i64 (Z : Int)], .string (sideB (arRd ss ps SD) Z (needN Z)), .nilIface]))) := by
      have hc : arC ss ps = 0 := arC_of hr hsc (by rw [← hSD, ← hZ]; exact hok)
      refine ⟨G, SD, Z, _, _, rfl, fun _ => ⟨?_, hSD, ?_, rfl⟩, fun h => absurd hc h⟩
      · rw [hG]; unfold arG; rw [if_pos hc]
      · unfold arT; rw [if_pos hc, ← hSD, ← hZ]
    obtain ⟨T, hT⟩ : ∃ T, T = sideB (arRd ss ps SD) Z (needN Z) := ⟨_, rfl⟩
    rw [← hT] at HSt HV
    clear hW2 R0 R1 h1 h2 hs1 S2 hr hS T1 T2 HS2 hsc hv p1 p2 p3 p4 p5 hok hT hG hSD hZ hs1' hz1
    go_enter Tryd.func29, Tryd.ntmps29
    go_wp2_with fail
    rw [← HW2.out]
    refine hDR.mono ?_
    rintro e y1 ⟨rfl, b1⟩
    clear t0 t1 hDR
    obtain ⟨t0, t1⟩ := HX.out y1 b1
    have HB1 : Hid (Below W2.heap.size W2 y1) := b1
    clear b1
    go_wp2_with fail
    refine (HOp.out y1 HB1.out).mono ?_
    rintro e y2 ⟨b, D, rfl, ho, b2⟩
    have b2 := chainB HB1.out b2
    have hrh := HRh.out y2 b D b2 ho
    clear t0 t1
    obtain ⟨t0, t1⟩ := HX.out y2 b2
    have HB2 : Hid (Below W2.heap.size W2 y2) := b2
    have HO2 : Hid (Opn q1 ss b ps.length D ps y2) := ho
    clear b2 ho
    go_wp2_with fail
    refine hrh.mono ?_
    rintro e y3 ⟨rfl, b3⟩
    obtain ⟨W4, hW4⟩ : ∃ W4, W4 = y3.alloc (.cells #[.int .i64 (G : Int), .int .i64 (SD : Int), .int .i64 (Z : Int)] 68) := ⟨_, rfl⟩
    have HW4 : Hid (W4 = y3.alloc (.cells #[.int .i64 (G : Int), .int .i64 (SD : Int), .int .i64 (Z : Int)] 68)) := hW4
    have b34 : Below y2.heap.size y2 W4 := by rw [hW4]; exact alB b3 _
    have b4 := chainB HB2.out b34
    have K4 : Bxs W4 y3.heap.size 68 #[.int .i64 (G : Int), .int .i64 (SD : Int), .int .i64 (Z : Int)] := by rw [hW4]; exact Bxs.new _ _ _
    have HK4 : Hid (Bxs W4 y3.heap.size 68 #[.int .i64 (G : Int), .int .i64 (SD : Int), .int .i64 (Z : Int)]) := K4
    have hst := HSt.out W4 b D b4 (HO2.out.below b34)
    clear t0 t1 hrh
    obtain ⟨t0, t1⟩ := HX.out W4 b4
    have k0 := K4.cell 0
    have k1 := K4.cell 1
    have k2 := K4.cell 2
    have HB4 : Hid (Below W2.heap.size W2 W4) := b4
    rw [hW4] at t0 t1 k0 k1 k2
    clear b3 b34 b4 K4 hW4
    go_wp2_with fail
    rw [← HW4.out]
    refine hst.mono ?_
    rintro e y5 ⟨rfl, b5⟩
    clear t0 t1 k0 k1 k2 hst
    have k0 := (HK4.out.below b5).cell 0
    have k1 := (HK4.out.below b5).cell 1
    have k2 := (HK4.out.below b5).cell 2
    have b5 := chainB HB4.out b5
    obtain ⟨r0, r1, r2, f0, f1, f2⟩ := HR.out _ b5
    have HED : Hid (∀ x0 x1 x2 : Value, Below w.heap.size w (((y5.setCell ⟨w.heap.size + 1, 0, none⟩ x0).setCell ⟨w.heap.size + 1, 1, none⟩ x1).setCell ⟨w.heap.size + 1, 2, none⟩ x2)) := fun x0 x1 x2 => HE3.out _ x0 x1 x2 b5
    clear b5 HR HX HE3 HSe HOp HRh HSt
    go_wp2_with fail
    refine bodyPost_ret (v := .tuple #[.agg #[.int .i64 (G : Int), .int .i64 (SD : Int), .int .i64 (Z : Int)], .string T, .nilIface]) (by simp [results, Tryd.results29, go_sem, r0, r1, r2]; first | done | rfl) rfl ?_
    exact ⟨HV.out, HED.out _ _ _⟩
  · have hv : sdV ss ps SD Z a3 = .tuple #[.string ByteArray.empty, .iface 107 (.pointer (some a3))] := if_neg hok
    rw [hv] at HSt
    have HV : Hid (RaP ss ps a1 a2 a3 a4 (.returned (.tuple #[.agg #[.int .i64 0, .int .i64 0, .int .i64 0], .string ByteArray.empty, .iface 107 (.pointer (some a3))]))) := by
      have hc : arC ss ps = 5 := by unfold arC; rw [if_pos hr, if_pos hsc, ← hSD, ← hZ, if_neg hok]
      exact ⟨0, 0, 0, ByteArray.empty, _, rfl, fun h => by rw [hc] at h; exact absurd h (by decide), fun _ => by rw [hc]; exact .inr (.inr (.inl ⟨rfl, rfl⟩))⟩
    clear hW2 R0 R1 h1 h2 hs1 S2 hr hS T1 T2 HS2 hsc hv p1 p2 p3 p4 p5 hok hG hSD hZ hs1' hz1
    go_enter Tryd.func29, Tryd.ntmps29
    go_wp2_with fail
    rw [← HW2.out]
    refine hDR.mono ?_
    rintro e y1 ⟨rfl, b1⟩
    clear t0 t1 hDR
    obtain ⟨t0, t1⟩ := HX.out y1 b1
    have HB1 : Hid (Below W2.heap.size W2 y1) := b1
    clear b1
    go_wp2_with fail
    refine (HOp.out y1 HB1.out).mono ?_
    rintro e y2 ⟨b, D, rfl, ho, b2⟩
    have b2 := chainB HB1.out b2
    have hrh := HRh.out y2 b D b2 ho
    clear t0 t1
    obtain ⟨t0, t1⟩ := HX.out y2 b2
    have HB2 : Hid (Below W2.heap.size W2 y2) := b2
    have HO2 : Hid (Opn q1 ss b ps.length D ps y2) := ho
    clear b2 ho
    go_wp2_with fail
    refine hrh.mono ?_
    rintro e y3 ⟨rfl, b3⟩
    obtain ⟨W4, hW4⟩ : ∃ W4, W4 = y3.alloc (.cells #[.int .i64 (G : Int), .int .i64 (SD : Int), .int .i64 (Z : Int)] 68) := ⟨_, rfl⟩
    have HW4 : Hid (W4 = y3.alloc (.cells #[.int .i64 (G : Int), .int .i64 (SD : Int), .int .i64 (Z : Int)] 68)) := hW4
    have b34 : Below y2.heap.size y2 W4 := by rw [hW4]; exact alB b3 _
    have b4 := chainB HB2.out b34
    have K4 : Bxs W4 y3.heap.size 68 #[.int .i64 (G : Int), .int .i64 (SD : Int), .int .i64 (Z : Int)] := by rw [hW4]; exact Bxs.new _ _ _
    have hst := HSt.out W4 b D b4 (HO2.out.below b34)
    clear t0 t1 hrh
    obtain ⟨t0, t1⟩ := HX.out W4 b4
    have k0 := K4.cell 0
    have k1 := K4.cell 1
    have k2 := K4.cell 2
    have HB4 : Hid (Below W2.heap.size W2 W4) := b4
    rw [hW4] at t0 t1 k0 k1 k2
    clear b3 b34 b4 K4 hW4
    go_wp2_with fail
    rw [← HW4.out]
    refine hst.mono ?_
    rintro e y5 ⟨rfl, b5⟩
    clear t0 t1 k0 k1 k2 hst
    have b5 := chainB HB4.out b5
    obtain ⟨r0, r1, r2, f0, f1, f2⟩ := HR.out _ b5
    have HED : Hid (∀ x0 x1 x2 : Value, Below w.heap.size w (((y5.setCell ⟨w.heap.size + 1, 0, none⟩ x0).setCell ⟨w.heap.size + 1, 1, none⟩ x1).setCell ⟨w.heap.size + 1, 2, none⟩ x2)) := fun x0 x1 x2 => HE3.out _ x0 x1 x2 b5
    clear b5 HR HX HE3 HSe HOp HRh HSt
    go_wp2_with fail
    refine bodyPost_ret (v := .tuple #[.agg #[.int .i64 0, .int .i64 0, .int .i64 0], .string ByteArray.empty, .iface 107 (.pointer (some a3))]) (by simp [results, Tryd.results29, go_sem, r0, r1, r2]; first | done | rfl) rfl ?_
    exact ⟨HV.out, HED.out _ _ _⟩
end Go.Proofs.YtnppgldafhpchaaDoor
