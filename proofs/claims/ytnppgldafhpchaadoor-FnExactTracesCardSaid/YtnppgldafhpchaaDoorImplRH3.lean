/-
  What the program's readHead answers: the head of a right disk, why not.
  Conditions: the cells of Sectors and Pending hold the texts and the pendings; the disk is right; 'read' is the disk's own, bound; the sentinels are laid.
-/
import Derived.Test.YtnppgldafhpchaaDoorRows
import Derived.Test.YtnppgldafhpchaaDoorBytes
import Derived.Test.YtnppgldafhpchaaDoorSlASlBOwnS
import Derived.Test.YtnppgldafhpchaaDoorDskMath
import Derived.Test.YtnppgldafhpchaaDoorDskMap
import Derived.Test.YtnppgldafhpchaaDoorDskA
import Derived.Test.YtnppgldafhpchaaDoorLawD
import Derived.Test.YtnppgldafhpchaaDoorSealUnsealI
import Derived.Test.YtnppgldafhpchaaDoorAreaMath
import Derived.Test.YtnppgldafhpchaaDoorAreaSeen
import Derived.Test.YtnppgldafhpchaaDoorImplAA
import Derived.Test.YtnppgldafhpchaaDoorImplDO
import Derived.Test.YtnppgldafhpchaaDoorCopiedImplDFErrI3
import Derived.Test.YtnppgldafhpchaaDoorSen3PutMath
import Derived.Test.YtnppgldafhpchaaDoorImplHO3
import Derived.Test.YtnppgldafhpchaaDoorImplHQ3
import Derived.Handy
import Derived.WalkSpells
import Derived.Deep.RegionHeld3
import Derived.Deep.RegionWith
namespace Go.Proofs.YtnppgldafhpchaaDoor
open Go.RowKit Go.Lib
set_option linter.unusedVariables false
set_option maxRecDepth 20000

/-- A disk opened for reading. -/
structure Opn (q1 : Option Addr) (ss : List ByteArray) (M n : Nat) (D : DataW Pnd) (ps : List Pnd) (x : World) : Prop where
  txt : TxtAt x q1 ss
  map : x.ownsMap Tryd.prog 2 pndElem M n D
  of : MapOf D ps
theorem Opn.below {q1 : Option Addr} {ss : List ByteArray} {M n : Nat} {D : DataW Pnd} {ps : List Pnd} {x x' : World} (h : Opn q1 ss M n D ps x) (hb : Below x.heap.size x x') : Opn q1 ss M n D ps x' := ⟨h.txt.below hb, h.map.kept (grown_below hb) (by simp), h.of⟩
theorem cell_off3 {y : World} {gb G : Nat} (h : gb ≠ G) (x0 x1 x2 : Value) : (((y.setCell ⟨gb, 0, none⟩ x0).setCell ⟨gb, 1, none⟩ x1).setCell ⟨gb, 2, none⟩ x2).cell? ⟨G, 0, none⟩ = y.cell? ⟨G, 0, none⟩ := by simp [World.cell?, World.setCell, Array.getElem?_modify, h]
/-- What readHead tells. -/
def rhV (R : ByteArray) (room : Nat) (a2 : Addr) : Value :=
  if unC R = 0 then (if HdI (unT R) ∧ (hd3 (unT R)).1 ≤ (room : Int) then .tuple #[.agg #[.int .i64 (hd1 (unT R)).1, .int .i64 (hd2 (unT R)).1, .int .i64 (hd3 (unT R)).1], .nilIface] else .tuple #[.agg #[.int .i64 0, .int .i64 0, .int .i64 0], .iface 107 (.pointer (some a2))]) else .tuple #[.agg #[.int .i64 0, .int .i64 0, .int .i64 0], errV (unC R)]
set_option maxHeartbeats 4000000 in
theorem readHead_any (q1 : Option Addr) (c1 : Nat) (ss : List ByteArray) (q2 : Option Addr) (c2 : Nat) (ps : List Pnd) (M n : Nat) (D : DataW Pnd) (a1 a2 a3 a4 : Addr) (w : World) (hO : Opn q1 ss M n D ps w) (hS : Sents a1 a2 a3 a4 w) (hr : dskB ss ps = true) (m1 : ss.length ≤ c1) :
    Calls Tryd.prog 39 #[.agg #[.slice q1 ss.length c1, .slice q2 ps.length c2], .func (.func 32) #[.agg #[.slice q1 ss.length c1, .map (some M)]] #[]] w fun e w' => e = .returned (rhV (readB ss ps 0) (64 * sideN ss.length) a2) ∧ Below w.heap.size w w' := by
  obtain ⟨W2, hW2⟩ : ∃ W2, W2 = (w.alloc (.cells #[.slice q1 ss.length c1, .slice q2 ps.length c2] 30)).alloc (.cells #[.int .i64 0, .int .i64 0, .int .i64 0] 68) := ⟨_, rfl⟩
  have HW2 : Hid (W2 = (w.alloc (.cells #[.slice q1 ss.length c1, .slice q2 ps.length c2] 30)).alloc (.cells #[.int .i64 0, .int .i64 0, .int .i64 0] 68)) := hW2
  have hs1 : (w.alloc (.cells #[.slice q1 ss.length c1, .slice q2 ps.length c2] 30)).heap.size = w.heap.size + 1 := by simp
  have S2 : W2.heap.size = w.heap.size + 2 := by rw [hW2]; simp
  have R0 : Bxs W2 w.heap.size 30 #[.slice q1 ss.length c1, .slice q2 ps.length c2] := by rw [hW2]; exact (Bxs.new _ _ _).alloc _
  have R1 : Bxs W2 (w.heap.size + 1) 68 #[.int .i64 0, .int .i64 0, .int .i64 0] := by rw [hW2, ← hs1]; exact Bxs.new _ _ _
  have B2 : Hid (Below w.heap.size w W2) := by rw [hW2]; exact ((Below.refl _ _).alloc (Nat.le_refl _) _).alloc (by rw [hs1]; omega) _
  have HO2 : Hid (Opn q1 ss M n D ps W2) := hO.below B2.out
  have HS2 : Hid (Sents a1 a2 a3 a4 W2) := hS.below B2.out
  have HX : Hid (∀ x, Below W2.heap.size W2 x → x.cell? ⟨w.heap.size, 0, none⟩ = some (.slice q1 ss.length c1) ∧ x.cell? ⟨w.heap.size, 1, none⟩ = some (.slice q2 ps.length c2)) := fun x hb => ⟨(R0.below hb).cell 0, (R0.below hb).cell 1⟩
  have HR : Hid (∀ x, Below W2.heap.size W2 x → x.cell? ⟨w.heap.size + 1, 0, none⟩ = some (.int .i64 0) ∧ x.cell? ⟨w.heap.size + 1, 1, none⟩ = some (.int .i64 0) ∧ x.cell? ⟨w.heap.size + 1, 2, none⟩ = some (.int .i64 0) ∧ x.frozen? ⟨w.heap.size + 1, 0, none⟩ = false ∧ x.frozen? ⟨w.heap.size + 1, 1, none⟩ = false ∧ x.frozen? ⟨w.heap.size + 1, 2, none⟩ = false) := fun x hb => by
    have k := R1.below hb
    exact ⟨k.cell 0, k.cell 1, k.cell 2, k.fr 0, k.fr 1, k.fr 2⟩
  have HE3 : Hid (∀ (y : World) (x0 x1 x2 : Value), Below W2.heap.size W2 y → Below w.heap.size w (((y.setCell ⟨w.heap.size + 1, 0, none⟩ x0).setCell ⟨w.heap.size + 1, 1, none⟩ x1).setCell ⟨w.heap.size + 1, 2, none⟩ x2)) := fun y x0 x1 x2 hb => below_set3 (chainB B2.out hb) (by omega) _ _ _
  obtain ⟨⟨p1, p2⟩, p3, p4, p5⟩ := dskB_parts hr
  have hRs := readB_small hr 0
  have hRd := read_any q1 c1 ss M n D ps 0 W2 HO2.out.txt m1 p2 HO2.out.map HO2.out.of (by omega) p4 p5
  have hRd : Calls Tryd.prog 32 #[.agg #[.slice q1 ss.length c1, .map (some M)], .int .i64 0] W2 fun e w' => e = .returned (.string (readB ss ps 0)) ∧ Below W2.heap.size W2 w' := hRd
  obtain ⟨R, hR⟩ : ∃ R, R = readB ss ps 0 := ⟨_, rfl⟩
  have hRs : R.size ≤ 64 := by rw [hR]; exact hRs
  rw [← hR] at hRd ⊢
  have hUn := fun x => implUnseal_any R x (by unfold maxLen; omega)
  rw [unsealB_eq] at hUn
  unfold textOut at hUn
  have HUn : Hid (∀ x, Calls Tryd.prog 48 #[.string R] x fun e w' => e = .returned (.agg #[.string (unT R), .int .i64 0, .int .i64 (unC R)]) ∧ Below x.heap.size x w') := hUn
  have hTs := unT_size R
  have HHo : Hid (∀ x, Below W2.heap.size W2 x → Calls Tryd.prog 49 #[.string (unT R)] x fun e w' => e = .returned (hoV (unT R) a2) ∧ Below x.heap.size x w') := fun x hb => headOf_any (unT R) a1 a2 a3 a4 x (HS2.out.below hb) (by omega)
  have HRm : Hid (∀ x, Calls Tryd.prog 50 #[.agg #[.slice q1 ss.length c1, .slice q2 ps.length c2]] x fun e w' => e = .returned (.int .i64 ((64 * sideN ss.length : Nat) : Int)) ∧ Below x.heap.size x w') := fun x => roomOf_any q1 ss.length c1 q2 ps.length c2 x p1 (by omega)
  have HLt : Hid (1 < w.heap.size) := World.block_lt_of_cell? w _ hS.c2
  have HSe : Hid (∀ x, Below W2.heap.size W2 x → x.cell? ⟨1, 0, none⟩ = some (.iface 107 (.pointer (some a2)))) := fun x hb => (HS2.out.below hb).c2
  obtain ⟨room, hrm⟩ : ∃ room, room = 64 * sideN ss.length := ⟨_, rfl⟩
  rw [← hrm] at HRm ⊢
  obtain ⟨U, hU⟩ : ∃ U, U = unC R := ⟨_, rfl⟩
  obtain ⟨T, hT⟩ : ∃ T, T = unT R := ⟨_, rfl⟩
  rw [← hU, ← hT] at HUn
  rw [← hT] at HHo
  have HSz : Hid (W2.heap.size = w.heap.size + 2) := S2
  have hV : rhV R room a2 = if U = 0 then (if HdI T ∧ (hd3 T).1 ≤ (room : Int) then .tuple #[.agg #[.int .i64 (hd1 T).1, .int .i64 (hd2 T).1, .int .i64 (hd3 T).1], .nilIface] else .tuple #[.agg #[.int .i64 0, .int .i64 0, .int .i64 0], .iface 107 (.pointer (some a2))]) else .tuple #[.agg #[.int .i64 0, .int .i64 0, .int .i64 0], errV U] := by rw [hU, hT]; rfl
  rw [hV]
  clear hW2 R0 R1 hs1 S2 hO hS hUn hTs hRs hR hrm hU hT hV p4 p5 hr
  by_cases hu : ¬ U = 0
  · have hb1 : (U == 0) = false := beq_eq_false_iff_ne.2 hu
    have hb2 : (U != 0) = true := bne_iff_ne.2 hu
    rw [if_neg hu]
    unfold errV
    clear hu
    go_enter Tryd.func39, Tryd.ntmps39
    go_wp2_with fail
    rw [← HW2.out]
    refine hRd.mono ?_
    rintro e y1 ⟨rfl, b1⟩
    go_wp2_with fail
    refine (HUn.out y1).mono ?_
    rintro e y2 ⟨rfl, b2⟩
    obtain ⟨W3, hW3⟩ : ∃ W3, W3 = y2.alloc (.cells #[.string T, .int .i64 0, .int .i64 U] 78) := ⟨_, rfl⟩
    have HW3 : Hid (W3 = y2.alloc (.cells #[.string T, .int .i64 0, .int .i64 U] 78)) := hW3
    have K3 : Bxs W3 y2.heap.size 78 #[.string T, .int .i64 0, .int .i64 U] := by rw [hW3]; exact Bxs.new _ _ _
    have b3 : Below W2.heap.size W2 W3 := by rw [hW3]; exact alB (chainB b1 b2) _
    have hne : w.heap.size + 1 ≠ y2.heap.size := by have := HSz.out; have := b1.size; have := b2.size; omega
    have HK : Hid (W3.drew.cell? ⟨y2.heap.size, 2, none⟩ = some (.int .i64 U)) := K3.cell 2
    have HK3 : Hid (∀ x0 x1 x2 : Value, (((W3.drew.setCell ⟨w.heap.size + 1, 0, none⟩ x0).setCell ⟨w.heap.size + 1, 1, none⟩ x1).setCell ⟨w.heap.size + 1, 2, none⟩ x2).cell? ⟨y2.heap.size, 2, none⟩ = some (.int .i64 U)) := fun x0 x1 x2 => by
      have h := HK.out
      simpa [World.cell?, World.setCell, Array.getElem?_modify, hne] using h
    obtain ⟨r0, r1, r2, f0, f1, f2⟩ := HR.out _ b3
    have HE : Hid (∀ x0 x1 x2 : Value, Below w.heap.size w (((W3.drew.setCell ⟨w.heap.size + 1, 0, none⟩ x0).setCell ⟨w.heap.size + 1, 1, none⟩ x1).setCell ⟨w.heap.size + 1, 2, none⟩ x2)) := fun x0 x1 x2 => HE3.out _ x0 x1 x2 b3.drew
    clear b1 b2 b3 HR HX HSe HHo HRm K3 hW3 hne
    go_wp2_with fail
    rw [← HW3.out]
    go_region_held3 (fun w' => w'.cell? ⟨y2.heap.size, 2, none⟩ = some (.int .i64 U)) ((first | exact HK.out | exact HK3.out _ _ _)) (fail)
    all_goals
      go_wp2_with fail
      refine bodyPost_ret (v := .tuple #[.agg #[.int .i64 0, .int .i64 0, .int .i64 0], .iface 95 (.agg #[.int .i64 U])]) (by simp [results, Tryd.results39, go_sem, r0, r1, r2]; first | done | rfl) rfl ?_
      exact ⟨rfl, HE.out _ _ _⟩
  have hu : U = 0 := Decidable.byContradiction hu
  subst hu
  rw [if_pos rfl]
  by_cases hk : ¬ HdI T
  · rw [if_neg (fun h => hk h.1)]
    have hv : hoV T a2 = .tuple #[.agg #[.int .i64 0, .int .i64 0, .int .i64 0], .iface 107 (.pointer (some a2))] := if_neg hk
    rw [hv] at HHo
    clear hk hv HSe HRm
    go_enter Tryd.func39, Tryd.ntmps39
    go_wp2_with fail
    rw [← HW2.out]
    refine hRd.mono ?_
    rintro e y1 ⟨rfl, b1⟩
    go_wp2_with fail
    refine (HUn.out y1).mono ?_
    rintro e y2 ⟨rfl, b2⟩
    obtain ⟨W3, hW3⟩ : ∃ W3, W3 = y2.alloc (.cells #[.string T, .int .i64 0, .int .i64 0] 78) := ⟨_, rfl⟩
    have HW3 : Hid (W3 = y2.alloc (.cells #[.string T, .int .i64 0, .int .i64 0] 78)) := hW3
    have HB3 : Hid (Below W2.heap.size W2 W3) := by rw [hW3]; exact alB (chainB b1 b2) _
    clear b1 b2 hW3
    go_wp2_with fail
    rw [← HW3.out]
    refine (HHo.out W3 HB3.out).mono ?_
    rintro e y4 ⟨rfl, b4⟩
    obtain ⟨W5, hW5⟩ : ∃ W5, W5 = y4.alloc (.cells #[.int .i64 0, .int .i64 0, .int .i64 0] 68) := ⟨_, rfl⟩
    have HW5 : Hid (W5 = y4.alloc (.cells #[.int .i64 0, .int .i64 0, .int .i64 0] 68)) := hW5
    have b5 : Below W2.heap.size W2 W5 := by rw [hW5]; exact alB (chainB HB3.out b4) _
    obtain ⟨r0, r1, r2, f0, f1, f2⟩ := HR.out _ b5
    have HE : Hid (∀ x0 x1 x2 : Value, Below w.heap.size w (((W5.setCell ⟨w.heap.size + 1, 0, none⟩ x0).setCell ⟨w.heap.size + 1, 1, none⟩ x1).setCell ⟨w.heap.size + 1, 2, none⟩ x2)) := fun x0 x1 x2 => HE3.out _ x0 x1 x2 b5
    rw [hW5] at r0 r1 r2 f0 f1 f2 HE
    clear b4 b5 hW5 HR HX
    go_wp2_with fail
    refine bodyPost_ret (v := .tuple #[.agg #[.int .i64 0, .int .i64 0, .int .i64 0], .iface 107 (.pointer (some a2))]) (by simp [results, Tryd.results39, go_sem, r0, r1, r2]; first | done | rfl) rfl ?_
    exact ⟨rfl, HE.out _ _ _⟩
  have hk : HdI T := Decidable.byContradiction hk
  have hv : hoV T a2 = .tuple #[.agg #[.int .i64 (hd1 T).1, .int .i64 (hd2 T).1, .int .i64 (hd3 T).1], .nilIface] := if_pos hk
  rw [hv] at HHo
  have hif : (HdI T ∧ (hd3 T).1 ≤ (room : Int)) ↔ (hd3 T).1 ≤ (room : Int) := ⟨fun h => h.2, fun h => ⟨hk, h⟩⟩
  by_cases hz : (hd3 T).1 ≤ (room : Int)
  · rw [if_pos (hif.2 hz)]
    have dz : decide ((room : Int) < (hd3 T).1) = false := decide_eq_false (by omega)
    clear hk hv hif hz HSe
    generalize (hd1 T).1 = g at *
    generalize (hd2 T).1 = s at *
    generalize (hd3 T).1 = z at *
    go_enter Tryd.func39, Tryd.ntmps39
    go_wp2_with fail
    rw [← HW2.out]
    refine hRd.mono ?_
    rintro e y1 ⟨rfl, b1⟩
    go_wp2_with fail
    refine (HUn.out y1).mono ?_
    rintro e y2 ⟨rfl, b2⟩
    obtain ⟨W3, hW3⟩ : ∃ W3, W3 = y2.alloc (.cells #[.string T, .int .i64 0, .int .i64 0] 78) := ⟨_, rfl⟩
    have HW3 : Hid (W3 = y2.alloc (.cells #[.string T, .int .i64 0, .int .i64 0] 78)) := hW3
    have HB3 : Hid (Below W2.heap.size W2 W3) := by rw [hW3]; exact alB (chainB b1 b2) _
    clear b1 b2 hW3
    go_wp2_with fail
    rw [← HW3.out]
    refine (HHo.out W3 HB3.out).mono ?_
    rintro e y4 ⟨rfl, b4⟩
    obtain ⟨W5, hW5⟩ : ∃ W5, W5 = y4.alloc (.cells #[.int .i64 g, .int .i64 s, .int .i64 z] 68) := ⟨_, rfl⟩
    have HW5 : Hid (W5 = y4.alloc (.cells #[.int .i64 g, .int .i64 s, .int .i64 z] 68)) := hW5
    have K5 : Hid (Bxs W5 y4.heap.size 68 #[.int .i64 g, .int .i64 s, .int .i64 z]) := by rw [hW5]; exact Bxs.new _ _ _
    have b5 : Below W2.heap.size W2 W5 := by rw [hW5]; exact alB (chainB HB3.out b4) _
    have HC5 : Hid (∀ x, Below W5.heap.size W5 x → x.cell? ⟨w.heap.size, 0, none⟩ = some (.slice q1 ss.length c1) ∧ x.cell? ⟨w.heap.size, 1, none⟩ = some (.slice q2 ps.length c2) ∧ x.cell? ⟨y4.heap.size, 2, none⟩ = some (.int .i64 z)) := fun x hb => ⟨(HX.out x (chainB b5 hb)).1, (HX.out x (chainB b5 hb)).2, (K5.out.below hb).cell 2⟩
    have HRm5 : Hid (∀ x, Below W5.heap.size W5 x → Calls Tryd.prog 50 #[.agg #[.slice q1 ss.length c1, .slice q2 ps.length c2]] x fun e w' => e = .returned (.int .i64 (room : Int)) ∧ Below W5.heap.size W5 w') := fun x hb => (HRm.out x).mono (by rintro e x1 ⟨rfl, b⟩; exact ⟨rfl, chainB hb b⟩)
    have HD5 : Hid (Below W5.heap.size W5 W5.drew) := (Below.refl _ _).drew
    have HB5 : Hid (Below W2.heap.size W2 W5) := b5
    clear b4 b5 hW5
    go_upto_region 7 with fail
    rw [← HW5.out]
    go_cut [34] from 30 to 34 (fun s34 wx => s34 = .bool false ∧ Hid (Below W5.heap.size W5 wx))
    case first =>
      go_region_held3 (fun w' => w'.cell? ⟨w.heap.size, 0, none⟩ = some (.slice q1 ss.length c1) ∧ w'.cell? ⟨w.heap.size, 1, none⟩ = some (.slice q2 ps.length c2) ∧ w'.cell? ⟨y4.heap.size, 2, none⟩ = some (.int .i64 z)) ((first | exact HC5.out _ HD5.out | exact HC5.out _ z1)) (first
        | (go_at_call 50; with_reducible refine (HRm5.out _ HD5.out).mono ?_; rintro e x1 ⟨rfl, z1⟩))
      all_goals (go_wp2_with fail; go_meet; exact ⟨rfl, z1⟩)
    case rest =>
    obtain ⟨rfl, hc⟩ := hcut
    have bc := hc.out
    obtain ⟨x6, hx6⟩ : ∃ x6, x6 = wc := ⟨_, rfl⟩
    subst hx6
    have b6 : Below W2.heap.size W2 x6 := chainB HB5.out bc
    obtain ⟨r0, r1, r2, f0, f1, f2⟩ := HR.out _ b6
    have HE : Hid (∀ x0 x1 x2 : Value, Below w.heap.size w (((x6.setCell ⟨w.heap.size + 1, 0, none⟩ x0).setCell ⟨w.heap.size + 1, 1, none⟩ x1).setCell ⟨w.heap.size + 1, 2, none⟩ x2)) := fun x0 x1 x2 => HE3.out _ x0 x1 x2 b6
    have k0 := (K5.out.below bc).cell 0
    have k1 := (K5.out.below bc).cell 1
    have k2 := (K5.out.below bc).cell 2
    clear hc bc HX HR
    go_wp2_with fail
    refine bodyPost_ret (v := .tuple #[.agg #[.int .i64 g, .int .i64 s, .int .i64 z], .nilIface]) (by simp [results, Tryd.results39, go_sem, r0, r1, r2]; first | done | rfl) rfl ?_
    exact ⟨rfl, HE.out _ _ _⟩
  · rw [if_neg (fun h => hz (hif.1 h))]
    have dz : decide ((room : Int) < (hd3 T).1) = true := decide_eq_true (by omega)
    clear hk hv hif hz
    generalize (hd1 T).1 = g at *
    generalize (hd2 T).1 = s at *
    generalize (hd3 T).1 = z at *
    go_enter Tryd.func39, Tryd.ntmps39
    go_wp2_with fail
    rw [← HW2.out]
    refine hRd.mono ?_
    rintro e y1 ⟨rfl, b1⟩
    go_wp2_with fail
    refine (HUn.out y1).mono ?_
    rintro e y2 ⟨rfl, b2⟩
    obtain ⟨W3, hW3⟩ : ∃ W3, W3 = y2.alloc (.cells #[.string T, .int .i64 0, .int .i64 0] 78) := ⟨_, rfl⟩
    have HW3 : Hid (W3 = y2.alloc (.cells #[.string T, .int .i64 0, .int .i64 0] 78)) := hW3
    have HB3 : Hid (Below W2.heap.size W2 W3) := by rw [hW3]; exact alB (chainB b1 b2) _
    clear b1 b2 hW3
    go_wp2_with fail
    rw [← HW3.out]
    refine (HHo.out W3 HB3.out).mono ?_
    rintro e y4 ⟨rfl, b4⟩
    obtain ⟨W5, hW5⟩ : ∃ W5, W5 = y4.alloc (.cells #[.int .i64 g, .int .i64 s, .int .i64 z] 68) := ⟨_, rfl⟩
    have HW5 : Hid (W5 = y4.alloc (.cells #[.int .i64 g, .int .i64 s, .int .i64 z] 68)) := hW5
    have K5 : Hid (Bxs W5 y4.heap.size 68 #[.int .i64 g, .int .i64 s, .int .i64 z]) := by rw [hW5]; exact Bxs.new _ _ _
    have b5 : Below W2.heap.size W2 W5 := by rw [hW5]; exact alB (chainB HB3.out b4) _
    have HC5 : Hid (∀ x, Below W5.heap.size W5 x → x.cell? ⟨w.heap.size, 0, none⟩ = some (.slice q1 ss.length c1) ∧ x.cell? ⟨w.heap.size, 1, none⟩ = some (.slice q2 ps.length c2) ∧ x.cell? ⟨y4.heap.size, 2, none⟩ = some (.int .i64 z)) := fun x hb => ⟨(HX.out x (chainB b5 hb)).1, (HX.out x (chainB b5 hb)).2, (K5.out.below hb).cell 2⟩
    have HRm5 : Hid (∀ x, Below W5.heap.size W5 x → Calls Tryd.prog 50 #[.agg #[.slice q1 ss.length c1, .slice q2 ps.length c2]] x fun e w' => e = .returned (.int .i64 (room : Int)) ∧ Below W5.heap.size W5 w') := fun x hb => (HRm.out x).mono (by rintro e x1 ⟨rfl, b⟩; exact ⟨rfl, chainB hb b⟩)
    have HD5 : Hid (Below W5.heap.size W5 W5.drew) := (Below.refl _ _).drew
    have HB5 : Hid (Below W2.heap.size W2 W5) := b5
    clear b4 b5 hW5
    go_upto_region 7 with fail
    rw [← HW5.out]
    go_cut [34] from 30 to 34 (fun s34 wx => s34 = .bool true ∧ Hid (Below W5.heap.size W5 wx))
    case first =>
      go_region_held3 (fun w' => w'.cell? ⟨w.heap.size, 0, none⟩ = some (.slice q1 ss.length c1) ∧ w'.cell? ⟨w.heap.size, 1, none⟩ = some (.slice q2 ps.length c2) ∧ w'.cell? ⟨y4.heap.size, 2, none⟩ = some (.int .i64 z)) ((first | exact HC5.out _ HD5.out | exact HC5.out _ z1)) (first
        | (go_at_call 50; with_reducible refine (HRm5.out _ HD5.out).mono ?_; rintro e x1 ⟨rfl, z1⟩))
      all_goals (go_wp2_with fail; go_meet; exact ⟨rfl, z1⟩)
    case rest =>
    obtain ⟨rfl, hc⟩ := hcut
    have bc := hc.out
    obtain ⟨x6, hx6⟩ : ∃ x6, x6 = wc := ⟨_, rfl⟩
    subst hx6
    have b6 : Below W2.heap.size W2 x6 := chainB HB5.out bc
    obtain ⟨r0, r1, r2, f0, f1, f2⟩ := HR.out _ b6
    have HE : Hid (∀ x0 x1 x2 : Value, Below w.heap.size w (((x6.setCell ⟨w.heap.size + 1, 0, none⟩ x0).setCell ⟨w.heap.size + 1, 1, none⟩ x1).setCell ⟨w.heap.size + 1, 2, none⟩ x2)) := fun x0 x1 x2 => HE3.out _ x0 x1 x2 b6
    have k0 := (K5.out.below bc).cell 0
    have k1 := (K5.out.below bc).cell 1
    have k2 := (K5.out.below bc).cell 2
    clear hc bc HX HR
    have hG := HSe.out _ b6
    have HG : Hid (x6.drew.cell? ⟨1, 0, none⟩ = some (.iface 107 (.pointer (some a2)))) := HSe.out _ b6.drew
    have hgne : w.heap.size + 1 ≠ 1 := by have h1 := HLt.out; omega
    have HG3 : Hid (∀ x0 x1 x2 : Value, (((x6.drew.setCell ⟨w.heap.size + 1, 0, none⟩ x0).setCell ⟨w.heap.size + 1, 1, none⟩ x1).setCell ⟨w.heap.size + 1, 2, none⟩ x2).cell? ⟨1, 0, none⟩ = some (.iface 107 (.pointer (some a2)))) := fun x0 x1 x2 => by
      rw [cell_off3 hgne]; exact HG.out
    have HED : Hid (∀ x0 x1 x2 : Value, Below w.heap.size w (((x6.drew.setCell ⟨w.heap.size + 1, 0, none⟩ x0).setCell ⟨w.heap.size + 1, 1, none⟩ x1).setCell ⟨w.heap.size + 1, 2, none⟩ x2)) := fun x0 x1 x2 => HE3.out _ x0 x1 x2 b6.drew
    clear hG hgne b6 HE
    go_wp2_with fail
    go_region_held3 (fun w' => w'.cell? ⟨1, 0, none⟩ = some (.iface 107 (.pointer (some a2)))) ((first | exact HG.out | exact HG3.out _ _ _)) (fail)
    all_goals
      go_wp2_with fail
      refine bodyPost_ret (v := .tuple #[.agg #[.int .i64 0, .int .i64 0, .int .i64 0], .iface 107 (.pointer (some a2))]) (by simp [results, Tryd.results39, go_sem, r0, r1, r2]; first | done | rfl) rfl ?_
      exact ⟨rfl, HED.out _ _ _⟩
end Go.Proofs.YtnppgldafhpchaaDoor
