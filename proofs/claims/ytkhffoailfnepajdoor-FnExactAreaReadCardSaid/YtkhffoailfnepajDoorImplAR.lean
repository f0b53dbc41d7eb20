/-
  What the program's AreaRead answers: as the specification's.
  Conditions: the cells of Sectors and Pending hold the texts and the pendings; the sentinels and errors.errorType are laid.
-/
import Derived.Test.YtkhffoailfnepajDoorRows
import Derived.Test.YtkhffoailfnepajDoorBytes
import Derived.Test.YtkhffoailfnepajDoorSlASlBOwnS
import Derived.Test.YtkhffoailfnepajDoorDskMath
import Derived.Test.YtkhffoailfnepajDoorAppSStepAppDskA
import Derived.Test.YtkhffoailfnepajDoorDskC
import Derived.Test.YtkhffoailfnepajDoorDskT
import Derived.Test.YtkhffoailfnepajDoorLawD
import Derived.Test.YtkhffoailfnepajDoorAreaF
import Derived.Test.YtkhffoailfnepajDoorAreaMath
import Derived.Test.YtkhffoailfnepajDoorCopiedImplDC
import Derived.Test.YtkhffoailfnepajDoorIsEImplAC
import Derived.Test.YtkhffoailfnepajDoorErrIDskMap
import Derived.Test.YtkhffoailfnepajDoorImplRA
import Derived.Handy
import Derived.WalkSpells
import Derived.OwnWalk
import Derived.Deep.RegionHeld3
namespace Go.Proofs.YtkhffoailfnepajDoor
open Go.RowKit Go.Lib
set_option linter.unusedVariables false
set_option maxRecDepth 20000

set_option maxHeartbeats 4000000 in
theorem implAreaRead_any (q1 : Option Addr) (c1 : Nat) (ss : List ByteArray) (q2 : Option Addr) (c2 : Nat) (ps : List Pnd) (a1 a2 a3 a4 : Addr) (w : World) (h1 : TxtAt w q1 ss) (h2 : PndAt w q2 ps) (n1 : ss.length ≤ 1048576) (n2 : ps.length ≤ 1048576) (m1 : ss.length ≤ c1) (m2 : ps.length ≤ c2) (hS : Sents a1 a2 a3 a4 w) (hLd : Laid w) :
    Calls Tryd.prog 7 #[.agg #[.slice q1 ss.length c1, .slice q2 ps.length c2]] w fun e w' => ∃ v1 v2, e = .returned (.agg #[v1, v2, .string (arT ss ps), .int .i64 (arG ss ps : Nat), .int .i64 (arC ss ps)]) ∧ DskO w.heap.size (arS ss ps) (arP ss ps) v1 v2 w' ∧ Below w.heap.size w w' := by
  obtain ⟨W2, hW2⟩ : ∃ W2, W2 = (w.alloc (.cells #[.slice q1 ss.length c1, .slice q2 ps.length c2] 29)).alloc (.cells #[.slice none 0 0, .slice none 0 0, .string ⟨#[]⟩, .int .i64 0, .int .i64 0] 31) := ⟨_, rfl⟩
  have HW2 : Hid (W2 = (w.alloc (.cells #[.slice q1 ss.length c1, .slice q2 ps.length c2] 29)).alloc (.cells #[.slice none 0 0, .slice none 0 0, .string ⟨#[]⟩, .int .i64 0, .int .i64 0] 31)) := hW2
  have hs1 : (w.alloc (.cells #[.slice q1 ss.length c1, .slice q2 ps.length c2] 29)).heap.size = w.heap.size + 1 := by simp
  have S2 : W2.heap.size = w.heap.size + 2 := by rw [hW2]; simp
  have R0 : Bxs W2 w.heap.size 29 #[.slice q1 ss.length c1, .slice q2 ps.length c2] := by rw [hW2]; exact (Bxs.new _ _ _).alloc _
  have R1 : Bxs W2 (w.heap.size + 1) 31 #[.slice none 0 0, .slice none 0 0, .string ByteArray.empty, .int .i64 0, .int .i64 0] := by rw [hW2, ← hs1]; exact Bxs.new _ _ _
  have B2 : Hid (Below w.heap.size w W2) := by rw [hW2]; exact ((Below.refl _ _).alloc (Nat.le_refl _) _).alloc (by rw [hs1]; omega) _
  have T1 : Hid (TxtAt W2 q1 ss) := h1.below B2.out
  have T2 : Hid (PndAt W2 q2 ps) := h2.below B2.out
  have HX : Hid (∀ x, Below W2.heap.size W2 x → x.cell? ⟨w.heap.size, 0, none⟩ = some (.slice q1 ss.length c1) ∧ x.cell? ⟨w.heap.size, 1, none⟩ = some (.slice q2 ps.length c2)) := fun x hb => ⟨(R0.below hb).cell 0, (R0.below hb).cell 1⟩
  have HR : Hid (∀ x, Below W2.heap.size W2 x → x.cell? ⟨w.heap.size + 1, 0, none⟩ = some (.slice none 0 0) ∧ x.cell? ⟨w.heap.size + 1, 1, none⟩ = some (.slice none 0 0) ∧ x.cell? ⟨w.heap.size + 1, 2, none⟩ = some (.string ByteArray.empty) ∧ x.cell? ⟨w.heap.size + 1, 3, none⟩ = some (.int .i64 0) ∧ x.cell? ⟨w.heap.size + 1, 4, none⟩ = some (.int .i64 0) ∧ x.frozen? ⟨w.heap.size + 1, 0, none⟩ = false ∧ x.frozen? ⟨w.heap.size + 1, 1, none⟩ = false ∧ x.frozen? ⟨w.heap.size + 1, 2, none⟩ = false ∧ x.frozen? ⟨w.heap.size + 1, 3, none⟩ = false ∧ x.frozen? ⟨w.heap.size + 1, 4, none⟩ = false) := fun x hb => by
    have k := R1.below hb
    exact ⟨k.cell 0, k.cell 1, k.cell 2, k.cell 3, k.cell 4, k.fr 0, k.fr 1, k.fr 2, k.fr 3, k.fr 4⟩
  have HEr : Hid (∀ (y : World) (c : Int) (x0 x1 x2 x3 x4 : Value), Below W2.heap.size W2 y → arC ss ps = c → c ≠ 0 → ∃ v1 v2, Ending.returned (.agg #[.slice none 0 0, .slice none 0 0, .string ByteArray.empty, .int .i64 0, .int .i64 c]) = .returned (.agg #[v1, v2, .string (arT ss ps), .int .i64 (arG ss ps : Nat), .int .i64 (arC ss ps)]) ∧ DskO w.heap.size (arS ss ps) (arP ss ps) v1 v2 (((((y.setCell ⟨w.heap.size + 1, 0, none⟩ x0).setCell ⟨w.heap.size + 1, 1, none⟩ x1).setCell ⟨w.heap.size + 1, 2, none⟩ x2).setCell ⟨w.heap.size + 1, 3, none⟩ x3).setCell ⟨w.heap.size + 1, 4, none⟩ x4) ∧ Below w.heap.size w (((((y.setCell ⟨w.heap.size + 1, 0, none⟩ x0).setCell ⟨w.heap.size + 1, 1, none⟩ x1).setCell ⟨w.heap.size + 1, 2, none⟩ x2).setCell ⟨w.heap.size + 1, 3, none⟩ x3).setCell ⟨w.heap.size + 1, 4, none⟩ x4)) := by
    intro y c x0 x1 x2 x3 x4 hb hc hn
    have hn' : ¬ arC ss ps = 0 := by rw [hc]; exact hn
    rw [show arT ss ps = ByteArray.empty from if_neg hn', show arG ss ps = 0 from if_neg hn', show arS ss ps = [] from if_neg hn', show arP ss ps = [] from if_neg hn', hc]
    exact ⟨_, _, rfl, DskO.nil _ _, below_set5 (chainB B2.out hb) (by omega) _ _ _ _ _⟩
  have hRA := readArea_any q1 c1 ss q2 c2 ps a1 a2 a3 a4 W2 T1.out T2.out n1 n2 m1 m2 (hS.below B2.out)
  have HCo : Hid (∀ v c x, ErrIs a1 a2 a3 a4 v c → Below W2.heap.size W2 x → Calls Tryd.prog 25 #[v] x fun e w' => e = .returned (.int .i64 c) ∧ Below x.heap.size x w') := fun v c x he hb => areaCode_of he x ((hS.below B2.out).below hb) ((hLd.below B2.out).below hb)
  obtain ⟨t0, t1⟩ := HX.out W2 (Below.refl _ _)
  have HSz : Hid (W2.heap.size = w.heap.size + 2) := S2
  rw [HW2.out] at t0 t1
  clear hW2 R0 R1 h1 h2 hs1 S2 hS hLd
  go_enter Tryd.func7, Tryd.ntmps7
  go_wp2_with fail
  rw [← HW2.out]
  refine hRA.mono ?_
  rintro e y1 ⟨⟨G, SD, Z, T, v, rfl, hok, hno⟩, b1⟩
  obtain ⟨W3, hW3⟩ : ∃ W3, W3 = y1.alloc (.cells #[.int .i64 (G : Int), .int .i64 (SD : Int), .int .i64 (Z : Int)] 55) := ⟨_, rfl⟩
  have HW3 : Hid (W3 = y1.alloc (.cells #[.int .i64 (G : Int), .int .i64 (SD : Int), .int .i64 (Z : Int)] 55)) := hW3
  have K3 : Hid (Bxs W3 y1.heap.size 55 #[.int .i64 (G : Int), .int .i64 (SD : Int), .int .i64 (Z : Int)]) := by rw [hW3]; exact Bxs.new _ _ _
  have HB3 : Hid (Below W2.heap.size W2 W3) := by rw [hW3]; exact alB b1 _
  have HB1 : Hid (Below W2.heap.size W2 y1) := b1
  clear t0 t1 hRA b1 hW3
  by_cases hac : ¬ arC ss ps = 0
  · have hei := hno hac
    obtain ⟨ty, pp, rfl⟩ := hei.iface
    have hco := HCo.out _ _ W3 hei HB3.out
    obtain ⟨c, hc⟩ : ∃ c, c = arC ss ps := ⟨_, rfl⟩
    rw [← hc] at hco
    have HCc : Hid (arC ss ps = c ∧ c ≠ 0) := ⟨hc.symm, by rw [hc]; exact hac⟩
    clear hok hno hac hei hc HCo HX
    go_wp2_with fail
    rw [← HW3.out]
    refine hco.mono ?_
    rintro e y2 ⟨rfl, b2⟩
    have b2 := chainB HB3.out b2
    have HE : Hid _ := fun x0 x1 x2 x3 x4 => HEr.out y2 c x0 x1 x2 x3 x4 b2 HCc.out.1 HCc.out.2
    obtain ⟨r0, r1, r2, r3, r4, f0, f1, f2, f3, f4⟩ := HR.out y2 b2
    clear HEr HR b2 hco HCc
    go_wp2_with fail
    refine bodyPost_ret (v := .agg #[.slice none 0 0, .slice none 0 0, .string ByteArray.empty, .int .i64 0, .int .i64 c]) (by simp [results, Tryd.results7, go_sem, r0, r1, r2, r3, r4]; first | done | rfl) rfl ?_
    exact HE.out _ _ _ _ _
  have hac : arC ss ps = 0 := Decidable.byContradiction hac
  obtain ⟨hG, -, hT, rfl⟩ := hok hac
  obtain ⟨hdr, -, -⟩ := arC_ok hac
  obtain ⟨-, -, p4, p5⟩ := dskB_parts hdr
  have hps := dskB_parts hdr
  have QC : Hid (∀ x, Below W3.heap.size W3 x → Calls Tryd.prog 26 #[.agg #[.slice q1 ss.length c1, .slice q2 ps.length c2]] x fun e x1 => ∃ u1 d1 u2 d2, e = .returned (.agg #[.slice u1 ss.length d1, .slice u2 ps.length d2]) ∧ DskO W3.heap.size ss ps (.slice u1 ss.length d1) (.slice u2 ps.length d2) x1 ∧ Below W3.heap.size W3 x1) := fun x hb => by
    have h := copiedDisk_any q1 c1 ss q2 c2 ps x ((T1.out.below HB3.out).below hb) ((T2.out.below HB3.out).below hb) n1 n2 m1 m2 (fun s hs => by have := p4 s hs; omega) (fun q hq => by have := (p5 q hq); unfold pndOk at this; omega)
    refine h.mono ?_
    rintro e x1 ⟨v1, v2, rfl, ho, hb1⟩
    obtain ⟨u1, d1, rfl, -, -⟩ := ownS_form ho.own1
    obtain ⟨u2, d2, rfl, -, -⟩ := ownP_form ho.own2
    exact ⟨u1, d1, u2, d2, rfl, ho.mono hb.size, chainB hb hb1⟩
  have HV : Hid (∀ v1 v2 : Value, Ending.returned (.agg #[v1, v2, .string T, .int .i64 (G : Int), .int .i64 0]) = .returned (.agg #[v1, v2, .string (arT ss ps), .int .i64 (arG ss ps : Nat), .int .i64 (arC ss ps)]) ∧ arS ss ps = ss ∧ arP ss ps = ps) := fun v1 v2 => ⟨by rw [hG, hT, hac], if_pos hac, if_pos hac⟩
  have HFin : Hid (∀ (y : World) (u1 : Option Addr) (d1 : Nat) (u2 : Option Addr) (d2 : Nat) (x0 x1 x2 x3 x4 : Value), DskO W3.heap.size ss ps (.slice u1 ss.length d1) (.slice u2 ps.length d2) y → Below W3.heap.size W3 y → ∃ v1 v2, Ending.returned (.agg #[.slice u1 ss.length d1, .slice u2 ps.length d2, .string T, .int .i64 (G : Int), .int .i64 0]) = .returned (.agg #[v1, v2, .string (arT ss ps), .int .i64 (arG ss ps : Nat), .int .i64 (arC ss ps)]) ∧ DskO w.heap.size (arS ss ps) (arP ss ps) v1 v2 (((((y.setCell ⟨w.heap.size + 1, 0, none⟩ x0).setCell ⟨w.heap.size + 1, 1, none⟩ x1).setCell ⟨w.heap.size + 1, 2, none⟩ x2).setCell ⟨w.heap.size + 1, 3, none⟩ x3).setCell ⟨w.heap.size + 1, 4, none⟩ x4) ∧ Below w.heap.size w (((((y.setCell ⟨w.heap.size + 1, 0, none⟩ x0).setCell ⟨w.heap.size + 1, 1, none⟩ x1).setCell ⟨w.heap.size + 1, 2, none⟩ x2).setCell ⟨w.heap.size + 1, 3, none⟩ x3).setCell ⟨w.heap.size + 1, 4, none⟩ x4)) := by
    intro y u1 d1 u2 d2 x0 x1 x2 x3 x4 ho hb
    have hz2 := HSz.out
    have hz3 := HB3.out.size
    obtain ⟨e1, e2, e3⟩ := HV.out (.slice u1 ss.length d1) (.slice u2 ps.length d2)
    rw [e2, e3]
    exact ⟨_, _, e1, (ho.set5 (by omega) x0 x1 x2 x3 x4).mono (by omega), below_set5 (chainB B2.out (chainB HB3.out hb)) (by omega) _ _ _ _ _⟩
  have HXy : Hid (∀ x, Below W3.heap.size W3 x → x.cell? ⟨w.heap.size, 0, none⟩ = some (.slice q1 ss.length c1) ∧ x.cell? ⟨w.heap.size, 1, none⟩ = some (.slice q2 ps.length c2) ∧ x.cell? ⟨y1.heap.size, 0, none⟩ = some (.int .i64 (G : Int))) := fun x hb => ⟨(HX.out x (chainB HB3.out hb)).1, (HX.out x (chainB HB3.out hb)).2, (K3.out.below hb).cell 0⟩
  have hyne : w.heap.size + 1 ≠ y1.heap.size := by have h1 := HSz.out; have h2 := HB1.out.size; omega
  have HX5 : Hid (∀ x (x0 x1 x2 x3 x4 : Value), Below W3.heap.size W3 x → (((((x.setCell ⟨w.heap.size + 1, 0, none⟩ x0).setCell ⟨w.heap.size + 1, 1, none⟩ x1).setCell ⟨w.heap.size + 1, 2, none⟩ x2).setCell ⟨w.heap.size + 1, 3, none⟩ x3).setCell ⟨w.heap.size + 1, 4, none⟩ x4).cell? ⟨w.heap.size, 0, none⟩ = some (.slice q1 ss.length c1) ∧ (((((x.setCell ⟨w.heap.size + 1, 0, none⟩ x0).setCell ⟨w.heap.size + 1, 1, none⟩ x1).setCell ⟨w.heap.size + 1, 2, none⟩ x2).setCell ⟨w.heap.size + 1, 3, none⟩ x3).setCell ⟨w.heap.size + 1, 4, none⟩ x4).cell? ⟨w.heap.size, 1, none⟩ = some (.slice q2 ps.length c2) ∧ (((((x.setCell ⟨w.heap.size + 1, 0, none⟩ x0).setCell ⟨w.heap.size + 1, 1, none⟩ x1).setCell ⟨w.heap.size + 1, 2, none⟩ x2).setCell ⟨w.heap.size + 1, 3, none⟩ x3).setCell ⟨w.heap.size + 1, 4, none⟩ x4).cell? ⟨y1.heap.size, 0, none⟩ = some (.int .i64 (G : Int))) := fun x x0 x1 x2 x3 x4 hb => by
    have h := HXy.out x hb
    simpa [World.cell?, World.setCell, Array.getElem?_modify, hyne] using h
  have HRy : Hid (∀ x, Below W3.heap.size W3 x → x.cell? ⟨w.heap.size + 1, 0, none⟩ = some (.slice none 0 0) ∧ x.cell? ⟨w.heap.size + 1, 1, none⟩ = some (.slice none 0 0) ∧ x.cell? ⟨w.heap.size + 1, 2, none⟩ = some (.string ByteArray.empty) ∧ x.cell? ⟨w.heap.size + 1, 3, none⟩ = some (.int .i64 0) ∧ x.cell? ⟨w.heap.size + 1, 4, none⟩ = some (.int .i64 0) ∧ x.frozen? ⟨w.heap.size + 1, 0, none⟩ = false ∧ x.frozen? ⟨w.heap.size + 1, 1, none⟩ = false ∧ x.frozen? ⟨w.heap.size + 1, 2, none⟩ = false ∧ x.frozen? ⟨w.heap.size + 1, 3, none⟩ = false ∧ x.frozen? ⟨w.heap.size + 1, 4, none⟩ = false) := fun x hb => HR.out x (chainB HB3.out hb)
  have HDr : Hid (Below W3.heap.size W3 W3.drew) := (Below.refl _ _).drew
  clear hok hno hac HCo HX HR HEr hG hT hdr p4 p5 hps hyne
  go_wp2_with fail
  rw [← HW3.out]
  go_region_held3 (fun w' => w'.cell? ⟨w.heap.size, 0, none⟩ = some (.slice q1 ss.length c1) ∧ w'.cell? ⟨w.heap.size, 1, none⟩ = some (.slice q2 ps.length c2) ∧ w'.cell? ⟨y1.heap.size, 0, none⟩ = some (.int .i64 (G : Int))) ((first | with_reducible exact HX5.out _ _ _ _ _ _ z1 | exact HXy.out _ HDr.out | exact HXy.out _ z1)) (first
    | (go_at_call 26; with_reducible refine (QC.out _ HDr.out).mono ?_; rintro e xa ⟨u1, d1, u2, d2, rfl, ho, z1⟩; obtain ⟨r0, r1, r2, r3, r4, f0, f1, f2, f3, f4⟩ := HRy.out _ z1))
  all_goals
    have HVV : Hid _ := fun x0 x1 x2 x3 x4 => HFin.out xa u1 d1 u2 d2 x0 x1 x2 x3 x4 ho z1
    clear HFin HRy HXy QC ho
    go_wp2_with fail
    refine bodyPost_ret (v := .agg #[.slice u1 ss.length d1, .slice u2 ps.length d2, .string T, .int .i64 (G : Int), .int .i64 0]) (by simp [results, Tryd.results7, go_sem, r0, r1, r2, r3, r4]; first | done | rfl) rfl ?_
    exact HVV.out _ _ _ _ _
end Go.Proofs.YtkhffoailfnepajDoor
