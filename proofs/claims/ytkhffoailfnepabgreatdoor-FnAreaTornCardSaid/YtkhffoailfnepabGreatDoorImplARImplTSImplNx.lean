/-
  Parts of one proof, laid as one text: ImplAR, ImplTS, ImplNx; what each says stands at its head.
-/
import Derived.Test.YtkhffoailfnepabGreatDoorRows
import Derived.Test.YtkhffoailfnepabGreatDoorBytesDigMath
import Derived.Test.YtkhffoailfnepabGreatDoorSlASlBOwnSOwnBSrc
import Derived.Test.YtkhffoailfnepabGreatDoorDrawsDrawKitDskMath
import Derived.Test.YtkhffoailfnepabGreatDoorDskRAppSStepAppDskA
import Derived.Test.YtkhffoailfnepabGreatDoorDskSDskCDskT
import Derived.Test.YtkhffoailfnepabGreatDoorLawDLwDskLwArLawIPutMathPutNum
import Derived.Test.YtkhffoailfnepabGreatDoorFourSealAreaAAreaF
import Derived.Test.YtkhffoailfnepabGreatDoorGetTextITextMathAreaMath
import Derived.Test.YtkhffoailfnepabGreatDoorImplDC
import Derived.Test.YtkhffoailfnepabGreatDoorImplAFIsEImplACErrI
import Derived.Test.YtkhffoailfnepabGreatDoorImplRA
import Derived.Handy
import Derived.WalkSpells
import Derived.OwnWalk
import Derived.Deep.RegionHeld3
import Derived.Test.YtkhffoailfnepabGreatDoorDskW
import Derived.Test.YtkhffoailfnepabGreatDoorStpMathAreaPutMUnsealSSpecGN
import Derived.Test.YtkhffoailfnepabGreatDoorAreaPt
import Derived.Deep.AppendLies
/-
  What the program's AreaRead answers: as the specification's.
  Conditions: the cells of Sectors and Pending hold the texts and the pendings; the sentinels and errors.errorType are laid.
-/
namespace Go.Proofs.YtkhffoailfnepabGreatDoor
open Go.RowKit Go.Lib
set_option linter.unusedVariables false
set_option maxRecDepth 20000

set_option maxHeartbeats 4000000 in
theorem implAreaRead_any (q1 : Option Addr) (c1 : Nat) (ss : List ByteArray) (q2 : Option Addr) (c2 : Nat) (ps : List Pnd) (a1 a2 a3 a4 : Addr) (w : World) (h1 : TxtAt w q1 ss) (h2 : PndAt w q2 ps) (n1 : ss.length ≤ 1048576) (n2 : ps.length ≤ 1048576) (m1 : ss.length ≤ c1) (m2 : ps.length ≤ c2) (hS : Sents a1 a2 a3 a4 w) (hLd : Laid w) :
    Calls Tryz.prog 8 #[.agg #[.slice q1 ss.length c1, .slice q2 ps.length c2]] w fun e w' => ∃ v1 v2, e = .returned (.agg #[v1, v2, .string (arT ss ps), .int .i64 (arG ss ps : Nat), .int .i64 (arC ss ps)]) ∧ DskO w.heap.size (arS ss ps) (arP ss ps) v1 v2 w' ∧ Below w.heap.size w w' := by
  obtain ⟨W2, hW2⟩ : ∃ W2, W2 = (w.alloc (.cells #[.slice q1 ss.length c1, .slice q2 ps.length c2] 26)).alloc (.cells #[.slice none 0 0, .slice none 0 0, .string ⟨#[]⟩, .int .i64 0, .int .i64 0] 31) := ⟨_, rfl⟩
  have HW2 : Hid (W2 = (w.alloc (.cells #[.slice q1 ss.length c1, .slice q2 ps.length c2] 26)).alloc (.cells #[.slice none 0 0, .slice none 0 0, .string ⟨#[]⟩, .int .i64 0, .int .i64 0] 31)) := hW2
  have hs1 : (w.alloc (.cells #[.slice q1 ss.length c1, .slice q2 ps.length c2] 26)).heap.size = w.heap.size + 1 := by simp
  have S2 : W2.heap.size = w.heap.size + 2 := by rw [hW2]; simp
  have R0 : Bxs W2 w.heap.size 26 #[.slice q1 ss.length c1, .slice q2 ps.length c2] := by rw [hW2]; exact (Bxs.new _ _ _).alloc _
  have R1 : Bxs W2 (w.heap.size + 1) 31 #[.slice none 0 0, .slice none 0 0, .string ByteArray.empty, .int .i64 0, .int .i64 0] := by rw [hW2, ← hs1]; exact Bxs.new _ _ _
  have B2 : Hid (Below w.heap.size w W2) := by rw [hW2]; exact ((Below.refl _ _).alloc (Nat.le_refl _) _).alloc (by rw [hs1]; omega) _
  have T1 : Hid (TxtAt W2 q1 ss) := h1.below B2.out
  have T2 : Hid (PndAt W2 q2 ps) := h2.below B2.out
  have HX : Hid (∀ x, Below W2.heap.size W2 x → x.cell? ⟨w.heap.size, 0, none⟩ = some (.slice q1 ss.length c1) ∧ x.cell? ⟨w.heap.size, 1, none⟩ = some (.slice q2 ps.length c2)) := fun x hb => ⟨(R0.below hb).cell 0, (R0.below hb).cell 1⟩
  have HR : Hid (∀ x, Below W2.heap.size W2 x → x.cell? ⟨w.heap.size + 1, 0, none⟩ = some (.slice none 0 0) ∧ x.cell? ⟨w.heap.size + 1, 1, none⟩ = some (.slice none 0 0) ∧ x.cell? ⟨w.heap.size + 1, 2, none⟩ = some (.string ByteArray.empty) ∧ x.cell? ⟨w.heap.size + 1, 3, none⟩ = some (.int .i64 0) ∧ x.cell? ⟨w.heap.size + 1, 4, none⟩ = some (.int .i64 0) ∧ x.frozen? ⟨w.heap.size + 1, 0, none⟩ = false ∧ x.frozen? ⟨w.heap.size + 1, 1, none⟩ = false ∧ x.frozen? ⟨w.heap.size + 1, 2, none⟩ = false ∧ x.frozen? ⟨w.heap.size + 1, 3, none⟩ = false ∧ x.frozen? ⟨w.heap.size + 1, 4, none⟩ = false) := fun x hb => by
    have k := R1.below hb
    exact ⟨k.cell 0, k.cell 1, k.cell 2, k.cell 3, k.cell 4, k.fr 0, k.fr 1, k.fr 2, k.fr 3, k.fr 4⟩
  have HEr : Hid (∀ (y : World) (c : Int) (x0 x1 x2 x3 x4 : Value), Below W2.heap.size W2 y → arC ss ps = c → c ≠ 0 → ∃ v1 v2, Ending.returned (.agg #[.slice none 0 0, .slice none 0 0, .string ByteArray.empty, .int .i64 0, .int .i64 c]) = .returned (.agg #[v1, v2, .string (arT ss ps), .int .i64 (arG ss ps : Nat), .int .i64 (arC ss ps)]) ∧ DskO w.heap.size (arS ss ps) (arP ss ps) v1 v2 (((((y.setCell ⟨w.heap.size + 1, 0, none⟩ x0).setCell ⟨w.heap.size + 1, 1, none⟩ x1).setCell ⟨w.heap.size + 1, 2, none⟩ x2).setCell ⟨w.heap.size + 1, 3, none⟩ x3).setCell ⟨w.heap.size + 1, 4, none⟩ x4) ∧ Below w.heap.size w (((((y.setCell ⟨w.heap.size + 1, 0, none⟩ x0).setCell ⟨w.heap.size + 1, 1, none⟩ x1).setCell ⟨w.heap.size + 1, 2, none⟩ x2).setCell ⟨w.heap.size + 1, 3, none⟩ x3).setCell ⟨w.heap.size + 1, 4, none⟩ x4)) := by
    intro y c x0 x1 x2 x3 x4 hb hc hn
    have hn' : ¬ arC ss ps = 0 := by rw [hc]; exact hn
    rw [show arT ss ps = ByteArray.empty from if_neg hn', show arG ss ps = 0 from if_neg hn', show arS ss ps = [] from if_neg hn', show arP ss ps = [] from if_neg hn', hc]
    exact ⟨_, _, rfl, DskO.nil _ _, below_set5 (chainB B2.out hb) (by omega) _ _ _ _ _⟩
  have hRA := readArea_any q1 c1 ss q2 c2 ps a1 a2 a3 a4 W2 T1.out T2.out n1 n2 m1 m2 (hS.below B2.out)
  have HCo : Hid (∀ v c x, ErrIs a1 a2 a3 a4 v c → Below W2.heap.size W2 x → Calls Tryz.prog 27 #[v] x fun e w' => e = .returned (.int .i64 c) ∧ Below x.heap.size x w') := fun v c x he hb => areaCode_of he x ((hS.below B2.out).below hb) ((hLd.below B2.out).below hb)
  obtain ⟨t0, t1⟩ := HX.out W2 (Below.refl _ _)
  have HSz : Hid (W2.heap.size = w.heap.size + 2) := S2
  rw [HW2.out] at t0 t1
  clear hW2 R0 R1 h1 h2 hs1 S2 hS hLd
  go_enter Tryz.func8, Tryz.ntmps8
  go_wp2_with fail
  rw [← HW2.out]
  refine hRA.mono ?_
  rintro e y1 ⟨⟨G, SD, Z, T, v, rfl, hok, hno⟩, b1⟩
  obtain ⟨W3, hW3⟩ : ∃ W3, W3 = y1.alloc (.cells #[.int .i64 (G : Int), .int .i64 (SD : Int), .int .i64 (Z : Int)] 49) := ⟨_, rfl⟩
  have HW3 : Hid (W3 = y1.alloc (.cells #[.int .i64 (G : Int), .int .i64 (SD : Int), .int .i64 (Z : Int)] 49)) := hW3
  have K3 : Hid (Bxs W3 y1.heap.size 49 #[.int .i64 (G : Int), .int .i64 (SD : Int), .int .i64 (Z : Int)]) := by rw [hW3]; exact Bxs.new _ _ _
  have HB3 : Hid (Below W2.heap.size W2 W3) := by rw [hW3]; exact alB b1 _
  have HB1 : Hid (Below W2.heap.size W2 y1) := b1
  clear t0 t1 hRA b1 hW3
  by_cases hac : ¬ arC ss ps = 0
  · have hei := hno hac
    obtain ⟨ty, pp, rfl⟩ := hei.iface
    have hco := HCo.out _ _ W3 hei HB3.out
    obtain ⟨c, hc⟩ : ∃ c, c = arC ss ps := ⟨_, rfl⟩
    rw [← hc] at hco
    have HCc : Hid (arC ss ps = c ∧ c ≠ 0) := ⟨hc.symm, by rw [hc]; exact hac⟩
    clear hok hno hac hei hc HCo HX
    go_wp2_with fail
    rw [← HW3.out]
    refine hco.mono ?_
    rintro e y2 ⟨rfl, b2⟩
    have b2 := chainB HB3.out b2
    have HE : Hid _ := fun x0 x1 x2 x3 x4 => HEr.out y2 c x0 x1 x2 x3 x4 b2 HCc.out.1 HCc.out.2
    obtain ⟨r0, r1, r2, r3, r4, f0, f1, f2, f3, f4⟩ := HR.out y2 b2
    clear HEr HR b2 hco HCc
    go_wp2_with fail
    refine bodyPost_ret (v := .agg #[.slice none 0 0, .slice none 0 0, .string ByteArray.empty, .int .i64 0, .int .i64 c]) (by simp [results, Tryz.results8, go_sem, r0, r1, r2, r3, r4]; first | done | rfl) rfl ?_
    exact HE.out _ _ _ _ _
  have hac : arC ss ps = 0 := Decidable.byContradiction hac
  obtain ⟨hG, -, hT, rfl⟩ := hok hac
  obtain ⟨hdr, -, -⟩ := arC_ok hac
  obtain ⟨-, -, p4, p5⟩ := dskB_parts hdr
  have hps := dskB_parts hdr
  have QC : Hid (∀ x, Below W3.heap.size W3 x → Calls Tryz.prog 28 #[.agg #[.slice q1 ss.length c1, .slice q2 ps.length c2]] x fun e x1 => ∃ u1 d1 u2 d2, e = .returned (.agg #[.slice u1 ss.length d1, .slice u2 ps.length d2]) ∧ DskO W3.heap.size ss ps (.slice u1 ss.length d1) (.slice u2 ps.length d2) x1 ∧ Below W3.heap.size W3 x1) := fun x hb => by
    have h := copiedDisk_any q1 c1 ss q2 c2 ps x ((T1.out.below HB3.out).below hb) ((T2.out.below HB3.out).below hb) n1 n2 m1 m2 (fun s hs => by have := p4 s hs; omega) (fun q hq => by have := (p5 q hq); unfold pndOk at this; omega)
    refine h.mono ?_
    rintro e x1 ⟨v1, v2, rfl, ho, hb1⟩
    obtain ⟨u1, d1, rfl, -, -⟩ := ownS_form ho.own1
    obtain ⟨u2, d2, rfl, -, -⟩ := ownP_form ho.own2
    exact ⟨u1, d1, u2, d2, rfl, ho.mono hb.size, chainB hb hb1⟩
  have HV : Hid (∀ v1 v2 : Value, Ending.returned (.agg #[v1, v2, .string T, .int .i64 (G : Int), .int .i64 0]) = .returned (.agg #[v1, v2, .string (arT ss ps), .int .i64 (arG ss ps : Nat), .int .i64 (arC ss ps)]) ∧ arS ss ps = ss ∧ arP ss ps = ps) := fun v1 v2 => ⟨by rw [hG, hT, hac], if_pos hac, if_pos hac⟩
  have HFin : Hid (∀ (y : World) (u1 : Option Addr) (d1 : Nat) (u2 : Option Addr) (d2 : Nat) (x0 x1 x2 x3 x4 : Value), DskO W3.heap.size ss ps (.slice u1 ss.length d1) (.slice u2 ps.length d2) y → Below W3.heap.size W3 y → ∃ v1 v2, Ending.returned (.agg #[.slice u1 ss.length d1, .slice u2 ps.length d2, .string T, .int .i64 (G : Int), .int .i64 0]) = .returned (.agg #[v1, v2, .string (arT ss ps), .int .i64 (arG ss ps : Nat), .int .i64 (arC ss ps)]) ∧ DskO w.heap.size (arS ss ps) (arP ss ps) v1 v2 (((((y.setCell ⟨w.heap.size + 1, 0, none⟩ x0).setCell ⟨w.heap.size + 1, 1, none⟩ x1).setCell ⟨w.heap.size + 1, 2, none⟩ x2).setCell ⟨w.heap.size + 1, 3, none⟩ x3).setCell ⟨w.heap.size + 1, 4, none⟩ x4) ∧ Below w.heap.size w (((((y.setCell ⟨w.heap.size + 1, 0, none⟩ x0).setCell ⟨w.heap.size + 1, 1, none⟩ x1).setCell ⟨w.heap.size + 1, 2, none⟩ x2).setCell ⟨w.heap.size + 1, 3, none⟩ x3).setCell ⟨w.heap.size + 1, 4, none⟩ x4)) := by
    intro y u1 d1 u2 d2 x0 x1 x2 x3 x4 ho hb
    have hz2 := HSz.out
    have hz3 := HB3.out.size
    obtain ⟨e1, e2, e3⟩ := HV.out (.slice u1 ss.length d1) (.slice u2 ps.length d2)
    rw [e2, e3]
    exact ⟨_, _, e1, (ho.set5 (by omega) x0 x1 x2 x3 x4).mono (by omega), below_set5 (chainB B2.out (chainB HB3.out hb)) (by omega) _ _ _ _ _⟩
  have HXy : Hid (∀ x, Below W3.heap.size W3 x → x.cell? ⟨w.heap.size, 0, none⟩ = some (.slice q1 ss.length c1) ∧ x.cell? ⟨w.heap.size, 1, none⟩ = some (.slice q2 ps.length c2) ∧ x.cell? ⟨y1.heap.size, 0, none⟩ = some (.int .i64 (G : Int))) := fun x hb => ⟨(HX.out x (chainB HB3.out hb)).1, (HX.out x (chainB HB3.out hb)).2, (K3.out.below hb).cell 0⟩
  have hyne : w.heap.size + 1 ≠ y1.heap.size := by have h1 := HSz.out; have h2 := HB1.out.size; omega
  have HX5 : Hid (∀ x (x0 x1 x2 x3 x4 : Value), Below W3.heap.size W3 x → (((((x.setCell ⟨w.heap.size + 1, 0, none⟩ x0).setCell ⟨w.heap.size + 1, 1, none⟩ x1).setCell ⟨w.heap.size + 1, 2, none⟩ x2).setCell ⟨w.heap.size + 1, 3, none⟩ x3).setCell ⟨w.heap.size + 1, 4, none⟩ x4).cell? ⟨w.heap.size, 0, none⟩ = some (.slice q1 ss.length c1) ∧ (((((x.setCell ⟨w.heap.size + 1, 0, none⟩ x0).setCell ⟨w.heap.size + 1, 1, none⟩ x1).setCell ⟨w.heap.size + 1, 2, none⟩ x2).setCell ⟨w.heap.size + 1, 3, none⟩ x3).setCell ⟨w.heap.size + 1, 4, none⟩ x4).cell? ⟨w.heap.size, 1, none⟩ = some (.slice q2 ps.length c2) ∧ (((((x.setCell ⟨w.heap.size + 1, 0, none⟩ x0).setCell ⟨w.heap.size + 1, 1, none⟩ x1).setCell ⟨w.heap.size + 1, 2, none⟩ x2).setCell ⟨w.heap.size + 1, 3, none⟩ x3).setCell ⟨w.heap.size + 1, 4, none⟩ x4).cell? ⟨y1.heap.size, 0, none⟩ = some (.int .i64 (G : Int))) := fun x x0 x1 x2 x3 x4 hb => by
    have h := HXy.out x hb
    simpa [World.cell?, World.setCell, Array.getElem?_modify, hyne] using h
  have HRy : Hid (∀ x, Below W3.heap.size W3 x → x.cell? ⟨w.heap.size + 1, 0, none⟩ = some (.slice none 0 0) ∧ x.cell? ⟨w.heap.size + 1, 1, none⟩ = some (.slice none 0 0) ∧ x.cell? ⟨w.heap.size + 1, 2, none⟩ = some (.string ByteArray.empty) ∧ x.cell? ⟨w.heap.size + 1, 3, none⟩ = some (.int .i64 0) ∧ x.cell? ⟨w.heap.size + 1, 4, none⟩ = some (.int .i64 0) ∧ x.frozen? ⟨w.heap.size + 1, 0, none⟩ = false ∧ x.frozen? ⟨w.heap.size + 1, 1, none⟩ = false ∧ x.frozen? ⟨w.heap.size + 1, 2, none⟩ = false ∧ x.frozen? ⟨w.heap.size + 1, 3, none⟩ = false ∧ x.frozen? ⟨w.heap.size + 1, 4, none⟩ = false) := fun x hb => HR.out x (chainB HB3.out hb)
  have HDr : Hid (Below W3.heap.size W3 W3.drew) := (Below.refl _ _).drew
  clear hok hno hac HCo HX HR HEr hG hT hdr p4 p5 hps hyne
  go_wp2_with fail
  rw [← HW3.out]
  go_region_held3 (fun w' => w'.cell? ⟨w.heap.size, 0, none⟩ = some (.slice q1 ss.length c1) ∧ w'.cell? ⟨w.heap.size, 1, none⟩ = some (.slice q2 ps.length c2) ∧ w'.cell? ⟨y1.heap.size, 0, none⟩ = some (.int .i64 (G : Int))) ((first | with_reducible exact HX5.out _ _ _ _ _ _ z1 | exact HXy.out _ HDr.out | exact HXy.out _ z1)) (first
    | (go_at_call 28; with_reducible refine (QC.out _ HDr.out).mono ?_; rintro e xa ⟨u1, d1, u2, d2, rfl, ho, z1⟩; obtain ⟨r0, r1, r2, r3, r4, f0, f1, f2, f3, f4⟩ := HRy.out _ z1))
  all_goals
    have HVV : Hid _ := fun x0 x1 x2 x3 x4 => HFin.out xa u1 d1 u2 d2 x0 x1 x2 x3 x4 ho z1
    clear HFin HRy HXy QC ho
    go_wp2_with fail
    refine bodyPost_ret (v := .agg #[.slice u1 ss.length d1, .slice u2 ps.length d2, .string T, .int .i64 (G : Int), .int .i64 0]) (by simp [results, Tryz.results8, go_sem, r0, r1, r2, r3, r4]; first | done | rfl) rfl ?_
    exact HVV.out _ _ _ _ _
end Go.Proofs.YtkhffoailfnepabGreatDoor
/-
  What the program's textSteps answers: the writes of a text's pieces, and a flush.
  Conditions: the text has at most 8000 bytes; the side's first Sector is a small number.
-/
namespace Go.Proofs.YtkhffoailfnepabGreatDoor
open Go.RowKit Go.Lib
set_option linter.unusedVariables false
set_option maxRecDepth 20000

theorem infoStp : (Tryz.prog.info? 99).map (fun i => (i.zero, i.size, i.bytes)) = some (some (.agg #[.bool false, .int .i64 0, .string ByteArray.empty]), 3, 32) := by kernel_rfl
theorem app_stp (w : World) (base : Nat) (v : Value) (l : List Stp) (own : w.ownsRow base 99 3 v l.length (stpRow l)) (x : Stp) (hl : l.length + 1 ≤ 1048576) (hbase : base ≤ w.heap.size) :
    ∃ g c w', (Builtin.append_ #[56, 56] 56 #[v, .slice (some ⟨w.heap.size, 0, none⟩) 1 1]).run Tryz.prog (w.alloc (.cells #[.bool x.f, .int .i64 (x.a : Int), .string x.t] 99)) = .ok (.slice (some ⟨g, 0, none⟩) (l.length + 1) c) w' ∧
      w'.ownsRow base 99 3 (.slice (some ⟨g, 0, none⟩) (l.length + 1) c) (l ++ [x]).length (stpRow (l ++ [x])) ∧ (w.alloc (.cells #[.bool x.f, .int .i64 (x.a : Int), .string x.t] 99)).grownBy w' v.ownBlock ∧ (v.ownBlock = some g ∨ g = w.heap.size + 1) := by
  obtain ⟨i0, hi, hz0, hz1, hz2⟩ := info_parts infoStp
  obtain ⟨g, c, w', h1, h2, h3, h4, _⟩ := run_append_lies (P := Tryz.prog) (w.alloc (.cells #[.bool x.f, .int .i64 (x.a : Int), .string x.t] 99)) 56 56 base 99 i0 _ 3 32 Tryz.underlying56 hi hz0 hz1 hz2 rfl (by omega) v l.length (stpRow l) (own.alloc _) ⟨w.heap.size, 0, none⟩ 1 1 (stpRow [x]) rfl (fun j u hu => by
      have hj : j < 3 := by
        rcases Nat.lt_or_ge j 3 with q | q
        · exact q
        · rw [List.getElem?_eq_none (by rw [stpRow_len]; exact q)] at hu; cases hu
      have hadd : (⟨w.heap.size, 0, none⟩ : Addr).add j = ⟨w.heap.size, 0 + j, none⟩ := by unfold Addr.add; split <;> simp_all
      rw [hadd, Nat.zero_add, World.cell?_alloc_mark]
      match j, hj with
      | 0, _ => exact hu
      | 1, _ => exact hu
      | 2, _ => exact hu) (fun u hu => by
      simp [stpRow] at hu
      rcases hu with rfl | rfl | rfl <;> rfl) (by omega) (by unfold maxLen; omega) (by omega) (by simp; omega) (w.heap.size + 1) (by simp)
  refine ⟨g, c, w', h1, ?_, h3, h4⟩
  have e1 : (l ++ [x]).length = l.length + 1 := by simp
  rw [e1, stpRow_append]; exact h2
theorem stp_at {w : World} {base : Nat} {v : Value} {l : List Stp} (h : w.ownsRow base 99 3 v l.length (stpRow l)) : ∃ p cap, v = .slice p l.length cap ∧ l.length ≤ cap ∧ StpAt w p l := by
  rcases h.2 with ⟨rfl, h0⟩ | ⟨g, cap, cur, rfl, h2, h3, h4, h5, h6, h7⟩
  · have hl : l = [] := List.length_eq_zero_iff.1 h0
    subst hl
    exact ⟨none, 0, rfl, Nat.le_refl _, StpAt.nil _ _⟩
  · refine ⟨some ⟨g, 0, none⟩, cap, rfl, h4, fun i hi => ⟨g, 0, rfl, lt_of_block h3, ?_⟩⟩
    have h8 := stpRow_at l i hi
    rw [← h7, List.getElem?_take_of_lt (by omega), List.getElem?_take_of_lt (by omega), List.getElem?_take_of_lt (by omega)] at h8
    rw [Nat.zero_add]
    simpa [World.cell?, h3] using h8
/-- A row of steps of the call's own, and one more. -/
structure StL (W : World) (v : Value) (l : List Stp) (x : World) : Prop where
  own : x.ownsRow W.heap.size 99 3 v l.length (stpRow l)
  bel : Below W.heap.size W x
theorem StL.app {W : World} {v : Value} {l : List Stp} {x : World} (h : StL W v l x) (s : Stp) (hl : l.length + 1 ≤ 1048576) : ∃ g c x', (Builtin.append_ #[56, 56] 56 #[v, .slice (some ⟨x.heap.size, 0, none⟩) 1 1]).run Tryz.prog (x.alloc (.cells #[.bool s.f, .int .i64 (s.a : Int), .string s.t] 99)) = .ok (.slice (some ⟨g, 0, none⟩) (l.length + 1) c) x' ∧ StL W (.slice (some ⟨g, 0, none⟩) (l.length + 1) c) (l ++ [s]) x' := by
  obtain ⟨g, c, x', h1, h2, h3, -⟩ := app_stp x W.heap.size v l h.own s hl h.bel.size
  exact ⟨g, c, x', h1, h2, (h.bel.alloc h.bel.size _).grown h3 (by simp; have := h.bel.size; omega) (fun j hj => (h.own.lt j hj).1)⟩
set_option maxHeartbeats 2000000 in
theorem textSteps_any (first : Nat) (t : ByteArray) (w : World) (ht : t.size ≤ 8000) (hf : first ≤ 1000) :
    Calls Tryz.prog 61 #[.int .i64 (first : Int), .string t] w fun e w' => ∃ v, e = .returned v ∧ w'.ownsRow w.heap.size 99 3 v (putW first t (needN t.size) ++ [Stp.fl]).length (stpRow (putW first t (needN t.size) ++ [Stp.fl])) ∧ Below w.heap.size w w' := by
  have F0 : Hid (StL w (.slice none 0 0) [] w) := ⟨World.ownsRow_nil _ _ _ _, Below.refl _ _⟩
  have HPc : Hid (∀ j, j < needN t.size → ∀ x, (Instr.slice 9 (.string t) (some (.int .i64 ((j : Int) * 64))) (some (.int .i64 ((min t.size (64 * (j + 1)) : Nat) : Int))) none).run Tryz.prog x = .ok (.string (pieceB t j)) x) := fun j hj x => piece_run t j hj x
  have hn : needN t.size ≤ 125 := by unfold needN; omega
  go_enter Tryz.func61, Tryz.ntmps61
  go_wp2_with fail
  go_loopw [5, 6] (fun v i wr => ∃ (k : Nat) (l : List Stp), k ≤ needN t.size ∧ i = .int .i64 ((k : Int) * 64) ∧ Hid (l = putW first t k) ∧ Hid (StL w v l wr)) (fun _ i _ => 64 * needN t.size - (intOf i).toNat)
  case atStart => exact ⟨0, [], by omega, rfl, rfl, F0⟩
  case round =>
    clear F0
    obtain ⟨k, l, hk, rfl, HL, HO⟩ := hrel
    have hll : l.length = k := by rw [HL.out, putW_len]
    have HLL : Hid (l.length = k) := hll
    by_cases hlt : k < needN t.size
    · have h64 : 64 * k < t.size := by unfold needN at hlt; omega
      have d1 : decide ((k : Int) * 64 < (t.size : Int)) = true := decide_eq_true (by omega)
      have hw1 : IntKind.i64.wrap ((k : Int) * 64 + 64) = (k : Int) * 64 + 64 := by rw [IntKind.wrap_i64]; omega
      have hmin : min ((k : Int) * 64 + 64) (t.size : Int) = ((min t.size (64 * (k + 1)) : Nat) : Int) := by omega
      have hq : ((k : Int) * 64).tdiv 64 = (k : Int) := by rw [Int.tdiv_eq_ediv_of_nonneg (by omega)]; omega
      have hw2 : IntKind.i64.wrap (k : Int) = (k : Int) := by rw [IntKind.wrap_i64]; omega
      have hw3 : IntKind.i64.wrap ((first : Int) + (k : Int)) = (first : Int) + (k : Int) := by rw [IntKind.wrap_i64]; omega
      have hpr := HPc.out k hlt
      obtain ⟨g, c, x', hrun, HO2⟩ := HO.out.app (.wr (first + k) (pieceB t k)) (by omega)
      have hrun : (Builtin.append_ #[56, 56] 56 #[u5, .slice (some ⟨wr.heap.size, 0, none⟩) 1 1]).run Tryz.prog (wr.alloc (.cells #[.bool false, .int .i64 ((first : Int) + (k : Int)), .string (pieceB t k)] 99)) = .ok (.slice (some ⟨g, 0, none⟩) (l.length + 1) c) x' := by
        rw [show (first : Int) + (k : Int) = ((first + k : Nat) : Int) by omega]; exact hrun
      have HL2 : Hid (l ++ [.wr (first + k) (pieceB t k)] = putW first t (k + 1)) := by
        show _ = _
        rw [putW_succ, ← HL.out]
      have HO3 : Hid (StL w (.slice (some ⟨g, 0, none⟩) (l.length + 1) c) (l ++ [.wr (first + k) (pieceB t k)]) x') := HO2
      have HM : Hid (64 * k < t.size ∧ k < needN t.size) := ⟨h64, hlt⟩
      have hk9 : k < 125 := by omega
      have hs1 : (0 : Int) ≤ (k : Int) * 64 := by omega
      have hs2 : (k : Int) * 64 ≤ (t.size : Int) := by omega
      have hs3 : (k : Int) * 64 ≤ (k : Int) * 64 + 64 := by omega
      have hs4 : k * 64 ≤ t.size := by omega
      clear HO HL hll HO2 h64 HPc hpr hmin
      by_cases hm : (t.size : Int) < (k : Int) * 64 + 64
      · have e : pieceB t k = t.extract (k * 64) t.size := by
          unfold pieceB; rw [show 64 * k = k * 64 by omega, show min t.size (64 * (k + 1)) = t.size by omega]
        rw [e] at hrun
        have d2 : decide ((t.size : Int) < (k : Int) * 64 + 64) = true := decide_eq_true hm
        clear e
        go_wp2_with (at_builtin; refine wpList_append_run rfl _ _ _ rfl _ _ _ _ rfl rfl hrun ?_)
        go_roundw
        case rel => exact ⟨k + 1, _, by omega, by go_num, HL2, HO3⟩
        case measure => have := HM.out; unfold needN at *; simp [intOf]; omega
      · have e : pieceB t k = t.extract (k * 64) (k * 64 + 64) := by
          unfold pieceB; rw [show 64 * k = k * 64 by omega, show min t.size (64 * (k + 1)) = k * 64 + 64 by omega]
        rw [e] at hrun
        have d2 : decide ((t.size : Int) < (k : Int) * 64 + 64) = false := decide_eq_false hm
        have hle : (k : Int) * 64 + 64 ≤ (t.size : Int) := by omega
        clear e
        go_wp2_with (at_builtin; refine wpList_append_run rfl _ _ _ rfl _ _ _ _ rfl rfl hrun ?_)
        go_roundw
        case rel => exact ⟨k + 1, _, by omega, by go_num, HL2, HO3⟩
        case measure => have := HM.out; unfold needN at *; simp [intOf]; omega
    · obtain rfl : k = needN t.size := by omega
      have hge : t.size ≤ 64 * needN t.size := by unfold needN; omega
      have d1 : decide ((needN t.size : Int) * 64 < (t.size : Int)) = false := decide_eq_false (by omega)
      obtain ⟨g, c, x', hrun, HO2⟩ := HO.out.app Stp.fl (by omega)
      have hrun : (Builtin.append_ #[56, 56] 56 #[u5, .slice (some ⟨wr.heap.size, 0, none⟩) 1 1]).run Tryz.prog (wr.alloc (.cells #[.bool true, .int .i64 0, .string ⟨#[]⟩] 99)) = .ok (.slice (some ⟨g, 0, none⟩) (l.length + 1) c) x' := hrun
      rw [HL.out] at HO2
      have HO3 : Hid (StL w (.slice (some ⟨g, 0, none⟩) (l.length + 1) c) (putW first t (needN t.size) ++ [.fl]) x') := by rw [HL.out]; exact HO2
      clear HO HL hll HO2 hge hlt HPc
      go_wp2_with (at_builtin; refine wpList_append_run rfl _ _ _ rfl _ _ _ _ rfl rfl hrun ?_)
      go_ret
      exact ⟨_, rfl, HO3.out.own, HO3.out.bel⟩
end Go.Proofs.YtkhffoailfnepabGreatDoor
/-
  What the program's (areaHead).next answers; a row of steps of the call's own takes two steps more.
  Conditions: the numbers lie within 64 bits.
-/
namespace Go.Proofs.YtkhffoailfnepabGreatDoor
open Go.RowKit Go.Lib
set_option linter.unusedVariables false
set_option maxRecDepth 20000

theorem next_any (g s z size : Nat) (w : World) (hg : g < 1000000) (hs : s ≤ 1) :
    Calls Tryz.prog 60 #[.agg #[.int .i64 (g : Int), .int .i64 (s : Int), .int .i64 (z : Int)], .int .i64 (size : Int)] w fun e w' => e = .returned (.agg #[.int .i64 ((g + 1 : Nat) : Int), .int .i64 ((1 - s : Nat) : Int), .int .i64 (size : Int)]) ∧ Below w.heap.size w w' := by
  have hw1 : IntKind.i64.wrap ((g : Int) + 1) = (g : Int) + 1 := by rw [IntKind.wrap_i64]; omega
  obtain ⟨o, ho⟩ : ∃ o : Int, o = ((1 - s : Nat) : Int) := ⟨_, rfl⟩
  have hw2 : IntKind.i64.wrap (1 - (s : Int)) = o := by rw [IntKind.wrap_i64, ho]; omega
  rw [← ho, show ((g + 1 : Nat) : Int) = (g : Int) + 1 by omega]
  have HB : Hid (Below w.heap.size w ((w.alloc (.cells #[.int .i64 (g : Int), .int .i64 (s : Int), .int .i64 (z : Int)] 49)).alloc (.cells #[.int .i64 ((g : Int) + 1), .int .i64 o, .int .i64 (size : Int)] 49))) := ((Below.refl _ _).alloc (Nat.le_refl _) _).alloc (by simp) _
  clear ho
  go_enter Tryz.func60, Tryz.ntmps60
  go_wp2_with fail
  refine bodyPost_ret (v := .agg #[.int .i64 ((g : Int) + 1), .int .i64 o, .int .i64 (size : Int)]) (by simp [results, Tryz.results60, go_sem]) rfl ?_
  exact ⟨rfl, HB.out⟩
/-- Two steps that lie in a block of their own are appended. -/
theorem app_two {W : World} {v : Value} {l : List Stp} {x : World} (h : StL W v l x) (b : Nat) (s1 s2 : Stp) (hb : x.heap[b]? = some (.cells #[.bool s1.f, .int .i64 (s1.a : Int), .string s1.t, .bool s2.f, .int .i64 (s2.a : Int), .string s2.t] 99 (0, 0))) (hv : ∀ j, v.ownBlock = some j → j ≠ b) (hl : l.length + 2 ≤ 1048576) :
    ∃ g c x', (Builtin.append_ #[56, 56] 56 #[v, .slice (some ⟨b, 0, none⟩) 2 2]).run Tryz.prog x = .ok (.slice (some ⟨g, 0, none⟩) (l.length + 2) c) x' ∧ StL W (.slice (some ⟨g, 0, none⟩) (l.length + 2) c) (l ++ [s1, s2]) x' := by
  obtain ⟨i0, hi, hz0, hz1, hz2⟩ := info_parts infoStp
  have hlt := lt_of_block hb
  obtain ⟨g, c, w', h1, h2, h3, h4, _⟩ := run_append_lies (P := Tryz.prog) x 56 56 W.heap.size 99 i0 _ 3 32 Tryz.underlying56 hi hz0 hz1 hz2 rfl (by omega) v l.length (stpRow l) h.own ⟨b, 0, none⟩ 2 2 (stpRow [s1, s2]) rfl (fun j u hu => by
      have hj : j < 6 := by
        rcases Nat.lt_or_ge j 6 with q | q
        · exact q
        · rw [List.getElem?_eq_none (by rw [stpRow_len]; exact q)] at hu; cases hu
      have hadd : (⟨b, 0, none⟩ : Addr).add j = ⟨b, 0 + j, none⟩ := by unfold Addr.add; split <;> simp_all
      rw [hadd, Nat.zero_add]
      have hc : x.cell? ⟨b, j, none⟩ = (#[.bool s1.f, .int .i64 (s1.a : Int), .string s1.t, .bool s2.f, .int .i64 (s2.a : Int), .string s2.t] : Array Value)[j]? := by simp [World.cell?, hb]
      rw [hc]
      match j, hj with
      | 0, _ => exact hu
      | 1, _ => exact hu
      | 2, _ => exact hu
      | 3, _ => exact hu
      | 4, _ => exact hu
      | 5, _ => exact hu) (fun u hu => by
      simp [stpRow] at hu
      rcases hu with rfl | rfl | rfl | rfl | rfl | rfl <;> rfl) (by omega) (by unfold maxLen; omega) (by omega) h.bel.size x.heap.size rfl
  refine ⟨g, c, w', h1, ?_, h.bel.grown h3 h.bel.size (fun j hj => (h.own.lt j hj).1)⟩
  have e1 : (l ++ [s1, s2]).length = l.length + 2 := by simp
  rw [e1, stpRow_append]; exact h2
end Go.Proofs.YtkhffoailfnepabGreatDoor
