/-
  What the program's sideText answers: the text of a side, or that it is short.
  Conditions: the cells of Sectors and Pending hold the texts and the pendings; the disk is right; 'read' is the disk's own, bound; the sentinels are laid; the size is at most the room.
-/
import Derived.Test.YtnppgldafhpchaaDoorRows
import Derived.Test.YtnppgldafhpchaaDoorBytes
import Derived.Test.YtnppgldafhpchaaDoorSlASlBOwnS
import Derived.Test.YtnppgldafhpchaaDoorDskMath
import Derived.Test.YtnppgldafhpchaaDoorDskMap
import Derived.Test.YtnppgldafhpchaaDoorDskA
import Derived.Test.YtnppgldafhpchaaDoorLawD
import Derived.Test.YtnppgldafhpchaaDoorAreaMath
import Derived.Test.YtnppgldafhpchaaDoorAreaSeen
import Derived.Test.YtnppgldafhpchaaDoorAreaRd
import Derived.Test.YtnppgldafhpchaaDoorSideM
import Derived.Test.YtnppgldafhpchaaDoorImplAA
import Derived.Test.YtnppgldafhpchaaDoorImplDO
import Derived.Test.YtnppgldafhpchaaDoorCopiedImplDFErrI3
import Derived.Test.YtnppgldafhpchaaDoorSen3PutMath
import Derived.Test.YtnppgldafhpchaaDoorImplRH3
import Derived.Handy
import Derived.WalkSpells
import Derived.OwnWalk
import Derived.Lib.AppendStr
import Derived.Deep.AppendLies
import Derived.Laws.MakeOwn
import Derived.BigQuiet
namespace Go.Proofs.YtnppgldafhpchaaDoor
open Go.RowKit Go.Lib
set_option linter.unusedVariables false
set_option maxRecDepth 20000

/-- What sideText tells. -/
def sdV (ss : List ByteArray) (ps : List Pnd) (S Z : Nat) (a3 : Addr) : Value :=
  if sideOk (arRd ss ps S) Z (needN Z) = true then .tuple #[.string (sideB (arRd ss ps S) Z (needN Z)), .nilIface] else .tuple #[.string ByteArray.empty, .iface 107 (.pointer (some a3))]
theorem make_bytes (z : Nat) (hz : z ≤ 100000) (w : World) : (Instr.makeSlice 59 (.int .i64 0) (.int .i64 (z : Int))).run Tryd.prog w = .ok (.slice (some ⟨w.heap.size, 0, none⟩) 0 z) (w.alloc (.cells (zrow z).toArray 5)) := by
  obtain ⟨i0, hi, he⟩ := Option.map_eq_some_iff.1 infoU8r
  simp only [Prod.mk.injEq] at he
  obtain ⟨hz0, hz1, hz2⟩ := he
  have := run_make (P := Tryd.prog) w 59 5 i0 (.int .u8 0) Tryd.underlying59 hi hz0 .i64 .i64 0 (z : Int) (by omega) (by omega) (by rw [hz2]; omega) (by omega)
  rw [this, hz1]
  rw [show (Value.int .u8 0).cells = #[.int .u8 0] from rfl, show (z : Int).toNat * 1 = z by omega, madeZ, show (z : Int).toNat = z by omega]; rfl
theorem RdL.start (W : World) (z : Nat) (hz : z ≤ 100000) : RdL W (.slice (some ⟨W.heap.size, 0, none⟩) 0 z) ByteArray.empty (W.alloc (.cells (zrow z).toArray 5)) :=
  ⟨World.ownsRow_made W (zrow z).toArray z (Nat.le_refl _) (by unfold maxLen; omega) (by simp [zrow]), (Below.refl _ _).alloc (Nat.le_refl _) _, by simp⟩
theorem strCells_push (s : ByteArray) (b : UInt8) : strCells (s.push b) = strCells s ++ [.int .u8 (b.toNat : Int)] := by unfold strCells; simp
theorem RdL.push {W : World} {v : Value} {s : ByteArray} {x : World} (h : RdL W v s x) (b : UInt8) (hs : s.size + 1 ≤ 100000) :
    ∃ g c x', (Builtin.append_ #[59, 59] 59 #[v, .slice (some ⟨x.heap.size, 0, none⟩) 1 1]).run Tryd.prog (x.alloc (.cells #[.int .u8 (b.toNat : Int)] 5)) = .ok (.slice (some ⟨g, 0, none⟩) (s.size + 1) c) x' ∧ RdL W (.slice (some ⟨g, 0, none⟩) (s.size + 1) c) (s.push b) x' := by
  obtain ⟨i0, hi, he⟩ := Option.map_eq_some_iff.1 infoU8r
  simp only [Prod.mk.injEq] at he
  obtain ⟨hz0, hz1, hz2⟩ := he
  have hb := h.bel.size
  obtain ⟨g, c, x', h1, h2, h3, -⟩ := run_append_lies (P := Tryd.prog) (x.alloc (.cells #[.int .u8 (b.toNat : Int)] 5)) 59 59 W.heap.size 5 i0 _ 1 1 Tryd.underlying59 hi hz0 hz1 hz2 rfl (by omega) v s.size (strCells s) (h.own.alloc _) ⟨x.heap.size, 0, none⟩ 1 1 [.int .u8 (b.toNat : Int)] rfl (World.news_of_block (cs := #[.int .u8 (b.toNat : Int)]) (t := 5) (fr := (0, 0)) (heap_alloc_new x _)) (by simp [Value.oneCell']) (by omega) (by unfold maxLen; omega) (by omega) (by simp; omega) (x.heap.size + 1) (by simp)
  refine ⟨g, c, x', h1, ?_, (h.bel.alloc hb _).grown h3 (by simp; omega) (fun j hj => (h.own.lt j hj).1), by simp⟩
  rw [strCells_push, ByteArray.size_push]; exact h2
set_option maxHeartbeats 4000000 in
theorem sideText_any (q1 : Option Addr) (c1 : Nat) (ss : List ByteArray) (q2 : Option Addr) (c2 : Nat) (ps : List Pnd) (M n : Nat) (D : DataW Pnd) (g : Int) (S Z : Nat) (a1 a2 a3 a4 : Addr) (w : World) (hO : Opn q1 ss M n D ps w) (hS : Sents a1 a2 a3 a4 w) (hr : dskB ss ps = true) (m1 : ss.length ≤ c1) (hS1 : S ≤ 1) (hZ : Z ≤ 64 * sideN ss.length) :
    Calls Tryd.prog 40 #[.agg #[.slice q1 ss.length c1, .slice q2 ps.length c2], .agg #[.int .i64 g, .int .i64 (S : Int), .int .i64 (Z : Int)], .func (.func 32) #[.agg #[.slice q1 ss.length c1, .map (some M)]] #[]] w fun e w' => e = .returned (sdV ss ps S Z a3) ∧ Below w.heap.size w w' := by
  obtain ⟨W2, hW2⟩ : ∃ W2, W2 = (w.alloc (.cells #[.slice q1 ss.length c1, .slice q2 ps.length c2] 30)).alloc (.cells #[.int .i64 g, .int .i64 (S : Int), .int .i64 (Z : Int)] 68) := ⟨_, rfl⟩
  have hs1 : (w.alloc (.cells #[.slice q1 ss.length c1, .slice q2 ps.length c2] 30)).heap.size = w.heap.size + 1 := by simp
  have S2 : W2.heap.size = w.heap.size + 2 := by rw [hW2]; simp
  have R0 : Bxs W2 w.heap.size 30 #[.slice q1 ss.length c1, .slice q2 ps.length c2] := by rw [hW2]; exact (Bxs.new _ _ _).alloc _
  have R1 : Bxs W2 (w.heap.size + 1) 68 #[.int .i64 g, .int .i64 (S : Int), .int .i64 (Z : Int)] := by rw [hW2, ← hs1]; exact Bxs.new _ _ _
  have B2 : Hid (Below w.heap.size w W2) := by rw [hW2]; exact ((Below.refl _ _).alloc (Nat.le_refl _) _).alloc (by rw [hs1]; omega) _
  have HO2 : Hid (Opn q1 ss M n D ps W2) := hO.below B2.out
  have HS2 : Hid (Sents a1 a2 a3 a4 W2) := hS.below B2.out
  obtain ⟨⟨p1, p2⟩, p3, p4, p5⟩ := dskB_parts hr
  have HX : Hid (∀ x, Below W2.heap.size W2 x → x.cell? ⟨w.heap.size, 0, none⟩ = some (.slice q1 ss.length c1) ∧ x.cell? ⟨w.heap.size, 1, none⟩ = some (.slice q2 ps.length c2)) := fun x hb => ⟨(R0.below hb).cell 0, (R0.below hb).cell 1⟩
  have HH : Hid (∀ x, Below W2.heap.size W2 x → x.cell? ⟨w.heap.size + 1, 1, none⟩ = some (.int .i64 (S : Int)) ∧ x.cell? ⟨w.heap.size + 1, 2, none⟩ = some (.int .i64 (Z : Int))) := fun x hb => ⟨(R1.below hb).cell 1, (R1.below hb).cell 2⟩
  have HSe : Hid (∀ x, Below W2.heap.size W2 x → x.cell? ⟨2, 0, none⟩ = some (.iface 107 (.pointer (some a3)))) := fun x hb => (HS2.out.below hb).c3
  obtain ⟨H, hHe⟩ : ∃ H, H = sideN ss.length := ⟨_, rfl⟩
  obtain ⟨f, hfe⟩ : ∃ f, f = 1 + S * sideN ss.length := ⟨_, rfl⟩
  have hH32 : H ≤ 32 := by rw [hHe]; unfold sideN; omega
  have hf33 : f + H ≤ ss.length ∧ f ≤ 33 := by
    have h3 : 2 * sideN ss.length ≤ ss.length - 1 := by unfold sideN; omega
    have h2 : S * sideN ss.length ≤ sideN ss.length := by
      rcases Nat.le_one_iff_eq_zero_or_eq_one.1 hS1 with rfl | rfl <;> omega
    rw [hHe, hfe]; omega
  obtain ⟨rd, hrd⟩ : ∃ rd, rd = arRd ss ps S := ⟨_, rfl⟩
  have HRd : Hid (∀ (i : Nat) x, i < H → Below W2.heap.size W2 x → Calls Tryd.prog 32 #[.agg #[.slice q1 ss.length c1, .map (some M)], .int .i64 ((f : Int) + (i : Int))] x fun e x1 => e = .returned (.string (rd i)) ∧ Below x.heap.size x x1) := fun i x hi hb => by
    have k := HO2.out.below hb
    have h := read_any q1 c1 ss M n D ps (f + i) x k.txt m1 p2 k.map k.of (by omega) p4 p5
    rw [show ((f + i : Nat) : Int) = (f : Int) + (i : Int) by omega] at h
    have e : rd i = readB ss ps ((f : Int) + (i : Int)) := by rw [hrd]; unfold arRd; rw [← hfe]; congr 1
    rw [e]; exact h
  have HRs : Hid (∀ i, (rd i).size ≤ 64) := fun i => by rw [hrd]; exact readB_small hr _
  have hSt := fun x => sideStart_any q1 ss.length c1 q2 ps.length c2 S x p1 (by omega) hS1
  have hSs := fun x => sideSectors_any q1 ss.length c1 q2 ps.length c2 x p1 (by omega)
  rw [← hfe] at hSt
  rw [← hHe] at hSs hZ
  have HSt : Hid (∀ x, Calls Tryd.prog 30 #[.agg #[.slice q1 ss.length c1, .slice q2 ps.length c2], .int .i64 (S : Int)] x fun e w' => e = .returned (.int .i64 (f : Int)) ∧ Below x.heap.size x w') := hSt
  have HSs : Hid (∀ x, Calls Tryd.prog 41 #[.agg #[.slice q1 ss.length c1, .slice q2 ps.length c2]] x fun e w' => e = .returned (.int .i64 (H : Int)) ∧ Below x.heap.size x w') := hSs
  have HOk : Hid (∀ o, sideOk rd Z (needN Z) = true ∧ o = sideB rd Z (needN Z) ∧ o.size = Z → sdV ss ps S Z a3 = .tuple #[.string o, .nilIface]) := fun o h => by rw [h.2.1, hrd]; exact if_pos (by rw [← hrd]; exact h.1)
  have HNo : Hid (sideOk rd Z (needN Z) = false → sdV ss ps S Z a3 = .tuple #[.string ByteArray.empty, .iface 107 (.pointer (some a3))]) := fun h => if_neg (by rw [← hrd, h]; decide)
  have HEn : Hid (∀ x v o, RdL W2 v o x → Below w.heap.size w x) := fun x v o h => chainB B2.out h.bel
  have hZ2 : Z ≤ 2048 := by omega
  have HZ : Hid (Z ≤ 64 * H) := hZ
  obtain ⟨W3, hW3⟩ : ∃ W3, W3 = W2.alloc (.cells (zrow Z).toArray 5) := ⟨_, rfl⟩
  have F0 : Hid (RdL W2 (.slice (some ⟨w.heap.size + 2, 0, none⟩) 0 Z) ByteArray.empty W3) := by rw [hW3, ← S2]; exact RdL.start W2 Z (by omega)
  have HW3 : Hid (W3 = ((w.alloc (.cells #[.slice q1 ss.length c1, .slice q2 ps.length c2] 30)).alloc (.cells #[.int .i64 g, .int .i64 (S : Int), .int .i64 (Z : Int)] 68)).alloc (.cells (zrow Z).toArray 5)) := by rw [← hW2]; exact hW3
  have hmk := make_bytes Z (by omega)
  obtain ⟨t0, t1⟩ := HX.out W3 F0.out.bel
  obtain ⟨t2, t3⟩ := HH.out W3 F0.out.bel
  obtain ⟨-, t4⟩ := HH.out W2 (Below.refl _ _)
  rw [HW3.out] at t0 t1 t2 t3
  rw [hW2] at t4
  clear hW2 hW3 R0 R1 hs1 hO hS hr p1 p2 p3 p4 p5 hHe hfe hrd hSt hSs hZ S2 HO2 HS2
  go_enter Tryd.func40, Tryd.ntmps40
  go_wp2_with fail
  go_step3
  go_wp2_with fail
  rw [← HW3.out]
  refine (HSt.out W3).mono ?_
  rintro e y1 ⟨rfl, b1⟩
  have F1 : Hid (RdL W2 (.slice (some ⟨w.heap.size + 2, 0, none⟩) 0 Z) ByteArray.empty y1) := F0.out.below b1
  clear t0 t1 t2 t3 t4 b1 F0
  obtain ⟨t0, t1⟩ := HX.out y1 F1.out.bel
  go_wp2_with fail
  go_step3
  go_wp2_with fail
  refine (HSs.out y1).mono ?_
  rintro e y2 ⟨rfl, b2⟩
  have F2 : Hid (RdL W2 (.slice (some ⟨w.heap.size + 2, 0, none⟩) 0 Z) ByteArray.empty y2) := F1.out.below b2
  clear t0 t1 b2 F1
  go_wp2_with fail
  go_loopw [22, 8] (fun i v wr => ∃ (k : Nat) (o : ByteArray) (p : Option Addr) (c : Nat), k ≤ H ∧ i = .int .i64 (k : Int) ∧ v = .slice p o.size c ∧ Hid (SdM rd Z k 0 o) ∧ Hid (RdL W2 (.slice p o.size c) o wr)) (fun i _ _ => H - (intOf i).toNat)
  case atStart => exact ⟨0, ByteArray.empty, _, _, by omega, rfl, rfl, SdM.start rd Z, F2⟩
  case round =>
    clear F2
    obtain ⟨k, o, p, c, hk, rfl, rfl, HM, HL⟩ := hrel
    obtain ⟨wo, rfl⟩ : ∃ wo : World, wo = wr := ⟨_, rfl⟩
    by_cases hlt : k < H
    · have d1 : decide ((k : Int) < (H : Int)) = true := decide_eq_true (by omega)
      have hw1 : IntKind.i64.wrap ((f : Int) + (k : Int)) = (f : Int) + (k : Int) := by rw [IntKind.wrap_i64]; omega
      have hrd := HRd.out k wo hlt HL.out.bel
      have HR6 : Hid ((rd k).size ≤ 64) := HRs.out k
      obtain ⟨T, hT⟩ : ∃ T, T = rd k := ⟨_, rfl⟩
      rw [← hT] at hrd
      have HT : Hid (T = rd k) := hT
      clear hT
      go_wp2_with fail
      refine hrd.mono ?_
      rintro e y3 ⟨rfl, b3⟩
      have HL3 : Hid (RdL W2 (.slice p o.size c) o y3) := HL.out.below b3
      clear hrd b3 HL
      go_wp2_with fail
      go_loopw [30, 8] (fun i v wr => ∃ (j : Nat) (o : ByteArray) (p : Option Addr) (c : Nat), j ≤ 64 ∧ i = .int .i64 (j : Int) ∧ v = .slice p o.size c ∧ Hid (SdM rd Z k j o) ∧ Hid (RdL W2 (.slice p o.size c) o wr)) (fun i _ _ => 64 - (intOf i).toNat)
      case atStart => exact ⟨0, o, p, c, by omega, rfl, rfl, HM, HL3⟩
      case round =>
        clear HM HL3
        obtain ⟨j, o', p', c', hj, rfl, rfl, HM, HL⟩ := hrel
        obtain ⟨-, z2⟩ := HH.out wr HL.out.bel
        have HSz : Hid (o'.size = 64 * k + j) := HM.out.size
        have hoz : o'.size ≤ 3000 := by have := HSz.out; omega
        by_cases hj6 : j < 64
        · have d2 : decide ((j : Int) < 64) = true := decide_eq_true (by omega)
          by_cases he : 64 * k + j = Z
          · have e1 : ((o'.size : Int) == (Z : Int)) = true := by rw [beq_iff_eq, HSz.out]; omega
            have d3 : decide ((o'.size : Int) < (Z : Int)) = false := decide_eq_false (by rw [HSz.out]; omega)
            have d3n : decide (o'.size < Z) = false := decide_eq_false (by rw [HSz.out]; omega)
            have hx := HM.out.full hj6 he
            have hok : sideOk rd Z (needN Z) = true ∧ o' = sideB rd Z (needN Z) ∧ o'.size = Z := by
              rcases hx with h | ⟨-, h⟩
              · exact h
              · rw [HSz.out] at h; omega
            have HV : Hid (sdV ss ps S Z a3 = .tuple #[.string o', .nilIface]) := HOk.out o' hok
            have HB : Hid (Below w.heap.size w wr) := HEn.out _ _ _ HL.out
            have hcv : (convert 59 9 (.slice p' o'.size c')).run Tryd.prog wr = .ok (.string o') wr := by
              obtain ⟨_, _, ev, -, hp⟩ := HL.out.form
              cases ev
              exact conv_own HL.out.own hp
            clear hx hok he HM HL HSz HR6 HT
            go_wp2_with fail
            try rw [Exit.noGoto_ret]
            go_ret2
            rw [HV.out]
            exact ⟨rfl, HB.out⟩
          · have e1 : ((o'.size : Int) == (Z : Int)) = false := by rw [beq_eq_false_iff_ne, HSz.out]; omega
            have hltz : 64 * k + j < Z := by have := HM.out.le; omega
            by_cases hs : j = T.size
            · have e2 : ((j : Int) == (T.size : Int)) = true := by rw [beq_iff_eq]; omega
              have d3 : decide ((o'.size : Int) < (Z : Int)) = true := decide_eq_true (by rw [HSz.out]; omega)
              have d3n : decide (o'.size < Z) = true := decide_eq_true (by rw [HSz.out]; omega)
              have hx := HM.out.short hj6 (by rw [← HT.out]; exact hs) hltz
              have hno : sideOk rd Z (needN Z) = false := by
                rcases hx with ⟨-, -, h⟩ | ⟨h, -⟩
                · rw [HSz.out] at h; omega
                · exact h
              have HV : Hid (sdV ss ps S Z a3 = .tuple #[.string ByteArray.empty, .iface 107 (.pointer (some a3))]) := HNo.out hno
              have HB : Hid (∀ n, Below w.heap.size w (wr.drewN n)) := fun n => below_drewN (HEn.out _ _ _ HL.out) n
              have gq := HSe.out wr HL.out.bel
              clear hx hno he hltz HM HL HSz HR6 HT hs
              go_wp2_with fail
              go_quiet (fail)
              go_wp2_with fail
              try rw [Exit.noGoto_ret]
              go_ret2
              rw [HV.out]
              exact ⟨rfl, HB.out _⟩
            · have e2 : ((j : Int) == (T.size : Int)) = false := by rw [beq_eq_false_iff_ne]; omega
              have hin : j < T.size := by
                have h1 := HM.out.js
                rw [← HT.out] at h1
                omega
              obtain ⟨g2, c2', x', hrun, hL2⟩ := HL.out.push T[j] (by omega)
              have HL2 : Hid (RdL W2 (.slice (some ⟨g2, 0, none⟩) (o'.push T[j]).size c2') (o'.push T[j]) x') := by rw [ByteArray.size_push]; exact hL2
              have HM2 : Hid (SdM rd Z k (j + 1) (o'.push T[j])) := by
                have hin' : j < (rd k).size := by rw [← HT.out]; exact hin
                have h := HM.out.push hin' hltz
                have e : T[j] = (rd k)[j]'hin' := by congr 1
                rw [e]; exact h
              have HS2 : Hid ((o'.push T[j]).size = o'.size + 1) := ByteArray.size_push
              clear he hltz HM HL HSz HR6 HT hs hL2
              go_wp2_with (at_builtin; refine wpList_append_run rfl _ _ _ rfl _ _ _ _ rfl rfl hrun ?_)
              go_roundw
              case rel => exact ⟨j + 1, o'.push T[j], _, c2', by omega, by go_num, by rw [HS2.out], HM2, HL2⟩
              case measure => simp [intOf]; omega
        · obtain rfl : j = 64 := by omega
          have d2 : decide (((64 : Nat) : Int) < 64) = false := by decide
          have HM2 : Hid (SdM rd Z (k + 1) 0 o') := HM.out.next
          rw [show ((64 : Nat) : Int) = (64 : Int) from rfl] at d2 ⊢
          clear HSz HM HR6 HT hj hj6
          go_wp2_with fail
          go_roundw
          case rel => exact ⟨k + 1, o', p', c', by omega, by go_num, rfl, HM2, HL⟩
          case measure => simp [intOf]; omega
    · obtain rfl : k = H := by omega
      have d1 : decide ((k : Int) < (k : Int)) = false := decide_eq_false (by omega)
      have HSz : Hid (o.size = 64 * k + 0) := HM.out.size
      have hle := HM.out.le
      have hZk := HZ.out
      have d3 : decide ((o.size : Int) < (Z : Int)) = false := decide_eq_false (by rw [HSz.out]; omega)
      have d3n : decide (o.size < Z) = false := decide_eq_false (by rw [HSz.out]; omega)
      have hok : sideOk rd Z (needN Z) = true ∧ o = sideB rd Z (needN Z) ∧ o.size = Z := by
        rcases HM.out.last hZk with h | ⟨-, h⟩
        · exact h
        · rw [HSz.out] at h; omega
      have HV : Hid (sdV ss ps S Z a3 = .tuple #[.string o, .nilIface]) := HOk.out o hok
      have HB : Hid (Below w.heap.size w wo) := HEn.out _ _ _ HL.out
      obtain ⟨-, z2⟩ := HH.out wo HL.out.bel
      have hcv : (convert 59 9 (.slice p o.size c)).run Tryd.prog wo = .ok (.string o) wo := by
        obtain ⟨_, _, ev, -, hp⟩ := HL.out.form
        cases ev
        exact conv_own HL.out.own hp
      clear hok hle hZk HM HL HSz hlt hk
      go_wp2_with fail
      try rw [Exit.noGoto_ret]
      go_ret2
      rw [HV.out]
      exact ⟨rfl, HB.out⟩
end Go.Proofs.YtnppgldafhpchaaDoor
