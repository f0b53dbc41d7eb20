/-
  Parts of one proof, laid as one text: SignS, SignD, Path2; what each says stands at its head.
-/
import Derived.Test.YtnaonldkbaapeacGreatDoorRows
import Derived.Test.YtnaonldkbaapeacGreatDoorBytesDigMath
import Derived.Test.YtnaonldkbaapeacGreatDoorPowerOwnBTurnIWholeRNumsI
import Derived.Test.YtnaonldkbaapeacGreatDoorAll2LeafNodeTree2
import Derived.Test.YtnaonldkbaapeacGreatDoorBox3LawSigLawSigMMacMathSgnBTreeHIncMathTakerTakePathConMathProofLaw
import Derived.Test.YtnaonldkbaapeacGreatDoorSignMathLgRtWide2Mac2
import Derived.Test.YtnaonldkbaapeacGreatDoorTimeBPutMathPutNum
import Derived.Test.YtnaonldkbaapeacGreatDoorSlASlBBxKOwnSTakes
import Derived.Test.YtnaonldkbaapeacGreatDoorAppSStepAppImplFT
import Derived.Test.YtnaonldkbaapeacGreatDoorSrcDrawsDrawKitSomeIsIn
import Derived.Handy
import Derived.WalkSpells
import Derived.OwnWalk
import Derived.Deep.AppendLies
import Derived.Deep.QuietTactic
import Derived.BigQuiet
import Derived.Test.YtnaonldkbaapeacGreatDoorTreeMath
import Derived.Test.YtnaonldkbaapeacGreatDoorLawLmOpFOpLgPathMath
import Derived.Deep.RegionLaw
/-
  What the specification's l03Is, l04Seed, l04Steps, l04Begin, l04Publics and KeyRoot answer.
  Conditions: numbers are int64; a seed has at most 2^20 bytes.
-/
namespace Go.Proofs.YtnaonldkbaapeacGreatDoor
open Go.RowKit Go.Lib
set_option linter.unusedVariables false
set_option maxRecDepth 20000

theorem specSeed_any (t : ByteArray) (w : World) (ht : t.size ≤ maxLen) : Calls Tryz.prog 50 #[.string t] w fun e w' => e = .returned (.bool (seedB t)) ∧ w' = w := by
  unfold maxLen at ht
  have H0 : Hid (seedB t = decide (1 ≤ t.size ∧ t.size ≤ 64)) := rfl
  by_cases h1 : 1 ≤ t.size
  · have d1 : decide (1 ≤ (t.size : Int)) = true := decide_eq_true (by omega)
    by_cases h2 : t.size ≤ 64
    · have d2 : decide ((t.size : Int) ≤ 64) = true := decide_eq_true (by omega)
      rw [H0.out, decide_eq_true ⟨h1, h2⟩]
      go_enter Tryz.func50, Tryz.ntmps50
      go_wp2
      go_ret
      exact ⟨rfl, rfl⟩
    · have d2 : decide ((t.size : Int) ≤ 64) = false := decide_eq_false (by omega)
      rw [H0.out, decide_eq_false (fun h => h2 h.2)]
      go_enter Tryz.func50, Tryz.ntmps50
      go_wp2
      go_ret
      exact ⟨rfl, rfl⟩
  · have d1 : decide (1 ≤ (t.size : Int)) = false := decide_eq_false (by omega)
    rw [H0.out, decide_eq_false (fun h => h1 h.1)]
    go_enter Tryz.func50, Tryz.ntmps50
    go_wp2
    go_ret
    exact ⟨rfl, rfl⟩

set_option maxHeartbeats 1000000 in
theorem specSteps_any (t : ByteArray) (n : Nat) (w : World) (ht : t.size ≤ 1099511627776) (hn : n ≤ 1000) :
    Calls Tryz.prog 88 #[.string t, .int .i64 (n : Int)] w fun e w' => e = .returned (.string (stepsB n t)) ∧ Below w.heap.size w w' := by
  obtain ⟨R, hR⟩ : ∃ R, R = stepsB n t := ⟨_, rfl⟩
  rw [← hR]
  have HR : Hid (R = stepsB n t) := hR
  clear hR
  go_enter Tryz.func88, Tryz.ntmps88
  go_wp2_with fail
  go_loopw [0, 1] (fun s i wr => ∃ (k : Nat) (u : ByteArray), s = .string u ∧ i = .int .i64 k ∧ k ≤ 1000 ∧ u.size ≤ 1099511627776 ∧ Hid (R = stepsB k u) ∧ Hid (Below w.heap.size w wr)) (fun _ i _ => (intOf i).toNat)
  case atStart => exact ⟨n, t, rfl, rfl, hn, ht, HR, Below.refl _ _⟩
  case round =>
    clear HR
    obtain ⟨k, u, rfl, rfl, hk, hu, HR, HB⟩ := hrel
    by_cases hlt : 0 < k
    · have d1 : decide (0 < (k : Int)) = true := decide_eq_true (by omega)
      obtain ⟨m, rfl⟩ : ∃ m, k = m + 1 := ⟨k - 1, by omega⟩
      have HR2 : Hid (R = stepsB m (digB u)) := HR.out
      have hs := digB_size u
      clear HR
      go_wp2_with fail
      refine (specAll_any u wr hu).mono ?_
      rintro e w1 ⟨rfl, b1⟩
      generalize digB u = D at *
      have HB1 : Hid (Below w.heap.size w w1) := chainB HB.out b1
      clear b1 HB
      go_wp2_with fail
      go_roundw
      case rel => exact ⟨m, D, rfl, by go_num, by omega, by omega, HR2, HB1⟩
      case measure => simp [intOf]
    · obtain rfl : k = 0 := by omega
      have HR2 : Hid (R = u) := HR.out
      clear HR
      go_wp2_with fail
      go_ret
      exact ⟨ret_str HR2.out.symm, HB.out⟩

set_option maxHeartbeats 1000000 in
theorem specBegin_any (seed : ByteArray) (i j : Int) (w : World) (hs : seed.size ≤ 1048576) (i0 : -9223372036854775808 ≤ i) (i1 : i ≤ 9223372036854775807) (j0 : -9223372036854775808 ≤ j) (j1 : j ≤ 9223372036854775807) :
    Calls Tryz.prog 89 #[.string seed, .int .i64 i, .int .i64 j] w fun e w' => e = .returned (.string (begB seed i j)) ∧ Below w.heap.size w w' := by
  have H : Hid (begB seed i j = macB seed (putB i ++ putB j)) := rfl
  go_enter Tryz.func89, Tryz.ntmps89
  go_wp2_with fail
  refine (specPutNum_any i w i0 i1).mono ?_
  rintro e w1 ⟨rfl, b1⟩
  go_wp2_with fail
  refine (specPutNum_any j w1 j0 j1).mono ?_
  rintro e w2 ⟨rfl, b2⟩
  have b2 := chainB b1 b2
  have hp : (putB i ++ putB j).size ≤ 20 := putB2_size i j
  have h1 := putB_le i
  have h2 := putB_le j
  clear b1
  go_wp2_with fail
  refine (specMacB_any seed (putB i ++ putB j) w2 (by omega) (by omega)).mono ?_
  rintro e w3 ⟨rfl, b3⟩
  have b3 := chainB b2 b3
  go_wp2_with fail
  go_ret
  exact ⟨ret_str H.out.symm, b3⟩

/-- The first k public texts, in a row of the call's own. -/
def PubsRow (seed : ByteArray) (w0 : World) (k : Nat) (v : Value) (w : World) : Prop := w.ownsRow w0.heap.size 9 1 v k (strRow (pubsTo seed k))
theorem PubsRow.form {seed : ByteArray} {w0 w : World} {k : Nat} {v : Value} (h : PubsRow seed w0 k v w) : ∃ q c, v = .slice q k c ∧ k ≤ c := by
  have h' : w.ownsRow w0.heap.size 9 1 v (pubsTo seed k).length (strRow (pubsTo seed k)) := by rw [pubsTo_len]; exact h
  obtain ⟨q, c, h1, h2, _⟩ := ownS_form h'
  rw [pubsTo_len] at h1 h2
  exact ⟨q, c, h1, h2⟩
theorem PubsRow.below {seed : ByteArray} {w0 w w' : World} {k : Nat} {v : Value} (h : PubsRow seed w0 k v w) (hb : Below w.heap.size w w') : PubsRow seed w0 k v w' := ownS_below h hb
theorem PubsRow.more {seed : ByteArray} {w0 w : World} {k : Nat} {v : Value} (h : PubsRow seed w0 k v w) (hB : Below w0.heap.size w0 w) (hk : k ≤ 4) :
    ∃ v' w', (Builtin.append_ #[23, 23] 23 #[v, .slice (some ⟨w.heap.size, 0, none⟩) 1 1]).run Tryz.prog (w.alloc (.cells #[.string (pubB seed k)] 9)) = .ok v' w' ∧ PubsRow seed w0 (k + 1) v' w' ∧ Below w0.heap.size w0 w' := by
  have h' : w.ownsRow w0.heap.size 9 1 v (pubsTo seed k).length (strRow (pubsTo seed k)) := by rw [pubsTo_len]; exact h
  obtain ⟨v', w', hr, ho, hg⟩ := app_one w w0.heap.size v (pubsTo seed k) h' (pubB seed k) (by rw [pubsTo_len]; omega) hB.size
  rw [← pubsTo_step, pubsTo_len] at ho
  exact ⟨v', w', hr, ho, (hB.alloc hB.size _).grown hg (by have := hB.size; simp; omega) (fun j hj => (h'.lt j hj).1)⟩

set_option maxHeartbeats 4000000 in
theorem specPublics_any (seed : ByteArray) (w : World) (hs : seed.size ≤ 1048576) :
    Calls Tryz.prog 86 #[.string seed] w fun e w' => ∃ v, e = .returned v ∧ w'.ownsRow w.heap.size 9 1 v (pubsB seed).length (strRow (pubsB seed)) ∧ Below w.heap.size w w' := by
  have HO : Hid (∀ (wr : World) (v : Value), PubsRow seed w 4 v wr → wr.ownsRow w.heap.size 9 1 v (pubsB seed).length (strRow (pubsB seed))) := fun wr v h => by rw [pubsB_len]; exact h
  have O0 : Hid (PubsRow seed w 0 (.slice (some ⟨w.heap.size, 0, none⟩) 0 0) (w.alloc (.cells #[] 9))) := ownS_none w
  have B0 : Hid (Below w.heap.size w (w.alloc (.cells #[] 9))) := (Below.refl _ _).alloc (Nat.le_refl _) _
  go_enter Tryz.func86, Tryz.ntmps86
  go_wp2_with fail
  go_loopw [3, 4] (fun v i wr => ∃ (k : Nat) (v0 : Value), v0 = v ∧ i = .int .i64 k ∧ k ≤ 4 ∧ Hid (PubsRow seed w k v0 wr) ∧ Hid (Below w.heap.size w wr)) (fun _ i _ => 4 - (intOf i).toNat)
  case atStart => exact ⟨0, _, rfl, rfl, by omega, O0, B0⟩
  case round =>
    clear O0 B0
    obtain ⟨k, v, rfl, rfl, hk, HV, HB⟩ := hrel
    obtain ⟨q, cq, rfl, hcq⟩ := HV.out.form
    by_cases hlt : k < 4
    · have d1 : decide ((k : Int) < 4) = true := decide_eq_true (by omega)
      have HP : Hid (pubB seed k = digB (catB (topB seed k) 6)) := rfl
      go_wp2_with fail
      go_loopw [5, 6] (fun s i wr => ∃ (j : Nat) (T : ByteArray), s = .string T ∧ i = .int .i64 j ∧ j ≤ 6 ∧ T.size ≤ 192 ∧ Hid (T = catB (topB seed k) j) ∧ Hid (PubsRow seed w k (.slice q k cq) wr) ∧ Hid (Below w.heap.size w wr)) (fun _ i _ => 6 - (intOf i).toNat)
      case atStart => exact ⟨0, ByteArray.empty, rfl, rfl, by omega, by simp, rfl, HV, HB⟩
      case round =>
        clear HV HB
        obtain ⟨j, T, rfl, rfl, hj, hT, HC, HV, HB⟩ := hrel
        by_cases hjl : j < 6
        · have d2 : decide ((j : Int) < 6) = true := decide_eq_true (by omega)
          have HC2 : Hid (T ++ stepsB 15 (begB seed k j) = catB (topB seed k) (j + 1)) := by show _ = _; rw [HC.out]; rfl
          have HS2 : Hid ((T ++ stepsB 15 (begB seed k j)).size ≤ 192) := by
            show _ ≤ _
            rw [HC2.out, catB_size _ _ (fun j _ => topB_size seed k j)]; omega
          go_wp2_with fail
          refine (specBegin_any seed k j wr hs (by omega) (by omega) (by omega) (by omega)).mono ?_
          rintro e w1 ⟨rfl, b1⟩
          have hb := begB_size seed k j
          have hb2 := stepsB_size 15 _ hb
          have HV1 := HV.out.below b1
          have HB1 := chainB HB.out b1
          generalize begB seed (k : Int) (j : Int) = G at *
          have hS := specSteps_any G 15 w1 (by omega) (by omega)
          rw [show ((15 : Nat) : Int) = (15 : Int) from rfl] at hS
          clear b1 HV HB HC
          go_wp2_with fail
          refine hS.mono ?_
          rintro e w2 ⟨rfl, b2⟩
          have HV2 : Hid (PubsRow seed w k (.slice q k cq) w2) := HV1.below b2
          have HB2 : Hid (Below w.heap.size w w2) := chainB HB1 b2
          generalize stepsB 15 G = E at *
          have hE : E.size ≤ 32 := by omega
          clear hS b2 HV1 HB1 hb hb2
          go_wp2_with fail
          go_roundw
          case rel => exact ⟨j + 1, T ++ E, rfl, by go_num, by omega, HS2.out, HC2, HV2, HB2⟩
          case measure => simp [intOf]; omega
        · obtain rfl : j = 6 := by omega
          rw [show ((6 : Nat) : Int) = (6 : Int) from rfl]
          rw [← HC.out] at HP
          clear HC
          go_wp2_with fail
          refine (specAll_any T wr (by omega)).mono ?_
          rintro e w1 ⟨rfl, b1⟩
          rw [← HP.out]
          have HB1 := chainB HB.out b1
          obtain ⟨v', w2, hr2, ho2, hb2⟩ := (HV.out.below b1).more HB1 (by omega)
          have HO2 : Hid (PubsRow seed w (k + 1) v' w2) := ho2
          have HB2 : Hid (Below w.heap.size w w2) := hb2
          clear ho2 hb2 HV HB HB1 b1 HP
          generalize pubB seed k = D at *
          go_wp2_with (at_builtin; refine wpList_append_run rfl _ _ _ rfl _ _ _ _ rfl rfl hr2 ?_)
          go_roundw
          case rel => exact ⟨k + 1, _, rfl, by go_num, by omega, HO2, HB2⟩
          case measure => simp [intOf]; omega
    · obtain rfl : k = 4 := by omega
      have HV2 := HO.out _ _ HV.out
      clear HV
      go_wp2_with fail
      go_ret
      exact ⟨_, rfl, HV2, HB.out⟩
end Go.Proofs.YtnaonldkbaapeacGreatDoor
/-
  What the specification's KeyRoot and l04Digits answer.
-/
namespace Go.Proofs.YtnaonldkbaapeacGreatDoor
open Go.RowKit Go.Lib
set_option linter.unusedVariables false
set_option maxRecDepth 20000

theorem infoI64s : (Tryz.prog.info? 2).map (fun i => (i.zero, i.size, i.bytes)) = some (some (.int .i64 0), 1, 8) := by kernel_rfl
theorem own4 (w : World) (a b c d : Int) : (w.alloc (.cells #[.int .i64 a, .int .i64 b, .int .i64 c, .int .i64 d] 2)).ownsRow w.heap.size 2 1 (.slice (some ⟨w.heap.size, 0, none⟩) 4 4) 4 [.int .i64 a, .int .i64 b, .int .i64 c, .int .i64 d] :=
  ⟨rfl, .inr ⟨w.heap.size, 4, #[.int .i64 a, .int .i64 b, .int .i64 c, .int .i64 d], rfl, Nat.le_refl _, (MapKept.heap_alloc w _).1, Nat.le_refl _, by unfold maxLen; omega, rfl, rfl⟩⟩
set_option maxHeartbeats 2000000 in
theorem specDigits_any (t : ByteArray) (w : World) (ht : t.size ≤ 1048576) :
    Calls Tryz.prog 87 #[.string t] w fun e w' => ∃ v, e = .returned v ∧ w'.ownsRow w.heap.size 2 1 v 6 ((digsI t).map (Value.int .i64)) ∧ Below w.heap.size w w' := by
  obtain ⟨i0, hi, hz0, hz1, hz2⟩ := info_parts infoI64s
  obtain ⟨D, hD⟩ : ∃ D, D = digB t := ⟨_, rfl⟩
  have hA := specAll_any t w (by omega)
  rw [← hD] at hA
  have hs : D.size = 32 := by rw [hD]; exact digB_size t
  have h0 : 0 < D.size := by omega
  have h1 : 1 < D.size := by omega
  have e0 : byteAt D 0 = ((D[0]'h0).toNat : Int) := by
    unfold byteAt; simp [List.getD_eq_getElem?_getD]; rw [Array.getElem?_eq_getElem h0]; rfl
  have e1 : byteAt D 1 = ((D[1]'h1).toNat : Int) := by
    unfold byteAt; simp [List.getD_eq_getElem?_getD]; rw [Array.getElem?_eq_getElem h1]; rfl
  have c0 : ((D[0]'h0).toNat : Int) ≤ 255 := by have := (D[0]'h0).toNat_lt; omega
  have c1 : ((D[1]'h1).toNat : Int) ≤ 255 := by have := (D[1]'h1).toNat_lt; omega
  have H : Hid (digsI t = [((D[0]'h0).toNat : Int) / 16, ((D[0]'h0).toNat : Int) % 16, ((D[1]'h1).toNat : Int) / 16, ((D[1]'h1).toNat : Int) % 16, (60 - ((D[0]'h0).toNat : Int) / 16 - ((D[0]'h0).toNat : Int) % 16 - ((D[1]'h1).toNat : Int) / 16 - ((D[1]'h1).toNat : Int) % 16) / 16, (60 - ((D[0]'h0).toNat : Int) / 16 - ((D[0]'h0).toNat : Int) % 16 - ((D[1]'h1).toNat : Int) / 16 - ((D[1]'h1).toNat : Int) % 16) % 16]) := by
    show _ = _
    rw [← e0, ← e1, hD]; rfl
  clear hD e0 e1
  go_enter Tryz.func87, Tryz.ntmps87
  go_wp2_with fail
  refine hA.mono ?_
  rintro e w1 ⟨rfl, b1⟩
  go_wp2_with fail
  go_region
  have n0 : 0 ≤ ((D[0]'h0).toNat : Int) := by omega
  have n1 : 0 ≤ ((D[1]'h1).toNat : Int) := by omega
  generalize ((D[0]'h0).toNat : Int) = A at *
  generalize ((D[1]'h1).toNat : Int) = B at *
  have HA : 0 ≤ A / 16 ∧ A / 16 ≤ 15 ∧ 0 ≤ A % 16 ∧ A % 16 ≤ 15 := by omega
  have HB : 0 ≤ B / 16 ∧ B / 16 ≤ 15 ∧ 0 ≤ B % 16 ∧ B % 16 ≤ 15 := by omega
  generalize A / 16 = d0 at *
  generalize A % 16 = d1 at *
  generalize B / 16 = d2 at *
  generalize B % 16 = d3 at *
  obtain ⟨a0, a1, a2, a3⟩ := HA
  obtain ⟨a4, a5, a6, a7⟩ := HB
  have O1 := own4 w1 d0 d1 d2 d3
  have B1 : Below w.heap.size w (w1.alloc (.cells #[.int .i64 d0, .int .i64 d1, .int .i64 d2, .int .i64 d3] 2)) := b1.alloc b1.size _
  go_wp2_with fail
  go_quiet (fail)
  obtain ⟨W, hW⟩ : ∃ W, W = (((w1.alloc (.cells #[.int .i64 d0, .int .i64 d1, .int .i64 d2, .int .i64 d3] 2)).drew.drewN nq) : World) := ⟨_, rfl⟩
  rw [← hW]
  have O2 : Hid (W.ownsRow w1.heap.size 2 1 (.slice (some ⟨w1.heap.size, 0, none⟩) 4 4) 4 [.int .i64 d0, .int .i64 d1, .int .i64 d2, .int .i64 d3]) := by rw [hW]; exact ownS_below O1 ⟨rfl, rfl, rfl, Nat.le_refl _, fun _ _ => rfl⟩
  have B2 : Hid (Below w.heap.size w W) := by rw [hW]; exact ⟨B1.os, B1.tape, B1.output, B1.size, B1.block⟩
  have hsz : w1.heap.size ≤ W.heap.size := by rw [hW]; show w1.heap.size ≤ (w1.alloc _).heap.size; simp
  have hR : 0 ≤ 60 - d0 - d1 - d2 - d3 ∧ 60 - d0 - d1 - d2 - d3 ≤ 60 := by omega
  clear hW O1 B1
  generalize 60 - d0 - d1 - d2 - d3 = R at *
  obtain ⟨R0, R1⟩ := hR
  have B3 := B2.out.alloc B2.out.size (.cells #[.int .i64 (R / 16), .int .i64 (R % 16)] 2)
  have hb1 := b1.size
  clear a0 a1 a2 a3 a4 a5 a6 a7 c0 c1 n0 n1
  go_wp2_with (at_builtin; refine wpList_append_lies _ rfl _ _ 110 rfl w1.heap.size 2 i0 (.int .i64 0) 1 8 Tryz.underlying110 hi hz0 hz1 hz2 rfl (by omega) _ 4 [.int .i64 d0, .int .i64 d1, .int .i64 d2, .int .i64 d3] rfl (O2.out.alloc _) ⟨W.heap.size, 0, none⟩ 2 2 [.int .i64 (R / 16), .int .i64 (R % 16)] rfl rfl (World.news_of_block (cs := #[.int .i64 (R / 16), .int .i64 (R % 16)]) (t := 2) (fr := (0, 0)) (MapKept.heap_alloc W _).1) (by simp [Value.oneCell']) (by omega) (by unfold maxLen; omega) (by omega) (by simp; omega) (W.heap.size + 1) (by simp) ?_; intro g2 cap2 w5 hown2 hgrow hat hltg)
  have HO5 : Hid (w5.ownsRow w.heap.size 2 1 (.slice (some ⟨g2, 0, none⟩) 6 cap2) 6 ((digsI t).map (Value.int .i64))) := by rw [H.out]; exact ownS_mono hown2 hb1
  have HB5 : Hid (Below w.heap.size w w5) := B3.grown hgrow (by have := B2.out.size; simp; omega) (fun j hj => by have := (O2.out.lt j hj).1; omega)
  clear hown2 hgrow B3 H O2 B2
  go_wp2_with fail
  go_ret
  exact ⟨_, rfl, HO5.out, HB5.out⟩
end Go.Proofs.YtnaonldkbaapeacGreatDoor
/-
  The specification's l03Path and PathOf: the path of an entry, 'pathA', in new memory of its own.
  Conditions: the slice's cells hold the entries; index is an int64.
-/
namespace Go.Proofs.YtnaonldkbaapeacGreatDoor
open Go.RowKit Go.Lib
set_option linter.unusedVariables false
set_option maxRecDepth 20000

set_option maxHeartbeats 2000000 in
theorem path2_any (N : Nat) : ∀ (p : Option Addr) (cap : Nat) (ss : List ByteArray) (i : Nat) (w : World), ss.length = N → TxtAt w p ss → ss.length ≤ 1024 → ss.length ≤ cap → (∀ x ∈ ss, x.size ≤ 100) → i < ss.length →
    Calls Tryz.prog 71 #[.slice p ss.length cap, .int .i64 (i : Int)] w fun e w' => ∃ v, e = .returned v ∧ w'.ownsRow w.heap.size 9 1 v (pathB ss i).length (strRow (pathB ss i)) ∧ Below w.heap.size w w' := by
  induction N using Nat.strongRecOn with
  | _ N ih =>
  intro p cap ss i w hN hp hn hcap h100 hi
  subst hN
  have HP : Hid (TxtAt w p ss) := hp
  have HX : Hid (∀ x ∈ ss, x.size ≤ 100) := h100
  clear hp h100
  by_cases h2 : 2 ≤ ss.length
  · obtain ⟨b, off, rfl, hb, _⟩ := HP.out 0 (by omega)
    have h1 := halfN_lt h2
    have h0 := halfN_pos ss.length
    have l1 : (ss.take (halfN ss.length)).length = halfN ss.length := by simp; omega
    have l2 : (ss.drop (halfN ss.length)).length = ss.length - halfN ss.length := by simp
    have hH := fun w => half2_any ss.length w h2 (by omega)
    obtain ⟨i0, hi0, hz0, hz1, hz2⟩ := info_parts infoStr
    by_cases hik : i < halfN ss.length
    · have hlen := pathB_len (ss.take (halfN ss.length)) i (by omega)
      have HB : Hid (pathB (ss.take (halfN ss.length)) i ++ [treeB (ss.drop (halfN ss.length))] = pathB ss i) := (pathB_left h2 hik).symm
      have I1 : Hid (∀ w', Below w.heap.size w w' → Calls Tryz.prog 71 #[.slice (some ⟨b, off, none⟩) (halfN ss.length) cap, .int .i64 (i : Int)] w' fun e w'' => ∃ v, e = .returned v ∧ w''.ownsRow w.heap.size 9 1 v (pathB (ss.take (halfN ss.length)) i).length (strRow (pathB (ss.take (halfN ss.length)) i)) ∧ Below w'.heap.size w' w'') := by
        intro w' hbl
        have := ih _ (by omega) (some ⟨b, off, none⟩) cap (ss.take (halfN ss.length)) i w' l1 ((HP.out.below hbl).take _) (by omega) (by omega) (fun x hx => HX.out x (List.mem_of_mem_take hx)) (by omega)
        rw [l1] at this
        exact this.mono fun e w'' ⟨v, he, ho, hb⟩ => ⟨v, he, ownS_mono ho hbl.size, hb⟩
      have I2 : Hid (∀ w', Below w.heap.size w w' → Calls Tryz.prog 55 #[.slice (some ⟨b, off + halfN ss.length, none⟩) (ss.length - halfN ss.length) (cap - halfN ss.length)] w' fun e w'' => e = .returned (.string (treeB (ss.drop (halfN ss.length)))) ∧ Below w'.heap.size w' w'') := by
        intro w' hbl
        have := tree2_any _ (some ⟨b, off + halfN ss.length, none⟩) (cap - halfN ss.length) (ss.drop (halfN ss.length)) w' l2 ((HP.out.below hbl).drop _) (by omega) (by omega) (fun x hx => HX.out x (List.mem_of_mem_drop hx))
        rwa [l2] at this
      clear l1 l2
      have hQl : (pathB (ss.take (halfN ss.length)) i).length ≤ 1024 := by simp at hlen; omega
      clear hlen
      generalize pathB (ss.take (halfN ss.length)) i = Q at *
      generalize treeB (ss.drop (halfN ss.length)) = T at *
      generalize halfN ss.length = k at *
      clear ih
      have q1 : (k : Int) ≤ cap := by omega
      have q2 : (k : Int) ≤ ss.length := by omega
      have q3 : (ss.length : Int) ≤ cap := by omega
      have q4 : ¬ cap = k := by omega
      have q5 : (0 : Int) ≤ k := by omega
      have q6 : IntKind.i64.wrap ((i : Int) - (k : Int)) = (i : Int) - (k : Int) := by rw [IntKind.wrap_i64]; omega
      go_enter Tryz.func71, Tryz.ntmps71
      go_wp2_with fail
      refine (hH _).mono ?_
      rintro e w1 ⟨rfl, hw1⟩
      subst hw1
      go_wp2_with fail
      go_region_law
        (first
          | (refine step_append_lies _ rfl _ _ 23 rfl w1.heap.size 9 i0 (.string ByteArray.empty) 1 16 Tryz.underlying23 hi0 hz0 hz1 hz2 rfl (by omega) v2 Q.length (strRow Q) rfl (own3.alloc _) ⟨w3.heap.size, 0, none⟩ 1 1 [.string T] rfl rfl (World.news_of_block (cs := #[.string T]) (t := 9) (fr := (0, 0)) (MapKept.heap_alloc w3 _).1) (by simp [Value.oneCell']) (by omega) (by unfold maxLen; omega) (by omega) (by simp; omega) (w3.heap.size + 1) (by simp) ?_; intro g2 cap2 w4 hown4 hgrow hat hltg)
          | (go_simp; go_at_call 55; refine (I2.out _ b2).mono ?_; rintro e w3 ⟨rfl, b3⟩; have own3 := ownS_below own2 b3; have b3 := chainB b2 b3; have hs3 := b3.size)
          | (go_simp; go_at_call 71; refine (I1.out _ ((Below.refl _ _).drew)).mono ?_; rintro e w2 ⟨v2, rfl, own2, b2⟩; have b2 := chainB ((Below.refl _ _).drew) b2))
      all_goals
        have B4 : Below w1.heap.size w1 w4 := (b3.alloc b3.size _).grown hgrow (by simp; omega) (fun j hj => (own3.lt j hj).1)
        have hfin : w4.ownsRow w1.heap.size 9 1 (.slice (some ⟨g2, 0, none⟩) (Q.length + 1) cap2) (pathB ss i).length (strRow (pathB ss i)) := by
          rw [← HB.out]
          have e1 : (Q ++ [T]).length = Q.length + 1 := by simp
          have e2 : strRow (Q ++ [T]) = strRow Q ++ [.string T] := by simp [strRow]
          rw [e1, e2]
          exact hown4
        go_wp2
        go_ret
        exact ⟨_, rfl, hfin, B4⟩
    · have hlen := pathB_len (ss.drop (halfN ss.length)) (i - halfN ss.length) (by omega)
      have HB : Hid (pathB (ss.drop (halfN ss.length)) (i - halfN ss.length) ++ [treeB (ss.take (halfN ss.length))] = pathB ss i) := (pathB_right h2 hik).symm
      have I1 : Hid (∀ w', Below w.heap.size w w' → Calls Tryz.prog 71 #[.slice (some ⟨b, off + halfN ss.length, none⟩) (ss.length - halfN ss.length) (cap - halfN ss.length), .int .i64 ((i : Int) - (halfN ss.length : Int))] w' fun e w'' => ∃ v, e = .returned v ∧ w''.ownsRow w.heap.size 9 1 v (pathB (ss.drop (halfN ss.length)) (i - halfN ss.length)).length (strRow (pathB (ss.drop (halfN ss.length)) (i - halfN ss.length))) ∧ Below w'.heap.size w' w'') := by
        intro w' hbl
        have := ih _ (by omega) (some ⟨b, off + halfN ss.length, none⟩) (cap - halfN ss.length) (ss.drop (halfN ss.length)) (i - halfN ss.length) w' l2 ((HP.out.below hbl).drop _) (by omega) (by omega) (fun x hx => HX.out x (List.mem_of_mem_drop hx)) (by omega)
        rw [l2, show ((i - halfN ss.length : Nat) : Int) = (i : Int) - (halfN ss.length : Int) by omega] at this
        exact this.mono fun e w'' ⟨v, he, ho, hb⟩ => ⟨v, he, ownS_mono ho hbl.size, hb⟩
      have I2 : Hid (∀ w', Below w.heap.size w w' → Calls Tryz.prog 55 #[.slice (some ⟨b, off, none⟩) (halfN ss.length) cap] w' fun e w'' => e = .returned (.string (treeB (ss.take (halfN ss.length)))) ∧ Below w'.heap.size w' w'') := by
        intro w' hbl
        have := tree2_any _ (some ⟨b, off, none⟩) cap (ss.take (halfN ss.length)) w' l1 ((HP.out.below hbl).take _) (by omega) (by omega) (fun x hx => HX.out x (List.mem_of_mem_take hx))
        rwa [l1] at this
      clear l1 l2
      have hQl : (pathB (ss.drop (halfN ss.length)) (i - halfN ss.length)).length ≤ 1024 := by simp at hlen; omega
      clear hlen
      generalize pathB (ss.drop (halfN ss.length)) (i - halfN ss.length) = Q at *
      generalize treeB (ss.take (halfN ss.length)) = T at *
      generalize halfN ss.length = k at *
      clear ih
      have q1 : (k : Int) ≤ cap := by omega
      have q2 : (k : Int) ≤ ss.length := by omega
      have q3 : (ss.length : Int) ≤ cap := by omega
      have q4 : ¬ cap = k := by omega
      have q5 : (0 : Int) ≤ k := by omega
      have q6 : IntKind.i64.wrap ((i : Int) - (k : Int)) = (i : Int) - (k : Int) := by rw [IntKind.wrap_i64]; omega
      go_enter Tryz.func71, Tryz.ntmps71
      go_wp2_with fail
      refine (hH _).mono ?_
      rintro e w1 ⟨rfl, hw1⟩
      subst hw1
      go_wp2_with fail
      go_region_law
        (first
          | (refine step_append_lies _ rfl _ _ 23 rfl w1.heap.size 9 i0 (.string ByteArray.empty) 1 16 Tryz.underlying23 hi0 hz0 hz1 hz2 rfl (by omega) v2 Q.length (strRow Q) rfl (own3.alloc _) ⟨w3.heap.size, 0, none⟩ 1 1 [.string T] rfl rfl (World.news_of_block (cs := #[.string T]) (t := 9) (fr := (0, 0)) (MapKept.heap_alloc w3 _).1) (by simp [Value.oneCell']) (by omega) (by unfold maxLen; omega) (by omega) (by simp; omega) (w3.heap.size + 1) (by simp) ?_; intro g2 cap2 w4 hown4 hgrow hat hltg)
          | (go_simp; go_at_call 55; refine (I2.out _ b2).mono ?_; rintro e w3 ⟨rfl, b3⟩; have own3 := ownS_below own2 b3; have b3 := chainB b2 b3; have hs3 := b3.size)
          | (go_simp; go_at_call 71; refine (I1.out _ ((Below.refl _ _).drew)).mono ?_; rintro e w2 ⟨v2, rfl, own2, b2⟩; have b2 := chainB ((Below.refl _ _).drew) b2))
      all_goals
        have B4 : Below w1.heap.size w1 w4 := (b3.alloc b3.size _).grown hgrow (by simp; omega) (fun j hj => (own3.lt j hj).1)
        have hfin : w4.ownsRow w1.heap.size 9 1 (.slice (some ⟨g2, 0, none⟩) (Q.length + 1) cap2) (pathB ss i).length (strRow (pathB ss i)) := by
          rw [← HB.out]
          have e1 : (Q ++ [T]).length = Q.length + 1 := by simp
          have e2 : strRow (Q ++ [T]) = strRow Q ++ [.string T] := by simp [strRow]
          rw [e1, e2]
          exact hown4
        go_wp2
        go_ret
        exact ⟨_, rfl, hfin, B4⟩
  · have h1 : (ss.length : Int) = 1 := by omega
    have HB : Hid (pathB ss i = []) := pathB_one h2 i
    clear ih
    go_enter Tryz.func71, Tryz.ntmps71
    go_wp2
    go_ret
    exact ⟨_, rfl, by rw [HB.out]; exact ownS_none w, (Below.refl _ _).alloc (Nat.le_refl _) _⟩

end Go.Proofs.YtnaonldkbaapeacGreatDoor
