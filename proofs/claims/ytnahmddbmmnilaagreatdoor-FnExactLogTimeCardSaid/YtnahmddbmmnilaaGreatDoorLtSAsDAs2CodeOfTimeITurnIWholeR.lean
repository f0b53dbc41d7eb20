/-
  Parts of one proof, laid as one text: LtS, AsD, As2, CodeOf, TimeI, TurnI, WholeR; what each says stands at its head.
-/
import Derived.Test.YtnahmddbmmnilaaGreatDoorRows
import Derived.Test.YtnahmddbmmnilaaGreatDoorBytesDigMath
import Derived.Test.YtnahmddbmmnilaaGreatDoorSlASlBBxKOwnS
import Derived.Test.YtnahmddbmmnilaaGreatDoorJoinedPutTextFldMathFldRiseScanMath
import Derived.Test.YtnahmddbmmnilaaGreatDoorTimeBPutMathPutNum
import Derived.Test.YtnahmddbmmnilaaGreatDoorLgMathLgAtKShwK
import Derived.Test.YtnahmddbmmnilaaGreatDoorLgAnsLgRtLtMathLawLtFldIsOwnBTurn2
import Derived.Test.YtnahmddbmmnilaaGreatDoorOneKFldGFldBlkRwBlkTakes
import Derived.Test.YtnahmddbmmnilaaGreatDoorLawLkRowOpsLgO
import Derived.Test.YtnahmddbmmnilaaGreatDoorSpecLr
import Derived.Test.YtnahmddbmmnilaaGreatDoorSpecCl
import Derived.Handy
import Derived.WalkSpells
import Derived.OwnWalk
import Derived.Deep.Cut
import Derived.WalkKit
import Derived.LaidEql
import Derived.Stop.Asserts
import Derived.RowKitTokens
import Derived.Laws.Rows
import Derived.Laws.Tables
import Derived.Laws.ResultCell
import Derived.Deep.WholeRow
import Derived.Deep.AppendLies
/-
  What the specification's LogTime answers: 'ltC' and the log, in new memory.
-/
namespace Go.Proofs.YtnahmddbmmnilaaGreatDoor
open Go.RowKit Go.Lib
set_option linter.unusedVariables false
set_option maxRecDepth 20000

theorem l01Max_any (a b : Int) (w : World) : Calls Tryz.prog 96 #[.int .i64 a, .int .i64 b] w fun e w' => e = .returned (.int .i64 (mxB a b)) ∧ w' = w := by
  unfold mxB
  by_cases h : a < b
  · have d1 : decide (a < b) = true := decide_eq_true h
    have d2 : decide (b < a) = false := decide_eq_false (by omega)
    rw [if_pos h]
    go_enter Tryz.func96, Tryz.ntmps96
    go_wp2_with fail
    go_ret
    exact ⟨rfl, rfl⟩
  · have d1 : decide (a < b) = false := decide_eq_false h
    rw [if_neg h]
    by_cases h2 : b < a
    · have d2 : decide (b < a) = true := decide_eq_true h2
      go_enter Tryz.func96, Tryz.ntmps96
      go_wp2_with fail
      go_ret
      exact ⟨rfl, rfl⟩
    · obtain rfl : a = b := by omega
      go_enter Tryz.func96, Tryz.ntmps96
      go_wp2_with fail
      go_ret
      exact ⟨rfl, rfl⟩
theorem l09Ill_any (c : Int) (w : World) : Calls Tryz.prog 88 #[.int .i64 c] w fun e w' => e = .returned (.agg #[.slice none 0 0, .slice none 0 0, .int .i64 0, .int .i64 c]) ∧ Below w.heap.size w w' := by
  have HE : Hid (Below w.heap.size w (w.alloc (.cells #[.slice none 0 0, .slice none 0 0, .int .i64 0, .int .i64 c] 33))) := (Below.refl _ _).alloc (Nat.le_refl _) _
  go_enter Tryz.func88, Tryz.ntmps88
  go_wp2_with fail
  refine bodyPost_ret (v := .agg #[.slice none 0 0, .slice none 0 0, .int .i64 0, .int .i64 c]) (by simp [results, Tryz.results88, go_sem]) rfl ?_
  exact ⟨rfl, HE.out⟩
theorem rB_len {r : Rw} (h : rB r = true) : 1 ≤ r.fs.length ∧ r.fs.length ≤ 3 := by
  unfold rB rwB at h
  simp only [Bool.and_eq_true, decide_eq_true_iff] at h
  omega
set_option maxHeartbeats 4000000 in
theorem specLogTime_any (p : Option Addr) (lv : List ByteArray) (cp : Nat) (q : Option Addr) (rs : List Rw) (cq : Nat) (now t : Int) (w : World) (hA : LgAt p lv cp q rs cq w) (hn : -9223372036854775808 ≤ now ∧ now ≤ 9223372036854775807) (ht : -9223372036854775808 ≤ t ∧ t ≤ 9223372036854775807) :
    Calls Tryz.prog 21 #[.agg #[.slice q rs.length cq, .slice p lv.length cp, .int .i64 now], .int .i64 t] w fun e w' => LgA w.heap.size (ltR rs lv now t) (ltL rs lv now t) (ltN rs lv now t) (ltC rs lv now t) e w' ∧ Below w.heap.size w w' := by
  obtain ⟨W2, hW2⟩ : ∃ W2, W2 = (w.alloc (.cells #[.slice q rs.length cq, .slice p lv.length cp, .int .i64 now] 26)).alloc (.cells #[.slice none 0 0, .slice none 0 0, .int .i64 0, .int .i64 0] 33) := ⟨_, rfl⟩
  have HW2 : Hid (W2 = (w.alloc (.cells #[.slice q rs.length cq, .slice p lv.length cp, .int .i64 now] 26)).alloc (.cells #[.slice none 0 0, .slice none 0 0, .int .i64 0, .int .i64 0] 33)) := hW2
  have H2 : Hid (LtB w q rs.length cq p lv.length cp now W2) := lt_boxes w q rs.length cq p lv.length cp now hW2
  have hR : Calls Tryz.prog 29 #[.agg #[.slice q rs.length cq, .slice p lv.length cp, .int .i64 now]] W2 fun e w' => e = .returned (.bool (lgB rs lv now)) ∧ Below W2.heap.size W2 w' := specLogRight_any p lv cp q rs cq now W2 (hA.below H2.out.bel)
  have HTi : Hid (∀ x, Calls Tryz.prog 95 #[.int .i64 t] x fun e w' => e = .returned (.bool (timeB t)) ∧ w' = x) := fun x => l07Time_any t x
  have HCp : Hid (lgB rs lv now = true → ∀ x, Below w.heap.size w x → Calls Tryz.prog 89 #[.agg #[.slice q rs.length cq, .slice p lv.length cp, .int .i64 now]] x fun e w' => ∃ v1 v2 xs, e = .returned (.agg #[v1, v2, .int .i64 now]) ∧ xs.map (·.1) = rs ∧ LgO x.heap.size xs lv v1 v2 w' ∧ Below x.heap.size x w') := fun hl x hx => by
    obtain ⟨hr1, hr2, hr3⟩ := lg_right hl
    exact l09Copy_any p lv cp q rs cq now x (hA.below hx) (fun r hr => by have := rB_len (hr3 r hr); omega)
  have HB0 : Hid (ltB rs lv now t = (lgB rs lv now && timeB t)) := rfl
  unfold ltR ltL ltN ltC
  clear hW2 hA
  generalize ltB rs lv now t = LB at *
  generalize lgB rs lv now = A at *
  generalize timeB t = B at *
  have HM1 : Hid (now < t → mxB now t = t) := fun h => if_pos h
  have HM2 : Hid (¬ now < t → mxB now t = now) := fun h => if_neg h
  
  have HZ : Hid (∀ x, LgO w.heap.size [] [] (.slice none 0 0) (.slice none 0 0) x) := fun x => LgO.nil _ _
  obtain ⟨x0, x1, x2⟩ := H2.out.thr
  obtain ⟨i0, i1, i2, i3, i4, i5, i6, i7⟩ := H2.out.res
  go_enter Tryz.func21, Tryz.ntmps21
  go_upto_region 1 with fail
  rw [← HW2.out]
  go_wp2_with fail
  with_reducible refine hR.mono ?_
  rintro e y1 ⟨rfl, z1⟩
  have H3 : Hid (LtB w q rs.length cq p lv.length cp now y1) := H2.out.below z1
  clear x0 x1 x2 i0 i1 i2 i3 i4 i5 i6 i7 H2 z1 hR
  obtain ⟨x0, x1, x2⟩ := H3.out.thr
  obtain ⟨i0, i1, i2, i3, i4, i5, i6, i7⟩ := H3.out.res
  have hTi := HTi.out y1
  cases A
  case false =>
    have hb : LB = false := by rw [HB0.out]; rfl
    subst hb
    go_wp2_with fail
    with_reducible refine (l09Ill_any 1 y1).mono ?_
    rintro e y2 ⟨rfl, z2⟩
    have H4 : Hid (LtB w q rs.length cq p lv.length cp now y2) := H3.out.below z2
    clear x0 x1 x2 i0 i1 i2 i3 i4 i5 i6 i7
    obtain ⟨i0, i1, i2, i3, i4, i5, i6, i7⟩ := H4.out.res
    go_wp2_with fail
    obtain ⟨K, HLo, HEd⟩ := LtB.put (q := q) (n := 0) (cq := 0) (p := p) (m := 0) (cp := 0) (now := now) (y := w) H4.out.rs H4.out.bel (HZ.out y2) (.slice none 0 0) (.slice none 0 0) (.int .i64 0) (.int .i64 1)
    generalize ((((y2.setCell ⟨w.heap.size + 1, 0, none⟩ (.slice none 0 0)).setCell ⟨w.heap.size + 1, 1, none⟩ (.slice none 0 0)).setCell ⟨w.heap.size + 1, 2, none⟩ (.int .i64 0)).setCell ⟨w.heap.size + 1, 3, none⟩ (.int .i64 1)) = zz at *
    have HLp : Hid (LgO _ _ _ _ _ zz) := HLo
    have HEn : Hid (Below w.heap.size w zz) := HEd
    have k0 : zz.cell? ⟨w.heap.size + 1, 0, none⟩ = some (.slice none 0 0) := K.cell 0
    have k1 : zz.cell? ⟨w.heap.size + 1, 1, none⟩ = some (.slice none 0 0) := K.cell 1
    have k2 : zz.cell? ⟨w.heap.size + 1, 2, none⟩ = some (.int .i64 0) := K.cell 2
    have k3 : zz.cell? ⟨w.heap.size + 1, 3, none⟩ = some (.int .i64 1) := K.cell 3
    refine bodyPost_ret (v := .agg #[.slice none 0 0, .slice none 0 0, .int .i64 0, .int .i64 1]) (by simp [results, Tryz.results21, go_sem, k0, k1, k2, k3]) rfl ?_
    exact ⟨⟨_, _, [], rfl, rfl, HLp.out⟩, HEn.out⟩
  cases B
  case false =>
    have hb : LB = false := by rw [HB0.out]; rfl
    subst hb
    go_wp2_with fail
    with_reducible refine hTi.mono ?_
    rintro e y1 ⟨rfl, rfl⟩
    go_wp2_with fail
    with_reducible refine (l09Ill_any 1 y1).mono ?_
    rintro e y2 ⟨rfl, z2⟩
    have H4 : Hid (LtB w q rs.length cq p lv.length cp now y2) := H3.out.below z2
    clear x0 x1 x2 i0 i1 i2 i3 i4 i5 i6 i7
    obtain ⟨i0, i1, i2, i3, i4, i5, i6, i7⟩ := H4.out.res
    go_wp2_with fail
    obtain ⟨K, HLo, HEd⟩ := LtB.put (q := q) (n := 0) (cq := 0) (p := p) (m := 0) (cp := 0) (now := now) (y := w) H4.out.rs H4.out.bel (HZ.out y2) (.slice none 0 0) (.slice none 0 0) (.int .i64 0) (.int .i64 1)
    generalize ((((y2.setCell ⟨w.heap.size + 1, 0, none⟩ (.slice none 0 0)).setCell ⟨w.heap.size + 1, 1, none⟩ (.slice none 0 0)).setCell ⟨w.heap.size + 1, 2, none⟩ (.int .i64 0)).setCell ⟨w.heap.size + 1, 3, none⟩ (.int .i64 1)) = zz at *
    have HLp : Hid (LgO _ _ _ _ _ zz) := HLo
    have HEn : Hid (Below w.heap.size w zz) := HEd
    have k0 : zz.cell? ⟨w.heap.size + 1, 0, none⟩ = some (.slice none 0 0) := K.cell 0
    have k1 : zz.cell? ⟨w.heap.size + 1, 1, none⟩ = some (.slice none 0 0) := K.cell 1
    have k2 : zz.cell? ⟨w.heap.size + 1, 2, none⟩ = some (.int .i64 0) := K.cell 2
    have k3 : zz.cell? ⟨w.heap.size + 1, 3, none⟩ = some (.int .i64 1) := K.cell 3
    refine bodyPost_ret (v := .agg #[.slice none 0 0, .slice none 0 0, .int .i64 0, .int .i64 1]) (by simp [results, Tryz.results21, go_sem, k0, k1, k2, k3]) rfl ?_
    exact ⟨⟨_, _, [], rfl, rfl, HLp.out⟩, HEn.out⟩
  have hb : LB = true := by rw [HB0.out]; rfl
  subst hb
  have hCp := HCp.out rfl y1 H3.out.bel
  go_wp2_with fail
  with_reducible refine hTi.mono ?_
  rintro e y1 ⟨rfl, rfl⟩
  go_wp2_with fail
  with_reducible refine hCp.mono ?_
  rintro e y4 ⟨v1, v2, xs, rfl, hx, ho, z4⟩
  have HX : Hid (xs.map (·.1) = rs) := hx
  have H4 : Hid (LtB w q rs.length cq p lv.length cp now (y4.alloc (.cells #[v1, v2, .int .i64 now] 26))) := H3.out.below (alB z4 _)
  have X4 : Hid (Bxs (y4.alloc (.cells #[v1, v2, .int .i64 now] 26)) y4.heap.size 26 #[v1, v2, .int .i64 now]) := Bxs.new _ _ _
  have O4 : Hid (LgO w.heap.size xs lv v1 v2 (y4.alloc (.cells #[v1, v2, .int .i64 now] 26))) := (ho.below (alB (Below.refl _ _) _)).lower H3.out.bel.size
  have hE : w.heap.size + 1 < y4.heap.size := by
    have := H3.out.rs.lt
    have := z4.size
    omega
  have HEE : Hid (w.heap.size + 1 < y4.heap.size) := hE
  obtain ⟨a1, b1, d1, hv1⟩ : ∃ a b c, v1 = .slice a b c := by
    obtain ⟨pp, cc, h, _⟩ := ho.rws.form
    exact ⟨pp, _, cc, h⟩
  obtain ⟨a2, b2, d2, hv2⟩ : ∃ a b c, v2 = .slice a b c := by
    obtain ⟨pp, cc, h, _⟩ := ownS_form ho.lvs
    exact ⟨pp, _, cc, h⟩
  subst hv1 hv2
  clear x0 x1 x2 i0 i1 i2 i3 i4 i5 i6 i7 H3 hx ho z4 hE hTi hCp
  go_upto_region 4 with fail
  generalize y4.heap.size = E at *
  generalize y4.alloc (.cells #[.slice a1 b1 d1, .slice a2 b2 d2, .int .i64 now] 26) = y5 at *
  obtain ⟨x0, x1, x2⟩ := H4.out.thr
  have c2 : y5.cell? ⟨E, 2, none⟩ = some (.int .i64 now) := X4.out.cell 2
  have g2 := X4.out.fr 2
  have H5 : Hid (Bxs (y5.setCell ⟨E, 2, none⟩ (.int .i64 (mxB now t))) E 26 #[.slice a1 b1 d1, .slice a2 b2 d2, .int .i64 (mxB now t)] ∧ LgO w.heap.size xs lv (.slice a1 b1 d1) (.slice a2 b2 d2) (y5.setCell ⟨E, 2, none⟩ (.int .i64 (mxB now t))) ∧ Bxs (y5.setCell ⟨E, 2, none⟩ (.int .i64 (mxB now t))) (w.heap.size + 1) 33 #[.slice none 0 0, .slice none 0 0, .int .i64 0, .int .i64 0] ∧ Below w.heap.size w (y5.setCell ⟨E, 2, none⟩ (.int .i64 (mxB now t)))) := ⟨X4.out.set 2 _, O4.out.box X4.out (by decide) (by decide) (by decide) (set_grw _ _ 2 _), H4.out.rs.other E 2 (by have := HEE.out; omega) _, H4.out.bel.setCell (p := ⟨E, 2, none⟩) (by have := HEE.out; show _ ≤ E; omega) _⟩
  go_wp2_with fail
  with_reducible refine (l01Max_any now t y5).mono ?_
  rintro e y5 ⟨rfl, rfl⟩
  go_upto_region 5 with fail
  generalize y5.setCell ⟨E, 2, none⟩ (.int .i64 (mxB now t)) = y6 at *
  clear x0 x1 x2 c2 g2
  obtain ⟨e0, e1, e2⟩ : y6.cell? ⟨E, 0, none⟩ = some (.slice a1 b1 d1) ∧ y6.cell? ⟨E, 1, none⟩ = some (.slice a2 b2 d2) ∧ y6.cell? ⟨E, 2, none⟩ = some (.int .i64 (mxB now t)) := ⟨H5.out.1.cell 0, H5.out.1.cell 1, H5.out.1.cell 2⟩
  have HR6 : Hid (Bxs y6 (w.heap.size + 1) 33 #[.slice none 0 0, .slice none 0 0, .int .i64 0, .int .i64 0]) := H5.out.2.2.1
  obtain ⟨i0, i1, i2, i3, i4, i5, i6, i7⟩ : y6.cell? ⟨w.heap.size + 1, 0, none⟩ = some (.slice none 0 0) ∧ y6.cell? ⟨w.heap.size + 1, 1, none⟩ = some (.slice none 0 0) ∧ y6.cell? ⟨w.heap.size + 1, 2, none⟩ = some (.int .i64 0) ∧ y6.cell? ⟨w.heap.size + 1, 3, none⟩ = some (.int .i64 0) ∧ y6.frozen? ⟨w.heap.size + 1, 0, none⟩ = false ∧ y6.frozen? ⟨w.heap.size + 1, 1, none⟩ = false ∧ y6.frozen? ⟨w.heap.size + 1, 2, none⟩ = false ∧ y6.frozen? ⟨w.heap.size + 1, 3, none⟩ = false := ⟨HR6.out.cell 0, HR6.out.cell 1, HR6.out.cell 2, HR6.out.cell 3, HR6.out.fr 0, HR6.out.fr 1, HR6.out.fr 2, HR6.out.fr 3⟩
  go_wp2_with fail
  obtain ⟨K, HLo, HEd⟩ := LtB.put (q := q) (n := 0) (cq := 0) (p := p) (m := 0) (cp := 0) (now := 0) (y := w) HR6.out H5.out.2.2.2 H5.out.2.1 (.slice a1 b1 d1) (.slice a2 b2 d2) (.int .i64 (mxB now t)) (.int .i64 0)
  generalize ((((y6.setCell ⟨w.heap.size + 1, 0, none⟩ (.slice a1 b1 d1)).setCell ⟨w.heap.size + 1, 1, none⟩ (.slice a2 b2 d2)).setCell ⟨w.heap.size + 1, 2, none⟩ (.int .i64 (mxB now t))).setCell ⟨w.heap.size + 1, 3, none⟩ (.int .i64 0)) = zz at *
  have HLp : Hid (LgO _ _ _ _ _ zz) := HLo
  have HEn : Hid (Below w.heap.size w zz) := HEd
  have k0 : zz.cell? ⟨w.heap.size + 1, 0, none⟩ = some (.slice a1 b1 d1) := K.cell 0
  have k1 : zz.cell? ⟨w.heap.size + 1, 1, none⟩ = some (.slice a2 b2 d2) := K.cell 1
  have k2 : zz.cell? ⟨w.heap.size + 1, 2, none⟩ = some (.int .i64 (mxB now t)) := K.cell 2
  have k3 : zz.cell? ⟨w.heap.size + 1, 3, none⟩ = some (.int .i64 0) := K.cell 3
  refine bodyPost_ret (v := .agg #[.slice a1 b1 d1, .slice a2 b2 d2, .int .i64 (mxB now t), .int .i64 0]) (by simp [results, Tryz.results21, go_sem, k0, k1, k2, k3]) rfl ?_
  exact ⟨⟨_, _, xs, rfl, HX.out, HLp.out⟩, HEn.out⟩
end Go.Proofs.YtnahmddbmmnilaaGreatDoor
/-
  errors.As at the target *wrongBytes, by its contracts: a nil error: false, nothing turns; an error that is a wrongBytes: true, and the target holds it; nothing else that was there turns. After the guide's worked example of errors.As.
  Conditions: the variable errors.errorType holds the handle of the type error; the target's cell is there and may be written.
-/
namespace Go.Proofs.YtnahmddbmmnilaaGreatDoor
open Go.RowKit Go.Extern.Stop Go.Stop Go.Extern

theorem as_nil (t : Value) (w : World) :
    Calls Tryz.prog 276 #[.nilIface, t] w fun e w' => e = .returned (.bool false) ∧ w' = w := by
  go_enter Tryz.func276, Tryz.ntmps276
  go_wp2
  go_ret
  exact ⟨rfl, rfl⟩

theorem valueOfP (t : Addr) (w : World) : (ReflectliteValue.unpack (.iface 273 (.pointer (some t)))).run Tryz.prog w
    = .ok (.agg #[.pointer (some ⟨3, 273, none⟩), .pointer (some ⟨w.heap.size, 0, none⟩), .int .u64 150]) (w.alloc (.cells #[.pointer (some t)] 273)) := by kernel_rfl
theorem typeP (a : Addr) (w : World) : (ReflectliteValue.methodAny (ReflectliteValue.valueError "reflectlite.Value.Type" 0) (fun t _ _ _ => ReflectliteType.toType t) #[.agg #[.pointer (some ⟨3, 273, none⟩), .pointer (some a), .int .u64 150]]).run Tryz.prog w
    = .ok (.iface 289 (.agg #[.pointer (some ⟨3, 273, none⟩)])) w := by kernel_rfl
theorem kindP (w : World) : ((ReflectliteType.abiMethod fun t => (fun a : Nat => Value.int IntKind.u8 (a : Int)) <$> Rtype.kind t) #[.pointer (some ⟨3, 273, none⟩)]).run Tryz.prog w = .ok (.int .u8 22) w := by kernel_rfl
theorem kindE (w : World) : ((ReflectliteType.abiMethod fun t => (fun a : Nat => Value.int IntKind.u8 (a : Int)) <$> Rtype.kind t) #[.pointer (some ⟨3, 269, none⟩)]).run Tryz.prog w = .ok (.int .u8 25) w := by kernel_rfl
theorem partsP (a : Addr) (w : World) : (ReflectliteValue.parts (.agg #[.pointer (some ⟨3, 273, none⟩), .pointer (some a), .int .u64 150])).run Tryz.prog w = .ok (some (273, a, 150)) w := by kernel_rfl
theorem isNilP (a p : Addr) (W : World) (ha : W.cell? a = some (.pointer (some p))) :
    (ReflectliteValue.method (ReflectliteValue.valueError "reflectlite.Value.IsNil" 0) ReflectliteValue.isNil #[.agg #[.pointer (some ⟨3, 273, none⟩), .pointer (some a), .int .u64 150]]).run Tryz.prog W = .ok (.bool false) W := by
  show (Sem.run Tryz.prog (ReflectliteValue.parts (.agg #[.pointer (some ⟨3, 273, none⟩), .pointer (some a), .int .u64 150]) >>= _) W) = _
  simp only [Sem.run_bind, partsP, Result.andThen]
  simp [ReflectliteValue.isNil, loadVar, isAgg, underlying, Tryz.underlying273, ha, Result.andThen]
theorem elemTP (w : World) : (ReflectliteType.method ReflectliteType.elem #[.agg #[.pointer (some ⟨3, 273, none⟩)]]).run Tryz.prog w = .ok (.iface 289 (.agg #[.pointer (some ⟨3, 269, none⟩)])) w := by kernel_rfl
theorem implementsE (w : World) : (ReflectliteType.relation "Implements" ReflectliteType.implements_ #[.agg #[.pointer (some ⟨3, 269, none⟩)], .iface 289 (.agg #[.pointer (some ⟨3, 257, none⟩)])]).run Tryz.prog w = .ok (.bool true) w := by kernel_rfl
theorem typeOfE (v : Value) (w : World) : (ReflectliteType.typeOf #[.iface 269 v]).run Tryz.prog w = .ok (.iface 289 (.agg #[.pointer (some ⟨3, 269, none⟩)])) w := by kernel_rfl
theorem assignableE (w : World) : (ReflectliteType.relation "AssignableTo" ReflectliteType.assignableTo #[.agg #[.pointer (some ⟨3, 269, none⟩)], .iface 289 (.agg #[.pointer (some ⟨3, 269, none⟩)])]).run Tryz.prog w = .ok (.bool true) w := by kernel_rfl
theorem valueOfE (c : Int) (w : World) : (ReflectliteValue.unpack (.iface 269 (.agg #[.int .i64 c]))).run Tryz.prog w
    = .ok (.agg #[.pointer (some ⟨3, 269, none⟩), .pointer (some ⟨w.heap.size, 0, none⟩), .int .u64 153]) (w.alloc (.cells #[.int .i64 c] 269)) := by kernel_rfl
theorem elemOfP (w : World) : (Rtype.elem? 273).run Tryz.prog w = .ok (some 269) w := by kernel_rfl
theorem mkE (p : Addr) (w : World) : (ReflectliteValue.mk 269 p ReflectliteValue.flagAddr).run Tryz.prog w = .ok (.agg #[.pointer (some ⟨3, 269, none⟩), .pointer (some p), .int .u64 409]) w := by kernel_rfl
theorem elemVP (a p : Addr) (W : World) (ha : W.cell? a = some (.pointer (some p))) :
    (ReflectliteValue.method (ReflectliteValue.valueError "reflectlite.Value.Elem" 0) ReflectliteValue.elem #[.agg #[.pointer (some ⟨3, 273, none⟩), .pointer (some a), .int .u64 150]]).run Tryz.prog W
      = .ok (.agg #[.pointer (some ⟨3, 269, none⟩), .pointer (some p), .int .u64 409]) W := by
  show (Sem.run Tryz.prog (ReflectliteValue.parts (.agg #[.pointer (some ⟨3, 273, none⟩), .pointer (some a), .int .u64 150]) >>= _) W) = _
  simp only [Sem.run_bind, partsP, Result.andThen]
  simp [ReflectliteValue.elem, loadVar, isAgg, underlying, Tryz.underlying273, ha, Result.andThen, elemOfP, mkE]

theorem partsEa (a : Addr) (w : World) : (ReflectliteValue.parts (.agg #[.pointer (some ⟨3, 269, none⟩), .pointer (some a), .int .u64 409])).run Tryz.prog w = .ok (some (269, a, 409)) w := by kernel_rfl
theorem partsE (a : Addr) (w : World) : (ReflectliteValue.parts (.agg #[.pointer (some ⟨3, 269, none⟩), .pointer (some a), .int .u64 153])).run Tryz.prog w = .ok (some (269, a, 153)) w := by kernel_rfl
theorem directE (w : World) : (Rtype.directlyAssignable 269 269).run Tryz.prog w = .ok true w := by kernel_rfl
theorem sizeE (w : World) : (sizeOf 269).run Tryz.prog w = .ok 1 w := by kernel_rfl
theorem isAggE (w : World) : (isAgg 269).run Tryz.prog w = .ok true w := by kernel_rfl
theorem setE (b1 b2 : Nat) (c : Int) (old : Value) (W : World) (hb : W.cell? ⟨b2, 0, none⟩ = some (.int .i64 c)) (ht : W.cell? ⟨b1, 0, none⟩ = some old) (hf : W.frozen? ⟨b1, 0, none⟩ = false) :
    (ReflectliteValue.set #[.agg #[.pointer (some ⟨3, 269, none⟩), .pointer (some ⟨b1, 0, none⟩), .int .u64 409], .agg #[.pointer (some ⟨3, 269, none⟩), .pointer (some ⟨b2, 0, none⟩), .int .u64 153]]).run Tryz.prog W
      = .ok (.tuple #[]) (W.setCell ⟨b1, 0, none⟩ (.int .i64 c)) := by
  show (Sem.run Tryz.prog (ReflectliteValue.parts (.agg #[.pointer (some ⟨3, 269, none⟩), .pointer (some ⟨b1, 0, none⟩), .int .u64 409]) >>= fun x => ReflectliteValue.parts (.agg #[.pointer (some ⟨3, 269, none⟩), .pointer (some ⟨b2, 0, none⟩), .int .u64 153]) >>= _) W) = _
  simp only [Sem.run_bind, partsEa, partsE, Result.andThen]
  simp [ReflectliteValue.flagAddr, loadVar, Result.andThen, directE, storeVar, Value.cells, storeCells, Addr.add]
  have hl : (loadCells ⟨b2, 0, none⟩ 1).run Tryz.prog W = .ok #[.int .i64 c] W := by
    have := run_loadCells (P := Tryz.prog) W ⟨b2, 0, none⟩ 1 (fun _ => .int .i64 c) (fun j hj => by
      obtain rfl : j = 0 := by omega
      simpa [Addr.add] using hb)
    simpa using this
  rw [hl]
  simp [storeCells, Addr.add]
  rw [run_store Tryz.prog W ⟨b1, 0, none⟩ _ _ (by rfl)]
  simp [ht, hf]
end Go.Proofs.YtnahmddbmmnilaaGreatDoor
/-
  errors.As at the target *wrongBytes, and what codeOf answers. After the guide's worked example of errors.As.
  Conditions: the variable errors.errorType holds the handle of the type error; the target's cell is there and may be written.
-/
namespace Go.Proofs.YtnahmddbmmnilaaGreatDoor
open Go.RowKit Go.Extern.Stop Go.Stop Go.Extern

def etv : Value := .iface 289 (.agg #[.pointer (some ⟨3, 257, none⟩)])

set_option maxHeartbeats 4000000 in
theorem as_hit (c : Int) (tb : Nat) (old : Value) (w : World) (hg : w.cell? ⟨2, 0, none⟩ = some (.iface 289 (.agg #[.pointer (some ⟨3, 257, none⟩)]))) (ht0 : w.cell? ⟨tb, 0, none⟩ = some old) (hf0 : w.frozen? ⟨tb, 0, none⟩ = false) :
    Calls Tryz.prog 276 #[.iface 269 (.agg #[.int .i64 c]), .iface 273 (.pointer (some ⟨tb, 0, none⟩))] w fun ev w' => ev = .returned (.bool true) ∧ w' = ((((w.alloc (.cells #[.pointer (some ⟨tb, 0, none⟩)] 273)).alloc (.cells #[.pointer (some ⟨3, 273, none⟩), .pointer (some ⟨w.heap.size, 0, none⟩), .int .u64 150] 279)).alloc (.cells #[.pointer (some ⟨3, 273, none⟩), .pointer (some ⟨w.heap.size, 0, none⟩), .int .u64 150] 279)).alloc (.cells #[.int .i64 c] 269)).setCell ⟨tb, 0, none⟩ (.int .i64 c) := by
  have h6 := @run_callFunc_extern Tryz.prog 284 _ (fun args => ReflectliteValue.unpack (args.getD 0 (.tuple #[]))) Tryz.func284 (by kernel_rfl) (by kernel_rfl) (by kernel_rfl) (by kernel_rfl)
  have h7 := @run_callFunc_extern Tryz.prog 285 _ (ReflectliteValue.methodAny (ReflectliteValue.valueError "reflectlite.Value.Type" 0) (fun t _ _ _ => ReflectliteType.toType t)) Tryz.func285 (by kernel_rfl) (by kernel_rfl) (by kernel_rfl) (by kernel_rfl)
  have h8 := @run_callFunc_extern Tryz.prog 286 _ (ReflectliteValue.method (ReflectliteValue.valueError "reflectlite.Value.IsNil" 0) ReflectliteValue.isNil) Tryz.func286 (by kernel_rfl) (by kernel_rfl) (by kernel_rfl) (by kernel_rfl)
  have h27 := @run_callFunc_extern Tryz.prog 305 _ (ReflectliteType.abiMethod fun t => do pure (.int .u8 (← Rtype.kind t))) Tryz.func305 (by kernel_rfl) (by kernel_rfl) (by kernel_rfl) (by kernel_rfl)
  have h37 := @run_callFunc_extern Tryz.prog 315 _ (ReflectliteType.method ReflectliteType.elem) Tryz.func315 (by kernel_rfl) (by kernel_rfl) (by kernel_rfl) (by kernel_rfl)
  have h38 := @run_callFunc_extern Tryz.prog 316 _ (ReflectliteType.relation "Implements" ReflectliteType.implements_) Tryz.func316 (by kernel_rfl) (by kernel_rfl) (by kernel_rfl) (by kernel_rfl)
  have h10 := @run_callFunc_extern Tryz.prog 288 _ ReflectliteType.typeOf Tryz.func288 (by kernel_rfl) (by kernel_rfl) (by kernel_rfl) (by kernel_rfl)
  have h35 := @run_callFunc_extern Tryz.prog 313 _ (ReflectliteType.relation "AssignableTo" ReflectliteType.assignableTo) Tryz.func313 (by kernel_rfl) (by kernel_rfl) (by kernel_rfl) (by kernel_rfl)
  have h11 := @run_callFunc_extern Tryz.prog 289 _ (ReflectliteValue.method (ReflectliteValue.valueError "reflectlite.Value.Elem" 0) ReflectliteValue.elem) Tryz.func289 (by kernel_rfl) (by kernel_rfl) (by kernel_rfl) (by kernel_rfl)
  have h12 := @run_callFunc_extern Tryz.prog 290 _ ReflectliteValue.set Tryz.func290 (by kernel_rfl) (by kernel_rfl) (by kernel_rfl) (by kernel_rfl)
  have tO := typeOfE
  have aE := assignableE
  have vE := valueOfE
  have f6 := valueOfP
  have f7 := typeP
  have kP := kindP
  have kE := kindE
  have eP := elemTP
  have iE := implementsE
  have n8 := isNilP ⟨w.heap.size, 0, none⟩ ⟨tb, 0, none⟩ ((w.alloc (.cells #[.pointer (some ⟨tb, 0, none⟩)] 273)).alloc (.cells #[.pointer (some ⟨3, 273, none⟩), .pointer (some ⟨w.heap.size, 0, none⟩), .int .u64 150] 279)) (by simp)
  have hlt : 2 < w.heap.size := World.block_lt_of_cell? w _ hg
  have hg2 : ((w.alloc (.cells #[.pointer (some ⟨tb, 0, none⟩)] 273)).alloc (.cells #[.pointer (some ⟨3, 273, none⟩), .pointer (some ⟨w.heap.size, 0, none⟩), .int .u64 150] 279)).cell? ⟨2, 0, none⟩ = some (.iface 289 (.agg #[.pointer (some ⟨3, 257, none⟩)])) := by
    rw [World.cell?_alloc_lt _ _ ⟨2, 0, none⟩ (by simp <;> omega), World.cell?_alloc_lt _ _ ⟨2, 0, none⟩ hlt]; exact hg
  have htl : tb < w.heap.size := by
    rcases Nat.lt_or_ge tb w.heap.size with h | h
    · exact h
    · simp [World.cell?, Array.getElem?_eq_none h] at ht0
  have el := elemVP ⟨w.heap.size, 0, none⟩ ⟨tb, 0, none⟩ (((w.alloc (.cells #[.pointer (some ⟨tb, 0, none⟩)] 273)).alloc (.cells #[.pointer (some ⟨3, 273, none⟩), .pointer (some ⟨w.heap.size, 0, none⟩), .int .u64 150] 279)).alloc (.cells #[.pointer (some ⟨3, 273, none⟩), .pointer (some ⟨w.heap.size, 0, none⟩), .int .u64 150] 279)) (by rw [World.cell?_alloc_lt _ _ ⟨w.heap.size, 0, none⟩ (by simp; omega)]; simp)
  have st := setE tb (w.heap.size + 1 + 1 + 1) c old ((((w.alloc (.cells #[.pointer (some ⟨tb, 0, none⟩)] 273)).alloc (.cells #[.pointer (some ⟨3, 273, none⟩), .pointer (some ⟨w.heap.size, 0, none⟩), .int .u64 150] 279)).alloc (.cells #[.pointer (some ⟨3, 273, none⟩), .pointer (some ⟨w.heap.size, 0, none⟩), .int .u64 150] 279)).alloc (.cells #[.int .i64 c] 269))
    (by rw [World.cell?_alloc_at _ _ _ _ (by simp)]; rfl)
    (by rw [World.cell?_alloc_lt _ _ ⟨tb, 0, none⟩ (by simp; omega), World.cell?_alloc_lt _ _ ⟨tb, 0, none⟩ (by simp; omega), World.cell?_alloc_lt _ _ ⟨tb, 0, none⟩ (by simp; omega), World.cell?_alloc_lt _ _ ⟨tb, 0, none⟩ htl]; exact ht0)
    (by rw [World.frozen?_alloc_old _ _ ⟨tb, 0, none⟩ (by simp; omega), World.frozen?_alloc_old _ _ ⟨tb, 0, none⟩ (by simp; omega), World.frozen?_alloc_old _ _ ⟨tb, 0, none⟩ (by simp; omega), World.frozen?_alloc_old _ _ ⟨tb, 0, none⟩ (Nat.ne_of_lt htl)]; exact hf0)
  go_enter Tryz.func276, Tryz.ntmps276
  go_wp2
  refine wp_loop_rounds 1 ?_
  rw [rounds_succ]
  go_wp2
  go_ret
  exact ⟨rfl, rfl⟩
end Go.Proofs.YtnahmddbmmnilaaGreatDoor
/-
  What codeOf answers: 0 of a nil error, the code of a wrongBytes. Nothing that was there turns.
  Conditions: the variable errors.errorType holds the handle of the type error.
-/
namespace Go.Proofs.YtnahmddbmmnilaaGreatDoor
open Go.RowKit Go.Extern.Stop Go.Stop Go.Extern

/-- The variable errors.errorType as the program's text lays it. -/
def Laid (w : World) : Prop := w.cell? ⟨2, 0, none⟩ = some (.iface 289 (.agg #[.pointer (some ⟨3, 257, none⟩)]))
theorem Laid.pos {w : World} (h : Laid w) : 2 < w.heap.size := World.block_lt_of_cell? w _ h
theorem Laid.below {w w' : World} (h : Laid w) (hb : Below w.heap.size w w') : Laid w' := by
  unfold Laid; rw [hb.cell (p := ⟨2, 0, none⟩) h.pos]; exact h

def errV (c : Int) : Value := .iface 269 (.agg #[.int .i64 c])

set_option maxHeartbeats 1000000 in
theorem codeOf_nil (w : World) :
    Calls Tryz.prog 266 #[.nilIface] w fun e w' => e = .returned (.int .i64 0) ∧ Below w.heap.size w w' := by
  go_enter Tryz.func266, Tryz.ntmps266
  go_wp2_with (go_at_call 276; refine (as_nil _ _).mono ?_; rintro e w' ⟨rfl, hw⟩; subst hw)
  go_ret
  exact ⟨rfl, (Below.refl _ _).alloc (Nat.le_refl _) _⟩

set_option maxHeartbeats 1000000 in
theorem codeOf_hit (c : Int) (w : World) (hg : Laid w) :
    Calls Tryz.prog 266 #[.iface 269 (.agg #[.int .i64 c])] w fun e w' => e = .returned (.int .i64 c) ∧ Below w.heap.size w w' := by
  have hlt := hg.pos
  have hgA : (w.alloc (.cells #[.int .i64 0] 269)).cell? ⟨2, 0, none⟩ = some (.iface 289 (.agg #[.pointer (some ⟨3, 257, none⟩)])) := by
    rw [World.cell?_alloc_lt _ _ ⟨2, 0, none⟩ hlt]; exact hg
  have htA : (w.alloc (.cells #[.int .i64 0] 269)).cell? ⟨w.heap.size, 0, none⟩ = some (.int .i64 0) := by simp
  have hfA : (w.alloc (.cells #[.int .i64 0] 269)).frozen? ⟨w.heap.size, 0, none⟩ = false := by simp
  have HA : Hid (Laid w) := hg
  clear hg
  go_enter Tryz.func266, Tryz.ntmps266
  go_wp2_with (go_at_call 276; refine (as_hit _ _ (.int .i64 0) _ hgA htA hfA).mono ?_; rintro e w' ⟨rfl, hw⟩; subst hw)
  go_ret
  exact ⟨rfl, by go_grown⟩
end Go.Proofs.YtnahmddbmmnilaaGreatDoor
/-
  What the program's timeRight answers.
-/
namespace Go.Proofs.YtnahmddbmmnilaaGreatDoor
open Go.RowKit Go.Lib
set_option linter.unusedVariables false
set_option maxRecDepth 20000

theorem timeRight_any (n : Int) (w : World) : Calls Tryz.prog 84 #[.int .i64 n] w fun e w' => e = .returned (.bool (timeB n)) ∧ w' = w := by
  unfold timeB
  by_cases h1 : 0 ≤ n
  · have d1 : decide (0 ≤ n) = true := decide_eq_true h1
    by_cases h2 : n ≤ 1000000
    · have d2 : decide (n ≤ 1000000) = true := decide_eq_true h2
      rw [decide_eq_true (And.intro h1 h2)]
      clear h1 h2
      go_enter Tryz.func84, Tryz.ntmps84
      go_wp2_with fail
      go_ret
      exact ⟨rfl, rfl⟩
    · have d2 : decide (n ≤ 1000000) = false := decide_eq_false h2
      rw [decide_eq_false (fun h => h2 h.2)]
      clear h1 h2
      go_enter Tryz.func84, Tryz.ntmps84
      go_wp2_with fail
      go_ret
      exact ⟨rfl, rfl⟩
  · have d1 : decide (0 ≤ n) = false := decide_eq_false h1
    rw [decide_eq_false (fun h => h1 h.1)]
    clear h1
    go_enter Tryz.func84, Tryz.ntmps84
    go_wp2_with fail
    go_ret
    exact ⟨rfl, rfl⟩
end Go.Proofs.YtnahmddbmmnilaaGreatDoor
/-
  The program's turnedRight: a number of 32 bits turned right by 1 to 31 places: 'turnR'.
-/
namespace Go.Proofs.YtnahmddbmmnilaaGreatDoor
open Go.RowKit Go.Lib
set_option linter.unusedVariables false

theorem ret_intT {k : IntKind} {a b : Int} (h : a = b) : Ending.returned (.int k a) = .returned (.int k b) := by rw [h]
theorem bits_or_comm (a b : Int) : bits .or .u32 a b = bits .or .u32 b a := by
  show IntKind.u32.wrap ((BitVec.ofInt 32 a ||| BitVec.ofInt 32 b).toNat : Int) = IntKind.u32.wrap ((BitVec.ofInt 32 b ||| BitVec.ofInt 32 a).toNat : Int)
  rw [BitVec.or_comm]
theorem rot_s (k : Nat) (h0 : 1 ≤ k) (h1 : k ≤ 31) : bits .and .u64 (IntKind.u64.wrap (-(k : Int))) 31 = 32 - (k : Int) := by
  have key : ∀ y : Fin 32, 1 ≤ y.val → bits .and .u64 (IntKind.u64.wrap (-((y.val : Nat) : Int))) 31 = 32 - ((y.val : Nat) : Int) := by decide +kernel
  exact key ⟨k, by omega⟩ h0

set_option maxHeartbeats 400000 in
theorem rot_any (x : Int) (k : Nat) (w : World) (h0 : 0 ≤ x) (h1 : x ≤ 4294967295) (k0 : 1 ≤ k) (k1 : k ≤ 31) :
    Calls Tryz.prog 259 #[.int .u32 x, .int .i64 (-(k : Int))] w fun e w' => e = .returned (.int .u32 (turnR x k)) ∧ w' = w := by
  have hs := rot_s k k0 k1
  have hc : turnR x k = bits .or .u32 (x * 2 ^ (32 - k) % 4294967296) (x / 2 ^ k) := bits_or_comm _ _
  have HC : Hid (turnR x k = bits .or .u32 (x * 2 ^ (32 - k) % 4294967296) (x / 2 ^ k)) := hc
  clear hc
  have e1 : IntKind.u64.wrap (32 - (32 - (k : Int))) = (k : Int) := by rw [IntKind.wrap_u64]; omega
  have e2 : ((32 : Int) - (k : Int)).toNat = 32 - k := by omega
  go_enter Tryz.func259, Tryz.ntmps259
  go_wp2
  go_ret
  exact ⟨ret_intT HC.out.symm, rfl⟩

theorem turnI_c (x c : Int) (w : World) (h0 : 0 ≤ x) (h1 : x ≤ 4294967295) (c0 : 1 ≤ c) (c1 : c ≤ 31) :
    Calls Tryz.prog 248 #[.int .u32 x, .int .i64 c] w fun e w' => e = .returned (.int .u32 (turnR x c.toNat)) ∧ w' = w := by
  obtain ⟨k, rfl⟩ : ∃ k : Nat, c = k := ⟨c.toNat, by omega⟩
  go_enter Tryz.func248, Tryz.ntmps248
  go_wp2_with (go_at_call 259; refine (rot_any _ k _ h0 h1 (by omega) (by omega)).mono ?_; rintro e w' ⟨rfl, rfl⟩)
  go_ret
  exact ⟨rfl, rfl⟩
end Go.Proofs.YtnahmddbmmnilaaGreatDoor
/-
  A whole array by value out of a block, and into one, as one step of a walk; a result that lies in a block.
  Nothing of the program is named here.
-/
namespace Go.Proofs.YtnahmddbmmnilaaGreatDoor
open Go.RowKit Go.Lib
set_option linter.unusedVariables false

theorem wpList_load_row {P : Program} {w : World} {ops : Array Oper} {rest : List Oper} {o : Oper} {a : Act} {Q : Exit → Act → World → Prop} (hgd : o.guard = none) (t : TypeId) (x : Operand)
    (ho : o.op = .load t x) (g : Addr) (v : Value) (hx : a.eval x = .pointer (some g)) (hl : (loadVar t g).run P w = .ok v w)
    (h : wpList P ops Q rest (a.put o.dst v) w) : wpList P ops Q (o :: rest) a w :=
  wpList_plain hgd fun _ hK => by
    unfold Oper.wp execOp
    simp only [ho, hx, Instr.loadAt, Instr.sureAddr, Sem.run_bind, Sem.run_pure, Result.andThen_ok, hl]
    exact hK _ _ h
theorem wpList_store_row {P : Program} {w : World} {ops : Array Oper} {rest : List Oper} {o : Oper} {a : Act} {Q : Exit → Act → World → Prop} (hgd : o.guard = none) (t : TypeId) (x y : Operand)
    (ho : o.op = .store t x y) (hd : o.dst = none) (g : Addr) (v : Value) (w' : World) (hx : a.eval x = .pointer (some g)) (hy : a.eval y = v) (hl : (storeVar t g v).run P w = .ok () w')
    (h : wpList P ops Q rest a w') : wpList P ops Q (o :: rest) a w :=
  wpList_plain hgd fun _ hK => by
    have e : a.put o.dst undef = a := by rw [hd]; rfl
    unfold Oper.wp execOp
    simp only [ho, hx, hy, Instr.storeAt, Instr.sureAddr, Sem.run_bind, Sem.run_pure, Result.andThen_ok, hl]
    exact hK _ _ (by rw [e]; exact h)
theorem results_cell {fn : Func} {p : Tmp} {ty : TypeId} (h : fn.results = #[.cell p ty]) (tmps : Array Value) (P : Program) (w : World) :
    (results fn tmps).run P w = ((asAddr (tmps.getD p undef)).run P w).andThen fun a w₁ => (loadVar ty a).run P w₁ := by
  simp only [results, h]
  simp [Sem.run_bind, Result.andThen]
theorem bodyPost_cell {P : Program} {fn : Func} {R : Ending → World → Prop} {a : Act} {w : World} {p : Tmp} {ty : TypeId} {g : Addr} {v : Value} (h : fn.results = #[.cell p ty]) (hd : a.defers = [])
    (hp : a.tmps.getD p undef = .pointer (some g)) (hl : (loadVar ty g).run P w = .ok v w) (hR : R (.returned v) w) : bodyPost P fn R .ret a w := by
  refine bodyPost_ret (v := v) ?_ hd hR
  rw [results_cell h, hp]
  simp [asAddr, Result.andThen, hl]
end Go.Proofs.YtnahmddbmmnilaaGreatDoor
