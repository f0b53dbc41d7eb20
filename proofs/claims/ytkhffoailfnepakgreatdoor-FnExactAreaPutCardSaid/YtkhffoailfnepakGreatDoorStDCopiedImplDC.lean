/-
  Parts of one proof, laid as one text: StD, Copied, ImplDC; what each says stands at its head.
-/
import Derived.Test.YtkhffoailfnepakGreatDoorRows
import Derived.Test.YtkhffoailfnepakGreatDoorBytesDigMath
import Derived.Test.YtkhffoailfnepakGreatDoorSlASlBOwnSDskMath
import Derived.Test.YtkhffoailfnepakGreatDoorAppSStepAppDskA
import Derived.Test.YtkhffoailfnepakGreatDoorDskCDskRDskS
import Derived.Test.YtkhffoailfnepakGreatDoorDskT
import Derived.Test.YtkhffoailfnepakGreatDoorLawD
import Derived.Test.YtkhffoailfnepakGreatDoorStpMathAreaPutM
import Derived.Test.YtkhffoailfnepakGreatDoorFourJoinedSealOwnB
import Derived.Handy
import Derived.OwnWalk
import Derived.Deep.AppendLies
import Derived.Test.YtkhffoailfnepakGreatDoorDskW
import Derived.Test.YtkhffoailfnepakGreatDoorDskFDskKDskLaw
import Derived.WalkSpells
import Derived.Laws.OwnMore
import Derived.Deep.RegionLaw
/-
  A disk in a variable's box: laid anew at each step.
-/
namespace Go.Proofs.YtkhffoailfnepakGreatDoor
open Go.RowKit Go.Lib
set_option linter.unusedVariables false

/-- A disk in a variable's box at X. -/
structure StD (W : World) (X : Nat) (ss : List ByteArray) (ps : List Pnd) (v1 v2 : Value) (x : World) : Prop where
  bel : Below W.heap.size W x
  box : Bxs x X 29 #[v1, v2]
  own : DskO W.heap.size ss ps v1 v2 x
  lo : W.heap.size ≤ X
theorem StD.below {W : World} {X : Nat} {ss : List ByteArray} {ps : List Pnd} {v1 v2 : Value} {x x' : World} (h : StD W X ss ps v1 v2 x) (hb : Below x.heap.size x x') : StD W X ss ps v1 v2 x' := ⟨chainB h.bel hb, h.box.below hb, h.own.below hb, h.lo⟩
/-- Another disk is laid into the box. -/
theorem StD.put {W : World} {X : Nat} {ss : List ByteArray} {ps : List Pnd} {v1 v2 : Value} {x : World} (h : StD W X ss ps v1 v2 x) {ss' : List ByteArray} {ps' : List Pnd} {u1 u2 : Value} {base : Nat} (ho : DskO base ss' ps' u1 u2 x) (hb : X < base) : StD W X ss' ps' u1 u2 ((x.setCell ⟨X, 0, none⟩ u1).setCell ⟨X, 1, none⟩ u2) :=
  ⟨(h.bel.setCell h.lo _).setCell h.lo _, (h.box.set 0 u1).set 1 u2, ((ho.set hb 0 u1).set hb 1 u2).mono (by have := h.lo; omega), h.lo⟩
theorem StD.cells {W : World} {X : Nat} {ss : List ByteArray} {ps : List Pnd} {v1 v2 : Value} {x : World} (h : StD W X ss ps v1 v2 x) : x.cell? ⟨X, 0, none⟩ = some v1 ∧ x.cell? ⟨X, 1, none⟩ = some v2 ∧ x.frozen? ⟨X, 0, none⟩ = false ∧ x.frozen? ⟨X, 1, none⟩ = false := ⟨h.box.cell 0, h.box.cell 1, h.box.fr 0, h.box.fr 1⟩
/-- The box alone. -/
structure StB (W : World) (X : Nat) (v1 v2 : Value) (x : World) : Prop where
  bel : Below W.heap.size W x
  box : Bxs x X 29 #[v1, v2]
  lo : W.heap.size ≤ X
theorem StD.b {W : World} {X : Nat} {ss : List ByteArray} {ps : List Pnd} {v1 v2 : Value} {x : World} (h : StD W X ss ps v1 v2 x) : StB W X v1 v2 x := ⟨h.bel, h.box, h.lo⟩
theorem StB.put {W : World} {X : Nat} {v1 v2 : Value} {x : World} (h : StB W X v1 v2 x) {ss' : List ByteArray} {ps' : List Pnd} {u1 u2 : Value} {base : Nat} (ho : DskO base ss' ps' u1 u2 x) (hb : X < base) : StD W X ss' ps' u1 u2 ((x.setCell ⟨X, 0, none⟩ u1).setCell ⟨X, 1, none⟩ u2) :=
  ⟨(h.bel.setCell h.lo _).setCell h.lo _, (h.box.set 0 u1).set 1 u2, ((ho.set hb 0 u1).set hb 1 u2).mono (by have := h.lo; omega), h.lo⟩
theorem StB.set4 {W : World} {X : Nat} {v1 v2 : Value} {x : World} (h : StB W X v1 v2 x) {Y : Nat} (hY : X < Y) (x0 x1 x2 x3 : Value) : StB W X v1 v2 ((((x.setCell ⟨Y, 0, none⟩ x0).setCell ⟨Y, 1, none⟩ x1).setCell ⟨Y, 2, none⟩ x2).setCell ⟨Y, 3, none⟩ x3) :=
  ⟨below_set4 h.bel (by have := h.lo; omega) x0 x1 x2 x3, ((((h.box.other Y 0 (by omega) x0).other Y 1 (by omega) x1).other Y 2 (by omega) x2).other Y 3 (by omega) x3), h.lo⟩
theorem do_all {l : List Stp} {ss : List ByteArray} {ps : List Pnd} {k : Nat} {c : Int} (hk : k < l.length) (h : doC ss ps (l.take (k + 1)) = c) (hc : c ≠ 0) : doC ss ps l = c ∧ doS ss ps l = [] ∧ doP ss ps l = [] := by
  have e := do_early (l := l) (ss := ss) (ps := ps) (k := k + 1) (m := l.length) (by omega) (by rw [h]; exact hc)
  rw [List.take_of_length_le (Nat.le_refl _), h] at e
  have := do_ill l ss ps (by rw [e]; exact hc)
  exact ⟨e, this.1, this.2⟩

end Go.Proofs.YtkhffoailfnepakGreatDoor
/-
  The program's copied: the same texts, in new memory of their own.
  Conditions: the slice's cells hold the texts, each of at most 2^20 bytes, at most 2^20 of them.
-/
namespace Go.Proofs.YtkhffoailfnepakGreatDoor
open Go.RowKit Go.Lib
set_option linter.unusedVariables false
set_option maxRecDepth 20000

set_option maxHeartbeats 1000000 in
theorem copied_any (p : Option Addr) (cap : Nat) (ss : List ByteArray) (w : World) (hp : TxtAt w p ss) (hn : ss.length ≤ 1048576) (hcap : ss.length ≤ cap) (hs : ∀ x ∈ ss, x.size ≤ 1048576) :
    Calls Tryz.prog 73 #[.slice p ss.length cap] w fun e w' => ∃ v, e = .returned v ∧ w'.ownsRow w.heap.size 9 1 v ss.length (strRow ss) ∧ Below w.heap.size w w' := by
  have HP : Hid (TxtAt w p ss) := hp
  have HS : Hid (∀ x ∈ ss, x.size ≤ 1048576) := hs
  clear hp hs
  obtain ⟨i0, hi, hz0, hz1, hz2⟩ := info_parts infoStr
  go_enter Tryz.func73, Tryz.ntmps73
  go_wp2
  go_loopw [8, 3] (fun i v wr => ∃ k : Nat, k ≤ ss.length ∧ i = .int .i64 k ∧ Hid (wr.ownsRow w.heap.size 9 1 v k (strRow (ss.take k))) ∧ Hid (Below w.heap.size w wr)) (fun i _ _ => ss.length - (intOf i).toNat)
  case atStart => exact ⟨0, Nat.zero_le _, rfl, World.ownsRow_nil _ _ _ _, Below.refl _ _⟩
  case round =>
    obtain ⟨k, hk, rfl, hown, hB⟩ := hrel
    have hsz := hB.out.size
    by_cases hlt : k < ss.length
    · obtain ⟨b, off, rfl, hb, hck⟩ := HP.out k hlt
      have hc1 : wr.cell? ⟨b, off + k, none⟩ = some (.string ss[k]) := (hB.out.cell (p := ⟨b, off + k, none⟩) hb).trans hck
      have hx := HS.out ss[k] (List.getElem_mem hlt)
      have HT : Hid (strRow (ss.take (k + 1)) = strRow (ss.take k) ++ [.string ss[k]]) := by show _ = _; unfold strRow; rw [List.take_succ_eq_append_getElem hlt, List.map_append]; rfl
      have hj := joined_one ss[k] wr (by omega)
      clear hck
      generalize ss[k] = q at *
      go_wp2_with fail
      refine hj.mono ?_
      rintro e w2 ⟨rfl, b2⟩
      have own2 := ownS_below hown.out b2
      have hB2 := chainB hB.out b2
      have hs2 := hB2.size
      go_wp2_with (at_builtin; refine wpList_append_lies _ rfl _ _ 22 rfl w.heap.size 9 i0 (.string ByteArray.empty) 1 16 Tryz.underlying22 hi hz0 hz1 hz2 rfl (by omega) _ k (strRow (ss.take k)) rfl (own2.alloc _) ⟨w2.heap.size, 0, none⟩ 1 1 [.string q] rfl rfl (World.news_of_block (cs := #[.string q]) (t := 9) (fr := (0, 0)) (MapKept.heap_alloc w2 _).1) (by simp [Value.oneCell']) (by omega) (by unfold maxLen; omega) (by omega) (by simp; omega) (w2.heap.size + 1) (by simp) ?_; intro g2 cap2 w3 hown3 hgrow hat hltg)
      have HO3 : Hid (w3.ownsRow w.heap.size 9 1 (.slice (some ⟨g2, 0, none⟩) (k + 1) cap2) (k + 1) (strRow (ss.take (k + 1)))) := by
        show World.ownsRow _ _ _ _ _ _ _
        rw [HT.out]; exact hown3
      have HB3 : Hid (Below w.heap.size w w3) := (hB2.alloc hB2.size _).grown hgrow (by simp; omega) (fun j hj => (own2.lt j hj).1)
      clear hown3 own2
      go_roundw
      case rel => exact ⟨k + 1, by omega, by go_num, HO3, HB3⟩
      case measure => simp [intOf]; omega
    · obtain rfl : k = ss.length := by omega
      have HO3 : Hid (wr.ownsRow w.heap.size 9 1 u3 ss.length (strRow ss)) := by
        have := hown.out; rwa [List.take_length] at this
      go_wp2
      go_ret
      exact ⟨_, rfl, HO3.out, hB.out⟩
end Go.Proofs.YtkhffoailfnepakGreatDoor
/-
  What the program's copiedDisk and keptOf answer: a disk of its own memory; those of the pendings that a crash leaves.
  Conditions: the cells hold the texts, the pendings and the numbers; no text is greater than 2^20 bytes.
-/
namespace Go.Proofs.YtkhffoailfnepakGreatDoor
open Go.RowKit Go.Lib
set_option linter.unusedVariables false
set_option maxRecDepth 20000

theorem own_apart {w w' : World} {base B1 : Nat} {e1 e2 : TypeId} {s1 s2 n1 n2 : Nat} {v1 v2 : Value} {x1 x2 : List Value} (h1 : w'.ownsRow B1 e1 s1 v1 n1 x1) (h2 : w.ownsRow base e2 s2 v2 n2 x2) (hB : w.heap.size ≤ B1) : v1.ownBlock = none ∨ v1.ownBlock ≠ v2.ownBlock := by
  cases h : v1.ownBlock with
  | none => exact .inl rfl
  | some j =>
    refine .inr (fun e => ?_)
    have a1 := (h1.lt j h).1
    have a2 := (h2.lt j e.symm).2
    omega

set_option maxHeartbeats 4000000 in
theorem copiedDisk_any (q1 : Option Addr) (c1 : Nat) (ss : List ByteArray) (q2 : Option Addr) (c2 : Nat) (ps : List Pnd) (w : World) (h1 : TxtAt w q1 ss) (h2 : PndAt w q2 ps) (n1 : ss.length ≤ 1048576) (n2 : ps.length ≤ 1048576) (m1 : ss.length ≤ c1) (m2 : ps.length ≤ c2) (s1 : ∀ x ∈ ss, x.size ≤ 1048576) (s2 : ∀ p ∈ ps, p.2.size ≤ 1048576) :
    Calls Tryz.prog 53 #[.agg #[.slice q1 ss.length c1, .slice q2 ps.length c2]] w fun e w' => ∃ v1 v2, e = .returned (.agg #[v1, v2]) ∧ DskO w.heap.size ss ps v1 v2 w' ∧ Below w.heap.size w w' := by
  obtain ⟨W2, hW2⟩ : ∃ W2, W2 = (w.alloc (.cells #[.slice q1 ss.length c1, .slice q2 ps.length c2] 29)).alloc (.cells #[.slice none 0 0, .slice none 0 0] 29) := ⟨_, rfl⟩
  have HW2 : Hid (W2 = (w.alloc (.cells #[.slice q1 ss.length c1, .slice q2 ps.length c2] 29)).alloc (.cells #[.slice none 0 0, .slice none 0 0] 29)) := hW2
  have hs1 : (w.alloc (.cells #[.slice q1 ss.length c1, .slice q2 ps.length c2] 29)).heap.size = w.heap.size + 1 := by simp
  have S2 : W2.heap.size = w.heap.size + 2 := by rw [hW2]; simp
  have R0 : Bxs W2 w.heap.size 29 #[.slice q1 ss.length c1, .slice q2 ps.length c2] := by rw [hW2]; exact (Bxs.new _ _ _).alloc _
  have R1 : Bxs W2 (w.heap.size + 1) 29 #[.slice none 0 0, .slice none 0 0] := by rw [hW2, ← hs1]; exact Bxs.new _ _ _
  have B2 : Hid (Below w.heap.size w W2) := by rw [hW2]; exact ((Below.refl _ _).alloc (Nat.le_refl _) _).alloc (by rw [hs1]; omega) _
  have T1 : Hid (TxtAt W2 q1 ss) := h1.below B2.out
  have T2 : Hid (PndAt W2 q2 ps) := h2.below B2.out
  have HR0 : Hid (Bxs W2 w.heap.size 29 #[.slice q1 ss.length c1, .slice q2 ps.length c2]) := R0
  have HR1 : Hid (Bxs W2 (w.heap.size + 1) 29 #[.slice none 0 0, .slice none 0 0]) := R1
  have HS1 : Hid (∀ x ∈ ss, x.size ≤ 1048576) := s1
  have HS2 : Hid (∀ p ∈ ps, p.2.size ≤ 1048576) := s2
  have t1 := R0.cell 1
  have HSz : Hid (W2.heap.size = w.heap.size + 2) := S2
  rw [HW2.out] at t1
  clear hW2 hs1 R0 R1 h1 h2 s1 s2 S2
  go_enter Tryz.func53, Tryz.ntmps53
  go_wp2_with fail
  rw [← HW2.out]
  clear t1
  go_loopw [9, 3] (fun i v wr => ∃ (k : Nat) (L : List Pnd), k ≤ ps.length ∧ i = .int .i64 k ∧ Hid (L = ps.take k) ∧ Hid (wr.ownsRow W2.heap.size 71 2 v L.length (pndRow L)) ∧ Hid (Below W2.heap.size W2 wr)) (fun i _ _ => ps.length - (intOf i).toNat)
  case atStart => exact ⟨0, [], Nat.zero_le _, rfl, rfl, World.ownsRow_nil _ _ _ _, Below.refl _ _⟩
  case round =>
    obtain ⟨k, L, hk, rfl, HL, HO, HB⟩ := hrel
    by_cases hlt : k < ps.length
    · obtain ⟨b, off, rfl, hb, hc1, hc2⟩ := (T2.out.below HB.out) k hlt
      have i1 : (k : Int) < ps.length := by omega
      have hsz := HS2.out _ (List.getElem_mem hlt)
      have HT : Hid (∀ x, ps[k] = x → L ++ [x] = ps.take (k + 1)) := fun x hx => by rw [HL.out, ← hx, List.take_succ_eq_append_getElem hlt]
      have hLl : L.length + 1 ≤ 1048576 := by rw [HL.out]; simp; omega
      generalize ps[k] = P at *
      obtain ⟨A, Dt⟩ := P
      have HT2 : Hid (L ++ [(A, Dt)] = ps.take (k + 1)) := HT.out _ rfl
      have hsz : Dt.size ≤ 1048576 := hsz
      have hc1 : wr.cell? ⟨b, off + k * 2, none⟩ = some (.int .i64 A) := hc1
      have hc2 : wr.cell? ⟨b, off + k * 2 + 1, none⟩ = some (.string Dt) := hc2
      obtain ⟨Y, hY⟩ : ∃ Y, Y = wr.alloc (.cells #[.int .i64 A, .string Dt] 71) := ⟨_, rfl⟩
      have HY : Hid (Y = wr.alloc (.cells #[.int .i64 A, .string Dt] 71)) := hY
      have bY : Below wr.heap.size wr Y := by rw [hY]; exact (Below.refl _ _).alloc (Nat.le_refl _) _
      have KY : Bxs Y wr.heap.size 71 #[.int .i64 A, .string Dt] := by rw [hY]; exact Bxs.new _ _ _
      have HKY : Hid (∀ y, Below Y.heap.size Y y → y.cell? ⟨wr.heap.size, 0, none⟩ = some (.int .i64 A) ∧ y.cell? ⟨wr.heap.size, 1, none⟩ = some (.string Dt)) := fun y hy => ⟨(KY.below hy).cell 0, (KY.below hy).cell 1⟩
      have HJ : Hid (∀ y, Below Y.heap.size Y y → Calls Tryz.prog 72 #[.slice (some ⟨y.heap.size, 0, none⟩) 1 1] (y.alloc (.cells #[.string Dt] 9)) fun e w' => e = .returned (.string Dt) ∧ Below Y.heap.size Y w') := fun y hy => (joined_one Dt y (by omega)).mono (by
        rintro e w' ⟨rfl, h⟩
        exact ⟨rfl, chainB hy h⟩)
      have HJ2 : Hid (∀ y, Below Y.heap.size Y y → Calls Tryz.prog 72 #[.slice (some ⟨y.heap.size, 0, none⟩) 1 1] (y.alloc (.cells #[.string Dt] 9)).drew fun e w' => e = .returned (.string Dt) ∧ Below Y.heap.size Y w') := fun y hy => HJ.out y.drew hy.drew
      have HA : Hid (∀ y, Below Y.heap.size Y y → ∃ g c w', (Builtin.append_ #[27, 27] 27 #[u3, .slice (some ⟨y.heap.size, 0, none⟩) 1 1]).run Tryz.prog (y.alloc (.cells #[.int .i64 A, .string Dt] 71)) = .ok (.slice (some ⟨g, 0, none⟩) (L.length + 1) c) w' ∧ w'.ownsRow W2.heap.size 71 2 (.slice (some ⟨g, 0, none⟩) (L.length + 1) c) (L ++ [(A, Dt)]).length (pndRow (L ++ [(A, Dt)])) ∧ Below W2.heap.size W2 w') := fun y hy => by
        have hb1 := chainB HB.out (chainB bY hy)
        have ho := ownS_below HO.out (chainB bY hy)
        obtain ⟨g, c, w', a1, a2, a3, -⟩ := app_pend y W2.heap.size u3 L ho (A, Dt) hLl hb1.size
        exact ⟨g, c, w', a1, a2, (hb1.alloc hb1.size _).grown a3 (by simp; have := hb1.size; omega) (fun j hj => (ho.lt j hj).1)⟩
      have H0 : Hid (Below Y.heap.size Y Y) := Below.refl _ _
      obtain ⟨y0, y1⟩ := HKY.out Y H0.out
      obtain ⟨y2, y3⟩ := HKY.out _ (H0.out.alloc (Nat.le_refl _) (.cells #[.string Dt] 9))
      rw [hY] at y0 y1
      clear hY bY KY HO HB HL HT
      go_wp2_with fail
      rw [← HY.out] at y0 y1 ⊢
      go_region_law (first
        | (refine step_append_run rfl _ _ 27 rfl u3 (.slice (some ⟨x1.heap.size, 0, none⟩) 1 1) _ _ rfl rfl (by with_reducible exact ha1) ?_)
        | (go_simp; go_at_call 72; first | refine (HJ.out _ (by first | exact H0.out | exact H0.out.drew)).mono ?_ | refine (HJ2.out _ (by first | exact H0.out | exact H0.out.drew)).mono ?_; rintro e x1 ⟨rfl, z1⟩; obtain ⟨g1, d1, x2, ha1, ha2, ha3⟩ := HA.out x1 z1; obtain ⟨y4, y5⟩ := HKY.out x1 z1))
      all_goals
        have HO2 : Hid (x2.ownsRow W2.heap.size 71 2 (.slice (some ⟨g1, 0, none⟩) (L.length + 1) d1) (L ++ [(A, Dt)]).length (pndRow (L ++ [(A, Dt)]))) := ha2
        have HB2 : Hid (Below W2.heap.size W2 x2) := ha3
        clear ha1 ha2 ha3 z1 HA HJ HJ2 HKY H0
        go_wp2_with fail
        go_roundw
        case rel => exact ⟨k + 1, _, by omega, by go_num, HT2, HO2, HB2⟩
        case measure => simp [intOf]; omega
    · obtain rfl : k = ps.length := by omega
      obtain rfl : L = ps := by have := HL.out; rwa [List.take_of_length_le (Nat.le_refl _)] at this
      have s2 := HSz.out
      have hsz := HB.out.size
      have t0 := (HR0.out.below HB.out).cell 0
      have hc := copied_any q1 c1 ss wr (T1.out.below HB.out) n1 m1 HS1.out
      clear s2 hsz HL
      go_wp2_with fail
      refine hc.mono ?_
      rintro e y1 ⟨v1, rfl, o1, b1⟩
      have bb := chainB HB.out b1
      have K1 := HR1.out.below bb
      have r0 := K1.cell 0
      have r1 := K1.cell 1
      have u0 := K1.fr 0
      have u1 := K1.fr 1
      have s2 := HSz.out
      have hsz := HB.out.size
      have HE : Hid (∀ x0 x1 : Value, DskO w.heap.size ss L v1 u3 ((y1.setCell ⟨w.heap.size + 1, 0, none⟩ x0).setCell ⟨w.heap.size + 1, 1, none⟩ x1) ∧ Below w.heap.size w ((y1.setCell ⟨w.heap.size + 1, 0, none⟩ x0).setCell ⟨w.heap.size + 1, 1, none⟩ x1)) := fun x0 x1 => by
        have h0 : DskO W2.heap.size ss L v1 u3 y1 := ⟨ownS_mono o1 hsz, ownS_below HO.out b1, own_apart o1 HO.out (Nat.le_refl _)⟩
        exact ⟨(h0.set2 (by omega) x0 x1).mono (by omega), below_set2 (chainB B2.out bb) (by omega) _ _⟩
      obtain ⟨p1, d1, rfl, -, -⟩ := ownS_form o1
      obtain ⟨p2, d2, rfl, -, -⟩ := ownP_form HO.out
      clear hc o1 b1 bb K1 t0 s2 hsz HO
      go_wp2_with fail
      refine bodyPost_ret (v := .agg #[.slice p1 ss.length d1, .slice p2 L.length d2]) (by simp [results, Tryz.results53, go_sem, r0, r1]) rfl ?_
      exact ⟨_, _, rfl, HE.out _ _⟩

end Go.Proofs.YtkhffoailfnepakGreatDoor
