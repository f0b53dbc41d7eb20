/-
  For every kind, time, names, salts and values the law FnExactRowOf returns true: the program's RowOf answers as the specification's, writes into no argument, keeps nothing of one, and its answer owns its memory; the card ties the two listed tables, firstState and roundNums, to the program's text.
  Conditions: none of mine; the form's own reach; the two tables as the program's text lays them (the given tie). The card speaks of the pruned copy of the project that the seat names.
-/
import Derived.Test.YtefakcpclihaeakDoorCards
import Derived.Test.YtefakcpclihaeakDoorTie
import Derived.Test.YtefakcpclihaeakDoorSlA
import Derived.Test.YtefakcpclihaeakDoorSlB
import Derived.Test.YtefakcpclihaeakDoorBxK
import Derived.Test.YtefakcpclihaeakDoorOwnS
import Derived.Test.YtefakcpclihaeakDoorFldO
import Derived.Test.YtefakcpclihaeakDoorFldOM
import Derived.Test.YtefakcpclihaeakDoorImplRo
import Derived.Test.YtefakcpclihaeakDoorLawS
import Derived.Test.YtefakcpclihaeakDoorLawSG
import Derived.Test.YtefakcpclihaeakDoorLawM
import Derived.Test.YtefakcpclihaeakDoorLawMG
import Derived.Test.YtefakcpclihaeakDoorLawF
import Derived.Test.YtefakcpclihaeakDoorLawFR
import Derived.Test.YtefakcpclihaeakDoorLawFM
import Derived.Test.YtefakcpclihaeakDoorLawFX
import Derived.Test.YtefakcpclihaeakDoorTabsOf
import Derived.WalkKit
import Derived.ProofKit
import Derived.OpenShut
import Derived.OpenVars
import Derived.ShutString
import Derived.LaidHandle
import Derived.LaidLaws
import Derived.Deep.DeepHandedRow
import Derived.ChangeOld
import Derived.Below
import Derived.Deep.Strs
namespace Go.Proofs.YtefakcpclihaeakDoor.fnExactRowOf
open Go.ChangeShapes Go.WideShapes Go.ChangeAt Go.RowKit
open Go.ChangeMaps (open_string shut_string)
set_option linter.unusedVariables false
set_option maxRecDepth 100000

theorem own : ownKnob Tryd.prog.godebug = none := by kernel_rfl
theorem laidOut : laidOutB Tryd.prog = true := by kernel_rfl

/-- What the walk is told of a slice of texts that came in. -/
def IsTexts (w : World) (a : Option Addr) (len cap : Nat) (ss : List ByteArray) : Prop :=
  ss.length = len ∧ TxtAt w a ss ∧ len ≤ cap ∧ cap ≤ maxLen ∧ ∀ x ∈ ss, x.size ≤ maxLen
theorem texts_of {H : Type} {enc : TypeId × Value → H} {W : World} {base : Nat} {fuel : Nat} {x : DataW H × List MemPlace} {a : Option Addr} {len cap : Nat}
    (h : DataW.trod enc Tryd.prog W base (fun _ => true) true fuel 42 [.slice a len cap] = some x) : ∃ ss, IsTexts W a len cap ss := by
  rcases Go.Deep.open_strs Tryd.underlying42 Tryd.underlying9 (by kernel_rfl) h with ⟨hcs, _⟩ | ⟨ad, l, c, m, Sx, hcs, _, hl, hm, hmm, _, hx⟩
  · simp at hcs
    obtain ⟨rfl, rfl, rfl⟩ := hcs
    exact ⟨[], rfl, TxtAt.nil _ _, Nat.le_refl _, by unfold maxLen; omega, fun x hx => by cases hx⟩
  · simp at hcs
    obtain ⟨rfl, rfl, rfl⟩ := hcs
    rw [if_pos rfl] at hmm
    subst hmm
    refine ⟨(List.range len).map Sx, by simp, ?_, hl, hm, ?_⟩
    · intro i hi
      have hi2 : i < len := by simpa using hi
      obtain ⟨b, off, spot⟩ := ad
      have hc := (hx i (by omega)).1
      have hspot : spot = none := by simpa [Addr.add] using World.cell?_spot (hx 0 (by omega)).1
      subst hspot
      have hadd : (⟨b, off, none⟩ : Addr).add i = ⟨b, off + i, none⟩ := by unfold Addr.add; split <;> simp_all
      rw [hadd] at hc
      exact ⟨b, off, rfl, World.block_lt_of_cell? W _ hc, by rw [hc]; simp⟩
    · intro x hxm
      obtain ⟨i, hi, rfl⟩ := List.mem_map.1 hxm
      exact (hx i (by have := List.mem_range.1 hi; omega)).2

/-- What stays as it was while rows are marked: two boxes of answers, and what a predicate says. -/
structure MkT (w : World) (T : TypeId) (cw cg : Array Value) (bw bg : Nat) (P : World → Prop) (x : World) : Prop where
  bel : Below w.heap.size w x
  bw : Bxs x bw T cw
  bg : Bxs x bg T cg
  ps : P x
theorem MkT.below {w : World} {T : TypeId} {cw cg : Array Value} {bw bg : Nat} {P : World → Prop} {x y : World} (h : MkT w T cw cg bw bg P x) (hP : ∀ x y, P x → Below x.heap.size x y → P y) (hb : Below x.heap.size x y) : MkT w T cw cg bw bg P y :=
  ⟨chainB h.bel hb, h.bw.below hb, h.bg.below hb, hP _ _ h.ps hb⟩
theorem MkT.grown {w : World} {T : TypeId} {cw cg : Array Value} {bw bg : Nat} {P : World → Prop} {x y : World} {row : Option Nat} (h : MkT w T cw cg bw bg P x) (hg : x.grownBy y row) (hr : ∀ j, row = some j → w.heap.size ≤ j ∧ j ≠ bw ∧ j ≠ bg) (hP : P y) : MkT w T cw cg bw bg P y :=
  ⟨h.bel.grown hg h.bel.size (fun j hj => (hr j hj).1), h.bw.grown hg (fun e => (hr _ e.symm).2.1 rfl), h.bg.grown hg (fun e => (hr _ e.symm).2.2 rfl), hP⟩
theorem blkS_grown {w w' : World} {g j : Nat} {l : List ByteArray} (h : BlkS w g l) (hg : w.grownBy w' (some j)) (hne : g ≠ j) : BlkS w' g l := (hg.block g h.lt (fun e => hne (by simpa using e))).trans h
theorem keepF {w w' : World} {base : Nat} {e : TypeId} {s : Nat} {v : Value} {n : Nat} {xs : List Value} {row : Option Nat} (h : w.ownsRow base e s v n xs) (g : w.grownBy w' row) (hn : ∀ j, row = some j → v.ownBlock ≠ some j) : w'.ownsRow base e s v n xs :=
  h.kept g (by
    cases hv : v.ownBlock with
    | none => exact .inl rfl
    | some j => exact .inr (fun e => hn j e.symm hv))
theorem roF_len (k : ByteArray) (at_ : Int) (ns ss vs : List ByteArray) : (roF k at_ ns ss vs).length ≤ ns.length := by
  unfold roF
  split
  · rw [rfTo_len]; exact Nat.le_refl _
  · exact Nat.zero_le _
set_option maxHeartbeats 8000000 in
theorem walk (kd : ByteArray) (at_ : Int) (a2 : Option Addr) (len2 cap2 : Nat) (ns : List ByteArray) (a3 : Option Addr) (len3 cap3 : Nat) (ss : List ByteArray) (a4 : Option Addr) (len4 cap4 : Nat) (vs : List ByteArray) (w : World) (w0 : kd.size ≤ maxLen) (w1 : (Lit.int .i64 at_).wf = true) (w2 : IsTexts w a2 len2 cap2 ns) (w3 : IsTexts w a3 len3 cap3 ss) (w4 : IsTexts w a4 len4 cap4 vs) (hg : Tabs w) :
    Calls Tryd.prog 6 #[.string kd, .int .i64 at_, .slice a2 len2 cap2, .slice a3 len3 cap3, .slice a4 len4 cap4] w fun e w' => e = .returned (.bool true) ∧ Below w.heap.size w w' := by
  obtain ⟨rfl, hp2, hc2, hm2, hz2⟩ := w2
  obtain ⟨rfl, hp3, hc3, hm3, hz3⟩ := w3
  obtain ⟨rfl, hp4, hc4, hm4, hz4⟩ := w4
  have HG : Hid (Tabs w) := hg
  have HLE : Hid ((roF kd at_ ns ss vs).length ≤ ns.length) := roF_len _ _ _ _ _
  have HS : Hid (∀ q2 q3 q4 x, TxtAt x q2 ns → TxtAt x q3 ss → TxtAt x q4 vs → Calls Tryd.prog 20 #[.string kd, .int .i64 at_, .slice q2 ns.length ns.length, .slice q3 ss.length ss.length, .slice q4 vs.length vs.length] x fun e x' => ∃ p c, e = .returned (.agg #[.string (roK kd at_ ns ss vs), .int .i64 (roA kd at_ ns ss vs), .slice p (roF kd at_ ns ss vs).length c, .int .i64 (roC kd at_ ns ss vs)]) ∧ x'.ownsRow x.heap.size 28 5 (.slice p (roF kd at_ ns ss vs).length c) (roF kd at_ ns ss vs).length (fldRow (roF kd at_ ns ss vs)) ∧ Below x.heap.size x x') := fun q2 q3 q4 x h2 h3 h4 => (specRowOf_any kd at_ q2 _ ns q3 _ ss q4 _ vs x h2 h3 h4 (Nat.le_refl _) (Nat.le_refl _) (Nat.le_refl _) w0 hz2 hz3 hz4).mono (by rintro e x2 ⟨v, rfl, ho, hb⟩; obtain ⟨p, c, rfl, hc, -⟩ := ownF_form ho; exact ⟨p, c, rfl, ho, hb⟩)
  have HI : Hid (∀ q2 q3 q4 x, Tabs x → TxtAt x q2 ns → TxtAt x q3 ss → TxtAt x q4 vs → Calls Tryd.prog 22 #[.string kd, .int .i64 at_, .slice q2 ns.length ns.length, .slice q3 ss.length ss.length, .slice q4 vs.length vs.length] x fun e x' => ∃ p c, e = .returned (.agg #[.string (roK kd at_ ns ss vs), .int .i64 (roA kd at_ ns ss vs), .slice p (roF kd at_ ns ss vs).length c, .int .i64 (roC kd at_ ns ss vs)]) ∧ x'.ownsRow x.heap.size 28 5 (.slice p (roF kd at_ ns ss vs).length c) (roF kd at_ ns ss vs).length (fldRow (roF kd at_ ns ss vs)) ∧ Below x.heap.size x x') := fun q2 q3 q4 x hT h2 h3 h4 => (implRowOf_any kd at_ q2 _ ns q3 _ ss q4 _ vs x hT h2 h3 h4 (Nat.le_refl _) (Nat.le_refl _) (Nat.le_refl _) w0 hz2 hz3 hz4).mono (by rintro e x2 ⟨v, rfl, ho, hb⟩; obtain ⟨p, c, rfl, hc, -⟩ := ownF_form ho; exact ⟨p, c, rfl, ho, hb⟩)
  generalize roK kd at_ ns ss vs = K at *
  generalize roA kd at_ ns ss vs = A0 at *
  generalize roC kd at_ ns ss vs = C0 at *
  generalize roF kd at_ ns ss vs = L at *
  have HP2 : Hid (TxtAt w a2 ns) := hp2
  have HP3 : Hid (TxtAt w a3 ss) := hp3
  have HP4 : Hid (TxtAt w a4 vs) := hp4
  clear hg w1
  unfold maxLen at w0 hm2 hm3 hm4
  have HZ2 : Hid (∀ l0 : Int, 0 ≤ l0 → l0 ≤ 1048576 → Calls Tryd.prog 19 #[.slice a2 ns.length cap2, .int .i64 l0] w fun e w' => (∃ r : Int, e = .returned (.int .i64 r) ∧ SzTo r l0 ns) ∧ w' = w) := fun l0 h h' => szG_any l0 h h' a2 cap2 ns w hp2 (by omega) hc2 (fun x hx => by have := hz2 x hx; unfold maxLen at this; exact this)
  have HZ3 : Hid (∀ l0 : Int, 0 ≤ l0 → l0 ≤ 1048576 → Calls Tryd.prog 19 #[.slice a3 ss.length cap3, .int .i64 l0] w fun e w' => (∃ r : Int, e = .returned (.int .i64 r) ∧ SzTo r l0 ss) ∧ w' = w) := fun l0 h h' => szG_any l0 h h' a3 cap3 ss w hp3 (by omega) hc3 (fun x hx => by have := hz3 x hx; unfold maxLen at this; exact this)
  have HZ4 : Hid (∀ l0 : Int, 0 ≤ l0 → l0 ≤ 1048576 → Calls Tryd.prog 19 #[.slice a4 vs.length cap4, .int .i64 l0] w fun e w' => (∃ r : Int, e = .returned (.int .i64 r) ∧ SzTo r l0 vs) ∧ w' = w) := fun l0 h h' => szG_any l0 h h' a4 cap4 vs w hp4 (by omega) hc4 (fun x hx => by have := hz4 x hx; unfold maxLen at this; exact this)
  clear hp2 hp3 hp4 hz2 hz3 hz4
  by_cases hb : 1048576 < kd.size
  · clear HS HI HZ2 HZ3 HZ4
    go_enter Tryd.func6, Tryd.ntmps6
    go_wp2_with fail
    go_ret
    exact ⟨rfl, Below.refl _ _⟩
  have H := HZ2.out 1048576 (by omega) (by omega)
  go_enter Tryd.func6, Tryd.ntmps6
  go_wp2_with fail
  refine H.mono ?_
  clear H HZ2
  rintro e w'' ⟨⟨r2, rfl, hr⟩, hw⟩
  have hw := hw.symm
  subst hw
  rcases hr with rfl | ⟨u2, v2, hl2, -⟩
  · go_wp2_with fail
    go_ret
    exact ⟨rfl, Below.refl _ _⟩
  have dr2 : decide (r2 < 0) = false := decide_eq_false (by omega)
  have H := HZ3.out r2 u2 (by omega)
  go_wp2_with fail
  refine H.mono ?_
  clear H HZ3 dr2
  rintro e w'' ⟨⟨r3, rfl, hr⟩, hw⟩
  have hw := hw.symm
  subst hw
  rcases hr with rfl | ⟨u3, v3, hl3, -⟩
  · go_wp2_with fail
    go_ret
    exact ⟨rfl, Below.refl _ _⟩
  have dr3 : decide (r3 < 0) = false := decide_eq_false (by omega)
  have H := HZ4.out r3 u3 (by omega)
  go_wp2_with fail
  refine H.mono ?_
  clear H HZ4 dr3
  rintro e w'' ⟨⟨r4, rfl, hr⟩, hw⟩
  have hw := hw.symm
  subst hw
  rcases hr with rfl | ⟨u4, v4, hl4, -⟩
  · go_wp2_with fail
    go_ret
    exact ⟨rfl, Below.refl _ _⟩
  have dr4 : decide (r4 < 0) = false := decide_eq_false (by omega)
  have hL : L.length ≤ 1048576 := Nat.le_trans HLE.out hl2
  clear HLE
  have hT := to_any a2 cap2 ns w HP2.out hl2 hc2
  go_wp2_with fail
  refine hT.mono ?_
  clear hT dr4
  rintro e x1 ⟨rfl, k1, b1⟩
  have hT := to_any a3 cap3 ss x1 (HP3.out.below b1) hl3 hc3
  go_wp2_with fail
  refine hT.mono ?_
  clear hT
  rintro e x2 ⟨rfl, k2, b2⟩
  have k1 := k1.below b2 k1.lt
  have b2 := chainB b1 b2
  have hT := to_any a4 cap4 vs x2 (HP4.out.below b2) hl4 hc4
  go_wp2_with fail
  refine hT.mono ?_
  clear hT
  rintro e x3 ⟨rfl, k3, b3⟩
  have k1 := k1.below b3 k1.lt
  have k2 := k2.below b3 k2.lt
  have b3 := chainB b2 b3
  have hS := HS.out _ _ _ x3 k1.txt k2.txt k3.txt
  clear k1 k2 k3 b1 b2 HS
  go_wp2_with fail
  refine hS.mono ?_
  clear hS
  rintro e x4 ⟨ps, cs, rfl, os, b4⟩
  have b4 := chainB b3 b4
  obtain ⟨X5, hX5⟩ : ∃ X5, X5 = x4.alloc (.cells #[.string K, .int .i64 A0, .slice ps L.length cs, .int .i64 C0] 45) := ⟨_, rfl⟩
  have HX5 : Hid (X5 = x4.alloc (.cells #[.string K, .int .i64 A0, .slice ps L.length cs, .int .i64 C0] 45)) := hX5
  have B5 : Hid (Below w.heap.size w X5) := by rw [hX5]; exact alB b4 _
  have V5 : Hid (Bxs X5 x4.heap.size 45 #[.string K, .int .i64 A0, .slice ps L.length cs, .int .i64 C0]) := by rw [hX5]; exact Bxs.new _ _ _
  have O5 : Hid (X5.ownsRow x3.heap.size 28 5 (.slice ps L.length cs) L.length (fldRow L)) := by rw [hX5]; exact os.alloc _
  have S5 : Hid (w.heap.size ≤ x4.heap.size ∧ X5.heap.size = x4.heap.size + 1 ∧ ∀ j, (Value.slice ps L.length cs).ownBlock = some j → j < x4.heap.size) := ⟨b4.size, by rw [hX5]; simp, fun j hj => ownS_block os hj⟩
  clear hX5 os b3 b4
  have hT := to_any a2 cap2 ns X5 (HP2.out.below B5.out) hl2 hc2
  go_wp2_with fail
  rw [← HX5.out]
  refine hT.mono ?_
  clear hT HX5
  rintro e x6 ⟨rfl, k6, b6⟩
  have hT := to_any a3 cap3 ss x6 (HP3.out.below (chainB B5.out b6)) hl3 hc3
  go_wp2_with fail
  refine hT.mono ?_
  clear hT
  rintro e x7 ⟨rfl, k7, b7⟩
  have hlt6 := k6.lt
  have k6 := k6.below b7 k6.lt
  have c7 := chainB b6 b7
  have hT := to_any a4 cap4 vs x7 (HP4.out.below (chainB B5.out c7)) hl4 hc4
  go_wp2_with fail
  refine hT.mono ?_
  clear hT
  rintro e x8 ⟨rfl, k8, b8⟩
  have hlt7 := k7.lt
  have hlt8 := k8.lt
  have k6 := k6.below b8 k6.lt
  have k7 := k7.below b8 k7.lt
  have c8 := chainB c7 b8
  have hI := HI.out _ _ _ x8 (HG.out.below (chainB B5.out c8) HG.out.1) k6.txt k7.txt k8.txt
  have K8 : Hid (BlkS x8 X5.heap.size ns ∧ BlkS x8 x6.heap.size ss ∧ BlkS x8 x7.heap.size vs) := ⟨k6, k7, k8⟩
  have C8 : Hid (Below X5.heap.size X5 x8) := c8
  have S8 : Hid (X5.heap.size < x6.heap.size ∧ x6.heap.size < x7.heap.size ∧ x7.heap.size < x8.heap.size) := ⟨hlt6, hlt7, hlt8⟩
  clear k6 k7 k8 b6 b7 b8 c7 c8 hlt6 hlt7 hlt8
  go_wp2_with fail
  refine hI.mono ?_
  clear hI
  rintro e x9 ⟨pg, cg, rfl, og, b9⟩
  obtain ⟨X10, hX10⟩ : ∃ X10, X10 = x9.alloc (.cells #[.string K, .int .i64 A0, .slice pg L.length cg, .int .i64 C0] 45) := ⟨_, rfl⟩
  have HX10 : Hid (X10 = x9.alloc (.cells #[.string K, .int .i64 A0, .slice pg L.length cg, .int .i64 C0] 45)) := hX10
  have b10 : Below x8.heap.size x8 X10 := by rw [hX10]; exact alB b9 _
  have c10 := chainB C8.out b10
  have OG10 : Hid (X10.ownsRow x8.heap.size 28 5 (.slice pg L.length cg) L.length (fldRow L)) := by rw [hX10]; exact og.alloc _
  have K10 : Hid (BlkS X10 X5.heap.size ns ∧ BlkS X10 x6.heap.size ss ∧ BlkS X10 x7.heap.size vs) := ⟨K8.out.1.below b10 K8.out.1.lt, K8.out.2.1.below b10 K8.out.2.1.lt, K8.out.2.2.below b10 K8.out.2.2.lt⟩
  have ST10 : Hid (MkT w 45 #[.string K, .int .i64 A0, .slice ps L.length cs, .int .i64 C0] #[.string K, .int .i64 A0, .slice pg L.length cg, .int .i64 C0] x4.heap.size x9.heap.size (fun x => x.ownsRow x3.heap.size 28 5 (.slice ps L.length cs) L.length (fldRow L)) X10) := ⟨chainB B5.out c10, V5.out.below c10, by rw [hX10]; exact Bxs.new _ _ _, ownS_below O5.out c10⟩
  have SZ : Hid ((∀ j, (j = X5.heap.size ∨ j = x6.heap.size ∨ j = x7.heap.size) → (w.heap.size ≤ j ∧ j ≠ x4.heap.size ∧ j ≠ x9.heap.size) ∧ (Value.slice ps L.length cs).ownBlock ≠ some j ∧ (Value.slice pg L.length cg).ownBlock ≠ some j) ∧ (∀ j, (Value.slice pg L.length cg).ownBlock = some j → (w.heap.size ≤ j ∧ j ≠ x4.heap.size ∧ j ≠ x9.heap.size) ∧ (Value.slice ps L.length cs).ownBlock ≠ some j) ∧ X5.heap.size < x6.heap.size ∧ x6.heap.size < x7.heap.size) := by
    obtain ⟨q1, q2, q3⟩ := S5.out
    obtain ⟨q4, q5, q6⟩ := S8.out
    have q7 := b9.size
    refine ⟨fun j hj => ⟨⟨by omega, by omega, by omega⟩, fun e => by have := q3 _ e; omega, fun e => by have := (og.lt _ e).1; omega⟩, fun j hj => ?_, q4, q5⟩
    have q8 := og.lt j hj
    exact ⟨⟨by omega, by omega, by omega⟩, fun e => by have := q3 _ e; omega⟩
  clear hX10 og b9 b10 c10 B5 V5 O5 S5 K8 C8 S8
  have PB : Hid (∀ x y : World, x.ownsRow x3.heap.size 28 5 (.slice ps L.length cs) L.length (fldRow L) → Below x.heap.size x y → y.ownsRow x3.heap.size 28 5 (.slice ps L.length cs) L.length (fldRow L)) := fun x y h hb => ownS_below h hb
  obtain ⟨y0, y1, y2, y3⟩ := ST10.out.bg.read4
  obtain ⟨z0, z1, z2, z3⟩ := ST10.out.bw.read4
  rw [HX10.out] at y0 y1 y2 y3 z0 z1 z2 z3
  have hE := eqRowOut_any K A0 C0 pg ps cg cs L X10 (ownF_at OG10.out).1 (ownF_at ST10.out.ps).1 hL (ownF_at OG10.out).2 (ownF_at ST10.out.ps).2
  go_wp2_with fail
  rw [← HX10.out]
  refine hE.mono ?_
  clear hE y0 y1 y2 y3 z0 z1 z2 z3 HX10
  rintro e x11 ⟨rfl, b11⟩
  have hT := to_any a2 cap2 ns x11 (HP2.out.below (chainB ST10.out.bel b11)) hl2 hc2
  go_wp2_with fail
  refine hT.mono ?_
  clear hT
  rintro e x12 ⟨rfl, kk, bb⟩
  have b112 := chainB b11 bb
  have hQ := eq_any (some ⟨X5.heap.size, 0, none⟩) (some ⟨x11.heap.size, 0, none⟩) ns.length ns.length ns ns x12 (K10.out.1.below b112 K10.out.1.lt).txt kk.txt (by omega) (by omega) (Nat.le_refl _) (Nat.le_refl _)
  rw [decide_eq_true rfl] at hQ
  clear kk bb
  go_wp2_with fail
  refine hQ.mono ?_
  clear hQ
  rintro e x13 ⟨rfl, bb⟩
  have b13 := chainB b112 bb
  clear bb b112 b11
  have hT := to_any a3 cap3 ss x13 (HP3.out.below (chainB ST10.out.bel b13)) hl3 hc3
  go_wp2_with fail
  refine hT.mono ?_
  clear hT
  rintro e x14 ⟨rfl, kk, bb⟩
  have b132 := chainB b13 bb
  have hQ := eq_any (some ⟨x6.heap.size, 0, none⟩) (some ⟨x13.heap.size, 0, none⟩) ss.length ss.length ss ss x14 (K10.out.2.1.below b132 K10.out.2.1.lt).txt kk.txt (by omega) (by omega) (Nat.le_refl _) (Nat.le_refl _)
  rw [decide_eq_true rfl] at hQ
  clear kk bb
  go_wp2_with fail
  refine hQ.mono ?_
  clear hQ
  rintro e x15 ⟨rfl, bb⟩
  have b15 := chainB b132 bb
  clear bb b132 b13
  have hT := to_any a4 cap4 vs x15 (HP4.out.below (chainB ST10.out.bel b15)) hl4 hc4
  go_wp2_with fail
  refine hT.mono ?_
  clear hT
  rintro e x16 ⟨rfl, kk, bb⟩
  have b152 := chainB b15 bb
  have hQ := eq_any (some ⟨x7.heap.size, 0, none⟩) (some ⟨x15.heap.size, 0, none⟩) vs.length vs.length vs vs x16 (K10.out.2.2.below b152 K10.out.2.2.lt).txt kk.txt (by omega) (by omega) (Nat.le_refl _) (Nat.le_refl _)
  rw [decide_eq_true rfl] at hQ
  clear kk bb
  go_wp2_with fail
  refine hQ.mono ?_
  clear hQ
  rintro e x17 ⟨rfl, bb⟩
  have b17 := chainB b152 bb
  clear bb b152 b15
  have ST17 : Hid (MkT w 45 #[.string K, .int .i64 A0, .slice ps L.length cs, .int .i64 C0] #[.string K, .int .i64 A0, .slice pg L.length cg, .int .i64 C0] x4.heap.size x9.heap.size (fun x => x.ownsRow x3.heap.size 28 5 (.slice ps L.length cs) L.length (fldRow L)) x17) := ST10.out.below PB.out b17
  have OG17 : Hid (x17.ownsRow x8.heap.size 28 5 (.slice pg L.length cg) L.length (fldRow L)) := ownS_below OG10.out b17
  have K17 : Hid (BlkS x17 X5.heap.size ns ∧ BlkS x17 x6.heap.size ss ∧ BlkS x17 x7.heap.size vs) := ⟨K10.out.1.below b17 K10.out.1.lt, K10.out.2.1.below b17 K10.out.2.1.lt, K10.out.2.2.below b17 K10.out.2.2.lt⟩
  clear ST10 OG10 K10 b17
  have hM := markG_any 1 (by omega) 0 _ ns x17 (K17.out.1.own 0 (Nat.zero_le _) (by unfold maxLen; omega)) (by omega)
  rw [show ((1 : Nat) : Int) = 1 from rfl] at hM
  go_wp2_with fail
  refine hM.mono ?_
  clear hM
  rintro e x18 ⟨rfl, -, g18⟩
  have g18 : x17.grownBy x18 (some X5.heap.size) := g18
  have ST18 : Hid (MkT w 45 #[.string K, .int .i64 A0, .slice ps L.length cs, .int .i64 C0] #[.string K, .int .i64 A0, .slice pg L.length cg, .int .i64 C0] x4.heap.size x9.heap.size (fun x => x.ownsRow x3.heap.size 28 5 (.slice ps L.length cs) L.length (fldRow L)) x18) := ST17.out.grown g18 (fun j hj => (SZ.out.1 j (.inl (Option.some.inj hj).symm)).1) (keepF ST17.out.ps g18 (fun j hj => (SZ.out.1 j (.inl (Option.some.inj hj).symm)).2.1))
  have OG18 : Hid (x18.ownsRow x8.heap.size 28 5 (.slice pg L.length cg) L.length (fldRow L)) := keepF OG17.out g18 (fun j hj => (SZ.out.1 j (.inl (Option.some.inj hj).symm)).2.2)
  have K18 : Hid (BlkS x18 x6.heap.size ss ∧ BlkS x18 x7.heap.size vs) := ⟨blkS_grown K17.out.2.1 g18 (by have := SZ.out.2.2.1; omega), blkS_grown K17.out.2.2 g18 (by have := SZ.out.2.2; omega)⟩
  clear ST17 OG17 K17 g18
  have hM := markG_any (ns.length + 1) (by omega) 0 _ ss x18 (K18.out.1.own 0 (Nat.zero_le _) (by unfold maxLen; omega)) (by omega)
  rw [show ((ns.length + 1 : Nat) : Int) = (ns.length : Int) + 1 by omega] at hM
  go_wp2_with fail
  refine hM.mono ?_
  clear hM
  rintro e x19 ⟨rfl, -, g19⟩
  have g19 : x18.grownBy x19 (some x6.heap.size) := g19
  have ST19 : Hid (MkT w 45 #[.string K, .int .i64 A0, .slice ps L.length cs, .int .i64 C0] #[.string K, .int .i64 A0, .slice pg L.length cg, .int .i64 C0] x4.heap.size x9.heap.size (fun x => x.ownsRow x3.heap.size 28 5 (.slice ps L.length cs) L.length (fldRow L)) x19) := ST18.out.grown g19 (fun j hj => (SZ.out.1 j (.inr (.inl (Option.some.inj hj).symm))).1) (keepF ST18.out.ps g19 (fun j hj => (SZ.out.1 j (.inr (.inl (Option.some.inj hj).symm))).2.1))
  have OG19 : Hid (x19.ownsRow x8.heap.size 28 5 (.slice pg L.length cg) L.length (fldRow L)) := keepF OG18.out g19 (fun j hj => (SZ.out.1 j (.inr (.inl (Option.some.inj hj).symm))).2.2)
  have K19 : Hid (BlkS x19 x7.heap.size vs) := blkS_grown K18.out.2 g19 (by have := SZ.out.2.2.2; omega)
  clear ST18 OG18 K18 g19
  have hM := markG_any (ss.length + (ns.length + 1)) (by omega) 0 _ vs x19 (K19.out.own 0 (Nat.zero_le _) (by unfold maxLen; omega)) (by omega)
  rw [show ((ss.length + (ns.length + 1) : Nat) : Int) = (ss.length : Int) + ((ns.length : Int) + 1) by omega] at hM
  go_wp2_with fail
  refine hM.mono ?_
  clear hM
  rintro e x20 ⟨rfl, -, g20⟩
  have g20 : x19.grownBy x20 (some x7.heap.size) := g20
  have ST20 : Hid (MkT w 45 #[.string K, .int .i64 A0, .slice ps L.length cs, .int .i64 C0] #[.string K, .int .i64 A0, .slice pg L.length cg, .int .i64 C0] x4.heap.size x9.heap.size (fun x => x.ownsRow x3.heap.size 28 5 (.slice ps L.length cs) L.length (fldRow L)) x20) := ST19.out.grown g20 (fun j hj => (SZ.out.1 j (.inr (.inr (Option.some.inj hj).symm))).1) (keepF ST19.out.ps g20 (fun j hj => (SZ.out.1 j (.inr (.inr (Option.some.inj hj).symm))).2.1))
  have OG20 : Hid (x20.ownsRow x8.heap.size 28 5 (.slice pg L.length cg) L.length (fldRow L)) := keepF OG19.out g20 (fun j hj => (SZ.out.1 j (.inr (.inr (Option.some.inj hj).symm))).2.2)
  clear ST19 OG19 K19 g20
  have hE := eqRowOut_any K A0 C0 pg ps cg cs L x20 (ownF_at OG20.out).1 (ownF_at ST20.out.ps).1 hL (ownF_at OG20.out).2 (ownF_at ST20.out.ps).2
  obtain ⟨y0, y1, y2, y3⟩ := ST20.out.bg.read4
  obtain ⟨z0, z1, z2, z3⟩ := ST20.out.bw.read4
  have dk : decide ((vs.length : Int) + ((ss.length : Int) + ((ns.length : Int) + 1)) < 0) = false := decide_eq_false (by omega)
  go_wp2_with fail
  refine hE.mono ?_
  clear hE y0 y1 y2 y3 z0 z1 z2 z3 dk
  rintro e x21 ⟨rfl, b21⟩
  have ST21 : Hid (MkT w 45 #[.string K, .int .i64 A0, .slice ps L.length cs, .int .i64 C0] #[.string K, .int .i64 A0, .slice pg L.length cg, .int .i64 C0] x4.heap.size x9.heap.size (fun x => x.ownsRow x3.heap.size 28 5 (.slice ps L.length cs) L.length (fldRow L)) x21) := ST20.out.below PB.out b21
  have OG21 := ownS_below OG20.out b21
  have hM := markRowOut_any K A0 C0 x8.heap.size pg cg L x21 OG21 hL
  have CG : Hid (L.length ≤ cg) := (ownF_at OG21).2
  clear ST20 OG20 b21 OG21
  obtain ⟨y0, y1, y2, y3⟩ := ST21.out.bg.read4
  go_wp2_with fail
  refine hM.mono ?_
  clear hM y0 y1 y2 y3
  rintro e x22 ⟨rfl, o22, g22⟩
  have ST22 : Hid (MkT w 45 #[.string K, .int .i64 A0, .slice ps L.length cs, .int .i64 C0] #[.string K, .int .i64 A0, .slice pg L.length cg, .int .i64 C0] x4.heap.size x9.heap.size (fun x => x.ownsRow x3.heap.size 28 5 (.slice ps L.length cs) L.length (fldRow L)) x22) := ST21.out.grown g22 (fun j hj => (SZ.out.2.1 j hj).1) (keepF ST21.out.ps g22 (fun j hj => (SZ.out.2.1 j hj).2))
  have OM22 : Hid (x22.ownsRow x8.heap.size 28 5 (.slice pg L.length cg) L.length (fldRow (mfN 1 L.length))) := o22
  have hH := heldRowOut_any K A0 C0 pg cg L.length x22 (ownF_marks OM22.out) hL CG.out
  clear ST21 o22 g22
  obtain ⟨y0, y1, y2, y3⟩ := ST22.out.bg.read4
  go_wp2_with fail
  refine hH.mono ?_
  clear hH y0 y1 y2 y3
  rintro e x23 ⟨rfl, b23⟩
  have ST23 := ST22.out.below PB.out b23
  have HST23 : Hid (MkT w 45 #[.string K, .int .i64 A0, .slice ps L.length cs, .int .i64 C0] #[.string K, .int .i64 A0, .slice pg L.length cg, .int .i64 C0] x4.heap.size x9.heap.size (fun x => x.ownsRow x3.heap.size 28 5 (.slice ps L.length cs) L.length (fldRow L)) x23) := ST23
  have OM23 : Hid (x23.ownsRow x8.heap.size 28 5 (.slice pg L.length cg) L.length (fldRow (mfN 1 L.length))) := ownS_below OM22.out b23
  have dm : decide (5 * (L.length : Int) + 1 < 0) = false := decide_eq_false (by omega)
  clear ST22 OM22 b23 ST23
  have hT := to_any a2 cap2 ns x23 (HP2.out.below HST23.out.bel) hl2 hc2
  go_wp2_with fail
  refine hT.mono ?_
  clear hT
  rintro e x24 ⟨rfl, k24, b24⟩
  have hT := to_any a3 cap3 ss x24 (HP3.out.below (chainB HST23.out.bel b24)) hl3 hc3
  go_wp2_with fail
  refine hT.mono ?_
  clear hT
  rintro e x25 ⟨rfl, k25, b25⟩
  have k24 := k24.below b25 k24.lt
  have b25 := chainB b24 b25
  have hT := to_any a4 cap4 vs x25 (HP4.out.below (chainB HST23.out.bel b25)) hl4 hc4
  go_wp2_with fail
  refine hT.mono ?_
  clear hT
  rintro e x26 ⟨rfl, k26, b26⟩
  have k24 := k24.below b26 k24.lt
  have k25 := k25.below b26 k25.lt
  have b26 := chainB b25 b26
  have ST26 := HST23.out.below PB.out b26
  have OM26 := ownS_below OM23.out b26
  have hI := HI.out _ _ _ x26 (HG.out.below ST26.bel HG.out.1) k24.txt k25.txt k26.txt
  clear k24 k25 k26 b24 b25 b26
  go_wp2_with fail
  refine hI.mono ?_
  clear hI
  rintro e x27 ⟨ph, ch, rfl, oh, b27⟩
  obtain ⟨X28, hX28⟩ : ∃ X28, X28 = x27.alloc (.cells #[.string K, .int .i64 A0, .slice ph L.length ch, .int .i64 C0] 45) := ⟨_, rfl⟩
  have HX28 : Hid (X28 = x27.alloc (.cells #[.string K, .int .i64 A0, .slice ph L.length ch, .int .i64 C0] 45)) := hX28
  have b28 : Below x26.heap.size x26 X28 := by rw [hX28]; exact alB b27 _
  have ST28 : Hid (MkT w 45 #[.string K, .int .i64 A0, .slice ps L.length cs, .int .i64 C0] #[.string K, .int .i64 A0, .slice pg L.length cg, .int .i64 C0] x4.heap.size x9.heap.size (fun x => x.ownsRow x3.heap.size 28 5 (.slice ps L.length cs) L.length (fldRow L)) X28) := ST26.below PB.out b28
  have OM28 : Hid (X28.ownsRow x8.heap.size 28 5 (.slice pg L.length cg) L.length (fldRow (mfN 1 L.length))) := ownS_below OM26 b28
  have OH28 : X28.ownsRow x26.heap.size 28 5 (.slice ph L.length ch) L.length (fldRow L) := by rw [hX28]; exact oh.alloc _
  have hE := eqRowOut_any K A0 C0 ph ps ch cs L X28 (ownF_at OH28).1 (ownF_at ST28.out.ps).1 hL (ownF_at OH28).2 (ownF_at ST28.out.ps).2
  obtain ⟨y0, y1, y2, y3⟩ : X28.cell? ⟨x27.heap.size, 0, none⟩ = some (.string K) ∧ X28.cell? ⟨x27.heap.size, 1, none⟩ = some (.int .i64 A0) ∧ X28.cell? ⟨x27.heap.size, 2, none⟩ = some (.slice ph L.length ch) ∧ X28.cell? ⟨x27.heap.size, 3, none⟩ = some (.int .i64 C0) := by rw [hX28]; exact (Bxs.new _ _ _).read4
  obtain ⟨z0, z1, z2, z3⟩ := ST28.out.bw.read4
  rw [hX28] at y0 y1 y2 y3 z0 z1 z2 z3
  clear hX28 oh b27 b28 ST26 OM26 HST23 OM23 OH28
  go_wp2_with fail
  rw [← HX28.out]
  refine hE.mono ?_
  clear hE y0 y1 y2 y3 z0 z1 z2 z3 HX28
  rintro e x29 ⟨rfl, b29⟩
  have ST29 := ST28.out.below PB.out b29
  have OM29 := ownS_below OM28.out b29
  have hH := heldRowOut_any K A0 C0 pg cg L.length x29 (ownF_marks OM29) hL CG.out
  obtain ⟨y0, y1, y2, y3⟩ := ST29.bg.read4
  have B29 := ST29.bel
  clear ST28 OM28 ST29 OM29 b29
  go_wp2_with fail
  refine hH.mono ?_
  clear hH y0 y1 y2 y3
  rintro e x30 ⟨rfl, b30⟩
  have b30 := chainB B29 b30
  go_wp2_with fail
  go_ret
  exact ⟨rfl, b30⟩

theorem contract (H : Type) (enc : TypeId × Value → H) (W : World) (base : Nat) (args : Array Value) (ds gs : List (DataW H)) (before : List MemPlace)
    (hval : ∀ (j : Nat) t v, Tryd.f6.params[j]? = some t → args[j]? = some v → Value.okWide Tryd.prog W .any base t v)
    (hW : DataW.Whole enc Tryd.prog Tryd.f6.params.toList Rows.fnExactRowOfSpec.vars false W args.toList ds gs before) (hL : laidMetH Tryd.prog Rows.fnExactRowOfRow.laid W) :
    Calls Tryd.prog 6 args W fun e W' => ∃ v, e = .returned v ∧ Rows.fnExactRowOfSpec.post enc Tryd.prog Tryd.f6 false true false false W args v W' := by
  have hW' := hW
  obtain ⟨p, q, hA0, hV, rfl, hfz, hnd⟩ := hW
  have hA : DataW.TrodAll enc Tryd.prog W 0 (fun _ => true) true Tryd.f6.params.toList args.toList ds p := hA0
  rw [Tryd.params6] at hA hval
  obtain ⟨v0, vs0, d0, ds0, p0, q0, hargs, rfl, rfl, h0, r0⟩ := trodAll_cons hA
  obtain ⟨v1, vs1, d1, ds1, p1, q1, rfl, rfl, rfl, h1, r1⟩ := trodAll_cons r0
  obtain ⟨v2, vs2, d2, ds2, p2, q2, rfl, rfl, rfl, h2, r2⟩ := trodAll_cons r1
  obtain ⟨v3, vs3, d3, ds3, p3, q3, rfl, rfl, rfl, h3, r3⟩ := trodAll_cons r2
  obtain ⟨v4, vs4, d4, ds4, p4, q4, rfl, rfl, rfl, h4, r4⟩ := trodAll_cons r3
  obtain ⟨rfl, rfl, rfl⟩ := trodAll_nil r4
  obtain rfl : args = #[v0, v1, v2, v3, v4] := by cases args; simp_all
  have hV2 : DataW.TrodVars enc Tryd.prog W (fun _ => true) ["loop.example/g00633/impl.firstState", "loop.example/g00633/impl.roundNums"] gs q := hV
  obtain ⟨_, _, _, _, e0, _, _, _, _, _, e1, _, rfl, _⟩ := trodVars_two hV2
  obtain ⟨a0, rfl, rfl, rfl, w0⟩ := open_string Tryd.underlying9 (hval 0 9 v0 rfl rfl) h0
  obtain ⟨a1, rfl, rfl, rfl, w1⟩ := open_int Tryd.underlying2 (hval 1 2 v1 rfl rfl) h1
  obtain ⟨a2, len2, cap2, rfl⟩ := okWide_slice Tryd.underlying42 (hval 2 42 v2 rfl rfl)
  have k2 := h2
  have lt2 : ∀ x ∈ p2, x.block < W.heap.size := by obtain ⟨m, hm⟩ := k2; exact DataW.trod_lt m _ _ _ hm
  obtain ⟨ss2, w2⟩ : ∃ ss, IsTexts W a2 len2 cap2 ss := by
    obtain ⟨fuel, hf⟩ := h2
    exact texts_of hf
  obtain ⟨a3, len3, cap3, rfl⟩ := okWide_slice Tryd.underlying42 (hval 3 42 v3 rfl rfl)
  have k3 := h3
  have lt3 : ∀ x ∈ p3, x.block < W.heap.size := by obtain ⟨m, hm⟩ := k3; exact DataW.trod_lt m _ _ _ hm
  obtain ⟨ss3, w3⟩ : ∃ ss, IsTexts W a3 len3 cap3 ss := by
    obtain ⟨fuel, hf⟩ := h3
    exact texts_of hf
  obtain ⟨a4, len4, cap4, rfl⟩ := okWide_slice Tryd.underlying42 (hval 4 42 v4 rfl rfl)
  have k4 := h4
  have lt4 : ∀ x ∈ p4, x.block < W.heap.size := by obtain ⟨m, hm⟩ := k4; exact DataW.trod_lt m _ _ _ hm
  obtain ⟨ss4, w4⟩ : ∃ ss, IsTexts W a4 len4 cap4 ss := by
    obtain ⟨fuel, hf⟩ := h4
    exact texts_of hf
  clear hA0
  have hT : Tabs W := tabs_of hL
  refine (walk a0 a1 a2 len2 cap2 ss2 a3 len3 cap3 ss3 a4 len4 cap4 ss4 W w0 w1 w2 w3 w4 hT).mono fun e W' ⟨he, hg⟩ => ?_
  subst he
  exact ⟨_, rfl, _, _, _, [], _, _, hW', (trodAll_cons_mk (shut_bool Tryd.underlying4 _) trodAll_mk0), (trodAll_cons_mk (shut_string Tryd.underlying9 w0) (trodAll_cons_mk (shut_int Tryd.underlying2 w1) (trodAll_cons_mk (Below.trod laidOut (by kernel_rfl) (of_decide_eq_true (by kernel_rfl)) k2 hg lt2) (trodAll_cons_mk (Below.trod laidOut (by kernel_rfl) (of_decide_eq_true (by kernel_rfl)) k3 hg lt3) (trodAll_cons_mk (Below.trod laidOut (by kernel_rfl) (of_decide_eq_true (by kernel_rfl)) k4 hg lt4) trodAll_mk0))))), Below.trodVars laidOut hg (by kernel_rfl) hV, hg.frame _, fun h => by cases h⟩

/-- The variables' blocks as the initialisers leave them, for the witness. -/
def setTab (zs : List Int) : Obj → Obj
  | .cells _ t frozen => .cells (zs.map (Value.int .u32)).toArray t frozen
  | o => o
noncomputable def wit (os : Os) : World := { World.holding Tryd.prog os ⟨#[], #[], []⟩ with heap := ((World.holding Tryd.prog os ⟨#[], #[], []⟩).heap.modify 0 (setTab startN)).modify 1 (setTab keysN) }

theorem laid_met (os : Os) : laidMetH Tryd.prog Rows.fnExactRowOfRow.laid ((wit os).forCall (fun _ _ => 0) ⟨#[], #[.string ByteArray.empty, .int .i64 0, .slice none 0 0, .slice none 0 0, .slice none 0 0], []⟩).memory :=
  laidMetH_of_parts (laidMet_of_run' 8 (by kernel_rfl) (by kernel_rfl)) (by kernel_rfl)
theorem reads (os : Os) {H : Type} (enc : TypeId × Value → H) : ∃ places, DataW.whole enc Tryd.prog ((wit os).forCall (fun _ _ => 0) ⟨#[], #[.string ByteArray.empty, .int .i64 0, .slice none 0 0, .slice none 0 0, .slice none 0 0], []⟩).memory Tryd.f6.params.toList Rows.fnExactRowOfSpec.vars false #[Value.string ByteArray.empty, Value.int .i64 0, Value.slice none 0 0, Value.slice none 0 0, Value.slice none 0 0].toList 8 = some ([.lit (.string []), .lit (.int .i64 0), .nil, .nil, .nil], [Rows.laid_loop_example_g00633_impl_firstState, Rows.laid_loop_example_g00633_impl_roundNums], places) := by
  have h : (DataW.whole enc Tryd.prog ((wit os).forCall (fun _ _ => 0) ⟨#[], #[.string ByteArray.empty, .int .i64 0, .slice none 0 0, .slice none 0 0, .slice none 0 0], []⟩).memory Tryd.f6.params.toList Rows.fnExactRowOfSpec.vars false #[Value.string ByteArray.empty, Value.int .i64 0, Value.slice none 0 0, Value.slice none 0 0, Value.slice none 0 0].toList 8).map (fun x => (x.1, x.2.1)) = some ([.lit (.string []), .lit (.int .i64 0), .nil, .nil, .nil], [Rows.laid_loop_example_g00633_impl_firstState, Rows.laid_loop_example_g00633_impl_roundNums]) := by kernel_rfl
  obtain ⟨⟨a, b, c⟩, hx, hy⟩ := Option.map_eq_some_iff.1 h
  cases hy
  exact ⟨c, hx⟩

set_option maxRecDepth 100000 in
theorem lifted (os : Os) (started : os.Started) (H : Type) (enc : TypeId × Value → H) (F : Stop.Interp) :
    ReturnsInHanded {} Tryd.checked os 6 .any ((OpenSpec.ofChange Rows.fnExactRowOfSpec).preRow enc Tryd.prog Tryd.f6 Rows.fnExactRowOfRow.domain false Rows.fnExactRowOfRow.laid) (((OpenSpec.ofChange Rows.fnExactRowOfSpec).at F).post enc Tryd.prog Tryd.f6 false true false false) := by
  obtain ⟨places, hx⟩ := reads os enc
  refine returnsInHanded_of_row (C := Tryd.checked) (s := OpenSpec.ofChange Rows.fnExactRowOfSpec) own started (by kernel_rfl) Tryd.func6
    (witness_row_at (enc := enc) (C := Tryd.checked) false (wit os) #[.string ByteArray.empty, .int .i64 0, .slice none 0 0, .slice none 0 0, .slice none 0 0] rfl (by kernel_rfl) (by kernel_rfl) (by kernel_rfl)
      (OpenSpec.preRow_of_cond 8 hx (by kernel_rfl) (fun k hk => by cases hk) (by kernel_rfl) (laid_met os))) ?_
  intro W base args ds gs before hval hW _ _ _ hL _ _
  exact contract H enc W base args ds gs before hval hW hL

theorem said : Rows.FnExactRowOfSaid :=
  OpenClaim.holds_of_cond 6 Tryd.f6 rfl rfl rfl rfl rfl rfl rfl ⟨rfl, rfl, rfl, rfl, rfl⟩ rfl rfl rfl rfl rfl (by kernel_rfl) Tryd.func6 (by kernel_rfl)
    (of_decide_eq_true (by kernel_rfl)) (by unfold Func.isWrapper; first | (rw [if_pos (by decide +kernel)]; kernel_rfl) | (rw [if_neg (by decide +kernel)]; exact ⟨rfl, rfl⟩))
    (fun os started H enc _ F => by rw [OpenClaim.pre_eq_preRow]; exact lifted os started H enc F)

theorem plain (f : FuncId) (fn : Func) (hf : Tryd.pinned.checked.prog.funcNamed "loop.example/g00633/laws.FnExactRowOf" = some f) (hfn : Tryd.pinned.checked.prog.funcs[f]? = some fn) :
    Rows.fnExactRowOfCard.stood.looks = Tryd.pinned.checked.prog.looks [] ∧ ∀ (j : Nat) t, fn.params[j]? = some t → Tryd.pinned.checked.prog.wantsStandIn t = false := by
  obtain rfl : f = 6 := Option.some.inj ((show Tryd.prog.funcNamed "loop.example/g00633/laws.FnExactRowOf" = some 6 by kernel_rfl).symm.trans hf) |>.symm
  obtain rfl : fn = Tryd.f6 := (Option.some.inj (Tryd.func6.symm.trans hfn)).symm
  refine ⟨by kernel_rfl, fun j t ht => ?_⟩
  rw [Tryd.params6] at ht
  have hm := Array.mem_of_getElem? ht
  have hl : t ∈ ([9, 2, 42, 42, 42] : List TypeId) := by simpa using hm
  simp only [List.mem_cons, List.not_mem_nil, or_false] at hl
  rcases hl with rfl | rfl | rfl | rfl | rfl
  · exact (show Tryd.prog.wantsStandIn 9 = false by kernel_rfl)
  · exact (show Tryd.prog.wantsStandIn 2 = false by kernel_rfl)
  · exact (show Tryd.prog.wantsStandIn 42 = false by kernel_rfl)
  · exact (show Tryd.prog.wantsStandIn 42 = false by kernel_rfl)
  · exact (show Tryd.prog.wantsStandIn 42 = false by kernel_rfl)

theorem proved : Rows.FnExactRowOfCardSaid :=
  Claim7.holds_tied_plain_at .later [] _ _ _ _ said (fun _ h => by cases h) (by kernel_rfl) (fun _ h => by cases h) fnExactRowOf_row_tie rfl ⟨rfl, rfl⟩ (by kernel_rfl) rfl plain (by kernel_rfl)
#print axioms proved
end Go.Proofs.YtefakcpclihaeakDoor.fnExactRowOf
