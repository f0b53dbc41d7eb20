/-
  Parts of one proof, laid as one text: LwShw, Some, DrawFld; what each says stands at its head.
-/
import Derived.Test.YtnomkcbcjaagmabGreatDoorRows
import Derived.Test.YtnomkcbcjaagmabGreatDoorBytesDigMath
import Derived.Test.YtnomkcbcjaagmabGreatDoorSlASlBOwnS
import Derived.Test.YtnomkcbcjaagmabGreatDoorBxKGrKTakesSrc
import Derived.Test.YtnomkcbcjaagmabGreatDoorFldRiseFldGShwK
import Derived.Handy
import Derived.WalkSpells
import Derived.OwnWalk
import Derived.Deep.QuietTactic
import Derived.BigQuiet
import Derived.Deep.Cut
import Derived.Test.YtnomkcbcjaagmabGreatDoorAppSImplFT
import Derived.Test.YtnomkcbcjaagmabGreatDoorDrawsDrawKit
/-
  What the laws' lwTexts and lwShown answer of two that are alike: true.
  Conditions: the slices' cells hold the texts.
-/
namespace Go.Proofs.YtnomkcbcjaagmabGreatDoor
open Go.RowKit Go.Lib
set_option linter.unusedVariables false
set_option maxRecDepth 20000

theorem belowQ {B : Nat} {a w : World} (h : Below B a w) (n : Nat) : Below B a (w.drewN n) := ⟨h.os, h.tape, h.output, h.size, h.block⟩
set_option maxHeartbeats 1000000 in
theorem lwTx_any (p q : Option Addr) (cap cap2 : Nat) (ss : List ByteArray) (w : World) (hp : TxtAt w p ss) (hq : TxtAt w q ss) (hn : ss.length ≤ 1048576) (hcap : ss.length ≤ cap) (hcap2 : ss.length ≤ cap2) :
    Calls Tryz.prog 62 #[.slice p ss.length cap, .slice q ss.length cap2] w fun e w' => e = .returned (.bool true) ∧ Below w.heap.size w w' := by
  have HP : Hid (TxtAt w p ss) := hp
  have HQ : Hid (TxtAt w q ss) := hq
  clear hp hq
  go_enter Tryz.func62, Tryz.ntmps62
  go_wp2_with fail
  go_loopw [5] (fun i wr => ∃ k : Nat, k ≤ ss.length ∧ i = .int .i64 k ∧ Hid (Below w.heap.size w wr)) (fun i _ => ss.length - (intOf i).toNat)
  case atStart => exact ⟨0, Nat.zero_le _, rfl, Below.refl _ _⟩
  case round =>
    obtain ⟨k, hk, rfl, HB⟩ := hrel
    by_cases hlt : k < ss.length
    · obtain ⟨b, off, rfl, hb, hck⟩ := (HP.out.below HB.out) k hlt
      obtain ⟨b2, off2, rfl, hb2, hck2⟩ := (HQ.out.below HB.out) k hlt
      have j5 : (k : Int) < ss.length := by omega
      generalize ss[k] = x at *
      go_wp2_with fail
      go_quiet (fail)
      go_wp2_with fail
      go_roundw
      case rel => exact ⟨k + 1, by omega, by go_num, belowQ HB.out _⟩
      case measure => simp [intOf]; omega
    · go_wp2_with fail
      go_ret
      exact ⟨rfl, HB.out⟩
set_option maxHeartbeats 4000000 in
theorem lwShown_any (o : Shw) (p1 p2 q1 q2 : Option Addr) (c1 c2 d1 d2 : Nat) (w : World) (h1 : TxtAt w p1 o.ns) (h2 : TxtAt w p2 o.cs) (g1 : TxtAt w q1 o.ns) (g2 : TxtAt w q2 o.cs) (n1 : o.ns.length ≤ 1048576) (n2 : o.cs.length ≤ 1048576) (m1 : o.ns.length ≤ c1) (m2 : o.cs.length ≤ c2) (m3 : o.ns.length ≤ d1) (m4 : o.cs.length ≤ d2) :
    Calls Tryz.prog 30 #[.agg #[.string o.k, .int .i64 o.at_, .slice p1 o.ns.length c1, .slice p2 o.cs.length c2, .int .i64 o.ix, .string o.s, .string o.v], .agg #[.string o.k, .int .i64 o.at_, .slice q1 o.ns.length d1, .slice q2 o.cs.length d2, .int .i64 o.ix, .string o.s, .string o.v]] w fun e w' => e = .returned (.bool true) ∧ Below w.heap.size w w' := by
  obtain ⟨k, at_, ns, cs, ix, s, v⟩ := o
  dsimp only at *
  obtain ⟨W0, hW0⟩ : ∃ W0, W0 = w.alloc (.cells #[.string k, .int .i64 at_, .slice p1 ns.length c1, .slice p2 cs.length c2, .int .i64 ix, .string s, .string v] 48) := ⟨_, rfl⟩
  have hz : W0.heap.size = w.heap.size + 1 := by rw [hW0]; simp
  obtain ⟨W1, hW1⟩ : ∃ W1, W1 = W0.alloc (.cells #[.string k, .int .i64 at_, .slice q1 ns.length d1, .slice q2 cs.length d2, .int .i64 ix, .string s, .string v] 48) := ⟨_, rfl⟩
  have HW1 : Hid (W1 = (w.alloc (.cells #[.string k, .int .i64 at_, .slice p1 ns.length c1, .slice p2 cs.length c2, .int .i64 ix, .string s, .string v] 48)).alloc (.cells #[.string k, .int .i64 at_, .slice q1 ns.length d1, .slice q2 cs.length d2, .int .i64 ix, .string s, .string v] 48)) := by rw [hW1, hW0]; exact rfl
  have hB0 : Below w.heap.size w W0 := by rw [hW0]; exact (Below.refl _ _).alloc (Nat.le_refl _) _
  have B1 : Hid (Below w.heap.size w W1) := by rw [hW1]; exact alB hB0 _
  have X1 : Bxs W1 w.heap.size 48 #[.string k, .int .i64 at_, .slice p1 ns.length c1, .slice p2 cs.length c2, .int .i64 ix, .string s, .string v] := by rw [hW1]; refine Bxs.alloc ?_ _; rw [hW0]; exact Bxs.new _ _ _
  have X2 : Bxs W1 (w.heap.size + 1) 48 #[.string k, .int .i64 at_, .slice q1 ns.length d1, .slice q2 cs.length d2, .int .i64 ix, .string s, .string v] := by rw [hW1, ← hz]; exact Bxs.new _ _ _
  have HX : Hid (∀ x, Below W1.heap.size W1 x → (x.cell? ⟨w.heap.size, 0, none⟩ = some (.string k) ∧ x.cell? ⟨w.heap.size, 1, none⟩ = some (.int .i64 at_) ∧ x.cell? ⟨w.heap.size, 2, none⟩ = some (.slice p1 ns.length c1) ∧ x.cell? ⟨w.heap.size, 3, none⟩ = some (.slice p2 cs.length c2) ∧ x.cell? ⟨w.heap.size, 4, none⟩ = some (.int .i64 ix) ∧ x.cell? ⟨w.heap.size, 5, none⟩ = some (.string s) ∧ x.cell? ⟨w.heap.size, 6, none⟩ = some (.string v)) ∧ (x.cell? ⟨w.heap.size + 1, 0, none⟩ = some (.string k) ∧ x.cell? ⟨w.heap.size + 1, 1, none⟩ = some (.int .i64 at_) ∧ x.cell? ⟨w.heap.size + 1, 2, none⟩ = some (.slice q1 ns.length d1) ∧ x.cell? ⟨w.heap.size + 1, 3, none⟩ = some (.slice q2 cs.length d2) ∧ x.cell? ⟨w.heap.size + 1, 4, none⟩ = some (.int .i64 ix) ∧ x.cell? ⟨w.heap.size + 1, 5, none⟩ = some (.string s) ∧ x.cell? ⟨w.heap.size + 1, 6, none⟩ = some (.string v))) := fun x hx => ⟨⟨(X1.below hx).cell 0, (X1.below hx).cell 1, (X1.below hx).cell 2, (X1.below hx).cell 3, (X1.below hx).cell 4, (X1.below hx).cell 5, (X1.below hx).cell 6⟩, (X2.below hx).cell 0, (X2.below hx).cell 1, (X2.below hx).cell 2, (X2.below hx).cell 3, (X2.below hx).cell 4, (X2.below hx).cell 5, (X2.below hx).cell 6⟩
  have hA := lwTx_any p1 q1 c1 d1 ns W1 (h1.below B1.out) (g1.below B1.out) n1 m1 m3
  have HB : Hid (∀ x, Below W1.heap.size W1 x → Calls Tryz.prog 62 #[.slice p2 cs.length c2, .slice q2 cs.length d2] x fun e w' => e = .returned (.bool true) ∧ Below x.heap.size x w') := fun x hx => lwTx_any p2 q2 c2 d2 cs x ((h2.below B1.out).below hx) ((g2.below B1.out).below hx) n2 m2 m4
  obtain ⟨⟨a0, a1, a2, a3, a4, a5, a6⟩, b0, b1, b2, b3, b4, b5, b6⟩ := HX.out W1 (Below.refl _ _)
  clear hW1 hW0 h1 h2 g1 g2 hB0 hz X1 X2
  go_enter Tryz.func30, Tryz.ntmps30
  go_upto_region 1 with fail
  rw [← HW1.out]
  clear HW1
  go_wp2_with fail
  refine hA.mono ?_
  rintro e w1 ⟨rfl, e1⟩
  clear a0 a1 a2 a3 a4 a5 a6 b0 b1 b2 b3 b4 b5 b6
  obtain ⟨⟨a0, a1, a2, a3, a4, a5, a6⟩, b0, b1, b2, b3, b4, b5, b6⟩ := HX.out w1 e1
  go_wp2_with fail
  refine (HB.out w1 e1).mono ?_
  rintro e w2 ⟨rfl, e2⟩
  clear a0 a1 a2 a3 a4 a5 a6 b0 b1 b2 b3 b4 b5 b6
  obtain ⟨⟨a0, a1, a2, a3, a4, a5, a6⟩, b0, b1, b2, b3, b4, b5, b6⟩ := HX.out w2 (chainB e1 e2)
  have HE : Hid (Below w.heap.size w w2) := chainB (chainB B1.out e1) e2
  clear e1 e2 HX
  go_wp2_with fail
  go_ret
  exact ⟨rfl, HE.out⟩
end Go.Proofs.YtnomkcbcjaagmabGreatDoor
/-
  What l03Some draws: at most 30 texts of at most 101 bytes each, in a row that the call owns. The source's block alone is written.
  Conditions: the source is one ('Src').
-/
namespace Go.Proofs.YtnomkcbcjaagmabGreatDoor
open Go.RowKit Go.Lib
set_option linter.unusedVariables false
set_option maxRecDepth 20000

theorem BlkS.touch {w w' : World} {g p : Nat} {l : List ByteArray} (h : BlkS w g l) (hg : w.grownBy w' (some p)) (hne : g ≠ p) : BlkS w' g l := by
  unfold BlkS at *; rw [hg.block g (lt_of_block h) (fun e => hne (by cases e; rfl))]; exact h
theorem append_size (s t : ByteArray) : (s ++ t).size = s.size + t.size := by simp

set_option maxHeartbeats 1000000 in
theorem pick_any (B p : Nat) (a : Option Addr) (len cap : Nat) (g : Nat) (ss : List ByteArray) (w : World) (hs : Src 133 B p a len cap w) (hb : BlkS w g ss) (hne : g ≠ p) (h0 : 0 < ss.length) (hn : ss.length ≤ 1048576) :
    Calls Tryz.prog 139 #[.pointer (some ⟨p, 0, none⟩), .slice (some ⟨g, 0, none⟩) ss.length ss.length] w fun e w' =>
      (∃ t ∈ ss, e = .returned (.string t)) ∧ Src 133 B p a len cap w' ∧ w.grownBy w' (some p) := by
  have HS : Hid (Src 133 B p a len cap w) := hs
  have HB : Hid (BlkS w g ss) := hb
  clear hs hb
  go_enter Tryz.func139, Tryz.ntmps139
  go_wp2_with fail
  refine (n_any B p a len cap _ _ HS.out (by omega)).mono ?_
  rintro e w1 ⟨⟨r, rfl, hr0, hr1, hr2⟩, hs1, hg1⟩
  obtain ⟨k, rfl⟩ := Int.eq_ofNat_of_zero_le hr0
  have hk : k < ss.length := by
    by_cases h1 : (1 : Int) < ss.length
    · have := hr1 h1; omega
    · have := hr2 (by omega); omega
  have hc := ((HB.out.touch hg1 hne).cell k hk).1
  have HM : Hid (ss[k] ∈ ss) := List.getElem_mem hk
  have H1 : Hid (Src 133 B p a len cap w1) := hs1
  clear hs1 hr1 hr2
  generalize ss[k] = t at *
  have i1 : (k : Int) < ss.length := by omega
  go_wp2
  go_ret
  exact ⟨⟨t, HM.out, rfl⟩, H1.out, hg1⟩

theorem app_one (w : World) (base : Nat) (v : Value) (l : List ByteArray) (own : w.ownsRow base 9 1 v l.length (strRow l)) (T : ByteArray) (hl : l.length + 1 ≤ 1048576) (hbase : base ≤ w.heap.size) :
    ∃ v' w', (Builtin.append_ #[23, 23] 23 #[v, .slice (some ⟨w.heap.size, 0, none⟩) 1 1]).run Tryz.prog (w.alloc (.cells #[.string T] 9)) = .ok v' w' ∧ w'.ownsRow base 9 1 v' (l ++ [T]).length (strRow (l ++ [T])) ∧ (w.alloc (.cells #[.string T] 9)).grownBy w' v.ownBlock :=
  app_texts (w.alloc (.cells #[.string T] 9)) base v l (own.alloc _) (some ⟨w.heap.size, 0, none⟩) 1 [T] (alloc_str w [T]).txt hl (by simp; omega)
/-- What an append to an own row leaves of a source and of what was there. -/
theorem app_leaves {T : TypeId} {B p : Nat} {a : Option Addr} {len cap : Nat} {w0 w w' : World} {e : TypeId} {v : Value} {n : Nat} {xs : List Value} {x : Obj} (own : w.ownsRow w0.heap.size e 1 v n xs) (hs : Src T B p a len cap w) (hp : p < w0.heap.size) (hg : w0.grownBy w (some p)) (h : (w.alloc x).grownBy w' v.ownBlock) :
    Src T B p a len cap w' ∧ w0.grownBy w' (some p) := by
  have hrow : ∀ j, v.ownBlock = some j → w0.heap.size ≤ j := fun j hj => (own.lt j hj).1
  exact ⟨(hs.below ((Below.refl _ _).alloc (Nat.le_refl _) _)).other h (fun j hj => by have := hrow j hj; omega), touch_own (touch_below hg ((Below.refl _ _).alloc (Nat.le_refl _) _)) h hrow⟩

def fourS : List ByteArray := [⟨#[97]⟩, ⟨#[98]⟩, ⟨#[]⟩, ⟨#[101, 110, 116, 114, 121]⟩]
theorem fourS_small : ∀ t ∈ fourS, t.size ≤ 5 := by decide

end Go.Proofs.YtnomkcbcjaagmabGreatDoor
/-
  What l07Name, l07Salt and l07Value draw: texts of at most 21, 9 and 17 bytes. The source's block alone is written.
  Conditions: the source is one ('Src').
-/
namespace Go.Proofs.YtnomkcbcjaagmabGreatDoor
open Go.RowKit Go.Lib
set_option linter.unusedVariables false
set_option maxRecDepth 20000

def nameS3 : List ByteArray := [⟨#[]⟩, ⟨#[65]⟩, ⟨#[49, 50, 51, 52, 53, 54, 55, 56, 57, 48, 49, 50, 51, 52, 53, 54, 55, 56, 57, 48, 49]⟩]
def nameS4 : List ByteArray := [⟨#[110, 97, 109, 101]⟩, ⟨#[109, 97, 105, 108]⟩, ⟨#[97, 103, 101]⟩, ⟨#[116, 111, 119, 110]⟩]
def valS4 : List ByteArray := [⟨#[]⟩, ⟨#[97, 110, 110]⟩, ⟨#[52, 50]⟩, ⟨#[120, 32, 121]⟩]
theorem nameS3_small : ∀ t ∈ nameS3, t.size ≤ 21 := by decide
theorem nameS4_small : ∀ t ∈ nameS4, t.size ≤ 21 := by decide
theorem valS4_small : ∀ t ∈ valS4, t.size ≤ 17 := by decide

set_option maxHeartbeats 1000000 in
theorem l07Name_any (B p : Nat) (a : Option Addr) (len cap : Nat) (w : World) (hs : Src 133 B p a len cap w) :
    Calls Tryz.prog 135 #[.pointer (some ⟨p, 0, none⟩)] w fun e w' =>
      (∃ t : ByteArray, e = .returned (.string t) ∧ t.size ≤ 21) ∧ Src 133 B p a len cap w' ∧ w.grownBy w' (some p) := by
  have HS : Hid (Src 133 B p a len cap w) := hs
  clear hs
  go_enter Tryz.func135, Tryz.ntmps135
  go_wp2_with fail
  refine (one_any B p a len cap 25 _ HS.out (by omega)).mono ?_
  rintro e w1 ⟨⟨r, rfl⟩, hs1, hg1⟩
  have hp := hs1.lt
  cases r with
  | true =>
    have HB : Hid (BlkS (w1.alloc (.cells (strRow nameS3).toArray 9)) w1.heap.size nameS3) := alloc_str w1 nameS3
    have H1 : Hid (Src 133 B p a len cap (w1.alloc (.cells (strRow nameS3).toArray 9))) := hs1.below ((Below.refl _ _).alloc (Nat.le_refl _) _)
    clear hs1
    go_wp2_with fail
    refine (pick_any B p a len cap w1.heap.size nameS3 _ H1.out HB.out (by omega) (by decide) (by decide)).mono ?_
    rintro e w2 ⟨⟨t, ht, rfl⟩, hs2, hg2⟩
    have HG : Hid (w.grownBy w2 (some p)) := touch_trans hg1 (touch_trans (World.grownBy_alloc w1 _ (some p)) hg2)
    have HS2 : Hid (Src 133 B p a len cap w2) := hs2
    have h5 := nameS3_small t ht
    clear hs2 hg2 hg1 ht HB H1
    go_wp2_with fail
    go_ret
    exact ⟨⟨t, rfl, h5⟩, HS2.out, HG.out⟩
  | false =>
    have HB : Hid (BlkS (w1.alloc (.cells (strRow nameS4).toArray 9)) w1.heap.size nameS4) := alloc_str w1 nameS4
    have H1 : Hid (Src 133 B p a len cap (w1.alloc (.cells (strRow nameS4).toArray 9))) := hs1.below ((Below.refl _ _).alloc (Nat.le_refl _) _)
    clear hs1
    go_wp2_with fail
    refine (pick_any B p a len cap w1.heap.size nameS4 _ H1.out HB.out (by omega) (by decide) (by decide)).mono ?_
    rintro e w2 ⟨⟨t, ht, rfl⟩, hs2, hg2⟩
    have HG : Hid (w.grownBy w2 (some p)) := touch_trans hg1 (touch_trans (World.grownBy_alloc w1 _ (some p)) hg2)
    have HS2 : Hid (Src 133 B p a len cap w2) := hs2
    have h5 := nameS4_small t ht
    clear hs2 hg2 hg1 ht HB H1
    go_wp2_with fail
    go_ret
    exact ⟨⟨t, rfl, h5⟩, HS2.out, HG.out⟩

set_option maxHeartbeats 1000000 in
theorem l07Value_any (B p : Nat) (a : Option Addr) (len cap : Nat) (w : World) (hs : Src 133 B p a len cap w) :
    Calls Tryz.prog 111 #[.pointer (some ⟨p, 0, none⟩)] w fun e w' =>
      (∃ t : ByteArray, e = .returned (.string t) ∧ t.size ≤ 17) ∧ Src 133 B p a len cap w' ∧ w.grownBy w' (some p) := by
  have HS : Hid (Src 133 B p a len cap w) := hs
  clear hs
  go_enter Tryz.func111, Tryz.ntmps111
  go_wp2_with fail
  refine (one_any B p a len cap 25 _ HS.out (by omega)).mono ?_
  rintro e w1 ⟨⟨r, rfl⟩, hs1, hg1⟩
  have hp := hs1.lt
  cases r with
  | true =>
    have hN := n_any B p a len cap 3 w1 hs1 (by omega)
    clear hs1
    go_wp2_with fail
    refine hN.mono ?_
    rintro e w2 ⟨⟨r2, rfl, r20, r21, -⟩, hs2, hg2⟩
    have r22 := r21 (by omega)
    obtain ⟨R, rfl⟩ := Int.eq_ofNat_of_zero_le r20
    have hmk := run_make_u8s (15 + R) (by omega) w2
    rw [show ((15 + R : Nat) : Int) = 15 + (R : Int) by omega] at hmk
    have hzc := zconv (15 + R) w2
    have HZs : (strOfNums (List.replicate (15 + R) 0)).size ≤ 17 := by rw [strOfNums_size, List.length_replicate]; omega
    have HS2 : Hid (Src 133 B p a len cap (w2.alloc (.cells (zrow (15 + R)).toArray 5))) := hs2.below ((Below.refl _ _).alloc (Nat.le_refl _) _)
    have HG : Hid (w.grownBy (w2.alloc (.cells (zrow (15 + R)).toArray 5)) (some p)) := touch_trans hg1 (touch_trans hg2 (World.grownBy_alloc w2 _ (some p)))
    clear hs2 hg2 hg1 hN r21 r20
    go_wp2_with fail
    go_ret
    exact ⟨⟨_, rfl, HZs⟩, HS2.out, HG.out⟩
  | false =>
    have HB : Hid (BlkS (w1.alloc (.cells (strRow valS4).toArray 9)) w1.heap.size valS4) := alloc_str w1 valS4
    have H1 : Hid (Src 133 B p a len cap (w1.alloc (.cells (strRow valS4).toArray 9))) := hs1.below ((Below.refl _ _).alloc (Nat.le_refl _) _)
    clear hs1
    go_wp2_with fail
    refine (pick_any B p a len cap w1.heap.size valS4 _ H1.out HB.out (by omega) (by decide) (by decide)).mono ?_
    rintro e w2 ⟨⟨t, ht, rfl⟩, hs2, hg2⟩
    have HG : Hid (w.grownBy w2 (some p)) := touch_trans hg1 (touch_trans (World.grownBy_alloc w1 _ (some p)) hg2)
    have HS2 : Hid (Src 133 B p a len cap w2) := hs2
    have h5 := valS4_small t ht
    clear hs2 hg2 hg1 ht HB H1
    go_wp2_with fail
    go_ret
    exact ⟨⟨t, rfl, h5⟩, HS2.out, HG.out⟩

theorem salt_at : ∀ k : Nat, k < 3 → ∃ v : Nat, (#[.int .i64 0, .int .i64 8, .int .i64 9] : Array Value)[k]? = some (.int .i64 (v : Int)) ∧ v ≤ 9
  | 0, _ => ⟨0, rfl, by omega⟩
  | 1, _ => ⟨8, rfl, by omega⟩
  | 2, _ => ⟨9, rfl, by omega⟩
  | k + 3, h => by omega
set_option maxHeartbeats 1000000 in
theorem l07Salt_any (B p : Nat) (a : Option Addr) (len cap : Nat) (w : World) (hs : Src 133 B p a len cap w) :
    Calls Tryz.prog 110 #[.pointer (some ⟨p, 0, none⟩)] w fun e w' =>
      (∃ t : ByteArray, e = .returned (.string t) ∧ t.size ≤ 9) ∧ Src 133 B p a len cap w' ∧ w.grownBy w' (some p) := by
  have HS : Hid (Src 133 B p a len cap w) := hs
  clear hs
  go_enter Tryz.func110, Tryz.ntmps110
  go_wp2_with fail
  refine (one_any B p a len cap 25 _ HS.out (by omega)).mono ?_
  rintro e w1 ⟨⟨r, rfl⟩, hs1, hg1⟩
  have hp := hs1.lt
  cases r with
  | true =>
    obtain ⟨W2, hW2⟩ : ∃ W2, W2 = w1.alloc (.cells #[.int .i64 0, .int .i64 8, .int .i64 9] 2) := ⟨_, rfl⟩
    have HW2 : Hid (W2 = w1.alloc (.cells #[.int .i64 0, .int .i64 8, .int .i64 9] 2)) := hW2
    have hb : W2.heap[w1.heap.size]? = some (.cells #[.int .i64 0, .int .i64 8, .int .i64 9] 2 (0, 0)) := by rw [hW2]; exact (MapKept.heap_alloc w1 _).1
    have HBk : Hid (∀ x, W2.grownBy x (some p) → x.heap[w1.heap.size]? = some (.cells #[.int .i64 0, .int .i64 8, .int .i64 9] 2 (0, 0))) := fun x hx => (hx.block _ (lt_of_block hb) (fun e => by cases e; omega)).trans hb
    have hN := n_any B p a len cap 3 W2 (by rw [hW2]; exact hs1.below ((Below.refl _ _).alloc (Nat.le_refl _) _)) (by omega)
    have HG2 : Hid (w.grownBy W2 (some p)) := by rw [hW2]; exact touch_trans hg1 (World.grownBy_alloc w1 _ (some p))
    clear hs1 hW2 hb hg1
    go_wp2_with fail
    rw [← HW2.out]
    refine hN.mono ?_
    rintro e w2 ⟨⟨r2, rfl, r20, r21, -⟩, hs2, hg2⟩
    have r22 := r21 (by omega)
    obtain ⟨R, rfl⟩ := Int.eq_ofNat_of_zero_le r20
    obtain ⟨V, hV, hV9⟩ := salt_at R (by omega)
    have hc : w2.cell? ⟨w1.heap.size, R, none⟩ = some (.int .i64 (V : Int)) := by simp [World.cell?, HBk.out w2 hg2, hV]
    have hmk := run_make_u8s V (by omega) w2
    have hzc := zconv V w2
    have HZs : (strOfNums (List.replicate V 0)).size ≤ 9 := by rw [strOfNums_size, List.length_replicate]; omega
    have HS2 : Hid (Src 133 B p a len cap (w2.alloc (.cells (zrow V).toArray 5))) := hs2.below ((Below.refl _ _).alloc (Nat.le_refl _) _)
    have HG : Hid (w.grownBy (w2.alloc (.cells (zrow V).toArray 5)) (some p)) := touch_trans HG2.out (touch_trans hg2 (World.grownBy_alloc w2 _ (some p)))
    clear hs2 hg2 hN r21 r20 hV HBk HW2
    go_wp2_with fail
    go_ret
    exact ⟨⟨_, rfl, HZs⟩, HS2.out, HG.out⟩
  | false =>
    have hN := n_any B p a len cap 4 w1 hs1 (by omega)
    clear hs1
    go_wp2_with fail
    refine hN.mono ?_
    rintro e w2 ⟨⟨r2, rfl, r20, r21, -⟩, hs2, hg2⟩
    have r22 := r21 (by omega)
    have hB := bytes_any B p a len cap r2 w2 hs2 (by omega)
    have hg2 := touch_trans hg1 hg2
    clear hN hs2 r21 hg1
    go_wp2_with fail
    refine hB.mono ?_
    rintro e w3 ⟨⟨u, rfl, hu⟩, hs3, hg3⟩
    have HT : (⟨#[115]⟩ ++ u : ByteArray).size ≤ 9 := by rw [append_size]; show 1 + u.size ≤ 9; omega
    have HS3 : Hid (Src 133 B p a len cap w3) := hs3
    have HG : Hid (w.grownBy w3 (some p)) := touch_trans hg2 hg3
    clear hB hs3 hg3 hg2
    go_wp2_with fail
    go_ret
    exact ⟨⟨_, rfl, HT⟩, HS3.out, HG.out⟩
end Go.Proofs.YtnomkcbcjaagmabGreatDoor
