/-
  What DrawRowOf draws: a kind, a time, names, salts and values, few and small.
  Conditions: the code's bytes lie there.
-/
import Derived.Test.YtnomkcbcjaagmabDoorRows
import Derived.Test.YtnomkcbcjaagmabDoorBytesDigMath
import Derived.Test.YtnomkcbcjaagmabDoorSlASlBOwnS
import Derived.Test.YtnomkcbcjaagmabDoorFldRiseOwnBTurn2
import Derived.Test.YtnomkcbcjaagmabDoorAppS
import Derived.Test.YtnomkcbcjaagmabDoorBxKGrKTakesSrc
import Derived.Test.YtnomkcbcjaagmabDoorDrawsDrawKit
import Derived.Test.YtnomkcbcjaagmabDoorSomeDrawFld
import Derived.Test.YtnomkcbcjaagmabDoorShwK
import Derived.Test.YtnomkcbcjaagmabDoorDrawPut
import Derived.Handy
import Derived.WalkSpells
import Derived.OwnWalk
import Derived.Deep.Cut
namespace Go.Proofs.YtnomkcbcjaagmabDoor
open Go.RowKit Go.Lib
set_option linter.unusedVariables false
set_option maxRecDepth 20000

def apart (u v : Value) : Prop := ∀ j, u.ownBlock = some j → v.ownBlock ≠ some j
theorem apart.symm {u v : Value} (h : apart u v) : apart v u := fun j h1 h2 => h j h2 h1
/-- A source of the call's own; three rows of texts of its own, apart. -/
structure LoS (w1 : World) (B p : Nat) (a : Option Addr) (len cap : Nat) (v0 v1 v2 : Value) (ns ss vs : List ByteArray) (x : World) : Prop where
  src : Src 100 B p a len cap x
  gr : w1.grownBy x (some p)
  own0 : x.ownsRow w1.heap.size 9 1 v0 ns.length (strRow ns)
  own1 : x.ownsRow w1.heap.size 9 1 v1 ss.length (strRow ss)
  own2 : x.ownsRow w1.heap.size 9 1 v2 vs.length (strRow vs)
  a01 : apart v0 v1
  a12 : apart v1 v2
  a20 : apart v2 v0
  hp : p < w1.heap.size
section
variable {w1 : World} {B p : Nat} {a : Option Addr} {len cap : Nat} {v0 v1 v2 : Value} {ns ss vs : List ByteArray} {x y : World}
theorem LoS.rot (h : LoS w1 B p a len cap v0 v1 v2 ns ss vs x) : LoS w1 B p a len cap v1 v2 v0 ss vs ns x := ⟨h.src, h.gr, h.own1, h.own2, h.own0, h.a12, h.a20, h.a01, h.hp⟩
theorem LoS.draw (h : LoS w1 B p a len cap v0 v1 v2 ns ss vs x) (hs : Src 100 B p a len cap y) (k : x.grownBy y (some p)) : LoS w1 B p a len cap v0 v1 v2 ns ss vs y := by
  have hp := h.hp
  exact ⟨hs, touch_trans h.gr k, ownR_grown h.own0 k (fun j hj e => by have := (h.own0.lt j hj).1; cases e; omega), ownR_grown h.own1 k (fun j hj e => by have := (h.own1.lt j hj).1; cases e; omega), ownR_grown h.own2 k (fun j hj e => by have := (h.own2.lt j hj).1; cases e; omega), h.a01, h.a12, h.a20, hp⟩
theorem LoS.below (h : LoS w1 B p a len cap v0 v1 v2 ns ss vs x) (b : Below x.heap.size x y) : LoS w1 B p a len cap v0 v1 v2 ns ss vs y :=
  ⟨h.src.below b, touch_below h.gr b, ownS_below h.own0 b, ownS_below h.own1 b, ownS_below h.own2 b, h.a01, h.a12, h.a20, h.hp⟩
/-- Another first row, of new memory or where it was. -/
theorem LoS.other (h : LoS w1 B p a len cap v0 v1 v2 ns ss vs x) (b : Below x.heap.size x y) {g c : Nat} {l : List ByteArray} (own : y.ownsRow w1.heap.size 9 1 (.slice (some ⟨g, 0, none⟩) l.length c) l.length (strRow l)) (hg : v0.ownBlock = some g ∨ x.heap.size ≤ g) : LoS w1 B p a len cap (.slice (some ⟨g, 0, none⟩) l.length c) v1 v2 l ss vs y := by
  have H := h.below b
  have hob : ∀ j, (Value.slice (some ⟨g, 0, none⟩) l.length c).ownBlock = some j → g = j := fun j hj => by simpa [Value.ownBlock] using hj
  refine ⟨H.src, H.gr, own, H.own1, H.own2, ?_, h.a12, ?_, h.hp⟩
  · intro j hj he
    obtain rfl := hob j hj
    rcases hg with hg | hg
    · exact h.a01 _ hg he
    · have := (h.own1.lt _ he).2; omega
  · intro j hj he
    obtain rfl := hob j he
    rcases hg with hg | hg
    · exact h.a20 _ hj hg
    · have := (h.own2.lt _ hj).2; omega
theorem LoS.app0 (h : LoS w1 B p a len cap v0 v1 v2 ns ss vs x) (s : ByteArray) (hl : ns.length + 1 ≤ 1048576) :
    ∃ g c y, (Builtin.append_ #[28, 28] 28 #[v0, .slice (some ⟨x.heap.size, 0, none⟩) 1 1]).run Tryd.prog (x.alloc (.cells #[.string s] 9)) = .ok (.slice (some ⟨g, 0, none⟩) (ns.length + 1) c) y ∧ LoS w1 B p a len cap (.slice (some ⟨g, 0, none⟩) (ns.length + 1) c) v1 v2 (ns ++ [s]) ss vs y := by
  have hsz := h.gr.size
  have hp := h.hp
  obtain ⟨g, c, y, h1, h2, h3, h4⟩ := app_str x w1.heap.size v0 ns h.own0 s hl hsz
  have H := h.below ((Below.refl _ _).alloc (Nat.le_refl _) (.cells #[.string s] 9))
  have hrow : ∀ j, v0.ownBlock = some j → w1.heap.size ≤ j := fun j hj => (h.own0.lt j hj).1
  have hob : ∀ j, (Value.slice (some ⟨g, 0, none⟩) (ns.length + 1) c).ownBlock = some j → g = j := fun j hj => by simpa [Value.ownBlock] using hj
  refine ⟨g, c, y, h1, ⟨H.src.other h3 (fun j hj => by have := hrow j hj; omega), touch_own H.gr h3 hrow, h2, ownR_grown H.own1 h3 (fun j hj he => h.a01 j he hj), ownR_grown H.own2 h3 (fun j hj he => h.a20 j hj he), ?_, h.a12, ?_, hp⟩⟩
  · intro j hj he
    obtain rfl := hob j hj
    rcases h4 with h4 | h4
    · exact h.a01 _ h4 he
    · have := (h.own1.lt _ he).2; omega
  · intro j hj he
    obtain rfl := hob j he
    rcases h4 with h4 | h4
    · exact h.a20 _ hj h4
    · have := (h.own2.lt _ hj).2; omega
end
def small (m : Nat) (l : List ByteArray) : Prop := ∀ x ∈ l, x.size ≤ m
theorem small.app {m : Nat} {l : List ByteArray} {s : ByteArray} (h : small m l) (hs : s.size ≤ m) : small m (l ++ [s]) := fun x hx => by
  rcases List.mem_append.1 hx with h1 | h1
  · exact h x h1
  · obtain rfl := List.mem_singleton.1 h1; exact hs
/-- Texts that lie above a place. -/
def TxA (w1 x : World) (b o : Nat) (l : List ByteArray) : Prop := TxtAt x (some ⟨b, o, none⟩) l ∧ w1.heap.size ≤ b ∧ b < x.heap.size
theorem TxA.touch {w1 x y : World} {b o p : Nat} {l : List ByteArray} (h : TxA w1 x b o l) (k : x.grownBy y (some p)) (hp : p < w1.heap.size) : TxA w1 y b o l := by
  refine ⟨fun i hi => ?_, h.2.1, Nat.lt_of_lt_of_le h.2.2 k.size⟩
  obtain ⟨b', o', e, h1, h2⟩ := h.1 i hi
  cases e
  have hne : some b ≠ some p := fun e => by have := h.2.1; cases e; omega
  exact ⟨b, o, rfl, Nat.lt_of_lt_of_le h1 k.size, k.cell h2 hne⟩
def RoP (w : World) (e : Ending) (w' : World) : Prop :=
  ∃ (kd : ByteArray) (at_ : Int) (p1 : Option Addr) (c1 : Nat) (ns : List ByteArray) (p2 : Option Addr) (c2 : Nat) (ss : List ByteArray) (p3 : Option Addr) (c3 : Nat) (vs : List ByteArray), e = .returned (.tuple #[.string kd, .int .i64 at_, .slice p1 ns.length c1, .slice p2 ss.length c2, .slice p3 vs.length c3]) ∧ (TxtAt w' p1 ns ∧ TxtAt w' p2 ss ∧ TxtAt w' p3 vs) ∧ (ns.length ≤ c1 ∧ ss.length ≤ c2 ∧ vs.length ≤ c3) ∧ (small 100 ns ∧ small 100 ss ∧ small 100 vs ∧ kd.size ≤ 100) ∧ (ns.length ≤ 4 ∧ ss.length ≤ 4 ∧ vs.length ≤ 4) ∧ (-9223372036854775808 ≤ at_ ∧ at_ ≤ 9223372036854775807) ∧ Below w.heap.size w w'
set_option maxHeartbeats 8000000 in
theorem drawRowOf_any (B : Nat) (a : Option Addr) (len cap : Nat) (w : World) (hlen : len ≤ 1048576) (hB : B ≤ w.heap.size) (hc : CodeAt B a len w) :
    Calls Tryd.prog 7 #[.slice a len cap] w (RoP w) := by
  have HC : Hid (CodeAt B a len w) := hc
  clear hc
  go_enter Tryd.func7, Tryd.ntmps7
  go_wp2_with fail
  refine (source_any B a len cap w hlen hB HC.out).mono ?_
  rintro e w1 ⟨rfl, s1, bs1⟩
  obtain ⟨P, hP⟩ : ∃ P, P = w.heap.size := ⟨_, rfl⟩
  have HPe : Hid (w.heap.size = P) := hP.symm
  have HB1 : Hid (Below w.heap.size w w1) := bs1
  rw [← hP] at s1 ⊢
  clear hP bs1
  obtain ⟨x0, hx0⟩ : ∃ x0, x0 = ((w1.alloc (.cells #[] 9)).alloc (.cells #[] 9)).alloc (.cells #[] 9) := ⟨_, rfl⟩
  have HX0 : Hid (x0 = ((w1.alloc (.cells #[] 9)).alloc (.cells #[] 9)).alloc (.cells #[] 9)) := hx0
  have S0 : Hid (LoS w1 B P a len cap (.slice (some ⟨w1.heap.size, 0, none⟩) 0 0) (.slice (some ⟨w1.heap.size + 1, 0, none⟩) 0 0) (.slice (some ⟨w1.heap.size + 1 + 1, 0, none⟩) 0 0) [] [] [] x0) := by
    have z1 : (w1.alloc (.cells #[] 9)).heap.size = w1.heap.size + 1 := szA _ _
    have z2 : ((w1.alloc (.cells #[] 9)).alloc (.cells #[] 9)).heap.size = w1.heap.size + 1 + 1 := by rw [szA, z1]
    have e1 := ownS_none w1
    have e2 := ownS_none (w1.alloc (.cells #[] 9))
    have e3 := ownS_none ((w1.alloc (.cells #[] 9)).alloc (.cells #[] 9))
    rw [z1] at e2
    rw [z2] at e3
    have b : Below w1.heap.size w1 x0 := by rw [hx0]; exact alB (alB ((Below.refl _ _).alloc (Nat.le_refl _) _) _) _
    have ob : ∀ (g j : Nat), (Value.slice (some ⟨g, 0, none⟩) 0 0).ownBlock = some j → g = j := fun g j hj => by simpa [Value.ownBlock] using hj
    rw [hx0] at b ⊢
    exact ⟨s1.below b, grown_below b, (e1.alloc _).alloc _, (ownS_mono e2 (by omega)).alloc _, ownS_mono e3 (by omega), fun j h1 h2 => by have := ob _ _ h1; have := ob _ _ h2; omega, fun j h1 h2 => by have := ob _ _ h1; have := ob _ _ h2; omega, fun j h1 h2 => by have := ob _ _ h1; have := ob _ _ h2; omega, s1.lt⟩
  clear hx0 s1
  go_wp2_with fail
  rw [← HX0.out]
  clear HX0
  refine (n_any B P a len cap 4 x0 S0.out.src (by omega)).mono ?_
  rintro e x1 ⟨⟨r, rfl, r0, r1, -⟩, sx, gx⟩
  have r2 := r1 (by omega)
  obtain ⟨R, rfl⟩ := Int.eq_ofNat_of_zero_le r0
  have S1 : Hid (LoS w1 B P a len cap (.slice (some ⟨w1.heap.size, 0, none⟩) 0 0) (.slice (some ⟨w1.heap.size + 1, 0, none⟩) 0 0) (.slice (some ⟨w1.heap.size + 1 + 1, 0, none⟩) 0 0) [] [] [] x1) := S0.out.draw sx gx
  clear S0 sx gx r0 r1
  go_wp2_with fail
  go_loopw [8, 9, 10, 11] (fun u0 u1 u2 i wr => ∃ (k b0 b1 b2 c0 c1 c2 : Nat) (ns ss vs : List ByteArray), u0 = .slice (some ⟨b0, 0, none⟩) ns.length c0 ∧ u1 = .slice (some ⟨b1, 0, none⟩) ss.length c1 ∧ u2 = .slice (some ⟨b2, 0, none⟩) vs.length c2 ∧ i = .int .i64 k ∧ Hid (ss.length + k ≤ 3 ∧ vs.length = ss.length ∧ ns.length ≤ ss.length) ∧ Hid (small 100 ns ∧ small 100 ss ∧ small 100 vs) ∧ Hid (LoS w1 B P a len cap (.slice (some ⟨b0, 0, none⟩) ns.length c0) (.slice (some ⟨b1, 0, none⟩) ss.length c1) (.slice (some ⟨b2, 0, none⟩) vs.length c2) ns ss vs wr)) (fun _ _ _ i _ => (intOf i).toNat)
  case atStart => exact ⟨R, _, _, _, 0, 0, 0, [], [], [], rfl, rfl, rfl, rfl, ⟨by simp; omega, rfl, by simp⟩, ⟨fun x hx => by simp at hx, fun x hx => by simp at hx, fun x hx => by simp at hx⟩, S1⟩
  case round =>
    clear S1
    obtain ⟨k, b0, b1, b2, c0, c1, c2, ns, ss, vs, rfl, rfl, rfl, rfl, HL, HZ, HS⟩ := hrel
    by_cases hlt : 0 < (k : Int)
    · go_wp2_with fail
      refine (l07Name_any B P a len cap wr HS.out.src).mono ?_
      rintro e y1 ⟨⟨t0, rfl, ht0⟩, sy, gy⟩
      have S1 := HS.out.draw sy gy
      have hPut := l07Put_any w1.heap.size b0 c0 ns t0 y1 S1.own0 (by have := HL.out; omega) S1.gr.size
      have HS1 : Hid (LoS w1 B P a len cap (.slice (some ⟨b0, 0, none⟩) ns.length c0) (.slice (some ⟨b1, 0, none⟩) ss.length c1) (.slice (some ⟨b2, 0, none⟩) vs.length c2) ns ss vs y1) := S1
      clear S1 sy gy HS
      go_wp2_with fail
      refine hPut.mono ?_
      rintro e y2 ⟨g, cg, l', rfl, ol, hll, hlm, hgg, bl⟩
      have S2 : Hid (LoS w1 B P a len cap (.slice (some ⟨g, 0, none⟩) l'.length cg) (.slice (some ⟨b1, 0, none⟩) ss.length c1) (.slice (some ⟨b2, 0, none⟩) vs.length c2) l' ss vs y2) := HS1.out.other bl ol hgg
      have HZn : Hid (small 100 l') := fun x hx => by
        rcases hlm x hx with h | rfl
        · exact HZ.out.1 x h
        · omega
      have HLn : Hid (l'.length ≤ ns.length + 1) := hll
      clear ol hll hlm hgg bl HS1 hPut
      go_wp2_with fail
      refine (l07Salt_any B P a len cap y2 S2.out.src).mono ?_
      rintro e y3 ⟨⟨t1, rfl, ht1⟩, sy, gy⟩
      have T := (S2.out.draw sy gy).rot
      obtain ⟨g1, d1, y4, hrun1, T4⟩ := T.app0 t1 (by have := HL.out; omega)
      have S4 : Hid (LoS w1 B P a len cap (.slice (some ⟨g, 0, none⟩) l'.length cg) (.slice (some ⟨g1, 0, none⟩) (ss.length + 1) d1) (.slice (some ⟨b2, 0, none⟩) vs.length c2) l' (ss ++ [t1]) vs y4) := T4.rot.rot
      clear T T4 sy gy S2
      go_wp2_with (at_builtin; refine wpList_append_run rfl _ _ _ rfl _ _ _ _ rfl rfl hrun1 ?_)
      refine (l07Value_any B P a len cap y4 S4.out.src).mono ?_
      rintro e y5 ⟨⟨t2, rfl, ht2⟩, sy, gy⟩
      have T := (S4.out.draw sy gy).rot.rot
      obtain ⟨g2, d2, y6, hrun2, T6⟩ := T.app0 t2 (by have := HL.out; omega)
      have S6 : Hid (LoS w1 B P a len cap (.slice (some ⟨g, 0, none⟩) l'.length cg) (.slice (some ⟨g1, 0, none⟩) (ss.length + 1) d1) (.slice (some ⟨g2, 0, none⟩) (vs.length + 1) d2) l' (ss ++ [t1]) (vs ++ [t2]) y6) := T6.rot
      have q1 : (ss ++ [t1]).length = ss.length + 1 := by simp
      have q2 : (vs ++ [t2]).length = vs.length + 1 := by simp
      have HREL : Hid (∃ (k' b0 b1 b2 c0 c1 c2 : Nat) (ns ss' vs' : List ByteArray), Value.slice (some ⟨g, 0, none⟩) l'.length cg = .slice (some ⟨b0, 0, none⟩) ns.length c0 ∧ Value.slice (some ⟨g1, 0, none⟩) (ss.length + 1) d1 = .slice (some ⟨b1, 0, none⟩) ss'.length c1 ∧ Value.slice (some ⟨g2, 0, none⟩) (vs.length + 1) d2 = .slice (some ⟨b2, 0, none⟩) vs'.length c2 ∧ Value.int .i64 ((k : Int) - 1) = .int .i64 k' ∧ Hid (ss'.length + k' ≤ 3 ∧ vs'.length = ss'.length ∧ ns.length ≤ ss'.length) ∧ Hid (small 100 ns ∧ small 100 ss' ∧ small 100 vs') ∧ Hid (LoS w1 B P a len cap (.slice (some ⟨b0, 0, none⟩) ns.length c0) (.slice (some ⟨b1, 0, none⟩) ss'.length c1) (.slice (some ⟨b2, 0, none⟩) vs'.length c2) ns ss' vs' y6)) := by
        refine ⟨k - 1, g, g1, g2, cg, d1, d2, l', ss ++ [t1], vs ++ [t2], rfl, by rw [q1], by rw [q2], ?_, ⟨?_, ?_, ?_⟩, ⟨HZn.out, HZ.out.2.1.app (by omega), HZ.out.2.2.app (by omega)⟩, ?_⟩
        · rw [show ((k - 1 : Nat) : Int) = (k : Int) - 1 by omega]
        · have := HL.out; rw [q1]; omega
        · have := HL.out; rw [q1, q2]; omega
        · have := HL.out; have := HLn.out; rw [q1]; omega
        · rw [q1, q2]; exact S6.out
      have hwk : IntKind.i64.wrap ((k : Int) - 1) = (k : Int) - 1 := by have := HL.out; rw [IntKind.wrap_i64]; omega
      clear T T6 sy gy S4 HL HZ HZn HLn hrun1 q1 q2 S6
      go_wp2_with (at_builtin; refine wpList_append_run rfl _ _ _ rfl _ _ _ _ rfl rfl hrun2 ?_)
      go_roundw
      case rel => exact HREL.out
      case measure => simp [intOf]; omega
    · have HS2 : Hid ((TxA w1 wr b0 0 ns ∧ TxA w1 wr b1 0 ss ∧ TxA w1 wr b2 0 vs) ∧ (ns.length ≤ c0 ∧ ss.length ≤ c1 ∧ vs.length ≤ c2) ∧ Src 100 B P a len cap wr ∧ w1.grownBy wr (some P) ∧ P < w1.heap.size) := by
        have f0 := ownS_form HS.out.own0
        have f1 := ownS_form HS.out.own1
        have f2 := ownS_form HS.out.own2
        obtain ⟨q0, d0, e0, m0, t0⟩ := f0
        obtain ⟨q1, d1, e1, m1, t1⟩ := f1
        obtain ⟨q2, d2, e2, m2, t2⟩ := f2
        cases e0
        cases e1
        cases e2
        have l0 := HS.out.own0.lt b0 rfl
        have l1 := HS.out.own1.lt b1 rfl
        have l2 := HS.out.own2.lt b2 rfl
        exact ⟨⟨⟨t0, l0.1, l0.2⟩, ⟨t1, l1.1, l1.2⟩, ⟨t2, l2.1, l2.2⟩⟩, ⟨m0, m1, m2⟩, HS.out.src, HS.out.gr, HS.out.hp⟩
      have HL3 : Hid (ss.length ≤ 3 ∧ vs.length = ss.length ∧ ns.length ≤ 3) := by have := HL.out; exact ⟨by omega, this.2.1, by omega⟩
      clear HS HL
      go_wp2_with fail
      go_loopw [9, 10] (fun u1 u2 wr => ∃ (b1 o1 c1 b2 o2 c2 : Nat) (ss vs : List ByteArray), u1 = .slice (some ⟨b1, o1, none⟩) ss.length c1 ∧ u2 = .slice (some ⟨b2, o2, none⟩) vs.length c2 ∧ Hid (ss.length ≤ 3 ∧ vs.length = ss.length ∧ ns.length ≤ 3) ∧ Hid (small 100 ns ∧ small 100 ss ∧ small 100 vs) ∧ Hid ((TxA w1 wr b0 0 ns ∧ TxA w1 wr b1 o1 ss ∧ TxA w1 wr b2 o2 vs) ∧ (ns.length ≤ c0 ∧ ss.length ≤ c1 ∧ vs.length ≤ c2) ∧ Src 100 B P a len cap wr ∧ w1.grownBy wr (some P) ∧ P < w1.heap.size)) (fun u1 _ _ => match u1 with | .slice _ n _ => n | _ => 0)
      case atStart => exact ⟨_, _, _, _, _, _, ss, vs, rfl, rfl, HL3, HZ, HS2⟩
      case round =>
        clear HS2 HL3 HZ
        obtain ⟨b1, o1, c1, b2, o2, c2, ss, vs, rfl, rfl, HL, HZ, HS⟩ := hrel
        by_cases hgt : ns.length < ss.length
        · have g1 : (ns.length : Int) < ss.length := by omega
          have dg : decide ((ns.length : Int) < (ss.length : Int)) = true := decide_eq_true g1
          have hSr := HS.out.2.2.1
          go_wp2_with fail
          refine (one_any B P a len cap 6 wr hSr (by omega)).mono ?_
          rintro e y1 ⟨⟨bo, rfl⟩, sy, gy⟩
          have HS1 : Hid ((TxA w1 y1 b0 0 ns ∧ TxA w1 y1 b1 o1 ss ∧ TxA w1 y1 b2 o2 vs) ∧ (ns.length ≤ c0 ∧ ss.length ≤ c1 ∧ vs.length ≤ c2) ∧ Src 100 B P a len cap y1 ∧ w1.grownBy y1 (some P) ∧ P < w1.heap.size) := by
            obtain ⟨⟨t0, t1, t2⟩, m, -, hg, hp⟩ := HS.out
            exact ⟨⟨t0.touch gy hp, t1.touch gy hp, t2.touch gy hp⟩, m, sy, touch_trans hg gy, hp⟩
          clear HS sy gy hSr
          cases bo
          · obtain ⟨q1, r1, ⟨o1', rfl⟩, e1⟩ := sl_low b1 o1 ss.length c1 1 (by omega) HS1.out.2.1.2.1
            obtain ⟨q2, r2, ⟨o2', rfl⟩, e2⟩ := sl_low b2 o2 vs.length c2 1 (by have := HL.out; omega) HS1.out.2.1.2.2
            rw [show ((1 : Nat) : Int) = (1 : Int) from rfl] at r1 r2
            have HREL : Hid (∃ (b1' o1'' c1' b2' o2'' c2' : Nat) (ss' vs' : List ByteArray), Value.slice (some ⟨b1, o1', none⟩) (ss.length - 1) (c1 - 1) = .slice (some ⟨b1', o1'', none⟩) ss'.length c1' ∧ Value.slice (some ⟨b2, o2', none⟩) (vs.length - 1) (c2 - 1) = .slice (some ⟨b2', o2'', none⟩) vs'.length c2' ∧ Hid (ss'.length ≤ 3 ∧ vs'.length = ss'.length ∧ ns.length ≤ 3) ∧ Hid (small 100 ns ∧ small 100 ss' ∧ small 100 vs') ∧ Hid ((TxA w1 y1 b0 0 ns ∧ TxA w1 y1 b1' o1'' ss' ∧ TxA w1 y1 b2' o2'' vs') ∧ (ns.length ≤ c0 ∧ ss'.length ≤ c1' ∧ vs'.length ≤ c2') ∧ Src 100 B P a len cap y1 ∧ w1.grownBy y1 (some P) ∧ P < w1.heap.size)) := by
              obtain ⟨⟨t0, t1, t2⟩, ⟨m0, m1, m2⟩, sr, hg, hp⟩ := HS1.out
              obtain ⟨l1, l2, l3⟩ := HL.out
              refine ⟨b1, o1', c1 - 1, b2, o2', c2 - 1, ss.drop 1, vs.drop 1, by rw [List.length_drop], by rw [List.length_drop], ⟨by rw [List.length_drop]; omega, by rw [List.length_drop, List.length_drop]; omega, l3⟩, ⟨HZ.out.1, fun x hx => HZ.out.2.1 x (List.mem_of_mem_drop hx), fun x hx => HZ.out.2.2 x (List.mem_of_mem_drop hx)⟩, ⟨t0, ⟨txt_drop t1.1 1 (fun h => e1 (by omega)), t1.2⟩, ⟨txt_drop t2.1 1 (fun h => e2 (by omega)), t2.2⟩⟩, ⟨m0, by rw [List.length_drop]; omega, by rw [List.length_drop]; omega⟩, sr, hg, hp⟩
            have hms : ss.length - 1 < ss.length := by omega
            have i1 : (1 : Int) ≤ ss.length := by omega
            have i2 : (1 : Int) ≤ vs.length := by have := HL.out; omega
            clear HS1 HL HZ e1 e2
            go_wp2_with fail
            go_roundw
            case rel => exact HREL.out
            case measure => exact hms
          · clear g1 hgt dg
            have HF : Hid (∀ (x : World) (kd : ByteArray) (at_ : Int), y1.grownBy x (some P) → kd.size ≤ 100 → -9223372036854775808 ≤ at_ → at_ ≤ 9223372036854775807 → RoP w (.returned (.tuple #[.string kd, .int .i64 at_, .slice (some ⟨b0, 0, none⟩) ns.length c0, .slice (some ⟨b1, o1, none⟩) ss.length c1, .slice (some ⟨b2, o2, none⟩) vs.length c2])) x) := fun x kd at_ hx hk h0 h1 => by
              obtain ⟨⟨t0, t1, t2⟩, ⟨m0, m1, m2⟩, -, hg, hp⟩ := HS1.out
              obtain ⟨l1, l2, l3⟩ := HL.out
              exact ⟨kd, at_, _, c0, ns, _, c1, ss, _, c2, vs, rfl, ⟨(t0.touch hx hp).1, (t1.touch hx hp).1, (t2.touch hx hp).1⟩, ⟨m0, m1, m2⟩, ⟨HZ.out.1, HZ.out.2.1, HZ.out.2.2, hk⟩, ⟨by omega, by omega, by omega⟩, ⟨h0, h1⟩, below_touch HB1.out (touch_trans hg hx) (by rw [HPe.out]; exact Nat.le_refl _)⟩
            have hSr := HS1.out.2.2.1
            clear HS1 HL HZ
            go_wp2_with fail
            refine (one_any B P a len cap 12 y1 hSr (by omega)).mono ?_
            rintro e z1 ⟨⟨bo, rfl⟩, sz, gz⟩
            cases bo
            · go_wp2_with fail
              refine (n_any B P a len cap 50 z1 sz (by omega)).mono ?_
              rintro e z2 ⟨⟨q, rfl, q0, q1, -⟩, sz2, gz2⟩
              have q2 := q1 (by omega)
              have HE : Hid _ := HF.out z2 ⟨#[117, 115, 101, 114]⟩ q (touch_trans gz gz2) (by decide) (by omega) (by omega)
              clear HF sz sz2 gz gz2 hSr q1
              go_wp2_with fail
              refine bodyPost_ret (results_tmp5 rfl _ _ _) rfl ?_
              exact HE.out
            · go_wp2_with fail
              refine (l07Name_any B P a len cap z1 sz).mono ?_
              rintro e z2 ⟨⟨nm, rfl, hnm⟩, sz2, gz2⟩
              go_wp2_with fail
              refine (edge_any B P a len cap z2 sz2).mono ?_
              rintro e z3 ⟨⟨q, rfl, q0, q1⟩, sz3, gz3⟩
              have HE : Hid _ := HF.out z3 nm q (touch_trans gz (touch_trans gz2 gz3)) (by omega) q0 q1
              clear HF sz sz2 gz gz2 hSr sz3 gz3
              go_wp2_with fail
              refine bodyPost_ret (results_tmp5 rfl _ _ _) rfl ?_
              exact HE.out
        · have g1 : ¬ (ns.length : Int) < ss.length := by omega
          have dg : decide ((ns.length : Int) < (ss.length : Int)) = false := decide_eq_false g1
          have HF : Hid (∀ (x : World) (kd : ByteArray) (at_ : Int), wr.grownBy x (some P) → kd.size ≤ 100 → -9223372036854775808 ≤ at_ → at_ ≤ 9223372036854775807 → RoP w (.returned (.tuple #[.string kd, .int .i64 at_, .slice (some ⟨b0, 0, none⟩) ns.length c0, .slice (some ⟨b1, o1, none⟩) ss.length c1, .slice (some ⟨b2, o2, none⟩) vs.length c2])) x) := fun x kd at_ hx hk h0 h1 => by
            obtain ⟨⟨t0, t1, t2⟩, ⟨m0, m1, m2⟩, -, hg, hp⟩ := HS.out
            obtain ⟨l1, l2, l3⟩ := HL.out
            exact ⟨kd, at_, _, c0, ns, _, c1, ss, _, c2, vs, rfl, ⟨(t0.touch hx hp).1, (t1.touch hx hp).1, (t2.touch hx hp).1⟩, ⟨m0, m1, m2⟩, ⟨HZ.out.1, HZ.out.2.1, HZ.out.2.2, hk⟩, ⟨by omega, by omega, by omega⟩, ⟨h0, h1⟩, below_touch HB1.out (touch_trans hg hx) (by rw [HPe.out]; exact Nat.le_refl _)⟩
          have hSr := HS.out.2.2.1
          clear HS HL HZ
          go_wp2_with fail
          refine (one_any B P a len cap 12 wr hSr (by omega)).mono ?_
          rintro e z1 ⟨⟨bo, rfl⟩, sz, gz⟩
          cases bo
          · go_wp2_with fail
            refine (n_any B P a len cap 50 z1 sz (by omega)).mono ?_
            rintro e z2 ⟨⟨q, rfl, q0, q1, -⟩, sz2, gz2⟩
            have q2 := q1 (by omega)
            have HE : Hid _ := HF.out z2 ⟨#[117, 115, 101, 114]⟩ q (touch_trans gz gz2) (by decide) (by omega) (by omega)
            clear HF sz sz2 gz gz2 hSr q1
            go_wp2_with fail
            refine bodyPost_ret (results_tmp5 rfl _ _ _) rfl ?_
            exact HE.out
          · go_wp2_with fail
            refine (l07Name_any B P a len cap z1 sz).mono ?_
            rintro e z2 ⟨⟨nm, rfl, hnm⟩, sz2, gz2⟩
            go_wp2_with fail
            refine (edge_any B P a len cap z2 sz2).mono ?_
            rintro e z3 ⟨⟨q, rfl, q0, q1⟩, sz3, gz3⟩
            have HE : Hid _ := HF.out z3 nm q (touch_trans gz (touch_trans gz2 gz3)) (by omega) q0 q1
            clear HF sz sz2 gz gz2 hSr sz3 gz3
            go_wp2_with fail
            refine bodyPost_ret (results_tmp5 rfl _ _ _) rfl ?_
            exact HE.out
end Go.Proofs.YtnomkcbcjaagmabDoor
