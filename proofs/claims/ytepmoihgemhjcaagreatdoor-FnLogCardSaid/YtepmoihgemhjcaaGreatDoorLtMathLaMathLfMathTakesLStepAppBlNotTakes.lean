/-
  Parts of one proof, laid as one text: LtMath, LaMath, LfMath, TakesL, StepApp, BlNot, Takes; what each says stands at its head.
-/
import Derived.Test.YtepmoihgemhjcaaGreatDoorRows
import Derived.Test.YtepmoihgemhjcaaGreatDoorBytesDigMath
import Derived.Test.YtepmoihgemhjcaaGreatDoorTreeMathSlABxKSlBOwnS
import Derived.Test.YtepmoihgemhjcaaGreatDoorTimeBPutMathPutNumJoinedPutTextFldMath
import Derived.Test.YtepmoihgemhjcaaGreatDoorGetValGetTxtNumMathFldRdNumFromTmbMathFldRiseLgMath
import Derived.Test.YtepmoihgemhjcaaGreatDoorLgAtKLgAnsLgRtShwKOneKFldBlkRwBlk
import Derived.Test.YtepmoihgemhjcaaGreatDoorRowOpsLgO
import Derived.Handy
import Derived.OwnWalk
import Derived.WalkSpells
import Derived.Deep.Cut
import Derived.Test.YtepmoihgemhjcaaGreatDoorFldGSrcDrawsDrawKitAppSSomeDrawTreeScanMath
import Derived.Deep.RegionHeld3
import Derived.Deep.AppendLies
import Derived.Deep.RegionLaw
/-
  A LogOut in new memory; what LogTime answers (plain).
-/
namespace Go.Proofs.YtepmoihgemhjcaaGreatDoor
open Go.RowKit Go.Lib
set_option linter.unusedVariables false
set_option maxRecDepth 20000

/-- A LogOut of its own memory. -/
def LgA (base : Nat) (rs : List Rw) (lv : List ByteArray) (now C : Int) (e : Ending) (w : World) : Prop := ∃ v1 v2 xs, e = .returned (.agg #[v1, v2, .int .i64 now, .int .i64 C]) ∧ xs.map (·.1) = rs ∧ LgO base xs lv v1 v2 w
theorem LgA.ill (base : Nat) (C : Int) (w : World) : LgA base [] [] 0 C (.returned (.agg #[.slice none 0 0, .slice none 0 0, .int .i64 0, .int .i64 C])) w := ⟨_, _, [], rfl, rfl, LgO.nil _ _⟩
def mxB (a b : Int) : Int := if a < b then b else a
def ltB (rs : List Rw) (lv : List ByteArray) (now t : Int) : Bool := lgB rs lv now && timeB t
def ltC (rs : List Rw) (lv : List ByteArray) (now t : Int) : Int := if ltB rs lv now t = true then 0 else 1
def ltmR (rs : List Rw) (lv : List ByteArray) (now t : Int) : List Rw := if ltB rs lv now t = true then rs else []
def ltL (rs : List Rw) (lv : List ByteArray) (now t : Int) : List ByteArray := if ltB rs lv now t = true then lv else []
def ltN (rs : List Rw) (lv : List ByteArray) (now t : Int) : Int := if ltB rs lv now t = true then mxB now t else 0
/-- The log's box and the answer's, as LogTime begins. -/
structure LtB (w : World) (q : Option Addr) (n cq : Nat) (p : Option Addr) (m cp : Nat) (now : Int) (x : World) : Prop where
  lg : Bxs x w.heap.size 26 #[.slice q n cq, .slice p m cp, .int .i64 now]
  rs : Bxs x (w.heap.size + 1) 33 #[.slice none 0 0, .slice none 0 0, .int .i64 0, .int .i64 0]
  bel : Below w.heap.size w x
theorem LtB.below {w x y : World} {q : Option Addr} {n cq : Nat} {p : Option Addr} {m cp : Nat} {now : Int} (h : LtB w q n cq p m cp now x) (hb : Below x.heap.size x y) : LtB w q n cq p m cp now y := ⟨h.lg.below hb, h.rs.below hb, chainB h.bel hb⟩
theorem LtB.thr {w x : World} {q : Option Addr} {n cq : Nat} {p : Option Addr} {m cp : Nat} {now : Int} (h : LtB w q n cq p m cp now x) : x.cell? ⟨w.heap.size, 0, none⟩ = some (.slice q n cq) ∧ x.cell? ⟨w.heap.size, 1, none⟩ = some (.slice p m cp) ∧ x.cell? ⟨w.heap.size, 2, none⟩ = some (.int .i64 now) := ⟨h.lg.cell 0, h.lg.cell 1, h.lg.cell 2⟩
theorem LtB.res {w x : World} {q : Option Addr} {n cq : Nat} {p : Option Addr} {m cp : Nat} {now : Int} (h : LtB w q n cq p m cp now x) : x.cell? ⟨w.heap.size + 1, 0, none⟩ = some (.slice none 0 0) ∧ x.cell? ⟨w.heap.size + 1, 1, none⟩ = some (.slice none 0 0) ∧ x.cell? ⟨w.heap.size + 1, 2, none⟩ = some (.int .i64 0) ∧ x.cell? ⟨w.heap.size + 1, 3, none⟩ = some (.int .i64 0) ∧ x.frozen? ⟨w.heap.size + 1, 0, none⟩ = false ∧ x.frozen? ⟨w.heap.size + 1, 1, none⟩ = false ∧ x.frozen? ⟨w.heap.size + 1, 2, none⟩ = false ∧ x.frozen? ⟨w.heap.size + 1, 3, none⟩ = false := ⟨h.rs.cell 0, h.rs.cell 1, h.rs.cell 2, h.rs.cell 3, h.rs.fr 0, h.rs.fr 1, h.rs.fr 2, h.rs.fr 3⟩
/-- The answer is written into its box: what a log of its own is stays one. -/
theorem LtB.put {w x y : World} {base : Nat} {q : Option Addr} {n cq : Nat} {p : Option Addr} {m cp : Nat} {now : Int} (h : Bxs x (w.heap.size + 1) 33 #[.slice none 0 0, .slice none 0 0, .int .i64 0, .int .i64 0]) (hb : Below w.heap.size w x) {xs : List (Rw × Value)} {lv : List ByteArray} {v1 v2 : Value} (o : LgO base xs lv v1 v2 x) (u0 u1 u2 u3 : Value) :
    Bxs ((((x.setCell ⟨w.heap.size + 1, 0, none⟩ u0).setCell ⟨w.heap.size + 1, 1, none⟩ u1).setCell ⟨w.heap.size + 1, 2, none⟩ u2).setCell ⟨w.heap.size + 1, 3, none⟩ u3) (w.heap.size + 1) 33 #[u0, u1, u2, u3] ∧ LgO base xs lv v1 v2 ((((x.setCell ⟨w.heap.size + 1, 0, none⟩ u0).setCell ⟨w.heap.size + 1, 1, none⟩ u1).setCell ⟨w.heap.size + 1, 2, none⟩ u2).setCell ⟨w.heap.size + 1, 3, none⟩ u3) ∧ Below w.heap.size w ((((x.setCell ⟨w.heap.size + 1, 0, none⟩ u0).setCell ⟨w.heap.size + 1, 1, none⟩ u1).setCell ⟨w.heap.size + 1, 2, none⟩ u2).setCell ⟨w.heap.size + 1, 3, none⟩ u3) :=
  ⟨(((h.set 0 _).set 1 _).set 2 _).set 3 _, (((o.box h (by decide) (by decide) (by decide) (set_grw x _ 0 u0)).box (h.set 0 u0) (by decide) (by decide) (by decide) (set_grw _ _ 1 u1)).box ((h.set 0 u0).set 1 u1) (by decide) (by decide) (by decide) (set_grw _ _ 2 u2)).box (((h.set 0 u0).set 1 u1).set 2 u2) (by decide) (by decide) (by decide) (set_grw _ _ 3 u3), below_set4 hb (by omega) _ _ _ _⟩
theorem lt_boxes (w : World) (q : Option Addr) (n cq : Nat) (p : Option Addr) (m cp : Nat) (now : Int) {W2 : World} (h : W2 = (w.alloc (.cells #[.slice q n cq, .slice p m cp, .int .i64 now] 26)).alloc (.cells #[.slice none 0 0, .slice none 0 0, .int .i64 0, .int .i64 0] 33)) : LtB w q n cq p m cp now W2 := by
  subst h
  have h := Bxs.new (w.alloc (.cells #[.slice q n cq, .slice p m cp, .int .i64 now] 26)) 33 #[.slice none 0 0, .slice none 0 0, .int .i64 0, .int .i64 0]
  rw [szA] at h
  exact ⟨(Bxs.new _ _ _).alloc _, h, alB ((Below.refl _ _).alloc (Nat.le_refl _) _) _⟩
end Go.Proofs.YtepmoihgemhjcaaGreatDoor
/-
  What LogAdd answers (plain); a leaf more in a log of its own; is a row fresh.
-/
namespace Go.Proofs.YtepmoihgemhjcaaGreatDoor
open Go.RowKit Go.Lib
set_option linter.unusedVariables false
set_option maxRecDepth 20000

/-- Nothing of it is gone. -/
def frsB (fs : List Fld) : Bool := fs.all fun f => !f.g
theorem frs_true {fs : List Fld} (h : ∀ j (h : j < fs.length), fs[j].g = false) : frsB fs = true := by
  unfold frsB
  rw [List.all_eq_true]
  intro x hx
  obtain ⟨j, hj, rfl⟩ := List.getElem_of_mem hx
  rw [h j hj]; rfl
theorem frs_false {fs : List Fld} {k : Nat} (hk : k < fs.length) (h : fs[k].g = true) : frsB fs = false := by
  unfold frsB
  rw [List.all_eq_false]
  exact ⟨_, List.getElem_mem hk, by rw [h]; simp⟩
def laK (rs : List Rw) (lv : List ByteArray) (now : Int) (r : Rw) : Bool := lgB rs lv now && (rwB r.k r.a r.fs && (frsB r.fs && (r.a == now)))
def laC (rs : List Rw) (lv : List ByteArray) (now : Int) (r : Rw) : Int := if laK rs lv now r = true then (if rs.length = 6 then 9 else 0) else 1
def laR (rs : List Rw) (lv : List ByteArray) (now : Int) (r : Rw) : List Rw := if laC rs lv now r = 0 then rs ++ [r] else []
def laL (rs : List Rw) (lv : List ByteArray) (now : Int) (r : Rw) : List ByteArray := if laC rs lv now r = 0 then lv ++ [lfB r.k r.a r.fs] else []
def laN (rs : List Rw) (lv : List ByteArray) (now : Int) (r : Rw) : Int := if laC rs lv now r = 0 then now else 0
theorem la_bad {rs : List Rw} {lv : List ByteArray} {now : Int} {r : Rw} {C : Int} (h : laC rs lv now r = C) (hC : C ≠ 0) : laR rs lv now r = [] ∧ laL rs lv now r = [] ∧ laN rs lv now r = 0 := by
  unfold laR laL laN
  rw [h]
  exact ⟨if_neg hC, if_neg hC, if_neg hC⟩
theorem la_good {rs : List Rw} {lv : List ByteArray} {now : Int} {r : Rw} (h : laC rs lv now r = 0) : laR rs lv now r = rs ++ [r] ∧ laL rs lv now r = lv ++ [lfB r.k r.a r.fs] ∧ laN rs lv now r = now := by
  unfold laR laL laN
  rw [h]
  exact ⟨if_pos rfl, if_pos rfl, if_pos rfl⟩
/-- One more leaf. -/
theorem LgC.leaf {W : World} {E : Nat} {xs : List (Rw × Value)} {lv : List ByteArray} {now : Int} {v1 v2 : Value} {x : World} (h : LgC W E xs lv now v1 v2 x) (t : ByteArray) (hl : lv.length + 1 ≤ 1048576) :
    ∃ g c y, (Builtin.append_ #[24, 24] 24 #[v2, .slice (some ⟨x.heap.size, 0, none⟩) 1 1]).run Tryz.prog (x.alloc (.cells #[.string t] 9)) = .ok (.slice (some ⟨g, 0, none⟩) (lv.length + 1) c) y ∧ LgC W E xs (lv ++ [t]) now v1 (.slice (some ⟨g, 0, none⟩) (lv.length + 1) c) (y.setCell ⟨E, 1, none⟩ (.slice (some ⟨g, 0, none⟩) (lv.length + 1) c)) ∧ Below W.heap.size W y ∧ y.cell? ⟨E, 1, none⟩ = some v2 ∧ y.frozen? ⟨E, 1, none⟩ = false ∧ (x.alloc (.cells #[.string t] 9)).grownBy y v2.ownBlock := by
  have hal := (Below.refl x.heap.size x).alloc (Nat.le_refl _) (.cells #[.string t] 9)
  have H := h.below hal
  obtain ⟨g, c, y, h1, h2, h3, h4⟩ := app_str x W.heap.size v2 lv h.lg.lvs t hl h.bel.size
  have kb : Bxs y E 26 #[v1, v2, .int .i64 now] := H.box.grown h3 (fun e => own_box H.lg.lvs H.box (by decide) e.symm)
  have hr : RwsO W.heap.size xs v1 y := H.lg.rws.kept h3 (own_apart H.lg.rws.own H.lg.lvs (by decide)) (fun z hz => own_apart (H.lg.rws.fld z hz) H.lg.lvs (by decide))
  have hby : Below W.heap.size W y := H.bel.grown h3 H.bel.size (fun j hj => (H.lg.lvs.lt j hj).1)
  have ho : LgO W.heap.size xs (lv ++ [t]) v1 (.slice (some ⟨g, 0, none⟩) (lv.length + 1) c) y := ⟨hr, by simpa using h2⟩
  exact ⟨g, c, y, h1, ⟨kb.set 1 _, ho.box kb (by decide) (by decide) (by decide) (set_grw y E 1 _), h.eb, below_cel hby h.eb 1 _⟩, hby, kb.cell 1, kb.fr 1, h3⟩
set_option maxHeartbeats 1000000 in
theorem anyGone_any (k : ByteArray) (a : Int) (q : Option Addr) (c : Nat) (fs : List Fld) (w : World) (hf : FldAt w q fs) (hn : fs.length ≤ 1048576) (hc : fs.length ≤ c) :
    Calls Tryz.prog 59 #[.agg #[.string k, .int .i64 a, .slice q fs.length c]] w fun e w' => e = .returned (.bool (!frsB fs)) ∧ Below w.heap.size w w' := by
  have HF : Hid (∀ x, Below w.heap.size w x → FldAt x q fs) := fun x hx => hf.below hx
  obtain ⟨W1, hW1⟩ : ∃ W1, W1 = w.alloc (.cells #[.string k, .int .i64 a, .slice q fs.length c] 29) := ⟨_, rfl⟩
  have HW1 : Hid (W1 = w.alloc (.cells #[.string k, .int .i64 a, .slice q fs.length c] 29)) := hW1
  have B1 : Hid (Below w.heap.size w W1) := by rw [hW1]; exact (Below.refl _ _).alloc (Nat.le_refl _) _
  have K1 : Bxs W1 w.heap.size 29 #[.string k, .int .i64 a, .slice q fs.length c] := by rw [hW1]; exact Bxs.new _ _ _
  have t2 : W1.cell? ⟨w.heap.size, 2, none⟩ = some (.slice q fs.length c) := K1.cell 2
  clear hW1 K1 hf
  go_enter Tryz.func59, Tryz.ntmps59
  go_upto_region 1 with fail
  rw [← HW1.out]
  go_wp2_with fail
  go_loopw [8] (fun i wr => ∃ k : Nat, k ≤ fs.length ∧ i = .int .i64 k ∧ Hid (∀ j (h : j < fs.length), j < k → fs[j].g = false) ∧ Hid (Below w.heap.size w wr)) (fun i _ => fs.length - (Go.RowKit.intOf i).toNat)
  case atStart => exact ⟨0, Nat.zero_le _, rfl, fun j h hk => by omega, B1.out⟩
  case round =>
    obtain ⟨k, hk, rfl, HK, HB⟩ := hrel
    by_cases hlt : k < fs.length
    · have i1 : (k : Int) < fs.length := by omega
      obtain ⟨b, off, rfl, hb, c0, c1, c2, c3, c4⟩ := HF.out wr HB.out k hlt
      cases hg : fs[k].g with
      | true =>
        have HR : Hid (frsB fs = false) := frs_false hlt hg
        rw [hg] at c4
        go_wp2_with fail
        go_ret
        exact ⟨ret_bool (by rw [HR.out]; rfl), alB HB.out _⟩
      | false =>
        rw [hg] at c4
        have HK2 : Hid (∀ j (h : j < fs.length), j < k + 1 → fs[j].g = false) := fun j h hj => if he : j = k then by subst he; exact hg else HK.out j h (by omega)
        have HB2 : Hid (∀ o, Below w.heap.size w (wr.alloc o)) := fun o => alB HB.out _
        clear hg
        go_wp2_with fail
        go_roundw
        case rel => exact ⟨k + 1, by omega, by go_num, HK2, HB2.out _⟩
        case measure => simp [Go.RowKit.intOf]; omega
    · obtain rfl : k = fs.length := by omega
      have HR : Hid (frsB fs = true) := frs_true (fun j h => HK.out j h h)
      go_wp2_with fail
      go_ret
      exact ⟨ret_bool (by rw [HR.out]; rfl), HB.out⟩
set_option maxHeartbeats 1000000 in
theorem l09Fresh_any (k : ByteArray) (a : Int) (q : Option Addr) (c : Nat) (fs : List Fld) (w : World) (hf : FldAt w q fs) (hn : fs.length ≤ 1048576) (hc : fs.length ≤ c) :
    Calls Tryz.prog 73 #[.agg #[.string k, .int .i64 a, .slice q fs.length c]] w fun e w' => e = .returned (.bool (frsB fs)) ∧ Below w.heap.size w w' := by
  obtain ⟨W1, hW1⟩ : ∃ W1, W1 = w.alloc (.cells #[.string k, .int .i64 a, .slice q fs.length c] 29) := ⟨_, rfl⟩
  have HW1 : Hid (W1 = w.alloc (.cells #[.string k, .int .i64 a, .slice q fs.length c] 29)) := hW1
  have B1 : Hid (Below w.heap.size w W1) := by rw [hW1]; exact (Below.refl _ _).alloc (Nat.le_refl _) _
  have K1 : Bxs W1 w.heap.size 29 #[.string k, .int .i64 a, .slice q fs.length c] := by rw [hW1]; exact Bxs.new _ _ _
  have t2 : W1.cell? ⟨w.heap.size, 2, none⟩ = some (.slice q fs.length c) := K1.cell 2
  have HF : Hid (FldAt W1 q fs) := hf.below B1.out
  clear hW1 K1 hf
  go_enter Tryz.func73, Tryz.ntmps73
  go_upto_region 1 with fail
  rw [← HW1.out]
  go_wp2_with fail
  go_loop [3] (fun i => ∃ k : Nat, k ≤ fs.length ∧ i = .int .i64 k ∧ Hid (∀ j (h : j < fs.length), j < k → fs[j].g = false)) (fun i => fs.length - (Go.RowKit.intOf i).toNat)
  case atStart => exact ⟨0, Nat.zero_le _, rfl, fun j h hk => by omega⟩
  case round =>
    obtain ⟨k, hk, rfl, HK⟩ := hrel
    by_cases hlt : k < fs.length
    · have i1 : (k : Int) < fs.length := by omega
      obtain ⟨b, off, rfl, hb, c0, c1, c2, c3, c4⟩ := HF.out k hlt
      cases hg : fs[k].g with
      | true =>
        have HR : Hid (frsB fs = false) := frs_false hlt hg
        rw [hg] at c4
        go_wp2_with fail
        go_ret
        exact ⟨ret_bool (by rw [HR.out]), B1.out⟩
      | false =>
        rw [hg] at c4
        have HK2 : Hid (∀ j (h : j < fs.length), j < k + 1 → fs[j].g = false) := fun j h hj => if he : j = k then by subst he; exact hg else HK.out j h (by omega)
        clear hg
        go_wp2_with fail
        go_round
        case rel => exact ⟨k + 1, by omega, by go_num, HK2⟩
        case measure => simp [Go.RowKit.intOf]; omega
    · obtain rfl : k = fs.length := by omega
      have HR : Hid (frsB fs = true) := frs_true (fun j h => HK.out j h h)
      go_wp2_with fail
      go_ret
      exact ⟨ret_bool (by rw [HR.out]), B1.out⟩
end Go.Proofs.YtepmoihgemhjcaaGreatDoor
/-
  What LogForget answers (plain); a row of a log of its own is written.
-/
namespace Go.Proofs.YtepmoihgemhjcaaGreatDoor
open Go.RowKit Go.Lib
set_option linter.unusedVariables false
set_option maxRecDepth 20000

/-- The row with that field forgotten. -/
def fgt (rs : List Rw) (r f : Int) : Rw := ⟨(rs.getD r.toNat rwZ).k, (rs.getD r.toNat rwZ).a, (rs.getD r.toNat rwZ).fs.set f.toNat (goneF ((rs.getD r.toNat rwZ).fs.getD f.toNat fldD))⟩
def lfC (rs : List Rw) (lv : List ByteArray) (now r f y : Int) : Int := if (lgB rs lv now && decide (1 ≤ y ∧ y ≤ 2)) = true then fcO rs r f else 1
def lfR (rs : List Rw) (lv : List ByteArray) (now r f y : Int) : List Rw := if lfC rs lv now r f y = 0 then rs.set r.toNat (fgt rs r f) else []
def lfL (rs : List Rw) (lv : List ByteArray) (now r f y : Int) : List ByteArray := if lfC rs lv now r f y = 0 then lv ++ [tmRaw ⟨r, f, y, now⟩] else []
def lfN (rs : List Rw) (lv : List ByteArray) (now r f y : Int) : Int := if lfC rs lv now r f y = 0 then now else 0
theorem lf_bad {rs : List Rw} {lv : List ByteArray} {now r f y C : Int} (h : lfC rs lv now r f y = C) (hC : C ≠ 0) : lfR rs lv now r f y = [] ∧ lfL rs lv now r f y = [] ∧ lfN rs lv now r f y = 0 := by
  unfold lfR lfL lfN
  rw [h]
  exact ⟨if_neg hC, if_neg hC, if_neg hC⟩
theorem lf_good {rs : List Rw} {lv : List ByteArray} {now r f y : Int} (h : lfC rs lv now r f y = 0) : lfR rs lv now r f y = rs.set r.toNat (fgt rs r f) ∧ lfL rs lv now r f y = lv ++ [tmRaw ⟨r, f, y, now⟩] ∧ lfN rs lv now r f y = now := by
  unfold lfR lfL lfN
  rw [h]
  exact ⟨if_pos rfl, if_pos rfl, if_pos rfl⟩
theorem getD_row {rs : List Rw} {I : Nat} (hI : I < rs.length) : rs.getD (I : Int).toNat rwZ = rs[I] := by
  rw [Int.toNat_natCast, List.getD_eq_getElem?_getD, List.getElem?_eq_getElem hI]; rfl
theorem fc_zero {rs : List Rw} {r f : Int} (h : fcO rs r f = 0) : ∃ (I J : Nat) (hI : I < rs.length) (hJ : J < rs[I].fs.length), r = I ∧ f = J ∧ rs[I].fs[J].g = false := by
  unfold fcO at h
  by_cases h1 : 0 ≤ r ∧ r ≤ (rs.length : Int) - 1
  · rw [if_pos h1] at h
    obtain ⟨I, rfl⟩ := Int.eq_ofNat_of_zero_le h1.1
    have hI : I < rs.length := by omega
    by_cases h2 : 0 ≤ f ∧ f ≤ ((rs.getD (I : Int).toNat rwZ).fs.length : Int) - 1
    · rw [if_pos h2] at h
      rw [getD_row hI] at h2
      obtain ⟨J, rfl⟩ := Int.eq_ofNat_of_zero_le h2.1
      have hJ : J < rs[I].fs.length := by omega
      refine ⟨I, J, hI, hJ, rfl, rfl, ?_⟩
      have e2 : fldOf rs I J = rs[I].fs[J] := by
        unfold fldOf
        rw [getD_row hI, Int.toNat_natCast, List.getD_eq_getElem?_getD, List.getElem?_eq_getElem hJ]; rfl
      rw [e2] at h
      cases hg : rs[I].fs[J].g with
      | false => rfl
      | true => rw [hg] at h; simp at h
    · rw [if_neg h2] at h; omega
  · rw [if_neg h1] at h; omega
theorem fgt_eq {rs : List Rw} {I J : Nat} (hI : I < rs.length) (hJ : J < rs[I].fs.length) : fgt rs I J = ⟨rs[I].k, rs[I].a, rs[I].fs.set J (goneF rs[I].fs[J])⟩ := by
  unfold fgt
  rw [getD_row hI, Int.toNat_natCast, List.getD_eq_getElem?_getD, List.getElem?_eq_getElem hJ]; rfl
theorem forget_post {k : ByteArray} {a : Int} {fs : List Fld} {J : Nat} (hr : rwB k a fs = true) (hJ : J < fs.length) (hg : fs[J].g = false) : fgC k a fs J = 0 ∧ fgK k a fs J = k ∧ fgA k a fs J = a ∧ fgF k a fs J = fs.set J (goneF fs[J]) := by
  have e : fs.getD (J : Int).toNat fldD = fs[J] := by rw [Int.toNat_natCast, List.getD_eq_getElem?_getD, List.getElem?_eq_getElem hJ]; rfl
  have hC : fgC k a fs J = 0 := by
    unfold fgC
    rw [if_pos hr, if_pos (by omega), e, hg]; rfl
  refine ⟨hC, ?_, ?_, ?_⟩
  · unfold fgK; rw [hC]; rfl
  · unfold fgA; rw [hC]; rfl
  · unfold fgF; rw [hC, e, Int.toNat_natCast]; rfl
theorem lg_tomb {rs : List Rw} {lv : List ByteArray} {now y : Int} {I J : Nat} (h : lgB rs lv now = true) (hI : I < rs.length) (hJ : J < rs[I].fs.length) (hy : 1 ≤ y ∧ y ≤ 2) : tmB ⟨I, J, y, now⟩ = true := by
  obtain ⟨h1, h2, h3⟩ := lg_right h
  have h4 := (rwB_parts (k := rs[I].k) (at_ := rs[I].a) (fs := rs[I].fs) (h3 _ (List.getElem_mem hI))).2.2.1
  unfold lgB timeB at h
  simp only [Bool.and_eq_true, decide_eq_true_iff] at h
  rw [tmB_iff]
  show ((0 : Int) ≤ I ∧ (I : Int) ≤ 63) ∧ ((0 : Int) ≤ J ∧ (J : Int) ≤ 2) ∧ (1 ≤ y ∧ y ≤ 2) ∧ (0 ≤ now ∧ now ≤ 1000000)
  exact ⟨by omega, by omega, hy, h.2.2.1⟩
theorem own_set3 {w : World} {base b n cc : Nat} {l : List Rc} (h : w.ownsRow base 29 3 (.slice (some ⟨b, 0, none⟩) n cc) n (rcRow l)) (i : Nat) (x : Rc) : (set3 w b (i * 3) x).ownsRow base 29 3 (.slice (some ⟨b, 0, none⟩) n cc) n (rcRow (l.set i x)) := by
  have h1 := (h.stored (i * 3) (.string x.k)).1
  have h2 := (h1.stored (i * 3 + 1) (.int .i64 x.a)).1
  have h3 := (h2.stored (i * 3 + 2) x.v).1
  rw [rcRow_set] at h3
  exact h3
theorem set3_grw (x : World) (g i : Nat) (v : Rc) : x.grownBy (set3 x g i v) (some g) := by
  refine ⟨rfl, rfl, rfl, by simp [set3, World.setCell], fun q hq hne => ?_⟩
  have hq' : g ≠ q := fun e => hne (by rw [e])
  simp [set3, World.setCell, Array.getElem?_modify, hq']
theorem RwsO.some_of {base : Nat} {xs : List (Rw × Value)} {v : Value} {w : World} (h : RwsO base xs v w) (h0 : 0 < xs.length) : ∃ g c, v = .slice (some ⟨g, 0, none⟩) xs.length c := by
  rcases h.own.2 with ⟨h1, h2⟩ | ⟨g, cap, cur, h1, _⟩
  · omega
  · exact ⟨g, cap, h1⟩
theorem set_fst (xs : List (Rw × Value)) (I : Nat) (r : Rw) (v : Value) : (xs.set I (r, v)).map (·.1) = (xs.map (·.1)).set I r := by rw [List.map_set]
section
variable {W x x' : World} {E g c : Nat} {xs : List (Rw × Value)} {lv : List ByteArray} {now : Int} {v2 : Value}
theorem LgC.rowv (h : LgC W E xs lv now (.slice (some ⟨g, 0, none⟩) xs.length c) v2 x) (I : Nat) (hI : I < xs.length) : ∃ q0 c0, xs[I].2 = .slice q0 xs[I].1.fs.length c0 ∧ xs[I].1.fs.length ≤ c0 := by
  obtain ⟨q', c', hq, hcc, hf⟩ := ownF_form (h.lg.rws.fld _ (List.getElem_mem hI))
  exact ⟨q', c', hq, hcc⟩
theorem LgC.row (h : LgC W E xs lv now (.slice (some ⟨g, 0, none⟩) xs.length c) v2 x) (I : Nat) (hI : I < xs.length) {q0 : Option Addr} {c0 : Nat} {X : Rw} (hX : xs[I].1 = X) (hv : xs[I].2 = .slice q0 X.fs.length c0) : (x.cell? ⟨g, I * 3, none⟩ = some (.string X.k) ∧ x.cell? ⟨g, I * 3 + 1, none⟩ = some (.int .i64 X.a) ∧ x.cell? ⟨g, I * 3 + 2, none⟩ = some (.slice q0 X.fs.length c0)) ∧ x.frozen? ⟨g, I * 3, none⟩ = false ∧ x.frozen? ⟨g, I * 3 + 1, none⟩ = false ∧ x.frozen? ⟨g, I * 3 + 2, none⟩ = false ∧ FldAt x q0 X.fs := by
  subst hX
  have own := h.lg.rws.own
  have hl := rcV_len xs
  have hr := rcRow_at (xs.map rcV) I (by simpa using hI)
  rw [← own.cellAt (I * 3) (by omega), ← own.cellAt (I * 3 + 1) (by omega), ← own.cellAt (I * 3 + 2) (by omega)] at hr
  have ev : (xs.map rcV)[I]'(by simpa using hI) = ⟨xs[I].1.k, xs[I].1.a, .slice q0 xs[I].1.fs.length c0⟩ := by rw [List.getElem_map]; unfold rcV; rw [hv]
  rw [ev] at hr
  obtain ⟨q', c', hq, hcc, hf⟩ := ownF_form (h.lg.rws.fld _ (List.getElem_mem hI))
  rw [hv] at hq
  cases hq
  exact ⟨hr, own.frozenAt _, own.frozenAt _, own.frozenAt _, hf⟩
/-- A row of it is written: its fields came later than all that is there. -/
theorem LgC.setRow (h : LgC W E xs lv now (.slice (some ⟨g, 0, none⟩) xs.length c) v2 x) (hx : Below x.heap.size x x') (I : Nat) (hI : I < xs.length) (r : Rw) (q : Option Addr) (d : Nat) (hf : x'.ownsRow x.heap.size 103 5 (.slice q r.fs.length d) r.fs.length (fldRow r.fs)) : LgC W E (xs.set I (r, .slice q r.fs.length d)) lv now (.slice (some ⟨g, 0, none⟩) xs.length c) v2 (set3 x' g (I * 3) ⟨r.k, r.a, .slice q r.fs.length d⟩) := by
  have H := h.below hx
  have hg := (H.lg.rws.own.lt g rfl).1
  have gr := set3_grw x' g (I * 3) ⟨r.k, r.a, .slice q r.fs.length d⟩
  have own2 := own_set3 H.lg.rws.own I ⟨r.k, r.a, .slice q r.fs.length d⟩
  have e0 : (xs.map rcV).set I ⟨r.k, r.a, .slice q r.fs.length d⟩ = (xs.set I (r, .slice q r.fs.length d)).map rcV := by rw [List.map_set]; rfl
  rw [e0] at own2
  have hW := h.bel.size
  have hxz := hx.size
  have old : ∀ z ∈ xs, ∀ j, z.2.ownBlock = some j → j < x.heap.size := fun z hz j hj => ((h.lg.rws.lt.2 z hz) j hj).2
  have new : ∀ j, (Value.slice q r.fs.length d).ownBlock = some j → x.heap.size ≤ j := fun j hj => (hf.lt j hj).1
  refine ⟨set3_other H.box (fun e => own_box H.lg.rws.own H.box (by decide) (by rw [e]; rfl)) _, ⟨⟨by rw [List.length_set]; exact own2, fun z hz => ?_, ?_⟩, H.lg.lvs.kept gr (own_apart H.lg.lvs H.lg.rws.own (by decide))⟩, h.eb, set3_below H.bel hg _ _⟩
  · rcases List.mem_or_eq_of_mem_set hz with hz | rfl
    · exact (H.lg.rws.fld z hz).kept gr (own_apart (H.lg.rws.fld z hz) H.lg.rws.own (by decide))
    · exact (own_low hf hW).kept gr (own_apart hf H.lg.rws.own (by decide))
  · rw [List.pairwise_iff_getElem]
    intro i j hi hj hij
    rw [List.length_set] at hi hj
    have hp := List.pairwise_iff_getElem.1 H.lg.rws.ne i j hi hj hij
    rw [List.getElem_set, List.getElem_set]
    split
    · rename_i h1
      rw [if_neg (by omega)]
      cases hb : (Value.slice q r.fs.length d).ownBlock with
      | none => exact .inl rfl
      | some b =>
        refine .inr (fun e => ?_)
        have := new b hb
        have := old _ (List.getElem_mem hj) b e.symm
        omega
    · split
      · rename_i h1 h2
        cases hb : (xs[i]).2.ownBlock with
        | none => exact .inl rfl
        | some b =>
          refine .inr (fun e => ?_)
          have := old _ (List.getElem_mem hi) b hb
          have := new b e.symm
          omega
      · exact hp
end
end Go.Proofs.YtepmoihgemhjcaaGreatDoor
/-
  One operation of a drawing region taken by hand, where the region's LAST operation (a store, which waits for all others) ends what held of the world till then: the condition is asked behind every operation but that one.
-/
namespace Go.Proofs.YtepmoihgemhjcaaGreatDoor
open Go.RowKit Go.Lib
set_option linter.unusedVariables false

/-- In whatever order, and S holds behind every operation but number l. -/
def AnyTill (P : Program) (md : Region.Mode) (ops : Array Oper) (Q : Exit → Act → World → Prop) (S : World → Prop) (l : Nat) : Nat → Array Bool → Act → World → Prop
  | 0, listed, a, w => Region.ready md ops listed = [] ∧ Q .normal a w
  | n + 1, listed, a, w => (Region.ready md ops listed = [] → Q .normal a w) ∧ ∀ i ∈ Region.ready md ops listed, wpOp P ops Q i (fun a' w' => (i ≠ l → S w') ∧ AnyTill P md ops Q S l n (listed.setIfInBounds i true) a' w') a w
/-- Number l waits for number i. -/
def waitsFor (md : Region.Mode) (ops : Array Oper) (l i : Nat) : Bool := match ops[l]? with
  | some x => x.after.any (fun e => Region.binds md e && e.on == i)
  | none => false
section
variable {P : Program} {ops : Array Oper} {Q : Exit → Act → World → Prop} {md : Region.Mode} {S : World → Prop} {l : Nat}
theorem AnyTill.any : ∀ (n : Nat) (listed : Array Bool) (a : Act) (w : World), AnyTill P md ops Q S l n listed a w → wpAny P md ops Q n listed a w
  | 0, _, _, _, h => h
  | n + 1, _, _, _, h => ⟨h.1, fun i hi => wpOp_mono (fun a' w' k => AnyTill.any n _ a' w' k.2) (h.2 i hi)⟩
theorem AnyTill.first {i : Nat} {o : Oper} {v : Value} (hi : ops[i]? = some o) (hsel : ∀ (j : Nat) (x : Oper) cs b, ops[j]? = some x → x.op ≠ .select cs b) (hQ : ∀ c a w, Q (.panic c) (a.put o.dst v) w → Q (.panic c) a w) (hl : waitsFor md ops l i = true) (n : Nat) :
    ∀ (listed : Array Bool) (a : Act) (w : World), (∀ j x, ops[j]? = some x → j ≠ i → listed.getD j true = false → (∀ e ∈ x.after, Region.binds md e = true → e.on ≠ i) → o.apart ops x = true) →
      i ∈ Region.ready md ops listed → YieldsIf P ops S o v a → S w → AnyTill P md ops Q S l n (listed.setIfInBounds i true) (a.put o.dst v) w → AnyTill P md ops Q S l (n + 1) listed a w := by
  induction n with
  | zero =>
    intro listed a w _ hr hy hS H
    refine ⟨fun h0 => absurd (h0 ▸ hr) (by simp), fun j hj => ?_⟩
    by_cases hji : j = i
    · subst hji; exact hy.wpOp hi hS ⟨fun _ => hS, H⟩
    · exact absurd (H.1 ▸ ready_mono hj hji) (by simp)
  | succ n ih =>
    intro listed a w hfree hr hy hS H
    refine ⟨fun h0 => absurd (h0 ▸ hr) (by simp), fun j hj => ?_⟩
    by_cases hji : j = i
    · subst hji; exact hy.wpOp hi hS ⟨fun _ => hS, H⟩
    obtain ⟨hun, x, hx, hall⟩ := mem_ready.1 hj
    have hnot : ∀ e ∈ x.after, Region.binds md e = true → e.on ≠ i := fun e he hb heq => by
      have h1 := hall e he hb
      have h0 := (mem_ready.1 hr).1
      rw [heq] at h1
      rcases Nat.lt_or_ge i listed.size with q | q
      · simp [q] at h0 h1; rw [h0] at h1; cases h1
      · simp [Array.getElem?_eq_none q] at h1
    have hjl : j ≠ l := by
      rintro rfl
      unfold waitsFor at hl
      rw [hx] at hl
      simp only [Array.any_eq_true] at hl
      obtain ⟨k, hk, he⟩ := hl
      rw [Bool.and_eq_true, beq_iff_eq] at he
      exact hnot _ (Array.getElem_mem hk) he.1 he.2
    have hfree' : ∀ k y, ops[k]? = some y → k ≠ i → (listed.setIfInBounds j true).getD k true = false → (∀ e ∈ y.after, Region.binds md e = true → e.on ≠ i) → o.apart ops y = true := fun k y hk hki hu hno => by
      refine hfree k y hk hki ?_ hno
      by_cases hjk : j = k
      · subst hjk; exact hun
      · rwa [getD_set_ne true hjk] at hu
    have step := wpOp_putIf hx (hfree j x hx hji hun hnot) (fun cs b => hsel i o cs b hi) (fun cs b => hsel j x cs b hx) hQ hy (H.2 j (ready_mono hj hji))
    refine wpOp_mono (fun a' w' k => ?_) step
    obtain ⟨ky, kS, kH⟩ := k
    exact ⟨kS, ih _ a' w' hfree' (ready_mono hr (Ne.symm hji)) ky (kS hjl) (by rw [Array.setIfInBounds_comm _ _ hji]; exact kH)⟩
theorem till_take (i : Nat) {oi : Oper} {v : Value} {fuel : Nat} {listed : Array Bool} {a : Act} {w : World} (hi : ops.toList[i]? = some oi)
    (hs : Region.noSelect ops = true) (hf : Region.free md ops listed i = true) (hr : (Region.ready md ops listed).contains i = true) (hl : waitsFor md ops l i = true)
    (hQ : ∀ c a w, Q (.panic c) (a.put oi.dst v) w → Q (.panic c) a w) (hS : S w) (hy : YieldsIf P ops S oi v a)
    (h : AnyTill P md ops Q S l fuel (listed.setIfInBounds i true) (a.put oi.dst v) w) : AnyTill P md ops Q S l (fuel + 1) listed a w :=
  AnyTill.first (by rw [← hi]; simp) (Region.noSelect_spec hs) hQ hl fuel listed a w (Region.free_spec (by rw [← hi]; simp) hf) (by simpa using hr) hy hS h
theorem till_ready (i : Nat) {o : Oper} {fuel : Nat} {listed : Array Bool} {a : Act} {w : World} (hi : ops.toList[i]? = some o) (hr : Region.ready md ops listed = [i])
    (h : ∀ K' : Act → World → Prop, Shut (∀ a w, S w → (S w → AnyTill P md ops Q S l fuel (listed.setIfInBounds i true) a w) → K' a w) → if Region.wanted o (yielded ops a.tmps) = true then Oper.wp P o a w K' Q else K' (a.put o.dst undef) w) : AnyTill P md ops Q S l (fuel + 1) listed a w :=
  ⟨fun h0 => absurd (hr ▸ h0) (by simp), fun j hj => by
    obtain rfl : j = i := by rw [hr] at hj; simpa using hj
    exact wpOp_step (by rw [← hi]; simp) (fun K' hK => h K' (fun a w hS hW => hK a w ⟨fun _ => hS, hW hS⟩))⟩
theorem till_last {o : Oper} {fuel : Nat} {listed : Array Bool} {a : Act} {w : World} (hi : ops.toList[l]? = some o) (hr : Region.ready md ops listed = [l]) (hd : Region.ready md ops (listed.setIfInBounds l true) = [])
    (h : ∀ K' : Act → World → Prop, Shut (∀ a w, Q .normal a w → K' a w) → if Region.wanted o (yielded ops a.tmps) = true then Oper.wp P o a w K' Q else K' (a.put o.dst undef) w) : AnyTill P md ops Q S l (fuel + 1) listed a w :=
  ⟨fun h0 => absurd (hr ▸ h0) (by simp), fun j hj => by
    obtain rfl : j = l := by rw [hr] at hj; simpa using hj
    exact wpOp_step (by rw [← hi]; simp) (fun K' hK => h K' (fun a w hQ => hK a w ⟨fun h0 => absurd rfl h0, by
      cases fuel with
      | zero => exact ⟨hd, hQ⟩
      | succ n => exact ⟨fun _ => hQ, by rw [hd]; simp⟩⟩))⟩
theorem region_till (S : World → Prop) (l : Nat) {id : Nat} {a : Act} {w : World} (hm : P.follows .mixedOrders = true) (hS : S w.drew)
    (h : S w.drew → AnyTill P .any ops Q S l ops.size (Array.replicate ops.size false) a w.drew) : (Code.region id ops true).wp P Q a w :=
  wp_region_any hm (AnyTill.any _ _ _ _ (h hS))
end
end Go.Proofs.YtepmoihgemhjcaaGreatDoor
/-
  An append in a region that draws its order, by its run.
-/
namespace Go.Proofs.YtepmoihgemhjcaaGreatDoor
open Go.RowKit
set_option linter.unusedVariables false

theorem step_append_run {P : Program} {w : World} {ops : Array Oper} {o : Oper} {a : Act} {K : Act → World → Prop} {Q : Exit → Act → World → Prop} {E : Prop} (hgd : o.guard = none) (s x : Operand) (t : TypeId)
    (ho : o.op = .call { callee := .builtin .append, args := #[s, x], argTypes := #[t, t] }) (v1 v2 v' : Value) (w' : World) (hs : a.eval s = v1) (hx : a.eval x = v2)
    (hr : (Builtin.append_ #[t, t] o.type #[v1, v2]).run P w = .ok v' w') (h : K (a.put o.dst v') w') :
    if Region.wanted o (yielded ops a.tmps) = true then Oper.wp P o a w K Q else E := by
  have hw : Region.wanted o (yielded ops a.tmps) = true := by simp [Region.wanted, hgd]
  rw [if_pos hw]
  unfold Oper.wp execOp
  simp only [ho, resolve, invoke, builtin, Sem.run_bind, Sem.run_pure, Result.andThen_ok, List.map_toArray, List.map_cons, List.map_nil, hs, hx, hr]
  exact h
end Go.Proofs.YtepmoihgemhjcaaGreatDoor
/-
  Of two texts: not less is less the other way round, or alike.
-/
namespace Go.Proofs.YtepmoihgemhjcaaGreatDoor
open Go.RowKit
set_option linter.unusedVariables false

theorem bl_not : ∀ (x y : List UInt8), (Op.bytesLess y x || y == x) = !Op.bytesLess x y
  | [], [] => rfl
  | [], b :: y => by simp [Op.bytesLess]
  | a :: x, [] => by simp [Op.bytesLess]
  | a :: x, b :: y => by
    have ih := bl_not x y
    simp only [Op.bytesLess]
    by_cases h1 : a < b
    · have h2 : ¬ b < a := UInt8.lt_asymm h1
      have h3 : ¬ b = a := fun h => by subst h; exact UInt8.lt_irrefl _ h1
      simp [h1, h2, h3]
    · by_cases h2 : b < a
      · have h3 : ¬ a = b := fun h => by subst h; exact UInt8.lt_irrefl _ h2
        simp [h1, h2, h3]
      · have h3 : a = b := UInt8.le_antisymm (UInt8.not_lt.1 h2) (UInt8.not_lt.1 h1)
        subst h3
        simpa [h1] using ih
end Go.Proofs.YtepmoihgemhjcaaGreatDoor
/-
  One operation of a drawing region taken by hand: wanted or not, a call that stands alone.
-/
namespace Go.Proofs.YtepmoihgemhjcaaGreatDoor
open Go.RowKit Go.Lib
set_option linter.unusedVariables false

theorem take_at {P : Program} {md : Region.Mode} {ops : Array Oper} {Q : Exit → Act → World → Prop} {S : World → Prop} (i : Nat) {oi : Oper} {v : Value} {fuel : Nat} {listed : Array Bool} {a : Act} {w : World} (hi : ops.toList[i]? = some oi)
    (hs : Region.noSelect ops = true) (hf : Region.free md ops listed i = true) (hr : (Region.ready md ops listed).contains i = true)
    (hQ : ∀ c a w, Q (.panic c) (a.put oi.dst v) w → Q (.panic c) a w) (hS : S w) (hy : YieldsIf P ops S oi v a)
    (h : wpAnyH P md ops Q S fuel (listed.setIfInBounds i true) (a.put oi.dst v) w) : wpAnyH P md ops Q S (fuel + 1) listed a w :=
  wpAnyH_take (by rw [← hi]; simp) hs hf hr hQ hy hS h
theorem ready_at {P : Program} {md : Region.Mode} {ops : Array Oper} {Q : Exit → Act → World → Prop} {S : World → Prop} (i : Nat) {o : Oper} {fuel : Nat} {listed : Array Bool} {a : Act} {w : World} (hi : ops.toList[i]? = some o) (hr : Region.ready md ops listed = [i])
    (h : ∀ K' : Act → World → Prop, Shut (∀ a w, S w → (S w → wpAnyH P md ops Q S fuel (listed.setIfInBounds i true) a w) → K' a w) → if Region.wanted o (yielded ops a.tmps) = true then Oper.wp P o a w K' Q else K' (a.put o.dst undef) w) : wpAnyH P md ops Q S (fuel + 1) listed a w :=
  wpAnyH_ready hr (by simp) (AllReadyH.cons (by rw [← hi]; simp) h AllReadyH.nil)
end Go.Proofs.YtepmoihgemhjcaaGreatDoor
