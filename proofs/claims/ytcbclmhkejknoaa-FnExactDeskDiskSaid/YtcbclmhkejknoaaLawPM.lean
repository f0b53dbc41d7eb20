/-
  What the laws' own helpers do that mark pendings: markPendingS, heldPendingS, from any number on.
  Conditions: the slice owns its row, of at most 2^19 pendings.
-/
import Derived.Test.YtcbclmhkejknoaaRows
import Derived.Test.YtcbclmhkejknoaaBytes
import Derived.Test.YtcbclmhkejknoaaDigMath
import Derived.Test.YtcbclmhkejknoaaSlA
import Derived.Test.YtcbclmhkejknoaaSlB
import Derived.Test.YtcbclmhkejknoaaOwnS
import Derived.Test.YtcbclmhkejknoaaLawM
import Derived.Test.YtcbclmhkejknoaaDskMath
import Derived.Test.YtcbclmhkejknoaaDskA
import Derived.Test.YtcbclmhkejknoaaLawP
import Derived.Handy
import Derived.OwnWalk
import Derived.Laws.OwnMore
import Derived.Deep.RegionLaw
import Derived.Deep.RegionWith
namespace Go.Proofs.Ytcbclmhkejknoaa
open Go.RowKit Go.Lib
set_option linter.unusedVariables false
set_option maxRecDepth 20000

def mkP (s j : Nat) : Pnd := (((s + 2 * j : Nat) : Int), markB (s + 2 * j + 1))
def mpN (s n : Nat) : List Pnd := (List.range n).map (mkP s)
def mpT (s : Nat) (l : List Pnd) (k : Nat) : List Pnd := mpN s k ++ l.drop k
theorem mpT_len (s : Nat) (l : List Pnd) (k : Nat) (h : k ≤ l.length) : (mpT s l k).length = l.length := by simp [mpT, mpN]; omega
theorem mpT_set (s : Nat) (l : List Pnd) (k : Nat) (h : k < l.length) : (mpT s l k).set k (mkP s k) = mpT s l (k + 1) := by
  unfold mpT mpN
  have hl : ((List.range k).map (mkP s)).length = k := by simp
  rw [List.set_append_right _ _ (by omega), hl, Nat.sub_self, List.drop_eq_getElem_cons h, List.set_cons_zero, List.range_succ, List.map_append, List.append_assoc]; rfl
theorem mpT_all (s : Nat) (l : List Pnd) : mpT s l l.length = mpN s l.length := by unfold mpT; simp
theorem mpN_len (s n : Nat) : (mpN s n).length = n := by simp [mpN]

set_option maxHeartbeats 2000000 in
theorem markP_any (s : Nat) (hs1 : 1 ≤ s) (base : Nat) (v : Value) (l : List Pnd) (w : World) (h : w.ownsRow base 53 2 v l.length (pndRow l)) (hl : s + 2 * l.length ≤ 16777217) :
    Calls Try.prog 16 #[v, .int .i64 (s : Int)] w fun e w' => e = .returned (.int .i64 (2 * (l.length : Int) + s)) ∧ w'.ownsRow base 53 2 v l.length (pndRow (mpN s l.length)) ∧ w.grownBy w' v.ownBlock := by
  rcases h.2 with ⟨rfl, h0⟩ | ⟨g, cap, cur, rfl, hg1, hg2, hg3, hg4, hg5, hg6⟩
  · have hl0 : l = [] := List.length_eq_zero_iff.1 h0
    subst hl0
    clear h h0
    go_enter Try.func16, Try.ntmps16
    go_wp2_with fail
    go_loop [5, 1] (fun i x => i = .int .i64 0 ∧ x = .int .i64 (s : Int)) (fun _ _ => 0)
    case atStart => exact ⟨rfl, rfl⟩
    case round =>
      obtain ⟨rfl, rfl⟩ := hrel
      go_wp2_with fail
      go_ret
      exact ⟨by simp, World.ownsRow_nil _ _ _ _, World.grownBy.refl _ _⟩
  · have HO : Hid (w.ownsRow base 53 2 (.slice (some ⟨g, 0, none⟩) l.length cap) l.length (pndRow (mpT s l 0))) := by
      show World.ownsRow _ _ _ _ _ _ _
      rw [show mpT s l 0 = l by simp [mpT, mpN]]; exact h
    clear h hg2 hg5 hg6
    go_enter Try.func16, Try.ntmps16
    go_wp2_with fail
    go_loopw [5, 1] (fun i x wr => ∃ k : Nat, k ≤ l.length ∧ i = .int .i64 k ∧ x = .int .i64 (2 * (k : Int) + s) ∧ Hid (wr.ownsRow base 53 2 (.slice (some ⟨g, 0, none⟩) l.length cap) l.length (pndRow (mpT s l k))) ∧ Hid (w.grownBy wr (some g))) (fun i _ _ => l.length - (intOf i).toNat)
    case atStart => exact ⟨0, Nat.zero_le _, rfl, by simp, HO, World.grownBy.refl _ _⟩
    case round =>
      clear HO
      obtain ⟨k, hk, rfl, rfl, hown, hgr⟩ := hrel
      by_cases hlt : k < l.length
      · have i1 : (k : Int) < l.length := by omega
        have hlen := mpT_len s l k hk
        have hat := pndRow_at (mpT s l k) k (by omega)
        have c1 : wr.cell? ⟨g, k * 2, none⟩ = some (.int .i64 ((mpT s l k)[k]'(by omega)).1) := (hown.out.cellAt (k * 2) (by omega)).trans hat.1
        have f1 := hown.out.frozenAt (k * 2)
        have o1 := hown.out.stored (k * 2) (.int .i64 (2 * (k : Int) + s))
        obtain ⟨Wa, hWa⟩ : ∃ Wa, Wa = wr.setCell ⟨g, k * 2, none⟩ (.int .i64 (2 * (k : Int) + s)) := ⟨_, rfl⟩
        have HWa : Hid (Wa = wr.setCell ⟨g, k * 2, none⟩ (.int .i64 (2 * (k : Int) + s))) := hWa
        rw [← hWa] at o1
        have hm := markText_any (s + 2 * k + 1) Wa (by omega) (by omega)
        rw [show ((s + 2 * k + 1 : Nat) : Int) = 2 * (k : Int) + s + 1 by omega] at hm
        have HS : Hid (∀ y, Below Wa.heap.size Wa y → (∃ x, y.cell? ⟨g, k * 2 + 1, none⟩ = some (.string x)) ∧ y.frozen? ⟨g, k * 2 + 1, none⟩ = false ∧ (y.setCell ⟨g, k * 2 + 1, none⟩ (.string (markB (s + 2 * k + 1)))).ownsRow base 53 2 (.slice (some ⟨g, 0, none⟩) l.length cap) l.length (pndRow (mpT s l (k + 1))) ∧ w.grownBy (y.setCell ⟨g, k * 2 + 1, none⟩ (.string (markB (s + 2 * k + 1)))) (some g)) := by
          intro y hb
          have ho := ownS_below o1.1 hb
          have hst := ho.stored (k * 2 + 1) (.string (markB (s + 2 * k + 1)))
          have e : ((pndRow (mpT s l k)).set (k * 2) (.int .i64 (2 * (k : Int) + s))).set (k * 2 + 1) (.string (markB (s + 2 * k + 1))) = pndRow (mpT s l (k + 1)) := by
            rw [← mpT_set s l k hlt]
            rcases pndRow_set (mpT s l k) k (mkP s k) with h | h
            · rw [← h]
              unfold mkP
              rw [show ((s + 2 * k : Nat) : Int) = 2 * (k : Int) + s by omega]
            · exact absurd (by omega) h
          refine ⟨⟨((mpT s l k)[k]'(by omega)).2, ?_⟩, ho.frozenAt _, by rw [← e]; exact hst.1, ?_⟩
          · rw [ho.cellAt (k * 2 + 1) (by omega), List.getElem?_set_ne (by omega)]
            exact hat.2
          · have a := hgr.out
            have a1 := o1.2
            have a2 := hst.2
            refine ⟨(a2.os.trans hb.os).trans (a1.os.trans a.os), (a2.tape.trans hb.tape).trans (a1.tape.trans a.tape), (a2.output.trans hb.output).trans (a1.output.trans a.output), by have := a.size; have := a1.size; have := hb.size; have := a2.size; omega, fun q hq hne => ?_⟩
            have l1 := Nat.lt_of_lt_of_le hq a.size
            have l2 := Nat.lt_of_lt_of_le l1 a1.size
            have l3 := Nat.lt_of_lt_of_le l2 hb.size
            exact (a2.block q l3 hne).trans ((hb.block q l2).trans ((a1.block q l1 hne).trans (a.block q hq hne)))
        generalize markB (s + 2 * k + 1) = M at *
        generalize ((mpT s l k)[k]'_).1 = A0 at *
        clear hat o1 hWa hlen hown hgr
        go_wp2_with fail
        rw [← HWa.out]
        refine hm.mono ?_
        rintro e y ⟨rfl, b2⟩
        obtain ⟨⟨x, c2⟩, f2, o2, g2⟩ := HS.out y b2
        have HO2 : Hid ((y.setCell ⟨g, k * 2 + 1, none⟩ (.string M)).ownsRow base 53 2 (.slice (some ⟨g, 0, none⟩) l.length cap) l.length (pndRow (mpT s l (k + 1)))) := o2
        have HG2 : Hid (w.grownBy (y.setCell ⟨g, k * 2 + 1, none⟩ (.string M)) (some g)) := g2
        clear o2 g2 HS hm b2
        go_wp2_with fail
        go_roundw
        case rel => exact ⟨k + 1, by omega, by go_num, by go_num, HO2, HG2⟩
        case measure => simp [intOf]; omega
      · obtain rfl : k = l.length := by omega
        have HO2 : Hid (wr.ownsRow base 53 2 (.slice (some ⟨g, 0, none⟩) l.length cap) l.length (pndRow (mpN s l.length))) := by
          show World.ownsRow _ _ _ _ _ _ _
          rw [← mpT_all]; exact hown.out
        go_wp2_with fail
        go_ret
        exact ⟨rfl, HO2.out, hgr.out⟩

set_option maxHeartbeats 2000000 in
theorem heldP_any (s : Nat) (hs1 : 1 ≤ s) (p : Option Addr) (cap n : Nat) (w : World) (hp : PndAt w p (mpN s n)) (hn : s + 2 * n ≤ 16777217) (hcap : n ≤ cap) :
    Calls Try.prog 18 #[.slice p n cap, .int .i64 (s : Int)] w fun e w' => e = .returned (.int .i64 (2 * (n : Int) + s)) ∧ Below w.heap.size w w' := by
  have HP : Hid (PndAt w p (mpN s n)) := hp
  clear hp
  go_enter Try.func18, Try.ntmps18
  go_wp2_with fail
  go_loopw [5, 1] (fun i x wr => ∃ k : Nat, k ≤ n ∧ i = .int .i64 k ∧ x = .int .i64 (2 * (k : Int) + s) ∧ Hid (Below w.heap.size w wr)) (fun i _ _ => n - (intOf i).toNat)
  case atStart => exact ⟨0, Nat.zero_le _, rfl, by simp, Below.refl _ _⟩
  case round =>
    obtain ⟨k, hk, rfl, rfl, hB⟩ := hrel
    by_cases hlt : k < n
    · obtain ⟨b, off, rfl, hb, hq1, hq2⟩ := (HP.out.below hB.out) k (by rw [mpN_len]; exact hlt)
      have e1 : (mpN s n)[k]'(by rw [mpN_len]; exact hlt) = mkP s k := by simp [mpN]
      have hc1 : wr.cell? ⟨b, off + k * 2, none⟩ = some (.int .i64 (2 * (k : Int) + s)) := by
        rw [hq1, e1]
        show some (Value.int .i64 ((s + 2 * k : Nat) : Int)) = _
        rw [show ((s + 2 * k : Nat) : Int) = 2 * (k : Int) + s by omega]
      have hc2 : wr.cell? ⟨b, off + k * 2 + 1, none⟩ = some (.string (markB (s + 2 * k + 1))) := by rw [hq2, e1]; rfl
      have HM : Hid (∀ w', Calls Try.prog 29 #[.int .i64 (2 * (k : Int) + s + 1)] w' fun e w'' => e = .returned (.string (markB (s + 2 * k + 1))) ∧ Below w'.heap.size w' w'') := by
        intro w'
        have := markText_any (s + 2 * k + 1) w' (by omega) (by omega)
        rwa [show ((s + 2 * k + 1 : Nat) : Int) = 2 * (k : Int) + s + 1 by omega] at this
      generalize markB (s + 2 * k + 1) = M at *
      have j5 : (k : Int) < n := by omega
      clear e1 hq1 hq2
      go_wp2_with fail
      go_region_with (first | (go_at_call 29; refine (HM.out _).mono ?_; rintro e w2 ⟨rfl, b2⟩; have b2 := chainB ((Below.refl _ _).drew) b2; have c2 := (b2.cell (p := ⟨b, off + k * 2 + 1, none⟩) hb).trans hc2))
      all_goals
        have HB2 : Hid (Below w.heap.size w w2) := chainB hB.out b2
        clear b2
        go_wp2_with fail
        go_roundw
        case rel => exact ⟨k + 1, by omega, by go_num, by go_num, HB2⟩
        case measure => simp [intOf]; omega
    · obtain rfl : k = n := by omega
      go_wp2_with fail
      go_ret
      exact ⟨rfl, hB.out⟩
end Go.Proofs.Ytcbclmhkejknoaa
