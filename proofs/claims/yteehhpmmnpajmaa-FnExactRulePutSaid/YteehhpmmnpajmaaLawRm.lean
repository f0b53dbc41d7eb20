/-
  What the laws' own helpers do that mark rules: markRuleS, heldRuleS.
-/
import Derived.Test.YteehhpmmnpajmaaRows
import Derived.Test.YteehhpmmnpajmaaBytes
import Derived.Test.YteehhpmmnpajmaaSlA
import Derived.Test.YteehhpmmnpajmaaOwnS
import Derived.Test.YteehhpmmnpajmaaLawM
import Derived.Test.YteehhpmmnpajmaaRulMath
import Derived.Test.YteehhpmmnpajmaaRulBlk
import Derived.Test.YteehhpmmnpajmaaLawOG
import Derived.Handy
import Derived.WalkSpells
import Derived.OwnWalk
import Derived.Deep.RegionWith
namespace Go.Proofs.Yteehhpmmnpajmaa
open Go.RowKit Go.Lib
set_option linter.unusedVariables false
set_option maxRecDepth 20000

def mkU (s j : Nat) : Rul := ⟨markB (s + 4 * j), markB (s + 4 * j + 1), ((s + 4 * j + 2 : Nat) : Int), ((s + 4 * j + 3 : Nat) : Int)⟩
def muN (s n : Nat) : List Rul := (List.range n).map (mkU s)
def muT (s : Nat) (l : List Rul) (k : Nat) : List Rul := muN s k ++ l.drop k
theorem muN_len (s n : Nat) : (muN s n).length = n := by simp [muN]
theorem muT_len (s : Nat) (l : List Rul) (k : Nat) (h : k ≤ l.length) : (muT s l k).length = l.length := by simp [muT, muN]; omega
theorem muT_set (s : Nat) (l : List Rul) (k : Nat) (h : k < l.length) : (muT s l k).set k (mkU s k) = muT s l (k + 1) := by
  unfold muT muN
  have hl : ((List.range k).map (mkU s)).length = k := by simp
  rw [List.set_append_right _ _ (by omega), hl, Nat.sub_self, List.drop_eq_getElem_cons h, List.set_cons_zero, List.range_succ, List.map_append, List.append_assoc]; rfl
theorem muT_all (s : Nat) (l : List Rul) : muT s l l.length = muN s l.length := by unfold muT; simp
set_option maxHeartbeats 4000000 in
theorem markU_any (s : Nat) (hs1 : 1 ≤ s) (base : Nat) (v : Value) (l : List Rul) (w : World) (h : w.ownsRow base 28 4 v l.length (rulRow l)) (hl : s + 4 * l.length ≤ 16777217) :
    Calls Try.prog 63 #[v, .int .i64 (s : Int)] w fun e w' => e = .returned (.int .i64 (4 * (l.length : Int) + s)) ∧ w'.ownsRow base 28 4 v l.length (rulRow (muN s l.length)) ∧ w.grownBy w' v.ownBlock := by
  rcases h.2 with ⟨rfl, h0⟩ | ⟨g, cap, cur, rfl, hg1, hg2, hg3, hg4, hg5, hg6⟩
  · have hl0 : l = [] := List.length_eq_zero_iff.1 h0
    subst hl0
    clear h h0
    go_enter Try.func63, Try.ntmps63
    go_wp2_with fail
    go_loop [5, 1] (fun i x => i = .int .i64 0 ∧ x = .int .i64 (s : Int)) (fun _ _ => 0)
    case atStart => exact ⟨rfl, rfl⟩
    case round =>
      obtain ⟨rfl, rfl⟩ := hrel
      go_wp2_with fail
      go_ret
      exact ⟨by simp, World.ownsRow_nil _ _ _ _, World.grownBy.refl _ _⟩
  · have HO : Hid (OG w base 28 4 g l.length cap w (rulRow (muT s l 0))) := by
      show OG _ _ _ _ _ _ _ _ _
      rw [show muT s l 0 = l by simp [muT, muN]]; exact OG.start h
    clear h hg2 hg5 hg6
    go_enter Try.func63, Try.ntmps63
    go_wp2_with fail
    go_loopw [5, 1] (fun i x wr => ∃ k : Nat, k ≤ l.length ∧ i = .int .i64 k ∧ x = .int .i64 (4 * (k : Int) + s) ∧ Hid (OG w base 28 4 g l.length cap wr (rulRow (muT s l k)))) (fun i _ _ => l.length - (intOf i).toNat)
    case atStart => exact ⟨0, Nat.zero_le _, rfl, by simp, HO⟩
    case round =>
      clear HO
      obtain ⟨k, hk, rfl, rfl, hown⟩ := hrel
      by_cases hlt : k < l.length
      · have i1 : (k : Int) < l.length := by omega
        have HM1 : Hid (∀ x, Calls Try.prog 84 #[.int .i64 (4 * (k : Int) + s)] x fun e x1 => e = .returned (.string (markB (s + 4 * k))) ∧ Below x.heap.size x x1) := fun x => by
          have := markText_any (s + 4 * k) x (by omega) (by omega)
          rwa [show ((s + 4 * k : Nat) : Int) = 4 * (k : Int) + s by omega] at this
        have HM2 : Hid (∀ x, Calls Try.prog 84 #[.int .i64 (4 * (k : Int) + s + 1)] x fun e x1 => e = .returned (.string (markB (s + 4 * k + 1))) ∧ Below x.heap.size x x1) := fun x => by
          have := markText_any (s + 4 * k + 1) x (by omega) (by omega)
          rwa [show ((s + 4 * k + 1 : Nat) : Int) = 4 * (k : Int) + s + 1 by omega] at this
        have HE : Hid ((((( (rulRow (muT s l k)).set (k * 4) (.string (markB (s + 4 * k)))).set (k * 4 + 1) (.string (markB (s + 4 * k + 1)))).set (k * 4 + 2) (.int .i64 (4 * (k : Int) + s + 1 + 1))).set (k * 4 + 3) (.int .i64 (4 * (k : Int) + s + 1 + 1 + 1))) = rulRow (muT s l (k + 1))) := by
          show _ = _
          rw [← muT_set s l k hlt, ← rulRow_set]
          simp only [mkU]
          rw [show ((s + 4 * k + 2 : Nat) : Int) = 4 * (k : Int) + s + 1 + 1 by omega, show ((s + 4 * k + 3 : Nat) : Int) = 4 * (k : Int) + s + 1 + 1 + 1 by omega]
        generalize markB (s + 4 * k) = M1 at *
        generalize markB (s + 4 * k + 1) = M2 at *
        generalize rulRow (muT s l k) = R1 at *
        go_wp2_with fail
        refine (HM1.out wr).mono ?_
        rintro e y1 ⟨rfl, b1⟩
        have O1 := hown.out.below b1
        obtain ⟨x1, c1, f1⟩ := O1.cell (k * 4) (by omega)
        obtain ⟨W1, hW1⟩ : ∃ W1, W1 = y1.setCell ⟨g, k * 4, none⟩ (.string M1) := ⟨_, rfl⟩
        have HW1 : Hid (W1 = y1.setCell ⟨g, k * 4, none⟩ (.string M1)) := hW1
        have O2 := O1.set (k * 4) (.string M1)
        rw [← hW1] at O2
        have HO2 : Hid (OG w base 28 4 g l.length cap W1 (R1.set (k * 4) (.string M1))) := O2
        clear hown O1 O2 hW1 b1 HM1
        go_wp2_with fail
        rw [← HW1.out]
        refine (HM2.out W1).mono ?_
        rintro e y2 ⟨rfl, b2⟩
        have O3 := HO2.out.below b2
        obtain ⟨x2, c2, f2⟩ := O3.cell (k * 4 + 1) (by omega)
        have O4 := O3.set (k * 4 + 1) (.string M2)
        obtain ⟨x3, c3, f3⟩ := O3.cell (k * 4 + 2) (by omega)
        have O5 := O4.set (k * 4 + 2) (.int .i64 (4 * (k : Int) + s + 1 + 1))
        obtain ⟨x4, c4, f4⟩ := O3.cell (k * 4 + 3) (by omega)
        have O6 := O5.set (k * 4 + 3) (.int .i64 (4 * (k : Int) + s + 1 + 1 + 1))
        rw [HE.out] at O6
        have HO6 : Hid (OG w base 28 4 g l.length cap (((y2.setCell ⟨g, k * 4 + 1, none⟩ (.string M2)).setCell ⟨g, k * 4 + 2, none⟩ (.int .i64 (4 * (k : Int) + s + 1 + 1))).setCell ⟨g, k * 4 + 3, none⟩ (.int .i64 (4 * (k : Int) + s + 1 + 1 + 1))) (rulRow (muT s l (k + 1)))) := O6
        clear HO2 O3 O4 O5 O6 b2 HM2 HE HW1 c1 f1
        go_wp2_with fail
        go_roundw
        case rel => exact ⟨k + 1, by omega, by go_num, by go_num, HO6⟩
        case measure => simp [intOf]; omega
      · obtain rfl : k = l.length := by omega
        have HO2 : Hid (OG w base 28 4 g l.length cap wr (rulRow (muN s l.length))) := by
          show OG _ _ _ _ _ _ _ _ _
          rw [← muT_all]; exact hown.out
        clear hown
        go_wp2_with fail
        go_ret
        exact ⟨rfl, HO2.out.1, HO2.out.2⟩
set_option maxHeartbeats 4000000 in
theorem heldU_any (s : Nat) (hs1 : 1 ≤ s) (p : Option Addr) (cap n : Nat) (w : World) (hp : RulAt w p (muN s n)) (hn : s + 4 * n ≤ 16777217) (hcap : n ≤ cap) :
    Calls Try.prog 85 #[.slice p n cap, .int .i64 (s : Int)] w fun e w' => e = .returned (.int .i64 (4 * (n : Int) + s)) ∧ Below w.heap.size w w' := by
  have HP : Hid (RulAt w p (muN s n)) := hp
  clear hp
  go_enter Try.func85, Try.ntmps85
  go_wp2_with fail
  go_loopw [5, 1] (fun i x wr => ∃ k : Nat, k ≤ n ∧ i = .int .i64 k ∧ x = .int .i64 (4 * (k : Int) + s) ∧ Hid (Below w.heap.size w wr)) (fun i _ _ => n - (intOf i).toNat)
  case atStart => exact ⟨0, Nat.zero_le _, rfl, by simp, Below.refl _ _⟩
  case round =>
    obtain ⟨k, hk, rfl, rfl, hB⟩ := hrel
    by_cases hlt : k < n
    · obtain ⟨b, off, rfl, hb, hq1, hq2, hq3, hq4⟩ := (HP.out.below hB.out) k (by rw [muN_len]; exact hlt)
      have e1 : (muN s n)[k]'(by rw [muN_len]; exact hlt) = mkU s k := by simp [muN]
      rw [e1] at hq1 hq2 hq3 hq4
      have hc1 : wr.cell? ⟨b, off + k * 4, none⟩ = some (.string (markB (s + 4 * k))) := hq1
      have hc2 : wr.cell? ⟨b, off + k * 4 + 1, none⟩ = some (.string (markB (s + 4 * k + 1))) := hq2
      have hc3 : wr.cell? ⟨b, off + k * 4 + 2, none⟩ = some (.int .i64 (4 * (k : Int) + s + 1 + 1)) := by
        rw [hq3]; show some (Value.int .i64 ((s + 4 * k + 2 : Nat) : Int)) = _
        rw [show ((s + 4 * k + 2 : Nat) : Int) = 4 * (k : Int) + s + 1 + 1 by omega]
      have hc4 : wr.cell? ⟨b, off + k * 4 + 3, none⟩ = some (.int .i64 (4 * (k : Int) + s + 1 + 1 + 1)) := by
        rw [hq4]; show some (Value.int .i64 ((s + 4 * k + 3 : Nat) : Int)) = _
        rw [show ((s + 4 * k + 3 : Nat) : Int) = 4 * (k : Int) + s + 1 + 1 + 1 by omega]
      have HC : Hid (∀ x, Below wr.heap.size wr x → x.cell? ⟨b, off + k * 4 + 1, none⟩ = some (.string (markB (s + 4 * k + 1))) ∧ x.cell? ⟨b, off + k * 4 + 2, none⟩ = some (.int .i64 (4 * (k : Int) + s + 1 + 1)) ∧ x.cell? ⟨b, off + k * 4 + 3, none⟩ = some (.int .i64 (4 * (k : Int) + s + 1 + 1 + 1))) := fun x hx => ⟨(hx.cell (p := ⟨b, off + k * 4 + 1, none⟩) hb).trans hc2, (hx.cell (p := ⟨b, off + k * 4 + 2, none⟩) hb).trans hc3, (hx.cell (p := ⟨b, off + k * 4 + 3, none⟩) hb).trans hc4⟩
      have HM1 : Hid (∀ x, Calls Try.prog 84 #[.int .i64 (4 * (k : Int) + s)] x fun e x1 => e = .returned (.string (markB (s + 4 * k))) ∧ Below x.heap.size x x1) := fun x => by
        have := markText_any (s + 4 * k) x (by omega) (by omega)
        rwa [show ((s + 4 * k : Nat) : Int) = 4 * (k : Int) + s by omega] at this
      have HM2 : Hid (∀ x, Calls Try.prog 84 #[.int .i64 (4 * (k : Int) + s + 1)] x fun e x1 => e = .returned (.string (markB (s + 4 * k + 1))) ∧ Below x.heap.size x x1) := fun x => by
        have := markText_any (s + 4 * k + 1) x (by omega) (by omega)
        rwa [show ((s + 4 * k + 1 : Nat) : Int) = 4 * (k : Int) + s + 1 by omega] at this
      generalize markB (s + 4 * k) = M1 at *
      generalize markB (s + 4 * k + 1) = M2 at *
      have j5 : (k : Int) < n := by omega
      clear e1 hq1 hq2 hq3 hq4 hc2 hc3 hc4
      go_wp2_with fail
      go_region_with (first | (go_at_call 84; refine (HM1.out _).mono ?_; rintro e y1 ⟨rfl, b1⟩; have b1 := chainB ((Below.refl _ _).drew) b1; have c1 := (b1.cell (p := ⟨b, off + k * 4, none⟩) hb).trans hc1))
      all_goals
        obtain ⟨c2, c3, c4⟩ := HC.out y1 b1
        have HB1 : Hid (Below wr.heap.size wr y1) := b1
        have hby : b < y1.heap.size := Nat.lt_of_lt_of_le hb b1.size
        clear b1 c1
        go_wp2_with fail
        go_region_with (first | (go_at_call 84; refine (HM2.out _).mono ?_; rintro e y2 ⟨rfl, b2⟩; have b2 := chainB ((Below.refl _ _).drew) b2; have c2b := (b2.cell (p := ⟨b, off + k * 4 + 1, none⟩) hby).trans c2))
        all_goals
          obtain ⟨-, d3, d4⟩ := HC.out y2 (chainB HB1.out b2)
          have HB2 : Hid (Below w.heap.size w y2) := chainB hB.out (chainB HB1.out b2)
          clear b2 c2 c2b c3 c4
          go_wp2_with fail
          go_roundw
          case rel => exact ⟨k + 1, by omega, by go_num, by go_num, HB2⟩
          case measure => simp [intOf]; omega
    · obtain rfl : k = n := by omega
      go_wp2_with fail
      go_ret
      exact ⟨rfl, hB.out⟩
end Go.Proofs.Yteehhpmmnpajmaa
