/-
  What the laws' own helpers do that mark numbers: markInt64S, heldInt64S; szInt64S.
-/
import Derived.Test.YteehhpmmnpajmaaRows
import Derived.Test.YteehhpmmnpajmaaBytes
import Derived.Test.YteehhpmmnpajmaaSlA
import Derived.Test.YteehhpmmnpajmaaOwnS
import Derived.Test.YteehhpmmnpajmaaIntK
import Derived.Test.YteehhpmmnpajmaaLawI
import Derived.Test.YteehhpmmnpajmaaLawOG
import Derived.Handy
import Derived.WalkSpells
import Derived.OwnWalk
namespace Go.Proofs.Yteehhpmmnpajmaa
open Go.RowKit Go.Lib
set_option linter.unusedVariables false
set_option maxRecDepth 20000

theorem szI_any (l0 : Int) (l00 : 0 ≤ l0) (l01 : l0 ≤ 1048576) (p : Option Addr) (cap : Nat) (ks : List Int) (w : World) (hn : ks.length ≤ 9223372036854775807) :
    Calls Try.prog 58 #[.slice p ks.length cap, .int .i64 l0] w fun e w' => (∃ r : Int, e = .returned (.int .i64 r) ∧ (r = -1 ∨ (0 ≤ r ∧ r ≤ l0 ∧ ks.length ≤ 1048576))) ∧ w' = w := by
  by_cases hl : (ks.length : Int) ≤ l0
  · go_enter Try.func58, Try.ntmps58
    go_wp2_with fail
    go_ret
    exact ⟨⟨_, rfl, .inr ⟨by omega, by omega, by omega⟩⟩, rfl⟩
  · go_enter Try.func58, Try.ntmps58
    go_wp2_with fail
    go_ret
    exact ⟨⟨_, rfl, .inl rfl⟩, rfl⟩
def miN (s n : Nat) : List Int := (List.range n).map (fun j => ((s + j : Nat) : Int))
def miT (s : Nat) (l : List Int) (k : Nat) : List Int := miN s k ++ l.drop k
theorem miN_len (s n : Nat) : (miN s n).length = n := by simp [miN]
theorem miT_len (s : Nat) (l : List Int) (k : Nat) (h : k ≤ l.length) : (miT s l k).length = l.length := by simp [miT, miN]; omega
theorem miT_set (s : Nat) (l : List Int) (k : Nat) (h : k < l.length) : (miT s l k).set k ((k : Int) + s) = miT s l (k + 1) := by
  unfold miT miN
  have hl : ((List.range k).map (fun j => ((s + j : Nat) : Int))).length = k := by simp
  rw [List.set_append_right _ _ (by omega), hl, Nat.sub_self, List.drop_eq_getElem_cons h, List.set_cons_zero, List.range_succ, List.map_append, List.append_assoc]
  show _ = _ ++ (((s + k : Nat) : Int) :: l.drop (k + 1))
  rw [show ((s + k : Nat) : Int) = (k : Int) + s by omega]
theorem miT_all (s : Nat) (l : List Int) : miT s l l.length = miN s l.length := by unfold miT; simp
theorem intRow_set (l : List Int) (k : Nat) (x : Int) : (intRow l).set k (.int .i64 x) = intRow (l.set k x) := by simp [intRow, List.map_set]
set_option maxHeartbeats 2000000 in
theorem markIO_any (s : Nat) (base : Nat) (v : Value) (l : List Int) (w : World) (h : w.ownsRow base 2 1 v l.length (intRow l)) (hl : s + l.length ≤ 16777217) :
    Calls Try.prog 64 #[v, .int .i64 (s : Int)] w fun e w' => e = .returned (.int .i64 ((l.length : Int) + s)) ∧ w'.ownsRow base 2 1 v l.length (intRow (miN s l.length)) ∧ w.grownBy w' v.ownBlock := by
  rcases h.2 with ⟨rfl, h0⟩ | ⟨g, cap, cur, rfl, hg1, hg2, hg3, hg4, hg5, hg6⟩
  · have hl0 : l = [] := List.length_eq_zero_iff.1 h0
    subst hl0
    clear h h0
    go_enter Try.func64, Try.ntmps64
    go_wp2_with fail
    go_loop [5, 1] (fun i x => i = .int .i64 0 ∧ x = .int .i64 (s : Int)) (fun _ _ => 0)
    case atStart => exact ⟨rfl, rfl⟩
    case round =>
      obtain ⟨rfl, rfl⟩ := hrel
      go_wp2_with fail
      go_ret
      exact ⟨by simp, World.ownsRow_nil _ _ _ _, World.grownBy.refl _ _⟩
  · have HO : Hid (OG w base 2 1 g l.length cap w (intRow (miT s l 0))) := by
      show OG _ _ _ _ _ _ _ _ _
      rw [show miT s l 0 = l by simp [miT, miN]]; exact OG.start h
    clear h hg2 hg5 hg6
    go_enter Try.func64, Try.ntmps64
    go_wp2_with fail
    go_loopw [5, 1] (fun i x wr => ∃ k : Nat, k ≤ l.length ∧ i = .int .i64 k ∧ x = .int .i64 ((k : Int) + s) ∧ Hid (OG w base 2 1 g l.length cap wr (intRow (miT s l k)))) (fun i _ _ => l.length - (intOf i).toNat)
    case atStart => exact ⟨0, Nat.zero_le _, rfl, by simp, HO⟩
    case round =>
      clear HO
      obtain ⟨k, hk, rfl, rfl, hown⟩ := hrel
      by_cases hlt : k < l.length
      · have i1 : (k : Int) < l.length := by omega
        obtain ⟨x1, c1, f1⟩ := hown.out.cell k (by omega)
        have HS : Hid (OG w base 2 1 g l.length cap (wr.setCell ⟨g, k, none⟩ (.int .i64 ((k : Int) + s))) (intRow (miT s l (k + 1)))) := by
          show OG _ _ _ _ _ _ _ _ _
          rw [← miT_set s l k hlt, ← intRow_set]; exact hown.out.set k _
        clear hown
        go_wp2_with fail
        go_roundw
        case rel => exact ⟨k + 1, by omega, by go_num, by go_num, HS⟩
        case measure => simp [intOf]; omega
      · obtain rfl : k = l.length := by omega
        have HO2 : Hid (OG w base 2 1 g l.length cap wr (intRow (miN s l.length))) := by
          show OG _ _ _ _ _ _ _ _ _
          rw [← miT_all]; exact hown.out
        clear hown
        go_wp2_with fail
        go_ret
        exact ⟨rfl, HO2.out.1, HO2.out.2⟩
set_option maxHeartbeats 1000000 in
theorem heldI_any (s : Nat) (p : Option Addr) (cap n : Nat) (w : World) (hp : IntAt w p (miN s n)) (hn : s + n ≤ 16777217) (hcap : n ≤ cap) :
    Calls Try.prog 86 #[.slice p n cap, .int .i64 (s : Int)] w fun e w' => e = .returned (.int .i64 ((n : Int) + s)) ∧ Below w.heap.size w w' := by
  have HP : Hid (IntAt w p (miN s n)) := hp
  clear hp
  go_enter Try.func86, Try.ntmps86
  go_wp2_with fail
  go_loopw [5, 1] (fun i x wr => ∃ k : Nat, k ≤ n ∧ i = .int .i64 k ∧ x = .int .i64 ((k : Int) + s) ∧ Hid (Below w.heap.size w wr)) (fun i _ _ => n - (intOf i).toNat)
  case atStart => exact ⟨0, Nat.zero_le _, rfl, by simp, Below.refl _ _⟩
  case round =>
    obtain ⟨k, hk, rfl, rfl, hB⟩ := hrel
    by_cases hlt : k < n
    · obtain ⟨b, off, rfl, hb, hq1⟩ := (HP.out.below hB.out) k (by rw [miN_len]; exact hlt)
      have hc1 : wr.cell? ⟨b, off + k, none⟩ = some (.int .i64 ((k : Int) + s)) := by
        rw [hq1]
        simp only [miN, List.getElem_map, List.getElem_range]
        rw [show ((s + k : Nat) : Int) = (k : Int) + s by omega]
      have j5 : (k : Int) < n := by omega
      clear hq1
      go_wp2_with fail
      go_roundw
      case rel => exact ⟨k + 1, by omega, by go_num, by go_num, hB⟩
      case measure => simp [intOf]; omega
    · obtain rfl : k = n := by omega
      go_wp2_with fail
      go_ret
      exact ⟨rfl, hB.out⟩
end Go.Proofs.Yteehhpmmnpajmaa
