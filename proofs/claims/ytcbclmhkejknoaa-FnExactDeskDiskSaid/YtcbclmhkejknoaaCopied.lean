/-
  The program's copied: the same texts, in new memory of their own.
  Conditions: the slice's cells hold the texts, each of at most 2^20 bytes, at most 2^20 of them.
-/
import Derived.Test.YtcbclmhkejknoaaRows
import Derived.Test.YtcbclmhkejknoaaBytes
import Derived.Test.YtcbclmhkejknoaaJoined
import Derived.Test.YtcbclmhkejknoaaSlA
import Derived.Test.YtcbclmhkejknoaaSlB
import Derived.Test.YtcbclmhkejknoaaOwnS
import Derived.Handy
import Derived.OwnWalk
import Derived.Deep.AppendLies
namespace Go.Proofs.Ytcbclmhkejknoaa
open Go.RowKit Go.Lib
set_option linter.unusedVariables false
set_option maxRecDepth 20000

set_option maxHeartbeats 1000000 in
theorem copied_any (p : Option Addr) (cap : Nat) (ss : List ByteArray) (w : World) (hp : TxtAt w p ss) (hn : ss.length ≤ 1048576) (hcap : ss.length ≤ cap) (hs : ∀ x ∈ ss, x.size ≤ 1048576) :
    Calls Try.prog 42 #[.slice p ss.length cap] w fun e w' => ∃ v, e = .returned v ∧ w'.ownsRow w.heap.size 9 1 v ss.length (strRow ss) ∧ Below w.heap.size w w' := by
  have HP : Hid (TxtAt w p ss) := hp
  have HS : Hid (∀ x ∈ ss, x.size ≤ 1048576) := hs
  clear hp hs
  obtain ⟨i0, hi, hz0, hz1, hz2⟩ := info_parts infoStr
  go_enter Try.func42, Try.ntmps42
  go_wp2
  go_loopw [8, 3] (fun i v wr => ∃ k : Nat, k ≤ ss.length ∧ i = .int .i64 k ∧ Hid (wr.ownsRow w.heap.size 9 1 v k (strRow (ss.take k))) ∧ Hid (Below w.heap.size w wr)) (fun i _ _ => ss.length - (intOf i).toNat)
  case atStart => exact ⟨0, Nat.zero_le _, rfl, World.ownsRow_nil _ _ _ _, Below.refl _ _⟩
  case round =>
    obtain ⟨k, hk, rfl, hown, hB⟩ := hrel
    have hsz := hB.out.size
    by_cases hlt : k < ss.length
    · obtain ⟨b, off, rfl, hb, hck⟩ := HP.out k hlt
      have hc1 : wr.cell? ⟨b, off + k, none⟩ = some (.string ss[k]) := (hB.out.cell (p := ⟨b, off + k, none⟩) hb).trans hck
      have hx := HS.out ss[k] (List.getElem_mem hlt)
      have HT : Hid (strRow (ss.take (k + 1)) = strRow (ss.take k) ++ [.string ss[k]]) := by show _ = _; unfold strRow; rw [List.take_succ_eq_append_getElem hlt, List.map_append]; rfl
      have hj := joined_one ss[k] wr (by omega)
      clear hck
      generalize ss[k] = q at *
      go_wp2_with fail
      refine hj.mono ?_
      rintro e w2 ⟨rfl, b2⟩
      have own2 := ownS_below hown.out b2
      have hB2 := chainB hB.out b2
      have hs2 := hB2.size
      go_wp2_with (at_builtin; refine wpList_append_lies _ rfl _ _ 22 rfl w.heap.size 9 i0 (.string ByteArray.empty) 1 16 Try.underlying22 hi hz0 hz1 hz2 rfl (by omega) _ k (strRow (ss.take k)) rfl (own2.alloc _) ⟨w2.heap.size, 0, none⟩ 1 1 [.string q] rfl rfl (World.news_of_block (cs := #[.string q]) (t := 9) (fr := (0, 0)) (MapKept.heap_alloc w2 _).1) (by simp [Value.oneCell']) (by omega) (by unfold maxLen; omega) (by omega) (by simp; omega) (w2.heap.size + 1) (by simp) ?_; intro g2 cap2 w3 hown3 hgrow hat hltg)
      have HO3 : Hid (w3.ownsRow w.heap.size 9 1 (.slice (some ⟨g2, 0, none⟩) (k + 1) cap2) (k + 1) (strRow (ss.take (k + 1)))) := by
        show World.ownsRow _ _ _ _ _ _ _
        rw [HT.out]; exact hown3
      have HB3 : Hid (Below w.heap.size w w3) := (hB2.alloc hB2.size _).grown hgrow (by simp; omega) (fun j hj => (own2.lt j hj).1)
      clear hown3 own2
      go_roundw
      case rel => exact ⟨k + 1, by omega, by go_num, HO3, HB3⟩
      case measure => simp [intOf]; omega
    · obtain rfl : k = ss.length := by omega
      have HO3 : Hid (wr.ownsRow w.heap.size 9 1 u3 ss.length (strRow ss)) := by
        have := hown.out; rwa [List.take_length] at this
      go_wp2
      go_ret
      exact ⟨_, rfl, HO3.out, hB.out⟩
end Go.Proofs.Ytcbclmhkejknoaa
