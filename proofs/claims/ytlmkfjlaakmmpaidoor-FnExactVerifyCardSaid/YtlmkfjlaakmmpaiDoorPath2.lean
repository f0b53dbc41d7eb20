/-
  The specification's l03Path and PathOf: the path of an entry, 'pathA', in new memory of its own.
  Conditions: the slice's cells hold the entries; index is an int64.
-/
import Derived.Test.YtlmkfjlaakmmpaiDoorRows
import Derived.Test.YtlmkfjlaakmmpaiDoorBytes
import Derived.Test.YtlmkfjlaakmmpaiDoorTreeMath
import Derived.Test.YtlmkfjlaakmmpaiDoorSlA
import Derived.Test.YtlmkfjlaakmmpaiDoorSlBOwnS
import Derived.Test.YtlmkfjlaakmmpaiDoorPowerHalves
import Derived.Test.YtlmkfjlaakmmpaiDoorTreeTree2TreeH
import Derived.Test.YtlmkfjlaakmmpaiDoorPathMath
import Derived.Handy
import Derived.OwnWalk
import Derived.Deep.AppendLies
import Derived.Deep.RegionLaw
namespace Go.Proofs.YtlmkfjlaakmmpaiDoor
open Go.RowKit Go.Lib
set_option linter.unusedVariables false
set_option maxRecDepth 20000

set_option maxHeartbeats 2000000 in
theorem path2_any (N : Nat) : ∀ (p : Option Addr) (cap : Nat) (ss : List ByteArray) (i : Nat) (w : World), ss.length = N → TxtAt w p ss → ss.length ≤ 1024 → ss.length ≤ cap → (∀ x ∈ ss, x.size ≤ 100) → i < ss.length →
    Calls Tryd.prog 51 #[.slice p ss.length cap, .int .i64 (i : Int)] w fun e w' => ∃ v, e = .returned v ∧ w'.ownsRow w.heap.size 9 1 v (pathB ss i).length (strRow (pathB ss i)) ∧ Below w.heap.size w w' := by
  induction N using Nat.strongRecOn with
  | _ N ih =>
  intro p cap ss i w hN hp hn hcap h100 hi
  subst hN
  have HP : Hid (TxtAt w p ss) := hp
  have HX : Hid (∀ x ∈ ss, x.size ≤ 100) := h100
  clear hp h100
  by_cases h2 : 2 ≤ ss.length
  · obtain ⟨b, off, rfl, hb, _⟩ := HP.out 0 (by omega)
    have h1 := halfN_lt h2
    have h0 := halfN_pos ss.length
    have l1 : (ss.take (halfN ss.length)).length = halfN ss.length := by simp; omega
    have l2 : (ss.drop (halfN ss.length)).length = ss.length - halfN ss.length := by simp
    have hH := fun w => half2_any ss.length w h2 (by omega)
    obtain ⟨i0, hi0, hz0, hz1, hz2⟩ := info_parts infoStr
    by_cases hik : i < halfN ss.length
    · have hlen := pathB_len (ss.take (halfN ss.length)) i (by omega)
      have HB : Hid (pathB (ss.take (halfN ss.length)) i ++ [treeB (ss.drop (halfN ss.length))] = pathB ss i) := (pathB_left h2 hik).symm
      have I1 : Hid (∀ w', Below w.heap.size w w' → Calls Tryd.prog 51 #[.slice (some ⟨b, off, none⟩) (halfN ss.length) cap, .int .i64 (i : Int)] w' fun e w'' => ∃ v, e = .returned v ∧ w''.ownsRow w.heap.size 9 1 v (pathB (ss.take (halfN ss.length)) i).length (strRow (pathB (ss.take (halfN ss.length)) i)) ∧ Below w'.heap.size w' w'') := by
        intro w' hbl
        have := ih _ (by omega) (some ⟨b, off, none⟩) cap (ss.take (halfN ss.length)) i w' l1 ((HP.out.below hbl).take _) (by omega) (by omega) (fun x hx => HX.out x (List.mem_of_mem_take hx)) (by omega)
        rw [l1] at this
        exact this.mono fun e w'' ⟨v, he, ho, hb⟩ => ⟨v, he, ownS_mono ho hbl.size, hb⟩
      have I2 : Hid (∀ w', Below w.heap.size w w' → Calls Tryd.prog 18 #[.slice (some ⟨b, off + halfN ss.length, none⟩) (ss.length - halfN ss.length) (cap - halfN ss.length)] w' fun e w'' => e = .returned (.string (treeB (ss.drop (halfN ss.length)))) ∧ Below w'.heap.size w' w'') := by
        intro w' hbl
        have := tree2_any _ (some ⟨b, off + halfN ss.length, none⟩) (cap - halfN ss.length) (ss.drop (halfN ss.length)) w' l2 ((HP.out.below hbl).drop _) (by omega) (by omega) (fun x hx => HX.out x (List.mem_of_mem_drop hx))
        rwa [l2] at this
      clear l1 l2
      have hQl : (pathB (ss.take (halfN ss.length)) i).length ≤ 1024 := by simp at hlen; omega
      clear hlen
      generalize pathB (ss.take (halfN ss.length)) i = Q at *
      generalize treeB (ss.drop (halfN ss.length)) = T at *
      generalize halfN ss.length = k at *
      clear ih
      have q1 : (k : Int) ≤ cap := by omega
      have q2 : (k : Int) ≤ ss.length := by omega
      have q3 : (ss.length : Int) ≤ cap := by omega
      have q4 : ¬ cap = k := by omega
      have q5 : (0 : Int) ≤ k := by omega
      have q6 : IntKind.i64.wrap ((i : Int) - (k : Int)) = (i : Int) - (k : Int) := by rw [IntKind.wrap_i64]; omega
      go_enter Tryd.func51, Tryd.ntmps51
      go_wp2_with fail
      refine (hH _).mono ?_
      rintro e w1 ⟨rfl, hw1⟩
      subst hw1
      go_wp2_with fail
      go_region_law
        (first
          | (refine step_append_lies _ rfl _ _ 24 rfl w1.heap.size 9 i0 (.string ByteArray.empty) 1 16 Tryd.underlying24 hi0 hz0 hz1 hz2 rfl (by omega) v2 Q.length (strRow Q) rfl (own3.alloc _) ⟨w3.heap.size, 0, none⟩ 1 1 [.string T] rfl rfl (World.news_of_block (cs := #[.string T]) (t := 9) (fr := (0, 0)) (MapKept.heap_alloc w3 _).1) (by simp [Value.oneCell']) (by omega) (by unfold maxLen; omega) (by omega) (by simp; omega) (w3.heap.size + 1) (by simp) ?_; intro g2 cap2 w4 hown4 hgrow hat hltg)
          | (go_simp; go_at_call 18; refine (I2.out _ b2).mono ?_; rintro e w3 ⟨rfl, b3⟩; have own3 := ownS_below own2 b3; have b3 := chainB b2 b3; have hs3 := b3.size)
          | (go_simp; go_at_call 51; refine (I1.out _ ((Below.refl _ _).drew)).mono ?_; rintro e w2 ⟨v2, rfl, own2, b2⟩; have b2 := chainB ((Below.refl _ _).drew) b2))
      all_goals
        have B4 : Below w1.heap.size w1 w4 := (b3.alloc b3.size _).grown hgrow (by simp; omega) (fun j hj => (own3.lt j hj).1)
        have hfin : w4.ownsRow w1.heap.size 9 1 (.slice (some ⟨g2, 0, none⟩) (Q.length + 1) cap2) (pathB ss i).length (strRow (pathB ss i)) := by
          rw [← HB.out]
          have e1 : (Q ++ [T]).length = Q.length + 1 := by simp
          have e2 : strRow (Q ++ [T]) = strRow Q ++ [.string T] := by simp [strRow]
          rw [e1, e2]
          exact hown4
        go_wp2
        go_ret
        exact ⟨_, rfl, hfin, B4⟩
    · have hlen := pathB_len (ss.drop (halfN ss.length)) (i - halfN ss.length) (by omega)
      have HB : Hid (pathB (ss.drop (halfN ss.length)) (i - halfN ss.length) ++ [treeB (ss.take (halfN ss.length))] = pathB ss i) := (pathB_right h2 hik).symm
      have I1 : Hid (∀ w', Below w.heap.size w w' → Calls Tryd.prog 51 #[.slice (some ⟨b, off + halfN ss.length, none⟩) (ss.length - halfN ss.length) (cap - halfN ss.length), .int .i64 ((i : Int) - (halfN ss.length : Int))] w' fun e w'' => ∃ v, e = .returned v ∧ w''.ownsRow w.heap.size 9 1 v (pathB (ss.drop (halfN ss.length)) (i - halfN ss.length)).length (strRow (pathB (ss.drop (halfN ss.length)) (i - halfN ss.length))) ∧ Below w'.heap.size w' w'') := by
        intro w' hbl
        have := ih _ (by omega) (some ⟨b, off + halfN ss.length, none⟩) (cap - halfN ss.length) (ss.drop (halfN ss.length)) (i - halfN ss.length) w' l2 ((HP.out.below hbl).drop _) (by omega) (by omega) (fun x hx => HX.out x (List.mem_of_mem_drop hx)) (by omega)
        rw [l2, show ((i - halfN ss.length : Nat) : Int) = (i : Int) - (halfN ss.length : Int) by omega] at this
        exact this.mono fun e w'' ⟨v, he, ho, hb⟩ => ⟨v, he, ownS_mono ho hbl.size, hb⟩
      have I2 : Hid (∀ w', Below w.heap.size w w' → Calls Tryd.prog 18 #[.slice (some ⟨b, off, none⟩) (halfN ss.length) cap] w' fun e w'' => e = .returned (.string (treeB (ss.take (halfN ss.length)))) ∧ Below w'.heap.size w' w'') := by
        intro w' hbl
        have := tree2_any _ (some ⟨b, off, none⟩) cap (ss.take (halfN ss.length)) w' l1 ((HP.out.below hbl).take _) (by omega) (by omega) (fun x hx => HX.out x (List.mem_of_mem_take hx))
        rwa [l1] at this
      clear l1 l2
      have hQl : (pathB (ss.drop (halfN ss.length)) (i - halfN ss.length)).length ≤ 1024 := by simp at hlen; omega
      clear hlen
      generalize pathB (ss.drop (halfN ss.length)) (i - halfN ss.length) = Q at *
      generalize treeB (ss.take (halfN ss.length)) = T at *
      generalize halfN ss.length = k at *
      clear ih
      have q1 : (k : Int) ≤ cap := by omega
      have q2 : (k : Int) ≤ ss.length := by omega
      have q3 : (ss.length : Int) ≤ cap := by omega
      have q4 : ¬ cap = k := by omega
      have q5 : (0 : Int) ≤ k := by omega
      have q6 : IntKind.i64.wrap ((i : Int) - (k : Int)) = (i : Int) - (k : Int) := by rw [IntKind.wrap_i64]; omega
      go_enter Tryd.func51, Tryd.ntmps51
      go_wp2_with fail
      refine (hH _).mono ?_
      rintro e w1 ⟨rfl, hw1⟩
      subst hw1
      go_wp2_with fail
      go_region_law
        (first
          | (refine step_append_lies _ rfl _ _ 24 rfl w1.heap.size 9 i0 (.string ByteArray.empty) 1 16 Tryd.underlying24 hi0 hz0 hz1 hz2 rfl (by omega) v2 Q.length (strRow Q) rfl (own3.alloc _) ⟨w3.heap.size, 0, none⟩ 1 1 [.string T] rfl rfl (World.news_of_block (cs := #[.string T]) (t := 9) (fr := (0, 0)) (MapKept.heap_alloc w3 _).1) (by simp [Value.oneCell']) (by omega) (by unfold maxLen; omega) (by omega) (by simp; omega) (w3.heap.size + 1) (by simp) ?_; intro g2 cap2 w4 hown4 hgrow hat hltg)
          | (go_simp; go_at_call 18; refine (I2.out _ b2).mono ?_; rintro e w3 ⟨rfl, b3⟩; have own3 := ownS_below own2 b3; have b3 := chainB b2 b3; have hs3 := b3.size)
          | (go_simp; go_at_call 51; refine (I1.out _ ((Below.refl _ _).drew)).mono ?_; rintro e w2 ⟨v2, rfl, own2, b2⟩; have b2 := chainB ((Below.refl _ _).drew) b2))
      all_goals
        have B4 : Below w1.heap.size w1 w4 := (b3.alloc b3.size _).grown hgrow (by simp; omega) (fun j hj => (own3.lt j hj).1)
        have hfin : w4.ownsRow w1.heap.size 9 1 (.slice (some ⟨g2, 0, none⟩) (Q.length + 1) cap2) (pathB ss i).length (strRow (pathB ss i)) := by
          rw [← HB.out]
          have e1 : (Q ++ [T]).length = Q.length + 1 := by simp
          have e2 : strRow (Q ++ [T]) = strRow Q ++ [.string T] := by simp [strRow]
          rw [e1, e2]
          exact hown4
        go_wp2
        go_ret
        exact ⟨_, rfl, hfin, B4⟩
  · have h1 : (ss.length : Int) = 1 := by omega
    have HB : Hid (pathB ss i = []) := pathB_one h2 i
    clear ih
    go_enter Tryd.func51, Tryd.ntmps51
    go_wp2
    go_ret
    exact ⟨_, rfl, by rw [HB.out]; exact ownS_none w, (Below.refl _ _).alloc (Nat.le_refl _) _⟩

end Go.Proofs.YtlmkfjlaakmmpaiDoor
