/-
  Parts of one proof, laid as one text: Path2, Putter, PathI, LawS, LawM, LawMG, LawF, LawFM, LawFR, LawSG; what each says stands at its head.
-/
import Derived.Test.YtnknnfgimiljjaaGreatDoorRows
import Derived.Test.YtnknnfgimiljjaaGreatDoorBytesDigMath
import Derived.Test.YtnknnfgimiljjaaGreatDoorTreeMathSlABxKSlBOwnSJoinedOwnB
import Derived.Test.YtnknnfgimiljjaaGreatDoorPowerHalvesTreeTree2TreeHPathMathIncMathTakerTakePathConMathTakeProofConI
import Derived.Handy
import Derived.OwnWalk
import Derived.Deep.AppendLies
import Derived.Deep.RegionLaw
import Derived.Deep.QuietTactic
import Derived.BigQuiet
import Derived.Laws.OwnMore
import Derived.Test.YtnknnfgimiljjaaGreatDoorTimeBPutMathPutNumPutTextFldMathFldRiseScanMath
import Derived.Test.YtnknnfgimiljjaaGreatDoorLgAtKLgAnsLgRtShwKOneKFldGFldBlkRwBlkRowOpsLgO
import Derived.WalkSpells
import Derived.Deep.RegionWith
/-
  The specification's l03Path and PathOf: the path of an entry, 'pathA', in new memory of its own.
  Conditions: the slice's cells hold the entries; index is an int64.
-/
namespace Go.Proofs.YtnknnfgimiljjaaGreatDoor
open Go.RowKit Go.Lib
set_option linter.unusedVariables false
set_option maxRecDepth 20000

set_option maxHeartbeats 2000000 in
theorem path2_any (N : Nat) : ∀ (p : Option Addr) (cap : Nat) (ss : List ByteArray) (i : Nat) (w : World), ss.length = N → TxtAt w p ss → ss.length ≤ 1024 → ss.length ≤ cap → (∀ x ∈ ss, x.size ≤ 100) → i < ss.length →
    Calls Tryz.prog 77 #[.slice p ss.length cap, .int .i64 (i : Int)] w fun e w' => ∃ v, e = .returned v ∧ w'.ownsRow w.heap.size 9 1 v (pathB ss i).length (strRow (pathB ss i)) ∧ Below w.heap.size w w' := by
  induction N using Nat.strongRecOn with
  | _ N ih =>
  intro p cap ss i w hN hp hn hcap h100 hi
  subst hN
  have HP : Hid (TxtAt w p ss) := hp
  have HX : Hid (∀ x ∈ ss, x.size ≤ 100) := h100
  clear hp h100
  by_cases h2 : 2 ≤ ss.length
  · obtain ⟨b, off, rfl, hb, _⟩ := HP.out 0 (by omega)
    have h1 := halfN_lt h2
    have h0 := halfN_pos ss.length
    have l1 : (ss.take (halfN ss.length)).length = halfN ss.length := by simp; omega
    have l2 : (ss.drop (halfN ss.length)).length = ss.length - halfN ss.length := by simp
    have hH := fun w => half2_any ss.length w h2 (by omega)
    obtain ⟨i0, hi0, hz0, hz1, hz2⟩ := info_parts infoStr
    by_cases hik : i < halfN ss.length
    · have hlen := pathB_len (ss.take (halfN ss.length)) i (by omega)
      have HB : Hid (pathB (ss.take (halfN ss.length)) i ++ [treeB (ss.drop (halfN ss.length))] = pathB ss i) := (pathB_left h2 hik).symm
      have I1 : Hid (∀ w', Below w.heap.size w w' → Calls Tryz.prog 77 #[.slice (some ⟨b, off, none⟩) (halfN ss.length) cap, .int .i64 (i : Int)] w' fun e w'' => ∃ v, e = .returned v ∧ w''.ownsRow w.heap.size 9 1 v (pathB (ss.take (halfN ss.length)) i).length (strRow (pathB (ss.take (halfN ss.length)) i)) ∧ Below w'.heap.size w' w'') := by
        intro w' hbl
        have := ih _ (by omega) (some ⟨b, off, none⟩) cap (ss.take (halfN ss.length)) i w' l1 ((HP.out.below hbl).take _) (by omega) (by omega) (fun x hx => HX.out x (List.mem_of_mem_take hx)) (by omega)
        rw [l1] at this
        exact this.mono fun e w'' ⟨v, he, ho, hb⟩ => ⟨v, he, ownS_mono ho hbl.size, hb⟩
      have I2 : Hid (∀ w', Below w.heap.size w w' → Calls Tryz.prog 34 #[.slice (some ⟨b, off + halfN ss.length, none⟩) (ss.length - halfN ss.length) (cap - halfN ss.length)] w' fun e w'' => e = .returned (.string (treeB (ss.drop (halfN ss.length)))) ∧ Below w'.heap.size w' w'') := by
        intro w' hbl
        have := tree2_any _ (some ⟨b, off + halfN ss.length, none⟩) (cap - halfN ss.length) (ss.drop (halfN ss.length)) w' l2 ((HP.out.below hbl).drop _) (by omega) (by omega) (fun x hx => HX.out x (List.mem_of_mem_drop hx))
        rwa [l2] at this
      clear l1 l2
      have hQl : (pathB (ss.take (halfN ss.length)) i).length ≤ 1024 := by simp at hlen; omega
      clear hlen
      generalize pathB (ss.take (halfN ss.length)) i = Q at *
      generalize treeB (ss.drop (halfN ss.length)) = T at *
      generalize halfN ss.length = k at *
      clear ih
      have q1 : (k : Int) ≤ cap := by omega
      have q2 : (k : Int) ≤ ss.length := by omega
      have q3 : (ss.length : Int) ≤ cap := by omega
      have q4 : ¬ cap = k := by omega
      have q5 : (0 : Int) ≤ k := by omega
      have q6 : IntKind.i64.wrap ((i : Int) - (k : Int)) = (i : Int) - (k : Int) := by rw [IntKind.wrap_i64]; omega
      go_enter Tryz.func77, Tryz.ntmps77
      go_wp2_with fail
      refine (hH _).mono ?_
      rintro e w1 ⟨rfl, hw1⟩
      subst hw1
      go_wp2_with fail
      go_region_law
        (first
          | (refine step_append_lies _ rfl _ _ 24 rfl w1.heap.size 9 i0 (.string ByteArray.empty) 1 16 Tryz.underlying24 hi0 hz0 hz1 hz2 rfl (by omega) v2 Q.length (strRow Q) rfl (own3.alloc _) ⟨w3.heap.size, 0, none⟩ 1 1 [.string T] rfl rfl (World.news_of_block (cs := #[.string T]) (t := 9) (fr := (0, 0)) (MapKept.heap_alloc w3 _).1) (by simp [Value.oneCell']) (by omega) (by unfold maxLen; omega) (by omega) (by simp; omega) (w3.heap.size + 1) (by simp) ?_; intro g2 cap2 w4 hown4 hgrow hat hltg)
          | (go_simp; go_at_call 34; refine (I2.out _ b2).mono ?_; rintro e w3 ⟨rfl, b3⟩; have own3 := ownS_below own2 b3; have b3 := chainB b2 b3; have hs3 := b3.size)
          | (go_simp; go_at_call 77; refine (I1.out _ ((Below.refl _ _).drew)).mono ?_; rintro e w2 ⟨v2, rfl, own2, b2⟩; have b2 := chainB ((Below.refl _ _).drew) b2))
      all_goals
        have B4 : Below w1.heap.size w1 w4 := (b3.alloc b3.size _).grown hgrow (by simp; omega) (fun j hj => (own3.lt j hj).1)
        have hfin : w4.ownsRow w1.heap.size 9 1 (.slice (some ⟨g2, 0, none⟩) (Q.length + 1) cap2) (pathB ss i).length (strRow (pathB ss i)) := by
          rw [← HB.out]
          have e1 : (Q ++ [T]).length = Q.length + 1 := by simp
          have e2 : strRow (Q ++ [T]) = strRow Q ++ [.string T] := by simp [strRow]
          rw [e1, e2]
          exact hown4
        go_wp2
        go_ret
        exact ⟨_, rfl, hfin, B4⟩
    · have hlen := pathB_len (ss.drop (halfN ss.length)) (i - halfN ss.length) (by omega)
      have HB : Hid (pathB (ss.drop (halfN ss.length)) (i - halfN ss.length) ++ [treeB (ss.take (halfN ss.length))] = pathB ss i) := (pathB_right h2 hik).symm
      have I1 : Hid (∀ w', Below w.heap.size w w' → Calls Tryz.prog 77 #[.slice (some ⟨b, off + halfN ss.length, none⟩) (ss.length - halfN ss.length) (cap - halfN ss.length), .int .i64 ((i : Int) - (halfN ss.length : Int))] w' fun e w'' => ∃ v, e = .returned v ∧ w''.ownsRow w.heap.size 9 1 v (pathB (ss.drop (halfN ss.length)) (i - halfN ss.length)).length (strRow (pathB (ss.drop (halfN ss.length)) (i - halfN ss.length))) ∧ Below w'.heap.size w' w'') := by
        intro w' hbl
        have := ih _ (by omega) (some ⟨b, off + halfN ss.length, none⟩) (cap - halfN ss.length) (ss.drop (halfN ss.length)) (i - halfN ss.length) w' l2 ((HP.out.below hbl).drop _) (by omega) (by omega) (fun x hx => HX.out x (List.mem_of_mem_drop hx)) (by omega)
        rw [l2, show ((i - halfN ss.length : Nat) : Int) = (i : Int) - (halfN ss.length : Int) by omega] at this
        exact this.mono fun e w'' ⟨v, he, ho, hb⟩ => ⟨v, he, ownS_mono ho hbl.size, hb⟩
      have I2 : Hid (∀ w', Below w.heap.size w w' → Calls Tryz.prog 34 #[.slice (some ⟨b, off, none⟩) (halfN ss.length) cap] w' fun e w'' => e = .returned (.string (treeB (ss.take (halfN ss.length)))) ∧ Below w'.heap.size w' w'') := by
        intro w' hbl
        have := tree2_any _ (some ⟨b, off, none⟩) cap (ss.take (halfN ss.length)) w' l1 ((HP.out.below hbl).take _) (by omega) (by omega) (fun x hx => HX.out x (List.mem_of_mem_take hx))
        rwa [l1] at this
      clear l1 l2
      have hQl : (pathB (ss.drop (halfN ss.length)) (i - halfN ss.length)).length ≤ 1024 := by simp at hlen; omega
      clear hlen
      generalize pathB (ss.drop (halfN ss.length)) (i - halfN ss.length) = Q at *
      generalize treeB (ss.take (halfN ss.length)) = T at *
      generalize halfN ss.length = k at *
      clear ih
      have q1 : (k : Int) ≤ cap := by omega
      have q2 : (k : Int) ≤ ss.length := by omega
      have q3 : (ss.length : Int) ≤ cap := by omega
      have q4 : ¬ cap = k := by omega
      have q5 : (0 : Int) ≤ k := by omega
      have q6 : IntKind.i64.wrap ((i : Int) - (k : Int)) = (i : Int) - (k : Int) := by rw [IntKind.wrap_i64]; omega
      go_enter Tryz.func77, Tryz.ntmps77
      go_wp2_with fail
      refine (hH _).mono ?_
      rintro e w1 ⟨rfl, hw1⟩
      subst hw1
      go_wp2_with fail
      go_region_law
        (first
          | (refine step_append_lies _ rfl _ _ 24 rfl w1.heap.size 9 i0 (.string ByteArray.empty) 1 16 Tryz.underlying24 hi0 hz0 hz1 hz2 rfl (by omega) v2 Q.length (strRow Q) rfl (own3.alloc _) ⟨w3.heap.size, 0, none⟩ 1 1 [.string T] rfl rfl (World.news_of_block (cs := #[.string T]) (t := 9) (fr := (0, 0)) (MapKept.heap_alloc w3 _).1) (by simp [Value.oneCell']) (by omega) (by unfold maxLen; omega) (by omega) (by simp; omega) (w3.heap.size + 1) (by simp) ?_; intro g2 cap2 w4 hown4 hgrow hat hltg)
          | (go_simp; go_at_call 34; refine (I2.out _ b2).mono ?_; rintro e w3 ⟨rfl, b3⟩; have own3 := ownS_below own2 b3; have b3 := chainB b2 b3; have hs3 := b3.size)
          | (go_simp; go_at_call 77; refine (I1.out _ ((Below.refl _ _).drew)).mono ?_; rintro e w2 ⟨v2, rfl, own2, b2⟩; have b2 := chainB ((Below.refl _ _).drew) b2))
      all_goals
        have B4 : Below w1.heap.size w1 w4 := (b3.alloc b3.size _).grown hgrow (by simp; omega) (fun j hj => (own3.lt j hj).1)
        have hfin : w4.ownsRow w1.heap.size 9 1 (.slice (some ⟨g2, 0, none⟩) (Q.length + 1) cap2) (pathB ss i).length (strRow (pathB ss i)) := by
          rw [← HB.out]
          have e1 : (Q ++ [T]).length = Q.length + 1 := by simp
          have e2 : strRow (Q ++ [T]) = strRow Q ++ [.string T] := by simp [strRow]
          rw [e1, e2]
          exact hown4
        go_wp2
        go_ret
        exact ⟨_, rfl, hfin, B4⟩
  · have h1 : (ss.length : Int) = 1 := by omega
    have HB : Hid (pathB ss i = []) := pathB_one h2 i
    clear ih
    go_enter Tryz.func77, Tryz.ntmps77
    go_wp2
    go_ret
    exact ⟨_, rfl, by rw [HB.out]; exact ownS_none w, (Below.refl _ _).alloc (Nat.le_refl _) _⟩

end Go.Proofs.YtnknnfgimiljjaaGreatDoor
/-
  The program's putter: its two closures, 'put' (the tree of the entries is put behind the list) and 'all' (the list).
  Conditions: the entries are of at most 100 bytes; the captured list lies in a block of its own; the two tables lie as the program's text lays them.
-/
namespace Go.Proofs.YtnknnfgimiljjaaGreatDoor
open Go.RowKit Go.Lib
set_option linter.unusedVariables false
set_option maxRecDepth 20000

/-- The list's box, in memory that came behind W0; the list owns its row; nothing that was there has turned. -/
structure PutS (W0 : World) (X : Nat) (l : List ByteArray) (v : Value) (w : World) : Prop where
  bel : Below W0.heap.size W0 w
  hX : W0.heap.size ≤ X
  box : w.heap[X]? = some (.cells #[v] 24 (0, 0))
  own : w.ownsRow W0.heap.size 9 1 v l.length (strRow l)
theorem PutS.below {W0 : World} {X : Nat} {l : List ByteArray} {v : Value} {w w' : World} (h : PutS W0 X l v w) (hb : Below w.heap.size w w') : PutS W0 X l v w' :=
  ⟨h.bel.trans (hb.mono h.bel.size), h.hX, (hb.block _ (lt_of_block h.box)).trans h.box, ownS_below h.own hb⟩
theorem PutS.ne {W0 : World} {X : Nat} {l : List ByteArray} {v : Value} {w : World} (h : PutS W0 X l v w) : v.ownBlock ≠ some X := by
  intro he
  rcases h.own.2 with ⟨rfl, _⟩ | ⟨g, cap, cur, rfl, _, hg, _⟩
  · cases he
  · have : g = X := by simpa [Value.ownBlock] using he
    subst this
    rw [h.box] at hg; simp at hg

set_option maxHeartbeats 1000000 in
theorem put_any (W0 : World) (X : Nat) (l : List ByteArray) (v : Value) (p : Option Addr) (cap : Nat) (ss : List ByteArray) (w : World) (hT : Tabs W0) (hp : TxtAt W0 p ss) (hn : ss.length ≤ 140737488355328) (hcap : ss.length ≤ cap)
    (h100 : ∀ x ∈ ss, x.size ≤ 100) (hl : l.length ≤ 1048576) (h : PutS W0 X l v w) :
    Calls Tryz.prog 128 #[.slice p ss.length cap, .pointer (some ⟨X, 0, none⟩)] w fun e w' => e = .returned (.tuple #[]) ∧ ∃ v', PutS W0 X (l ++ [treeB ss]) v' w' := by
  have HK : Hid (PutS W0 X l v w) := h
  have c1 := cell_of_one h.box
  have hXlt := lt_of_block h.box
  have hne : some X ≠ v.ownBlock := fun e => h.ne e.symm
  obtain ⟨i0, hi, hz0, hz1, hz2⟩ := info_parts infoStr
  have HC : Hid (∀ w', Below w.heap.size w w' → Calls Tryz.prog 122 #[.slice p ss.length cap] w' fun e w'' => e = .returned (.string (treeB ss)) ∧ Below w'.heap.size w' w'') := fun w' hb =>
    treeI_any ss.length p cap ss w' rfl (hT.below (h.bel.trans (hb.mono h.bel.size)) hT.1) (hp.below (h.bel.trans (hb.mono h.bel.size))) hn hcap h100
  have hW0 : W0.heap.size ≤ w.heap.size := h.bel.size
  clear h hT hp h100
  generalize treeB ss = T at *
  go_enter Tryz.func128, Tryz.ntmps128
  go_wp2
  go_region_law
    (first
      | (refine step_append_lies _ rfl _ _ 24 rfl W0.heap.size 9 i0 (.string ByteArray.empty) 1 16 Tryz.underlying24 hi hz0 hz1 hz2 rfl (by omega) v l.length (strRow l) rfl (own2.alloc _) ⟨w2.heap.size, 0, none⟩ 1 1 [.string T] rfl rfl (World.news_of_block (cs := #[.string T]) (t := 9) (fr := (0, 0)) (MapKept.heap_alloc w2 _).1) (by simp [Value.oneCell']) (by omega) (by unfold maxLen; omega) (by omega) (by simp; omega) (w2.heap.size + 1) (by simp) ?_; intro g2 cap2 w3 hown2 hgrow hat hltg; have c3 := (hgrow.cell_far ⟨X, 0, none⟩ (by simp; omega) hne).trans c2'; have f3 := (hgrow.frozen_far ⟨X, 0, none⟩ (by simp; omega) hne).trans f2')
      | (go_simp; go_at_call 122; refine (HC.out _ ((Below.refl _ _).drew)).mono ?_; rintro e w2 ⟨rfl, b2⟩; have b2 := chainB ((Below.refl _ _).drew) b2; have P2 := HK.out.below b2; have c2 := cell_of_one P2.box; have own2 := P2.own; have hX2 := lt_of_block P2.box; have hs2 := b2.size; have c2' : (w2.alloc (.cells #[.string T] 9)).cell? ⟨X, 0, none⟩ = some v := (((Below.refl _ _).alloc (Nat.le_refl _) _ : Below w2.heap.size w2 (w2.alloc _)).cell (p := ⟨X, 0, none⟩) hX2).trans c2; have f2' : (w2.alloc (.cells #[.string T] 9)).frozen? ⟨X, 0, none⟩ = false := (((Below.refl _ _).alloc (Nat.le_refl _) _ : Below w2.heap.size w2 (w2.alloc _)).frozen (p := ⟨X, 0, none⟩) hX2).trans (free_of_one P2.box)))
  all_goals
    have B3 : Below W0.heap.size W0 w3 := (P2.bel.alloc P2.bel.size _).grown hgrow (by simp; omega) (fun j hj => (own2.lt j hj).1)
    have X3 : w3.heap[X]? = some (.cells #[v] 24 (0, 0)) := (hgrow.block X (by simp; omega) hne).trans ((Below.heap_alloc _ _ _ hX2).trans P2.box)
    have hgX : g2 ≠ X := by
      rintro rfl
      rcases hat with h | h
      · exact hne h.symm
      · omega
    have hfin : PutS W0 X (l ++ [T]) (.slice (some ⟨g2, 0, none⟩) (l.length + 1) cap2) (w3.setCell ⟨X, 0, none⟩ (.slice (some ⟨g2, 0, none⟩) (l.length + 1) cap2)) := by
      refine ⟨B3.setCell HK.out.hX _, HK.out.hX, by rw [one_setCell X3], ?_⟩
      have e1 : (l ++ [T]).length = l.length + 1 := by simp
      have e2 : strRow (l ++ [T]) = strRow l ++ [.string T] := by simp [strRow]
      rw [e1, e2]
      exact ownsRow_setCell_other hown2 (by simp [Value.ownBlock, hgX]) _
    go_wp2
    go_end0
    exact ⟨rfl, _, hfin⟩
set_option maxHeartbeats 400000 in
theorem all_any (W0 : World) (X : Nat) (l : List ByteArray) (v : Value) (w : World) (h : PutS W0 X l v w) :
    Calls Tryz.prog 129 #[.pointer (some ⟨X, 0, none⟩)] w fun e w' => e = .returned v ∧ w' = w := by
  have c1 := cell_of_one h.box
  clear h
  go_enter Tryz.func129, Tryz.ntmps129
  go_wp2
  go_ret
  exact ⟨rfl, rfl⟩
def putF (X : Nat) : Value := .func (.func 128) #[] #[.pointer (some ⟨X, 0, none⟩)]
def allF (X : Nat) : Value := .func (.func 129) #[] #[.pointer (some ⟨X, 0, none⟩)]
theorem hmfP : ∀ (fn : Fn) (first cap : Array Value) (w : World), (Instr.makeFunc fn first cap).run Tryz.prog w = .ok (.func fn first cap) w := fun _ _ _ _ => rfl
theorem putS_new (w : World) : PutS w w.heap.size [] (.slice none 0 0) (w.alloc (.cells #[.slice none 0 0] 24)) :=
  ⟨(Below.refl _ _).alloc (Nat.le_refl _) _, Nat.le_refl _, (MapKept.heap_alloc w _).1, World.ownsRow_nil _ _ _ _⟩
set_option maxHeartbeats 400000 in
theorem putter_any (w : World) :
    Calls Tryz.prog 82 #[] w fun e w' => e = .returned (.tuple #[putF w.heap.size, allF w.heap.size]) ∧ PutS w w.heap.size [] (.slice none 0 0) w' := by
  have hm := hmfP
  go_enter Tryz.func82, Tryz.ntmps82
  go_wp2
  go_ret2
  exact ⟨rfl, putS_new w⟩
end Go.Proofs.YtnknnfgimiljjaaGreatDoor
/-
  The program's putPath and PathOf: the path of an entry, 'pathA', in new memory of its own.
  Conditions: the slice's cells hold the entries; index is an int64; the two tables lie as the program's text lays them.
-/
namespace Go.Proofs.YtnknnfgimiljjaaGreatDoor
open Go.RowKit Go.Lib
set_option linter.unusedVariables false
set_option maxRecDepth 20000

set_option maxHeartbeats 1000000 in
theorem putPath_any (N : Nat) : ∀ (W0 : World) (X : Nat) (p : Option Addr) (cap : Nat) (ss : List ByteArray) (i : Nat) (l : List ByteArray) (v : Value) (w : World), ss.length = N → Tabs W0 → TxtAt W0 p ss → ss.length ≤ 1024 → ss.length ≤ cap → (∀ x ∈ ss, x.size ≤ 100) →
    i < ss.length → l.length + ss.length ≤ 1048576 → PutS W0 X l v w →
    Calls Tryz.prog 125 #[.slice p ss.length cap, .int .i64 (i : Int), putF X] w fun e w' => e = .returned (.tuple #[]) ∧ ∃ v', PutS W0 X (l ++ pathB ss i) v' w' := by
  induction N using Nat.strongRecOn with
  | _ N ih =>
  intro W0 X p cap ss i l v w hN hT hp hn hcap h100 hi hl hK
  subst hN
  have HT : Hid (Tabs W0) := hT
  have HP : Hid (TxtAt W0 p ss) := hp
  have HX : Hid (∀ x ∈ ss, x.size ≤ 100) := h100
  have HK : Hid (PutS W0 X l v w) := hK
  clear hT hp h100 hK
  unfold putF at ih ⊢
  by_cases h2 : 2 ≤ ss.length
  · obtain ⟨b, off, rfl, hb, _⟩ := HP.out 0 (by omega)
    have h1 := halfN_lt h2
    have h0 := halfN_pos ss.length
    have l1 : (ss.take (halfN ss.length)).length = halfN ss.length := by simp; omega
    have l2 : (ss.drop (halfN ss.length)).length = ss.length - halfN ss.length := by simp
    have hH := fun w => halves_any b off ss.length cap w h2 (by omega) hcap
    by_cases hik : i < halfN ss.length
    · have hlen := pathB_len (ss.take (halfN ss.length)) i (by omega)
      have HB : Hid (l ++ pathB (ss.take (halfN ss.length)) i ++ [treeB (ss.drop (halfN ss.length))] = l ++ pathB ss i) := by
        show _ = _
        rw [pathB_left h2 hik, List.append_assoc]
      have I1 : Hid (∀ w', PutS W0 X l v w' → Calls Tryz.prog 125 #[.slice (some ⟨b, off, none⟩) (halfN ss.length) (halfN ss.length), .int .i64 (i : Int), .func (.func 128) #[] #[.pointer (some ⟨X, 0, none⟩)]] w' fun e w'' => e = .returned (.tuple #[]) ∧ ∃ v', PutS W0 X (l ++ pathB (ss.take (halfN ss.length)) i) v' w'') := by
        intro w' hK
        have := ih _ (by omega) W0 X (some ⟨b, off, none⟩) (halfN ss.length) (ss.take (halfN ss.length)) i l v w' l1 HT.out (HP.out.take _) (by omega) (by omega) (fun x hx => HX.out x (List.mem_of_mem_take hx)) (by omega) (by omega) hK
        rwa [l1] at this
      have I2 : Hid (∀ l' v' w', l'.length ≤ 1048576 → PutS W0 X l' v' w' → Calls Tryz.prog 128 #[.slice (some ⟨b, off + halfN ss.length, none⟩) (ss.length - halfN ss.length) (ss.length - halfN ss.length), .pointer (some ⟨X, 0, none⟩)] w' fun e w'' => e = .returned (.tuple #[]) ∧ ∃ v'', PutS W0 X (l' ++ [treeB (ss.drop (halfN ss.length))]) v'' w'') := by
        intro l' v' w' hl' hK
        have := put_any W0 X l' v' (some ⟨b, off + halfN ss.length, none⟩) (ss.length - halfN ss.length) (ss.drop (halfN ss.length)) w' HT.out (HP.out.drop _) (by omega) (by omega) (fun x hx => HX.out x (List.mem_of_mem_drop hx)) hl' hK
        rwa [l2] at this
      have hll : (l ++ pathB (ss.take (halfN ss.length)) i).length ≤ 1048576 := by rw [List.length_append]; omega
      clear l1 l2 hlen
      generalize l ++ pathB (ss.take (halfN ss.length)) i = Q at *
      generalize treeB (ss.drop (halfN ss.length)) = T2 at *
      generalize halfN ss.length = k at *
      clear ih
      go_enter Tryz.func125, Tryz.ntmps125
      go_wp2_with fail
      refine (hH _).mono ?_
      rintro e w1 ⟨rfl, b1⟩
      go_wp2_with fail
      refine (I1.out _ (HK.out.below b1)).mono ?_
      rintro e w2 ⟨rfl, v2, K2⟩
      have HK2 : Hid (PutS W0 X Q v2 w2) := K2
      clear K2
      go_wp2_with fail
      refine (I2.out Q v2 _ hll HK2.out).mono ?_
      rintro e w3 ⟨rfl, v3, K3⟩
      have HK3 : Hid (PutS W0 X (Q ++ [T2]) v3 w3) := K3
      clear K3
      go_wp2_with fail
      refine bodyPost_ret (results_none rfl _ _ _) rfl ?_
      exact ⟨rfl, v3, by rw [← HB.out]; exact HK3.out⟩
    · have hlen := pathB_len (ss.drop (halfN ss.length)) (i - halfN ss.length) (by omega)
      have HB : Hid (l ++ pathB (ss.drop (halfN ss.length)) (i - halfN ss.length) ++ [treeB (ss.take (halfN ss.length))] = l ++ pathB ss i) := by
        show _ = _
        rw [pathB_right h2 hik, List.append_assoc]
      have I1 : Hid (∀ w', PutS W0 X l v w' → Calls Tryz.prog 125 #[.slice (some ⟨b, off + halfN ss.length, none⟩) (ss.length - halfN ss.length) (ss.length - halfN ss.length), .int .i64 ((i : Int) - (halfN ss.length : Int)), .func (.func 128) #[] #[.pointer (some ⟨X, 0, none⟩)]] w' fun e w'' => e = .returned (.tuple #[]) ∧ ∃ v', PutS W0 X (l ++ pathB (ss.drop (halfN ss.length)) (i - halfN ss.length)) v' w'') := by
        intro w' hK
        have := ih _ (by omega) W0 X (some ⟨b, off + halfN ss.length, none⟩) (ss.length - halfN ss.length) (ss.drop (halfN ss.length)) (i - halfN ss.length) l v w' l2 HT.out (HP.out.drop _) (by omega) (by omega) (fun x hx => HX.out x (List.mem_of_mem_drop hx)) (by omega) (by omega) hK
        rw [l2, show ((i - halfN ss.length : Nat) : Int) = (i : Int) - (halfN ss.length : Int) by omega] at this
        exact this
      have I2 : Hid (∀ l' v' w', l'.length ≤ 1048576 → PutS W0 X l' v' w' → Calls Tryz.prog 128 #[.slice (some ⟨b, off, none⟩) (halfN ss.length) (halfN ss.length), .pointer (some ⟨X, 0, none⟩)] w' fun e w'' => e = .returned (.tuple #[]) ∧ ∃ v'', PutS W0 X (l' ++ [treeB (ss.take (halfN ss.length))]) v'' w'') := by
        intro l' v' w' hl' hK
        have := put_any W0 X l' v' (some ⟨b, off, none⟩) (halfN ss.length) (ss.take (halfN ss.length)) w' HT.out (HP.out.take _) (by omega) (by omega) (fun x hx => HX.out x (List.mem_of_mem_take hx)) hl' hK
        rwa [l1] at this
      have hll : (l ++ pathB (ss.drop (halfN ss.length)) (i - halfN ss.length)).length ≤ 1048576 := by rw [List.length_append]; omega
      clear l1 l2 hlen
      generalize l ++ pathB (ss.drop (halfN ss.length)) (i - halfN ss.length) = Q at *
      generalize treeB (ss.take (halfN ss.length)) = T2 at *
      generalize halfN ss.length = k at *
      clear ih
      go_enter Tryz.func125, Tryz.ntmps125
      go_wp2_with fail
      refine (hH _).mono ?_
      rintro e w1 ⟨rfl, b1⟩
      go_wp2_with fail
      refine (I1.out _ (HK.out.below b1)).mono ?_
      rintro e w2 ⟨rfl, v2, K2⟩
      have HK2 : Hid (PutS W0 X Q v2 w2) := K2
      clear K2
      go_wp2_with fail
      refine (I2.out Q v2 _ hll HK2.out).mono ?_
      rintro e w3 ⟨rfl, v3, K3⟩
      have HK3 : Hid (PutS W0 X (Q ++ [T2]) v3 w3) := K3
      clear K3
      go_wp2_with fail
      go_end0
      exact ⟨rfl, v3, by rw [← HB.out]; exact HK3.out⟩
  · have h1 : (ss.length : Int) = 1 := by omega
    have HB : Hid (l ++ pathB ss i = l) := by show _ = _; rw [pathB_one h2, List.append_nil]
    clear ih
    go_enter Tryz.func125, Tryz.ntmps125
    go_wp2
    refine bodyPost_ret (results_none rfl _ _ _) rfl ?_
    exact ⟨rfl, v, by rw [HB.out]; exact HK.out⟩

set_option maxHeartbeats 1000000 in
theorem implPath_any (p : Option Addr) (cap : Nat) (ss : List ByteArray) (i : Int) (w : World) (hT : Tabs w) (hp : TxtAt w p ss) (hn : ss.length ≤ 140737488355328) (hcap : ss.length ≤ cap) (i0 : -9223372036854775808 ≤ i) (i1 : i ≤ 9223372036854775807) :
    Calls Tryz.prog 76 #[.slice p ss.length cap, .int .i64 i] w fun e w' => ∃ v, e = .returned v ∧ w'.ownsRow w.heap.size 9 1 v (pathA ss i).length (strRow (pathA ss i)) ∧ Below w.heap.size w w' := by
  have HT : Hid (Tabs w) := hT
  have HP : Hid (TxtAt w p ss) := hp
  clear hT hp
  have hr := entR_any p cap ss w HP.out hn hcap
  have H0 : Hid (pathA ss i = if entB ss = true ∧ 0 ≤ i ∧ i < ss.length then pathB ss i.toNat else []) := rfl
  cases he : entB ss
  · rw [he] at hr
    have H : Hid (pathA ss i = []) := H0.out.trans (if_neg fun h => by rw [he] at h; exact absurd h.1 (by simp))
    clear he
    go_enter Tryz.func76, Tryz.ntmps76
    go_wp2_with fail
    refine hr.mono ?_
    rintro e w1 ⟨rfl, rfl⟩
    go_wp2_with fail
    go_ret
    exact ⟨_, rfl, by rw [H.out]; exact World.ownsRow_nil _ _ _ _, Below.refl _ _⟩
  by_cases c1 : 0 ≤ i
  case neg =>
    rw [he] at hr
    have d1 : decide (i < 0) = true := decide_eq_true (by omega)
    have H : Hid (pathA ss i = []) := H0.out.trans (if_neg fun h => c1 h.2.1)
    clear he
    go_enter Tryz.func76, Tryz.ntmps76
    go_wp2_with fail
    refine hr.mono ?_
    rintro e w1 ⟨rfl, rfl⟩
    go_wp2_with fail
    go_ret
    exact ⟨_, rfl, by rw [H.out]; exact World.ownsRow_nil _ _ _ _, Below.refl _ _⟩
  have d1 : decide (i < 0) = false := decide_eq_false (by omega)
  by_cases c2 : i < ss.length
  case neg =>
    rw [he] at hr
    have d2 : decide ((ss.length : Int) ≤ i) = true := decide_eq_true (by omega)
    have H : Hid (pathA ss i = []) := H0.out.trans (if_neg fun h => c2 h.2.2)
    clear he
    go_enter Tryz.func76, Tryz.ntmps76
    go_wp2_with fail
    refine hr.mono ?_
    rintro e w1 ⟨rfl, rfl⟩
    go_wp2_with fail
    go_ret
    exact ⟨_, rfl, by rw [H.out]; exact World.ownsRow_nil _ _ _ _, Below.refl _ _⟩
  have d2 : decide ((ss.length : Int) ≤ i) = false := decide_eq_false (by omega)
  have H : Hid (pathA ss i = pathB ss i.toNat) := H0.out.trans (if_pos ⟨he, c1, c2⟩)
  have h100 := entB_all he
  have h64 := entB_len he
  rw [he] at hr
  obtain ⟨I, rfl⟩ := Int.eq_ofNat_of_zero_le c1
  rw [Int.toNat_natCast] at H
  have d3 : decide (ss.length ≤ I) = false := decide_eq_false (by omega)
  have HPP : Hid (∀ w', PutS w w.heap.size [] (.slice none 0 0) w' → Calls Tryz.prog 125 #[.slice p ss.length cap, .int .i64 (I : Int), .func (.func 128) #[] #[.pointer (some ⟨w.heap.size, 0, none⟩)]] w' fun e w'' => e = .returned (.tuple #[]) ∧ ∃ v', PutS w w.heap.size (pathA ss I) v' w'') := by
    intro w' hK
    have := putPath_any ss.length w w.heap.size p cap ss I [] _ w' rfl HT.out HP.out (by omega) hcap h100 (by omega) (by simp; omega) hK
    rw [List.nil_append, ← H.out] at this
    exact this
  have HTK := putter_any w
  unfold putF allF at HTK
  clear he h100 H0 H
  generalize pathA ss (I : Int) = R at *
  go_enter Tryz.func76, Tryz.ntmps76
  go_wp2_with fail
  refine hr.mono ?_
  rintro e w1 ⟨rfl, hw1⟩
  subst hw1
  go_wp2_with fail
  refine HTK.mono ?_
  rintro e w2 ⟨rfl, K2⟩
  have HK2 : Hid (PutS w1 w1.heap.size [] (.slice none 0 0) w2) := K2
  clear K2
  go_wp2_with fail
  refine (HPP.out _ HK2.out).mono ?_
  rintro e w3 ⟨rfl, v3, K3⟩
  have HK3 : Hid (PutS w1 w1.heap.size R v3 w3) := K3
  clear K3
  go_wp2_with fail
  refine (all_any w1 w1.heap.size R v3 w3 HK3.out).mono ?_
  rintro e w4 ⟨rfl, hw4⟩
  subst hw4
  go_wp2_with fail
  go_ret
  exact ⟨_, rfl, HK3.out.own, HK3.out.bel⟩
end Go.Proofs.YtnknnfgimiljjaaGreatDoor
/-
  What the laws' own helpers answer for slices of texts: szStringS (of few and small ones, a number that is not below 0, else -1), toStringS (a copy in new memory), eqStringS (are they alike).
  Conditions: the slices' cells hold those texts.
-/
namespace Go.Proofs.YtnknnfgimiljjaaGreatDoor
open Go.RowKit Go.Lib
set_option linter.unusedVariables false

def cutS (ss : List ByteArray) (k : Nat) : List ByteArray := ss.take k ++ List.replicate (ss.length - k) ByteArray.empty
theorem cutS_len (ss : List ByteArray) (k : Nat) (h : k ≤ ss.length) : (cutS ss k).length = ss.length := by simp [cutS]; omega
theorem cutS_set (ss : List ByteArray) (k : Nat) (h : k < ss.length) : (cutS ss k).set k ss[k] = cutS ss (k + 1) := by
  unfold cutS
  rw [show ss.length - k = (ss.length - (k + 1)) + 1 by omega, List.replicate_succ]
  have hl : (ss.take k).length = k := by simp; omega
  rw [List.set_append_right _ _ (by omega), hl, Nat.sub_self, List.set_cons_zero, List.take_succ_eq_append_getElem h, List.append_assoc]; rfl

def SzEnd (r : Int) (ss : List ByteArray) : Prop := r = -1 ∨ (0 ≤ r ∧ ss.length ≤ 1048576 ∧ ∀ x ∈ ss, x.size ≤ 1048576)
end Go.Proofs.YtnknnfgimiljjaaGreatDoor
/-
  What the laws' own helpers do that mark texts: markText (the mark of a number), markStringS (each text of a slice becomes its mark), heldStringS (are all still marked).
  Conditions: the slice owns its row, of at most 2^20 texts.
-/
namespace Go.Proofs.YtnknnfgimiljjaaGreatDoor
open Go.RowKit Go.Lib
set_option linter.unusedVariables false
set_option maxRecDepth 20000

def digs (k : Nat) (acc : ByteArray) : ByteArray := if h : k = 0 then acc else digs (k / 10) (strOfNums [48 + (k : Int) % 10] ++ acc)
termination_by k
decreasing_by omega
theorem digs_zero (acc : ByteArray) : digs 0 acc = acc := by rw [digs]; simp
theorem digs_pos {k : Nat} (h : k ≠ 0) (acc : ByteArray) : digs k acc = digs (k / 10) (strOfNums [48 + (k : Int) % 10] ++ acc) := by rw [digs]; simp [h]
def mk109 : ByteArray := ⟨#[109]⟩
def markB (k : Nat) : ByteArray := mk109 ++ digs k ByteArray.empty
def marksTo (l : List ByteArray) (k : Nat) : List ByteArray := (List.range k).map (fun j => markB (j + 1)) ++ l.drop k
def marksL (n : Nat) : List ByteArray := (List.range n).map (fun j => markB (j + 1))
theorem marksTo_len (l : List ByteArray) (k : Nat) (h : k ≤ l.length) : (marksTo l k).length = l.length := by simp [marksTo]; omega
theorem marksTo_set (l : List ByteArray) (k : Nat) (h : k < l.length) : (marksTo l k).set k (markB (k + 1)) = marksTo l (k + 1) := by
  unfold marksTo
  have hl : ((List.range k).map (fun j => markB (j + 1))).length = k := by simp
  rw [List.set_append_right _ _ (by omega), hl, Nat.sub_self, List.drop_eq_getElem_cons h, List.set_cons_zero, List.range_succ, List.map_append, List.append_assoc]; rfl
theorem marksTo_all (l : List ByteArray) : marksTo l l.length = marksL l.length := by unfold marksTo marksL; simp

theorem conv_one (w : World) (x : Int) : (convert 22 9 (.slice (some ⟨w.heap.size, 0, none⟩) 1 1)).run Tryz.prog (w.alloc (.cells #[.int .u8 x] 5)) = .ok (.string (strOfNums [x])) (w.alloc (.cells #[.int .u8 x] 5)) :=
  run_convert_bytes_arg (P := Tryz.prog) _ 22 5 Tryz.underlying22 Tryz.underlying5 w.heap.size 0 1 1 [x] rfl (fun i hi => by
    have : i = 0 := by simpa using hi
    subst this
    rw [World.cell?_alloc_mark]; rfl) 9 Tryz.underlying9

end Go.Proofs.YtnknnfgimiljjaaGreatDoor
/-
  markStringS and heldStringS from any number on: what the laws' own helpers answer.
-/
namespace Go.Proofs.YtnknnfgimiljjaaGreatDoor
open Go.RowKit Go.Lib
set_option linter.unusedVariables false
set_option maxRecDepth 20000

def marksT (s : Nat) (l : List ByteArray) (k : Nat) : List ByteArray := (List.range k).map (fun j => markB (j + s)) ++ l.drop k
def marksN (s n : Nat) : List ByteArray := (List.range n).map (fun j => markB (j + s))
theorem marksT_len (s : Nat) (l : List ByteArray) (k : Nat) (h : k ≤ l.length) : (marksT s l k).length = l.length := by simp [marksT]; omega
theorem marksT_set (s : Nat) (l : List ByteArray) (k : Nat) (h : k < l.length) : (marksT s l k).set k (markB (k + s)) = marksT s l (k + 1) := by
  unfold marksT
  have hl : ((List.range k).map (fun j => markB (j + s))).length = k := by simp
  rw [List.set_append_right _ _ (by omega), hl, Nat.sub_self, List.drop_eq_getElem_cons h, List.set_cons_zero, List.range_succ, List.map_append, List.append_assoc]; rfl
theorem marksT_all (s : Nat) (l : List ByteArray) : marksT s l l.length = marksN s l.length := by unfold marksT marksN; simp

end Go.Proofs.YtnknnfgimiljjaaGreatDoor
/-
  What the laws' own helpers answer for slices of fields: szFieldS, toFieldS (a copy in new memory), eqFieldS (of two that are alike).
  Conditions: the slices' cells hold the fields.
-/
namespace Go.Proofs.YtnknnfgimiljjaaGreatDoor
open Go.RowKit Go.Lib
set_option linter.unusedVariables false
set_option maxRecDepth 20000

def FldsBig (fs : List Fld) : Prop := ∀ f ∈ fs, f.n.size ≤ 9223372036854775807 ∧ f.c.size ≤ 9223372036854775807 ∧ f.s.size ≤ 9223372036854775807 ∧ f.v.size ≤ 9223372036854775807
def cutF (fs : List Fld) (k : Nat) : List Fld := fs.take k ++ List.replicate (fs.length - k) fldE5
theorem cutF_len (fs : List Fld) (k : Nat) (h : k ≤ fs.length) : (cutF fs k).length = fs.length := by simp [cutF]; omega
theorem cutF_set (fs : List Fld) (k : Nat) (h : k < fs.length) : (cutF fs k).set k fs[k] = cutF fs (k + 1) := by
  unfold cutF
  rw [show fs.length - k = (fs.length - (k + 1)) + 1 by omega, List.replicate_succ]
  have hl : (fs.take k).length = k := by simp; omega
  rw [List.set_append_right _ _ (by omega), hl, Nat.sub_self, List.set_cons_zero, List.take_succ_eq_append_getElem h, List.append_assoc]; rfl
theorem BlkF.own {w : World} {g : Nat} {l : List Fld} (h : BlkF w g l) (base : Nat) (hb : base ≤ g) (hm : l.length ≤ maxLen) : w.ownsRow base 72 5 (.slice (some ⟨g, 0, none⟩) l.length l.length) l.length (fldRow l) :=
  ⟨fldRow_len l, .inr ⟨g, l.length, (fldRow l).toArray, rfl, hb, h, Nat.le_refl _, hm, by rw [List.size_toArray, fldRow_len], List.take_of_length_le (by rw [fldRow_len]; exact Nat.le_refl _)⟩⟩

end Go.Proofs.YtnknnfgimiljjaaGreatDoor
/-
  What the laws' own helpers do that mark fields: markFieldS, heldFieldS, from any number on.
  Conditions: the slice owns its row, of at most 2^20 fields.
-/
namespace Go.Proofs.YtnknnfgimiljjaaGreatDoor
open Go.RowKit Go.Lib
set_option linter.unusedVariables false
set_option maxRecDepth 20000

def mkF (s j : Nat) : Fld := ⟨markB (s + 5 * j), markB (s + 5 * j + 1), markB (s + 5 * j + 2), markB (s + 5 * j + 3), decide ((s + 5 * j + 4) % 3 = 0)⟩
def mfN (s n : Nat) : List Fld := (List.range n).map (mkF s)
def mfT (s : Nat) (l : List Fld) (k : Nat) : List Fld := mfN s k ++ l.drop k
theorem mfT_len (s : Nat) (l : List Fld) (k : Nat) (h : k ≤ l.length) : (mfT s l k).length = l.length := by simp [mfT, mfN]; omega
theorem mfT_set (s : Nat) (l : List Fld) (k : Nat) (h : k < l.length) : (mfT s l k).set k (mkF s k) = mfT s l (k + 1) := by
  unfold mfT mfN
  have hl : ((List.range k).map (mkF s)).length = k := by simp
  rw [List.set_append_right _ _ (by omega), hl, Nat.sub_self, List.drop_eq_getElem_cons h, List.set_cons_zero, List.range_succ, List.map_append, List.append_assoc]; rfl
theorem mfT_all (s : Nat) (l : List Fld) : mfT s l l.length = mfN s l.length := by unfold mfT; simp
theorem mfN_len (s n : Nat) : (mfN s n).length = n := by simp [mfN]
/-- A step of the marking: a row of its own, and what is told of the world since. -/
structure MfS (w : World) (base g n cap : Nat) (row : List Value) (x : World) : Prop where
  own : x.ownsRow base 72 5 (.slice (some ⟨g, 0, none⟩) n cap) n row
  gr : w.grownBy x (some g)
theorem MfS.cell {w : World} {base g n cap : Nat} {row : List Value} {x y : World} (h : MfS w base g n cap row x) (hb : Below x.heap.size x y) (i : Nat) (hi : i < n * 5) : (∃ v, y.cell? ⟨g, i, none⟩ = some v) ∧ y.frozen? ⟨g, i, none⟩ = false := by
  have ho := ownS_below h.own hb
  refine ⟨?_, ho.frozenAt _⟩
  rw [ho.cellAt i hi]
  have hl : row.length = n * 5 := h.own.1
  exact ⟨row[i]'(by omega), List.getElem?_eq_getElem (by omega)⟩
theorem MfS.step {w : World} {base g n cap : Nat} {row : List Value} {x y : World} (h : MfS w base g n cap row x) (hb : Below x.heap.size x y) (i : Nat) (v : Value) : MfS w base g n cap (row.set i v) (y.setCell ⟨g, i, none⟩ v) := by
  have ho := ownS_below h.own hb
  have hst := ho.stored i v
  refine ⟨hst.1, ?_⟩
  have a := h.gr
  have a2 := hst.2
  refine ⟨(a2.os.trans hb.os).trans a.os, (a2.tape.trans hb.tape).trans a.tape, (a2.output.trans hb.output).trans a.output, by have := a.size; have := hb.size; have := a2.size; omega, fun q hq hne => ?_⟩
  have l1 := Nat.lt_of_lt_of_le hq a.size
  have l3 := Nat.lt_of_lt_of_le l1 hb.size
  exact (a2.block q l3 hne).trans ((hb.block q l1).trans (a.block q hq hne))
theorem mod3 (z : Int) (k : Nat) (hz : z = (k : Int)) : (z % 3 == 0) = decide (k % 3 = 0) := by
  subst hz
  rw [Bool.eq_iff_iff, beq_iff_eq, decide_eq_true_iff]; omega

end Go.Proofs.YtnknnfgimiljjaaGreatDoor
/-
  What the laws' own helpers answer for rows: szRow, toRow, eqRow, eqRowOut (of two that are alike).
  Conditions: the slices' cells hold the fields.
-/
namespace Go.Proofs.YtnknnfgimiljjaaGreatDoor
open Go.RowKit Go.Lib
set_option linter.unusedVariables false
set_option maxRecDepth 20000

end Go.Proofs.YtnknnfgimiljjaaGreatDoor
/-
  szStringS from any number on.
-/
namespace Go.Proofs.YtnknnfgimiljjaaGreatDoor
open Go.RowKit Go.Lib
set_option linter.unusedVariables false

def SzTo (r l0 : Int) (ss : List ByteArray) : Prop := r = -1 ∨ (0 ≤ r ∧ r ≤ l0 ∧ ss.length ≤ 1048576 ∧ ∀ x ∈ ss, x.size ≤ 1048576)
end Go.Proofs.YtnknnfgimiljjaaGreatDoor
