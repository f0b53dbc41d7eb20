/-
  Parts of one proof, laid as one text: Path2, Digest, DrawTree, Spoil, SignG; what each says stands at its head.
-/
import Derived.Test.YtnjegmffjelnpaaGreatDoorRows
import Derived.Test.YtnjegmffjelnpaaGreatDoorBytesDigMathTurnIWholeR
import Derived.Test.YtnjegmffjelnpaaGreatDoorTreeMath
import Derived.Test.YtnjegmffjelnpaaGreatDoorSlABxKSlBOwnSSgnBOwnBPadI
import Derived.Test.YtnjegmffjelnpaaGreatDoorPowerHalvesTreeTree2TreeHPathMathIncMathTaker
import Derived.Handy
import Derived.OwnWalk
import Derived.Deep.AppendLies
import Derived.Deep.RegionLaw
import Derived.Test.YtnjegmffjelnpaaGreatDoorAll2LeafNode
import Derived.Test.YtnjegmffjelnpaaGreatDoorMacMathPutMathJoinedDigITurn2
import Derived.Test.YtnjegmffjelnpaaGreatDoorPutNumAppSSrc
import Derived.Test.YtnjegmffjelnpaaGreatDoorDrawsDrawKitSomeIsInSignSSignDWide2StepApp
import Derived.WalkSpells
import Derived.Deep.QuietTactic
import Derived.BigQuiet
import Derived.Test.YtnjegmffjelnpaaGreatDoorTakePathConMathProofLawSignMathMac2
import Derived.Deep.RegionWith
/-
  The specification's l03Path and PathOf: the path of an entry, 'pathA', in new memory of its own.
  Conditions: the slice's cells hold the entries; index is an int64.
-/
namespace Go.Proofs.YtnjegmffjelnpaaGreatDoor
open Go.RowKit Go.Lib
set_option linter.unusedVariables false
set_option maxRecDepth 20000

set_option maxHeartbeats 2000000 in
theorem path2_any (N : Nat) : ∀ (p : Option Addr) (cap : Nat) (ss : List ByteArray) (i : Nat) (w : World), ss.length = N → TxtAt w p ss → ss.length ≤ 1024 → ss.length ≤ cap → (∀ x ∈ ss, x.size ≤ 100) → i < ss.length →
    Calls Tryz.prog 101 #[.slice p ss.length cap, .int .i64 (i : Int)] w fun e w' => ∃ v, e = .returned v ∧ w'.ownsRow w.heap.size 9 1 v (pathB ss i).length (strRow (pathB ss i)) ∧ Below w.heap.size w w' := by
  induction N using Nat.strongRecOn with
  | _ N ih =>
  intro p cap ss i w hN hp hn hcap h100 hi
  subst hN
  have HP : Hid (TxtAt w p ss) := hp
  have HX : Hid (∀ x ∈ ss, x.size ≤ 100) := h100
  clear hp h100
  by_cases h2 : 2 ≤ ss.length
  · obtain ⟨b, off, rfl, hb, _⟩ := HP.out 0 (by omega)
    have h1 := halfN_lt h2
    have h0 := halfN_pos ss.length
    have l1 : (ss.take (halfN ss.length)).length = halfN ss.length := by simp; omega
    have l2 : (ss.drop (halfN ss.length)).length = ss.length - halfN ss.length := by simp
    have hH := fun w => half2_any ss.length w h2 (by omega)
    obtain ⟨i0, hi0, hz0, hz1, hz2⟩ := info_parts infoStr
    by_cases hik : i < halfN ss.length
    · have hlen := pathB_len (ss.take (halfN ss.length)) i (by omega)
      have HB : Hid (pathB (ss.take (halfN ss.length)) i ++ [treeB (ss.drop (halfN ss.length))] = pathB ss i) := (pathB_left h2 hik).symm
      have I1 : Hid (∀ w', Below w.heap.size w w' → Calls Tryz.prog 101 #[.slice (some ⟨b, off, none⟩) (halfN ss.length) cap, .int .i64 (i : Int)] w' fun e w'' => ∃ v, e = .returned v ∧ w''.ownsRow w.heap.size 9 1 v (pathB (ss.take (halfN ss.length)) i).length (strRow (pathB (ss.take (halfN ss.length)) i)) ∧ Below w'.heap.size w' w'') := by
        intro w' hbl
        have := ih _ (by omega) (some ⟨b, off, none⟩) cap (ss.take (halfN ss.length)) i w' l1 ((HP.out.below hbl).take _) (by omega) (by omega) (fun x hx => HX.out x (List.mem_of_mem_take hx)) (by omega)
        rw [l1] at this
        exact this.mono fun e w'' ⟨v, he, ho, hb⟩ => ⟨v, he, ownS_mono ho hbl.size, hb⟩
      have I2 : Hid (∀ w', Below w.heap.size w w' → Calls Tryz.prog 30 #[.slice (some ⟨b, off + halfN ss.length, none⟩) (ss.length - halfN ss.length) (cap - halfN ss.length)] w' fun e w'' => e = .returned (.string (treeB (ss.drop (halfN ss.length)))) ∧ Below w'.heap.size w' w'') := by
        intro w' hbl
        have := tree2_any _ (some ⟨b, off + halfN ss.length, none⟩) (cap - halfN ss.length) (ss.drop (halfN ss.length)) w' l2 ((HP.out.below hbl).drop _) (by omega) (by omega) (fun x hx => HX.out x (List.mem_of_mem_drop hx))
        rwa [l2] at this
      clear l1 l2
      have hQl : (pathB (ss.take (halfN ss.length)) i).length ≤ 1024 := by simp at hlen; omega
      clear hlen
      generalize pathB (ss.take (halfN ss.length)) i = Q at *
      generalize treeB (ss.drop (halfN ss.length)) = T at *
      generalize halfN ss.length = k at *
      clear ih
      have q1 : (k : Int) ≤ cap := by omega
      have q2 : (k : Int) ≤ ss.length := by omega
      have q3 : (ss.length : Int) ≤ cap := by omega
      have q4 : ¬ cap = k := by omega
      have q5 : (0 : Int) ≤ k := by omega
      have q6 : IntKind.i64.wrap ((i : Int) - (k : Int)) = (i : Int) - (k : Int) := by rw [IntKind.wrap_i64]; omega
      go_enter Tryz.func101, Tryz.ntmps101
      go_wp2_with fail
      refine (hH _).mono ?_
      rintro e w1 ⟨rfl, hw1⟩
      subst hw1
      go_wp2_with fail
      go_region_law
        (first
          | (refine step_append_lies _ rfl _ _ 24 rfl w1.heap.size 9 i0 (.string ByteArray.empty) 1 16 Tryz.underlying24 hi0 hz0 hz1 hz2 rfl (by omega) v2 Q.length (strRow Q) rfl (own3.alloc _) ⟨w3.heap.size, 0, none⟩ 1 1 [.string T] rfl rfl (World.news_of_block (cs := #[.string T]) (t := 9) (fr := (0, 0)) (MapKept.heap_alloc w3 _).1) (by simp [Value.oneCell']) (by omega) (by unfold maxLen; omega) (by omega) (by simp; omega) (w3.heap.size + 1) (by simp) ?_; intro g2 cap2 w4 hown4 hgrow hat hltg)
          | (go_simp; go_at_call 30; refine (I2.out _ b2).mono ?_; rintro e w3 ⟨rfl, b3⟩; have own3 := ownS_below own2 b3; have b3 := chainB b2 b3; have hs3 := b3.size)
          | (go_simp; go_at_call 101; refine (I1.out _ ((Below.refl _ _).drew)).mono ?_; rintro e w2 ⟨v2, rfl, own2, b2⟩; have b2 := chainB ((Below.refl _ _).drew) b2))
      all_goals
        have B4 : Below w1.heap.size w1 w4 := (b3.alloc b3.size _).grown hgrow (by simp; omega) (fun j hj => (own3.lt j hj).1)
        have hfin : w4.ownsRow w1.heap.size 9 1 (.slice (some ⟨g2, 0, none⟩) (Q.length + 1) cap2) (pathB ss i).length (strRow (pathB ss i)) := by
          rw [← HB.out]
          have e1 : (Q ++ [T]).length = Q.length + 1 := by simp
          have e2 : strRow (Q ++ [T]) = strRow Q ++ [.string T] := by simp [strRow]
          rw [e1, e2]
          exact hown4
        go_wp2
        go_ret
        exact ⟨_, rfl, hfin, B4⟩
    · have hlen := pathB_len (ss.drop (halfN ss.length)) (i - halfN ss.length) (by omega)
      have HB : Hid (pathB (ss.drop (halfN ss.length)) (i - halfN ss.length) ++ [treeB (ss.take (halfN ss.length))] = pathB ss i) := (pathB_right h2 hik).symm
      have I1 : Hid (∀ w', Below w.heap.size w w' → Calls Tryz.prog 101 #[.slice (some ⟨b, off + halfN ss.length, none⟩) (ss.length - halfN ss.length) (cap - halfN ss.length), .int .i64 ((i : Int) - (halfN ss.length : Int))] w' fun e w'' => ∃ v, e = .returned v ∧ w''.ownsRow w.heap.size 9 1 v (pathB (ss.drop (halfN ss.length)) (i - halfN ss.length)).length (strRow (pathB (ss.drop (halfN ss.length)) (i - halfN ss.length))) ∧ Below w'.heap.size w' w'') := by
        intro w' hbl
        have := ih _ (by omega) (some ⟨b, off + halfN ss.length, none⟩) (cap - halfN ss.length) (ss.drop (halfN ss.length)) (i - halfN ss.length) w' l2 ((HP.out.below hbl).drop _) (by omega) (by omega) (fun x hx => HX.out x (List.mem_of_mem_drop hx)) (by omega)
        rw [l2, show ((i - halfN ss.length : Nat) : Int) = (i : Int) - (halfN ss.length : Int) by omega] at this
        exact this.mono fun e w'' ⟨v, he, ho, hb⟩ => ⟨v, he, ownS_mono ho hbl.size, hb⟩
      have I2 : Hid (∀ w', Below w.heap.size w w' → Calls Tryz.prog 30 #[.slice (some ⟨b, off, none⟩) (halfN ss.length) cap] w' fun e w'' => e = .returned (.string (treeB (ss.take (halfN ss.length)))) ∧ Below w'.heap.size w' w'') := by
        intro w' hbl
        have := tree2_any _ (some ⟨b, off, none⟩) cap (ss.take (halfN ss.length)) w' l1 ((HP.out.below hbl).take _) (by omega) (by omega) (fun x hx => HX.out x (List.mem_of_mem_take hx))
        rwa [l1] at this
      clear l1 l2
      have hQl : (pathB (ss.drop (halfN ss.length)) (i - halfN ss.length)).length ≤ 1024 := by simp at hlen; omega
      clear hlen
      generalize pathB (ss.drop (halfN ss.length)) (i - halfN ss.length) = Q at *
      generalize treeB (ss.take (halfN ss.length)) = T at *
      generalize halfN ss.length = k at *
      clear ih
      have q1 : (k : Int) ≤ cap := by omega
      have q2 : (k : Int) ≤ ss.length := by omega
      have q3 : (ss.length : Int) ≤ cap := by omega
      have q4 : ¬ cap = k := by omega
      have q5 : (0 : Int) ≤ k := by omega
      have q6 : IntKind.i64.wrap ((i : Int) - (k : Int)) = (i : Int) - (k : Int) := by rw [IntKind.wrap_i64]; omega
      go_enter Tryz.func101, Tryz.ntmps101
      go_wp2_with fail
      refine (hH _).mono ?_
      rintro e w1 ⟨rfl, hw1⟩
      subst hw1
      go_wp2_with fail
      go_region_law
        (first
          | (refine step_append_lies _ rfl _ _ 24 rfl w1.heap.size 9 i0 (.string ByteArray.empty) 1 16 Tryz.underlying24 hi0 hz0 hz1 hz2 rfl (by omega) v2 Q.length (strRow Q) rfl (own3.alloc _) ⟨w3.heap.size, 0, none⟩ 1 1 [.string T] rfl rfl (World.news_of_block (cs := #[.string T]) (t := 9) (fr := (0, 0)) (MapKept.heap_alloc w3 _).1) (by simp [Value.oneCell']) (by omega) (by unfold maxLen; omega) (by omega) (by simp; omega) (w3.heap.size + 1) (by simp) ?_; intro g2 cap2 w4 hown4 hgrow hat hltg)
          | (go_simp; go_at_call 30; refine (I2.out _ b2).mono ?_; rintro e w3 ⟨rfl, b3⟩; have own3 := ownS_below own2 b3; have b3 := chainB b2 b3; have hs3 := b3.size)
          | (go_simp; go_at_call 101; refine (I1.out _ ((Below.refl _ _).drew)).mono ?_; rintro e w2 ⟨v2, rfl, own2, b2⟩; have b2 := chainB ((Below.refl _ _).drew) b2))
      all_goals
        have B4 : Below w1.heap.size w1 w4 := (b3.alloc b3.size _).grown hgrow (by simp; omega) (fun j hj => (own3.lt j hj).1)
        have hfin : w4.ownsRow w1.heap.size 9 1 (.slice (some ⟨g2, 0, none⟩) (Q.length + 1) cap2) (pathB ss i).length (strRow (pathB ss i)) := by
          rw [← HB.out]
          have e1 : (Q ++ [T]).length = Q.length + 1 := by simp
          have e2 : strRow (Q ++ [T]) = strRow Q ++ [.string T] := by simp [strRow]
          rw [e1, e2]
          exact hown4
        go_wp2
        go_ret
        exact ⟨_, rfl, hfin, B4⟩
  · have h1 : (ss.length : Int) = 1 := by omega
    have HB : Hid (pathB ss i = []) := pathB_one h2 i
    clear ih
    go_enter Tryz.func101, Tryz.ntmps101
    go_wp2
    go_ret
    exact ⟨_, rfl, by rw [HB.out]; exact ownS_none w, (Below.refl _ _).alloc (Nat.le_refl _) _⟩

end Go.Proofs.YtnjegmffjelnpaaGreatDoor
/-
  What Digest answers, in the program and in the specification: 'digestB': the digest of a text of at most 8000 bytes, else nothing.
-/
namespace Go.Proofs.YtnjegmffjelnpaaGreatDoor
open Go.RowKit Go.Lib
set_option linter.unusedVariables false
set_option maxRecDepth 20000

def digestB (t : ByteArray) : ByteArray := if t.size ≤ 8000 then digB t else ByteArray.empty

set_option maxHeartbeats 400000 in
theorem implDigest_any (t : ByteArray) (w : World) (ht : t.size ≤ maxLen) (hT : Tabs w) :
    Calls Tryz.prog 63 #[.string t] w fun e w' => e = .returned (.string (digestB t)) ∧ Below w.heap.size w w' := by
  have HT : Hid (Tabs w) := hT
  clear hT
  by_cases h : t.size ≤ 8000
  · have H : Hid (digestB t = digB t) := if_pos h
    go_enter Tryz.func63, Tryz.ntmps63
    go_wp2_with (go_at_call 61; refine (digI_any t _ (by omega) HT.out).mono ?_; rintro e w1 ⟨rfl, hb⟩)
    go_ret
    exact ⟨ret_str H.out.symm, hb⟩
  · have H : Hid (digestB t = ByteArray.empty) := if_neg h
    unfold maxLen at ht
    go_enter Tryz.func63, Tryz.ntmps63
    go_wp2
    go_ret
    exact ⟨ret_str H.out.symm, Below.refl _ _⟩
end Go.Proofs.YtnjegmffjelnpaaGreatDoor
/-
  What lwTexts answers of two slices of texts; what DrawPathOf and DrawProofOf draw: at most 30 texts of at most 101 bytes, and a number from -1 to 31.
-/
namespace Go.Proofs.YtnjegmffjelnpaaGreatDoor
open Go.RowKit Go.Lib
set_option linter.unusedVariables false
set_option maxRecDepth 20000

set_option maxHeartbeats 400000 in
theorem texts_any (p q : Option Addr) (cap cap2 : Nat) (ss ts : List ByteArray) (w : World) (hp : TxtAt w p ss) (hq : TxtAt w q ts) (hn : ss.length ≤ 140737488355328) (hn2 : ts.length ≤ 140737488355328) (hcap : ss.length ≤ cap) (hcap2 : ts.length ≤ cap2) :
    Calls Tryz.prog 18 #[.slice p ss.length cap, .slice q ts.length cap2] w fun e w' => e = .returned (.bool (decide (ss = ts))) ∧ Below w.heap.size w w' := by
  have HP : Hid (TxtAt w p ss) := hp
  have HQ : Hid (TxtAt w q ts) := hq
  clear hp hq
  by_cases hl : ss.length = ts.length
  · rw [← hl]
    have hl2 : Hid (ss.length = ts.length) := hl
    clear hl
    rw [← hl2.out] at hcap2
    go_enter Tryz.func18, Tryz.ntmps18
    go_wp2
    go_loopw [5] (fun i wr => ∃ k m : Nat, k ≤ ss.length ∧ i = .int .i64 k ∧ wr = w.drewN m ∧ Hid (∀ j (h : j < ss.length) (h2 : j < ts.length), j < k → ss[j] = ts[j])) (fun i _ => ss.length - (Go.RowKit.intOf i).toNat)
    case atStart => exact ⟨0, 0, Nat.zero_le _, rfl, rfl, fun j h h2 hk => by omega⟩
    case round =>
      obtain ⟨k, m, hk, rfl, rfl, HK⟩ := hrel
      by_cases hlt : k < ss.length
      · have hlt2 : k < ts.length := by have := hl2.out; omega
        obtain ⟨b, off, rfl, hb, hck⟩ := HP.out k hlt
        obtain ⟨b2, off2, rfl, hb2, hck2⟩ := HQ.out k hlt2
        have j5 : (k : Int) < ss.length := by omega
        by_cases he : ss[k] = ts[k]
        · have HK2 : Hid (∀ j (h : j < ss.length) (h2 : j < ts.length), j < k + 1 → ss[j] = ts[j]) := fun j h h2 hj => if hjk : j = k then by subst hjk; exact he else HK.out j h h2 (by omega)
          rw [← he] at hck2
          clear he
          generalize ss[k] = x at *
          go_wp2
          go_quiet (fail)
          go_wp2
          go_roundw
          case rel => exact ⟨k + 1, _, by omega, by go_num, rfl, HK2⟩
          case measure => simp [Go.RowKit.intOf]; omega
        · have HF : Hid (decide (ss = ts) = false) := decide_eq_false (fun h => he (by subst h; rfl))
          generalize ss[k] = x at *
          generalize ts[k] = y at *
          have hne : (x.toList == y.toList) = false := by
            rw [beq_eq_false_iff_ne]
            exact fun h => he (toList_inj h)
          clear he
          go_wp2
          go_quiet (fail)
          go_wp2
          go_ret
          exact ⟨ret_bool HF.out.symm, ⟨rfl, rfl, rfl, Nat.le_refl _, fun _ _ => rfl⟩⟩
      · have HF : Hid (decide (ss = ts) = true) := decide_eq_true (List.ext_getElem hl2.out fun j h h2 => HK.out j h h2 (by omega))
        go_wp2
        go_ret
        exact ⟨ret_bool HF.out.symm, ⟨rfl, rfl, rfl, Nat.le_refl _, fun _ _ => rfl⟩⟩
  · have HF : Hid (decide (ss = ts) = false) := decide_eq_false (fun h => hl (by rw [h]))
    have hl2 : ¬ (ss.length : Int) = ts.length := by omega
    go_enter Tryz.func18, Tryz.ntmps18
    go_wp2
    go_ret
    exact ⟨ret_bool HF.out.symm, Below.refl _ _⟩

/-- What is drawn: few and small texts. -/
def Drawn (w : World) (v : Value) (L : List ByteArray) : Prop := ∃ q cq, v = .slice q L.length cq ∧ L.length ≤ cq ∧ TxtAt w q L ∧ L.length ≤ 31 ∧ ∀ x ∈ L, x.size ≤ 101
theorem own_drawn {w : World} {base : Nat} {v : Value} {L : List ByteArray} (h : w.ownsRow base 9 1 v L.length (strRow L)) (hl : L.length ≤ 31) (hs : ∀ x ∈ L, x.size ≤ 101) : Drawn w v L := by
  obtain ⟨q, cq, rfl, h1, h2⟩ := ownS_form h
  exact ⟨q, cq, rfl, h1, h2, hl, hs⟩

end Go.Proofs.YtnjegmffjelnpaaGreatDoor
/-
  What l03Spoil makes of a list of digests: a list of few and small texts, in new memory. The source's block alone is written.
  Conditions: the source is one ('Src'); each text of the list is 32 bytes.
-/
namespace Go.Proofs.YtnjegmffjelnpaaGreatDoor
open Go.RowKit Go.Lib
set_option linter.unusedVariables false
set_option maxRecDepth 20000

/-- Few and small texts, to be read. -/
def Few (w : World) (v : Value) (L : List ByteArray) : Prop := ∃ q cq, v = .slice q L.length cq ∧ L.length ≤ cq ∧ TxtAt w q L ∧ L.length ≤ 65 ∧ ∀ x ∈ L, x.size ≤ 32
theorem own_few {w : World} {base : Nat} {v : Value} {L : List ByteArray} (h : w.ownsRow base 9 1 v L.length (strRow L)) (hl : L.length ≤ 65) (hs : ∀ x ∈ L, x.size ≤ 32) : Few w v L := by
  obtain ⟨q, cq, rfl, h1, h2⟩ := ownS_form h
  exact ⟨q, cq, rfl, h1, h2, hl, hs⟩
theorem digestB_le (t : ByteArray) : (digestB t).size ≤ 32 := by
  unfold digestB; split
  · rw [digB_size]; omega
  · simp

theorem TxtAt.put {w : World} {g : Nat} {ss : List ByteArray} (h : TxtAt w (some ⟨g, 0, none⟩) ss) (k : Nat) (hk : k < ss.length) (s : ByteArray) : TxtAt (w.setCell ⟨g, k, none⟩ (.string s)) (some ⟨g, 0, none⟩) (ss.set k s) := by
  intro i hi
  have hi2 : i < ss.length := by simpa using hi
  obtain ⟨b, off, h0, h1, h2⟩ := h i hi2
  cases h0
  refine ⟨g, 0, rfl, by simpa [World.setCell] using h1, ?_⟩
  rw [Nat.zero_add] at h2 ⊢
  by_cases he : k = i
  · subst he
    rw [World.cell?_setCell_same _ _ _ h2]; simp
  · rw [World.cell?_setCell_other _ _ _ _ (fun e => he (by cases e; rfl)), h2]; simp [he]
/-- An own row that is not empty: its block, its cells, nothing of it frozen. -/
theorem ownS_at {w : World} {base : Nat} {q : Option Addr} {c : Nat} {l : List ByteArray} (h : w.ownsRow base 9 1 (.slice q l.length c) l.length (strRow l)) (hl : 0 < l.length) :
    ∃ g, q = some ⟨g, 0, none⟩ ∧ base ≤ g ∧ g < w.heap.size ∧ TxtAt w (some ⟨g, 0, none⟩) l ∧ ∀ i, w.frozen? ⟨g, i, none⟩ = false := by
  rcases h.2 with ⟨h1, h0⟩ | ⟨g, cap, cur, h1, h2, h3, h4⟩
  · omega
  · cases h1
    obtain ⟨q', c', e1, e2, e3⟩ := ownS_form h
    cases e1
    exact ⟨g, rfl, h2, lt_of_block h3, e3, fun i => by simp [World.frozen?, h3]⟩

end Go.Proofs.YtnjegmffjelnpaaGreatDoor
/-
  What the specification's l04Sign and Sign answer: a key, and two rows of texts that lie apart in memory of their own.
-/
namespace Go.Proofs.YtnjegmffjelnpaaGreatDoor
open Go.RowKit Go.Lib
set_option linter.unusedVariables false
set_option maxRecDepth 20000

/-- The digits of a text in a row. -/
def DigAt (w : World) (g : Nat) (t : ByteArray) : Prop := g < w.heap.size ∧ ∀ j, j < 6 → w.cell? ⟨g, j, none⟩ = some (.int .i64 (dg t j))
theorem dig_form {w : World} {base : Nat} {v : Value} {t : ByteArray} (h : w.ownsRow base 2 1 v 6 ((digsI t).map (Value.int .i64))) : ∃ g c, v = .slice (some ⟨g, 0, none⟩) 6 c ∧ 6 ≤ c ∧ base ≤ g ∧ DigAt w g t := by
  rcases h.2 with ⟨rfl, h0⟩ | ⟨g, cap, cur, rfl, h2, h3, h4, h5, h6, h7⟩
  · cases h0
  · refine ⟨g, cap, rfl, h4, h2, lt_of_block h3, fun j hj => ?_⟩
    have h8 : (cur.toList.take (6 * 1))[j]? = some (.int .i64 (dg t j)) := by
      rw [h7]
      have hl : j < (digsI t).length := hj
      simp [dg, List.getD_eq_getElem?_getD, List.getElem?_eq_getElem hl]
    rw [List.getElem?_take_of_lt (by omega)] at h8
    simpa [World.cell?, h3] using h8
theorem DigAt.below {w w' : World} {g : Nat} {t : ByteArray} (h : DigAt w g t) (hb : Below w.heap.size w w') : DigAt w' g t := ⟨Nat.lt_of_lt_of_le h.1 hb.size, fun j hj => by rw [hb.cell (p := ⟨g, j, none⟩) h.1]; exact h.2 j hj⟩

/-- The box of what is made at X, its Ends in memory that came behind W. -/
structure SgS (W : World) (X : Nat) (k : Int) (v1 v2 : Value) (l : List ByteArray) (w : World) : Prop where
  gr : W.grownBy w (some X)
  box : w.heap[X]? = some (.cells #[.int .i64 k, v1, v2] 30 (0, 0))
  own : w.ownsRow W.heap.size 9 1 v1 l.length (strRow l)
section
variable {W w w' : World} {X : Nat} {k : Int} {v1 v2 v' : Value} {l l' : List ByteArray}
theorem SgS.lt (h : SgS W X k v1 v2 l w) : X < w.heap.size := lt_of_block h.box
theorem SgS.below (h : SgS W X k v1 v2 l w) (hb : Below w.heap.size w w') : SgS W X k v1 v2 l w' :=
  ⟨touch_below h.gr hb, (hb.block _ h.lt).trans h.box, ownS_below h.own hb⟩
theorem SgS.drew (h : SgS W X k v1 v2 l w) : SgS W X k v1 v2 l w.drew := h.below (Below.refl _ _).drew
theorem SgS.cells (h : SgS W X k v1 v2 l w) : w.cell? ⟨X, 0, none⟩ = some (.int .i64 k) ∧ w.cell? ⟨X, 1, none⟩ = some v1 ∧ w.cell? ⟨X, 2, none⟩ = some v2 ∧ w.frozen? ⟨X, 1, none⟩ = false := by
  simp [World.cell?, World.frozen?, h.box]
theorem SgS.append (h : SgS W X k v1 v2 l w) (hX : X < W.heap.size) (o : Obj) (hg : (w.alloc o).grownBy w' v1.ownBlock) (ho : w'.ownsRow W.heap.size 9 1 v' l'.length (strRow l')) :
    w'.cell? ⟨X, 1, none⟩ = some v1 ∧ w'.frozen? ⟨X, 1, none⟩ = false ∧ SgS W X k v' v2 l' (w'.setCell ⟨X, 1, none⟩ v') := by
  have hlt := h.lt
  have hb : w'.heap[X]? = some (.cells #[.int .i64 k, v1, v2] 30 (0, 0)) := (hg.block X (by simp; omega) (fun e => by have := (h.own.lt X e.symm).1; omega)).trans ((Below.heap_alloc _ _ _ hlt).trans h.box)
  have hG : W.grownBy w' (some X) := touch_own (touch_below h.gr ((Below.refl _ _).alloc (Nat.le_refl _) o)) hg (fun j hj => (h.own.lt j hj).1)
  refine ⟨?_, ?_, ⟨touch_set hG 1 v', by rw [blk_set hb]; rfl, ownsRow_setCell_below ho hX _⟩⟩ <;> simp [World.cell?, World.frozen?, hb]
end
theorem DigAt.touch {W w : World} {X g : Nat} {t : ByteArray} (h : DigAt W g t) (hg : W.grownBy w (some X)) (hne : g ≠ X) : DigAt w g t := by
  refine ⟨Nat.lt_of_lt_of_le h.1 hg.size, fun j hj => ?_⟩
  have hb := hg.block g h.1 (fun e => hne (by cases e; rfl))
  have := h.2 j hj
  simpa [World.cell?, hb] using this

set_option maxHeartbeats 4000000 in
theorem specSignB_any (seed : ByteArray) (I : Nat) (text : ByteArray) (w : World) (hs : seed.size ≤ 1048576) (hI : I < 4) (ht : text.size ≤ 1048576) :
    Calls Tryz.prog 58 #[.string seed, .int .i64 (I : Int), .string text] w fun e w' => ∃ v1 v2, e = .returned (.agg #[.int .i64 (I : Int), v1, v2]) ∧ w'.ownsRow w.heap.size 9 1 v1 (endsTo seed I text 6).length (strRow (endsTo seed I text 6)) ∧ w'.ownsRow w.heap.size 9 1 v2 (pathB (pubsB seed) I).length (strRow (pathB (pubsB seed) I)) ∧ v1.ownBlock ≠ v2.ownBlock ∧ Below w.heap.size w w' := by
  obtain ⟨W1, hW1⟩ : ∃ W1, W1 = w.alloc (.cells #[.int .i64 0, .slice none 0 0, .slice none 0 0] 30) := ⟨_, rfl⟩
  have HW1 : Hid (W1 = w.alloc (.cells #[.int .i64 0, .slice none 0 0, .slice none 0 0] 30)) := hW1
  have B1 : Hid (Below w.heap.size w W1) := by rw [hW1]; exact (Below.refl _ _).alloc (Nat.le_refl _) _
  have X1 : Hid (W1.heap[w.heap.size]? = some (.cells #[.int .i64 0, .slice none 0 0, .slice none 0 0] 30 (0, 0))) := by rw [hW1]; exact (MapKept.heap_alloc w _).1
  have HZ1 : Hid (W1.heap.size = w.heap.size + 1) := by rw [hW1]; show _ = _; simp
  clear hW1
  go_enter Tryz.func58, Tryz.ntmps58
  go_wp2_with fail
  rw [← HW1.out]
  refine (specPublics_any seed W1 hs).mono ?_
  rintro e w1 ⟨v, rfl, o1, b1⟩
  obtain ⟨q, c, rfl, hc, htx⟩ := ownS_form o1
  have hP := path2_any 4 q c (pubsB seed) I w1 (pubsB_len seed) htx (by rw [pubsB_len]; omega) hc (fun x hx => by rw [pubsTo_wide seed 4 x hx]; omega) (by rw [pubsB_len]; omega)
  have hb1 := b1
  clear htx o1 hc
  go_wp2_with fail
  refine hP.mono ?_
  rintro e w2 ⟨v, rfl, o2, b2⟩
  have hz12 := b2.size
  have b2 := chainB b1 b2
  obtain ⟨q2, c2, rfl, hc2, _⟩ := ownS_form o2
  have HPl : Hid ((pathB (pubsB seed) I).length = 2) := pathB_four (pubsB seed) (pubsB_len seed) I hI
  obtain ⟨PP, hPP⟩ : ∃ PP, PP = pathB (pubsB seed) I := ⟨_, rfl⟩
  rw [← hPP] at o2 HPl ⊢
  have HPP : Hid (PP = pathB (pubsB seed) I) := hPP
  rw [← hPP] at hc2
  clear hPP
  have hsz1 := HZ1.out
  have hsz2 := b1.size
  have hsz3 := b2.size
  obtain ⟨W3, hW3⟩ : ∃ W3, W3 = w2.alloc (.cells #[.int .i64 (I : Int), .slice none 0 0, .slice q2 PP.length c2] 30) := ⟨_, rfl⟩
  have HW3 : Hid (W3 = w2.alloc (.cells #[.int .i64 (I : Int), .slice none 0 0, .slice q2 PP.length c2] 30)) := hW3
  have b3 : Below w2.heap.size w2 W3 := by rw [hW3]; exact (Below.refl _ _).alloc (Nat.le_refl _) _
  have X3 : W3.heap[w2.heap.size]? = some (.cells #[.int .i64 (I : Int), .slice none 0 0, .slice q2 PP.length c2] 30 (0, 0)) := by rw [hW3]; exact (MapKept.heap_alloc w2 _).1
  have hz3 : W3.heap.size = w2.heap.size + 1 := by rw [hW3]; simp
  have o3 := ownS_below o2 b3
  have b3 := chainB b2 b3
  clear hW3
  go_wp2_with fail
  rw [← HW3.out]
  refine (specDigits_any text W3 ht).mono ?_
  rintro e w4 ⟨v, rfl, od, b4⟩
  obtain ⟨g, cg, rfl, hcg, hg3, hd4⟩ := dig_form od
  have o4 := ownS_below o3 b4
  have hX4 : w2.heap.size < w4.heap.size := by have := b4.size; omega
  have S4 : Hid (SgS w4 w2.heap.size (I : Int) (.slice none 0 0) (.slice q2 PP.length c2) (endsTo seed I text 0) w4) := ⟨World.grownBy.refl _ _, (b4.block _ (by omega)).trans X3, World.ownsRow_nil _ _ _ _⟩
  have Y4 : Hid (w4.heap[w.heap.size]? = some (.cells #[.int .i64 0, .slice none 0 0, .slice none 0 0] 30 (0, 0))) := ((chainB b3 b4).block _ (by omega)).trans X1.out
  have HD : Hid (DigAt w4 g text) := hd4
  have B4 : Hid (Below w.heap.size w w4) := chainB (chainB B1.out b3) b4
  have O4 : Hid (w4.ownsRow w1.heap.size 9 1 (.slice q2 PP.length c2) PP.length (strRow PP)) := o4
  have hgX : g ≠ w2.heap.size := by omega
  have HN : Hid (w1.heap.size ≤ w2.heap.size ∧ w.heap.size < w1.heap.size ∧ w.heap.size < w2.heap.size) := ⟨hz12, by omega, by omega⟩
  have HV2 : Hid (∀ b, (Value.slice q2 PP.length c2).ownBlock = some b → b < w2.heap.size) := fun b hb => (o2.lt b hb).2
  clear hz12 o2 o3 o4 od hd4 X3 hz3 b1 b2 b3 b4 hb1 hsz1 hsz2 hsz3 hP HW1 HW3 X1 B1 hg3
  go_wp2_with fail
  go_loopw [9] (fun i wr => ∃ (j : Nat) (v1 : Value), i = .int .i64 j ∧ j ≤ 6 ∧ Hid (SgS w4 w2.heap.size (I : Int) v1 (.slice q2 PP.length c2) (endsTo seed I text j) wr)) (fun i _ => 6 - (Go.RowKit.intOf i).toNat)
  case atStart => exact ⟨0, _, rfl, by omega, S4⟩
  case round =>
    clear S4
    obtain ⟨j, v1, rfl, hj, HS⟩ := hrel
    obtain ⟨k0, k1, k2, f1⟩ := HS.out.cells
    obtain ⟨q1, c1, rfl, hc1, _⟩ := ownS_form HS.out.own
    by_cases hlt : j < 6
    · have d1 : decide ((j : Int) < 6) = true := decide_eq_true (by omega)
      have i1 : (j : Int) < 6 := by omega
      obtain ⟨m0, m1⟩ := dg_bd text j hlt
      have HE : Hid (endsTo seed I text (j + 1) = endsTo seed I text j ++ [stepsB (dg text j).toNat (begB seed I j)]) := endsTo_step seed I text j
      have HDj : Hid (∀ x, w4.grownBy x (some w2.heap.size) → x.cell? ⟨g, j, none⟩ = some (.int .i64 (dg text j))) := fun x hg => (HD.out.touch hg hgX).2 j hlt
      have hl : (endsTo seed I text j).length ≤ 6 := by rw [endsTo_len]; omega
      obtain ⟨m, hm⟩ := Int.eq_ofNat_of_zero_le m0
      rw [hm] at HDj HE
      rw [Int.toNat_natCast] at HE
      have hm15 : m ≤ 15 := by omega
      have QB : Hid (∀ w', Calls Tryz.prog 71 #[.string seed, .int .i64 (I : Int), .int .i64 (j : Int)] w' fun e x1 => e = .returned (.string (begB seed I j)) ∧ Below w'.heap.size w' x1) := fun w' => specBegin_any seed I j w' hs (by omega) (by omega) (by omega) (by omega)
      have hGs := begB_size seed I j
      generalize begB seed (I : Int) (j : Int) = G at *
      have QS : Hid (∀ w', Calls Tryz.prog 70 #[.string G, .int .i64 (m : Int)] w' fun e x1 => e = .returned (.string (stepsB m G)) ∧ Below w'.heap.size w' x1) := fun w' => specSteps_any G m w' (by omega) (by omega)
      generalize stepsB m G = E at *
      have k3 := HDj.out _ HS.out.gr
      clear hm m0 m1 hGs
      generalize hLg : endsTo seed (I : Int) text j = L at *
      clear hLg
      go_wp2_with fail
      go_region_law (first
        | (refine step_append_run rfl _ _ 24 rfl (.slice q1 L.length c1) (.slice (some ⟨x2.heap.size, 0, none⟩) 1 1) _ _ rfl rfl (by with_reducible exact hr4) ?_)
        | (go_simp; go_at_call 71; refine (QB.out _).mono ?_; rintro e x1 ⟨rfl, y1⟩; have s1 : SgS w4 w2.heap.size (I : Int) (.slice q1 L.length c1) (.slice q2 PP.length c2) L x1 := SgS.below (by first | exact HS.out | exact HS.out.drew) y1; obtain ⟨k4, k5, k6, f4⟩ := s1.cells; have k7 := HDj.out _ s1.gr)
        | (go_simp; go_at_call 70; refine (QS.out _).mono ?_; rintro e x2 ⟨rfl, y2⟩; have s2 : SgS w4 w2.heap.size (I : Int) (.slice q1 L.length c1) (.slice q2 PP.length c2) L x2 := SgS.below (by first | exact s1 | exact s1.drew) y2; obtain ⟨k8, k9, k10, f8⟩ := s2.cells; obtain ⟨v4, w5, hr4, ho4, hg4⟩ := app_one x2 w4.heap.size _ L s2.own E (by omega) s2.gr.size; obtain ⟨q5, c5, rfl, _, _⟩ := ownS_form ho4; obtain ⟨a0, a1, RR⟩ := s2.append hX4 _ hg4 ho4; obtain ⟨k12, k13, k14, f12⟩ := (SgS.below (w' := x2.alloc (.cells #[.string E] 9)) s2 ((Below.refl _ _).alloc (Nat.le_refl _) _)).cells))
      all_goals
        have e1 : (L ++ [E]).length = L.length + 1 := by simp
        rw [e1] at RR
        have R5 : Hid (SgS w4 w2.heap.size (I : Int) (.slice q5 (L.length + 1) c5) (.slice q2 PP.length c2) (endsTo seed I text (j + 1)) (w5.setCell ⟨w2.heap.size, 1, none⟩ (.slice q5 (L.length + 1) c5))) := by rw [HE.out]; exact RR
        clear RR ho4 hg4 s1 s2 y1 y2 e1
        go_wp2_with fail
        go_roundw
        case rel => exact ⟨j + 1, _, by go_num, by omega, R5⟩
        case measure => simp [Go.RowKit.intOf]; omega
    · obtain rfl : j = 6 := by omega
      rw [show ((6 : Nat) : Int) = (6 : Int) from rfl]
      obtain ⟨z0, z1, z2⟩ := HN.out
      have hb0 : wr.heap[w.heap.size]? = some (.cells #[.int .i64 0, .slice none 0 0, .slice none 0 0] 30 (0, 0)) := (HS.out.gr.block w.heap.size (by omega) (fun e => by simp at e; omega)).trans Y4.out
      have t0 : wr.cell? ⟨w.heap.size, 0, none⟩ = some (.int .i64 0) ∧ wr.cell? ⟨w.heap.size, 1, none⟩ = some (.slice none 0 0) ∧ wr.cell? ⟨w.heap.size, 2, none⟩ = some (.slice none 0 0) ∧ wr.frozen? ⟨w.heap.size, 0, none⟩ = false ∧ wr.frozen? ⟨w.heap.size, 1, none⟩ = false ∧ wr.frozen? ⟨w.heap.size, 2, none⟩ = false := by simp [World.cell?, World.frozen?, hb0]
      obtain ⟨t0, t1, t2, u0, u1, u2⟩ := t0
      have HEnd : Hid (∀ x y z : Value, (((wr.setCell ⟨w.heap.size, 0, none⟩ x).setCell ⟨w.heap.size, 1, none⟩ y).setCell ⟨w.heap.size, 2, none⟩ z).ownsRow w.heap.size 9 1 (.slice q1 (endsTo seed I text 6).length c1) (endsTo seed I text 6).length (strRow (endsTo seed I text 6)) ∧ (((wr.setCell ⟨w.heap.size, 0, none⟩ x).setCell ⟨w.heap.size, 1, none⟩ y).setCell ⟨w.heap.size, 2, none⟩ z).ownsRow w.heap.size 9 1 (.slice q2 PP.length c2) PP.length (strRow PP) ∧ (Value.slice q1 (endsTo seed I text 6).length c1).ownBlock ≠ (Value.slice q2 PP.length c2).ownBlock ∧ Below w.heap.size w (((wr.setCell ⟨w.heap.size, 0, none⟩ x).setCell ⟨w.heap.size, 1, none⟩ y).setCell ⟨w.heap.size, 2, none⟩ z)) := by
        intro x y z
        have h1 : ∀ {base : Nat} {v : Value} {n : Nat} {xs : List Value}, wr.ownsRow base 9 1 v n xs → w.heap.size < base → (((wr.setCell ⟨w.heap.size, 0, none⟩ x).setCell ⟨w.heap.size, 1, none⟩ y).setCell ⟨w.heap.size, 2, none⟩ z).ownsRow w.heap.size 9 1 v n xs := fun h hlt => ownS_mono (ownsRow_setCell_below (ownsRow_setCell_below (ownsRow_setCell_below h hlt _) hlt _) hlt _) (by omega)
        have hB := below_touch B4.out HS.out.gr (by omega)
        refine ⟨h1 HS.out.own (by omega), h1 (O4.out.kept HS.out.gr (.inr (fun e => by have := HV2.out _ e; omega))) z1, ?_, ((hB.setCell (Nat.le_refl _) _).setCell (Nat.le_refl _) _).setCell (Nat.le_refl _) _⟩
        obtain ⟨g1, rfl, hg1, _⟩ := ownS_at HS.out.own (by rw [endsTo_len]; omega)
        intro e
        have := HV2.out g1 e.symm
        omega
      clear hb0 z0 z1 z2 hlt
      go_wp2_with fail
      refine bodyPost_ret (v := .agg #[.int .i64 (I : Int), .slice q1 (endsTo seed I text 6).length c1, .slice q2 PP.length c2]) (by simp [results, Tryz.results58, go_sem, t0, t1, t2]) rfl ?_
      obtain ⟨r1, r2, r3, r4⟩ := HEnd.out (.int .i64 (I : Int)) (.slice q1 (endsTo seed I text 6).length c1) (.slice q2 PP.length c2)
      rw [← HPP.out]
      exact ⟨_, _, rfl, r1, r2, r3, r4⟩
end Go.Proofs.YtnjegmffjelnpaaGreatDoor
