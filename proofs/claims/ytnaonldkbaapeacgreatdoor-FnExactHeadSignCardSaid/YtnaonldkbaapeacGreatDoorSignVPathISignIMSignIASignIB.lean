/-
  Parts of one proof, laid as one text: SignV, PathI, SignIM, SignIA, SignIB; what each says stands at its head.
-/
import Derived.Test.YtnaonldkbaapeacGreatDoorRows
import Derived.Test.YtnaonldkbaapeacGreatDoorBytesDigMath
import Derived.Test.YtnaonldkbaapeacGreatDoorSlASlBBxKOwnSTakes
import Derived.Test.YtnaonldkbaapeacGreatDoorSignMathLgRtWide2Mac2
import Derived.Test.YtnaonldkbaapeacGreatDoorSignSSignDPath2
import Derived.Test.YtnaonldkbaapeacGreatDoorDigestDrawTreeSpoilSignG
import Derived.Handy
import Derived.WalkSpells
import Derived.OwnWalk
import Derived.Test.YtnaonldkbaapeacGreatDoorTreeMath
import Derived.Test.YtnaonldkbaapeacGreatDoorProof2HalvesTreePutter
import Derived.Test.YtnaonldkbaapeacGreatDoorLawLmOpFOpLgPathMath
import Derived.Test.YtnaonldkbaapeacGreatDoorBlockI
import Derived.Test.YtnaonldkbaapeacGreatDoorPadIDigITurn2
import Derived.Test.YtnaonldkbaapeacGreatDoorJoinedPutTextFldMath
import Derived.Test.YtnaonldkbaapeacGreatDoorAsDAs2CodeOfTimeIDigAllImplFC
import Derived.Deep.RegionLaw
import Derived.Deep.RegionWith
/-
  What the specification's Sign and SigRight answer.
-/
namespace Go.Proofs.YtnaonldkbaapeacGreatDoor
open Go.RowKit Go.Lib
set_option linter.unusedVariables false
set_option maxRecDepth 20000

set_option maxHeartbeats 2000000 in
theorem specSign_any (seed : ByteArray) (key : Int) (text : ByteArray) (w : World) (hs : seed.size ≤ 1048576) (ht : text.size ≤ 1048576) :
    Calls Tryz.prog 28 #[.string seed, .int .i64 key, .string text] w fun e w' => ∃ v1 v2, e = .returned (.agg #[.int .i64 (sgK seed key text), v1, v2]) ∧ w'.ownsRow w.heap.size 9 1 v1 (sgE seed key text).length (strRow (sgE seed key text)) ∧ w'.ownsRow w.heap.size 9 1 v2 (sgP seed key text).length (strRow (sgP seed key text)) ∧ (v1.ownBlock = none ∨ v1.ownBlock ≠ v2.ownBlock) ∧ Below w.heap.size w w' := by
  obtain ⟨W1, hW1⟩ : ∃ W1, W1 = w.alloc (.cells #[.int .i64 0, .slice none 0 0, .slice none 0 0] 28) := ⟨_, rfl⟩
  have HW1 : Hid (W1 = w.alloc (.cells #[.int .i64 0, .slice none 0 0, .slice none 0 0] 28)) := hW1
  have B1 : Hid (Below w.heap.size w W1) := by rw [hW1]; exact (Below.refl _ _).alloc (Nat.le_refl _) _
  have X1 : Hid (W1.heap[w.heap.size]? = some (.cells #[.int .i64 0, .slice none 0 0, .slice none 0 0] 28 (0, 0))) := by rw [hW1]; exact (MapKept.heap_alloc w _).1
  have HZ1 : Hid (W1.heap.size = w.heap.size + 1) := by rw [hW1]; show _ = _; simp
  clear hW1
  have hS := specSeed_any seed W1 (by unfold maxLen; omega)
  have hK := isIn_any key 0 3 W1
  have HBk : Hid (∀ x, Below W1.heap.size W1 x → x.cell? ⟨w.heap.size, 0, none⟩ = some (.int .i64 0) ∧ x.cell? ⟨w.heap.size, 1, none⟩ = some (.slice none 0 0) ∧ x.cell? ⟨w.heap.size, 2, none⟩ = some (.slice none 0 0) ∧ x.frozen? ⟨w.heap.size, 0, none⟩ = false ∧ x.frozen? ⟨w.heap.size, 1, none⟩ = false ∧ x.frozen? ⟨w.heap.size, 2, none⟩ = false) := fun x hb => by
    have h0 := (hb.block w.heap.size (by rw [HZ1.out]; omega)).trans X1.out
    simp [World.cell?, World.frozen?, h0]
  have HNo : Hid (signOk seed key text = false → sgK seed key text = 0 ∧ sgE seed key text = [] ∧ sgP seed key text = []) := fun h => by
    have hn : ¬ signOk seed key text = true := by rw [h]; exact Bool.false_ne_true
    exact ⟨if_neg hn, if_neg hn, if_neg hn⟩
  have HZero : Hid (∀ x y z : Value, signOk seed key text = false → ∃ v1 v2, Ending.returned (.agg #[.int .i64 0, .slice none 0 0, .slice none 0 0]) = .returned (.agg #[.int .i64 (sgK seed key text), v1, v2]) ∧ (((W1.setCell ⟨w.heap.size, 0, none⟩ x).setCell ⟨w.heap.size, 1, none⟩ y).setCell ⟨w.heap.size, 2, none⟩ z).ownsRow w.heap.size 9 1 v1 (sgE seed key text).length (strRow (sgE seed key text)) ∧ (((W1.setCell ⟨w.heap.size, 0, none⟩ x).setCell ⟨w.heap.size, 1, none⟩ y).setCell ⟨w.heap.size, 2, none⟩ z).ownsRow w.heap.size 9 1 v2 (sgP seed key text).length (strRow (sgP seed key text)) ∧ (v1.ownBlock = none ∨ v1.ownBlock ≠ v2.ownBlock) ∧ Below w.heap.size w (((W1.setCell ⟨w.heap.size, 0, none⟩ x).setCell ⟨w.heap.size, 1, none⟩ y).setCell ⟨w.heap.size, 2, none⟩ z)) := by
    intro x y z h
    obtain ⟨e1, e2, e3⟩ := HNo.out h
    rw [e1, e2, e3]
    exact ⟨_, _, rfl, World.ownsRow_nil _ _ _ _, World.ownsRow_nil _ _ _ _, .inl rfl, ((B1.out.setCell (Nat.le_refl _) _).setCell (Nat.le_refl _) _).setCell (Nat.le_refl _) _⟩
  obtain ⟨t0, t1, t2, u0, u1, u2⟩ := HBk.out W1 (Below.refl _ _)
  cases h1 : seedB seed with
  | false =>
    have hno : signOk seed key text = false := by unfold signOk; rw [h1]; rfl
    have HZ := fun x y z => HZero.out x y z hno
    rw [h1] at hS
    clear hno h1 HZero HNo hK HBk X1
    go_enter Tryz.func28, Tryz.ntmps28
    go_wp2_with fail
    rw [← HW1.out]
    refine hS.mono ?_
    rintro e w1 ⟨rfl, rfl⟩
    go_wp2_with fail
    refine bodyPost_ret (v := .agg #[.int .i64 0, .slice none 0 0, .slice none 0 0]) (by simp [results, Tryz.results28, go_sem, t0, t1, t2]) rfl ?_
    exact HZ _ _ _
  | true =>
  by_cases h2 : 0 ≤ key ∧ key ≤ 3
  case neg =>
    have hno : signOk seed key text = false := by unfold signOk; rw [h1, decide_eq_false h2]; rfl
    have HZ := fun x y z => HZero.out x y z hno
    rw [h1] at hS
    rw [decide_eq_false h2] at hK
    clear hno h1 h2 HZero HNo HBk X1
    go_enter Tryz.func28, Tryz.ntmps28
    go_wp2_with fail
    rw [← HW1.out]
    refine hS.mono ?_
    rintro e w1 ⟨rfl, rfl⟩
    go_wp2_with fail
    refine hK.mono ?_
    rintro e w1 ⟨rfl, rfl⟩
    go_wp2_with fail
    refine bodyPost_ret (v := .agg #[.int .i64 0, .slice none 0 0, .slice none 0 0]) (by simp [results, Tryz.results28, go_sem, t0, t1, t2]) rfl ?_
    exact HZ _ _ _
  rw [h1] at hS
  rw [decide_eq_true h2] at hK
  by_cases h3 : text.size ≤ 8000
  case neg =>
    have hno : signOk seed key text = false := by unfold signOk; rw [h1, decide_eq_true h2, decide_eq_false h3]; rfl
    have HZ := fun x y z => HZero.out x y z hno
    have d3 : decide (8000 < (text.size : Int)) = true := decide_eq_true (by omega)
    clear hno h1 h2 h3 HZero HNo HBk X1
    go_enter Tryz.func28, Tryz.ntmps28
    go_wp2_with fail
    rw [← HW1.out]
    refine hS.mono ?_
    rintro e w1 ⟨rfl, rfl⟩
    go_wp2_with fail
    refine hK.mono ?_
    rintro e w1 ⟨rfl, rfl⟩
    go_wp2_with fail
    refine bodyPost_ret (v := .agg #[.int .i64 0, .slice none 0 0, .slice none 0 0]) (by simp [results, Tryz.results28, go_sem, t0, t1, t2]) rfl ?_
    exact HZ _ _ _
  have hok : signOk seed key text = true := by unfold signOk; rw [h1, decide_eq_true h2, decide_eq_true h3]; rfl
  have d3 : decide (8000 < (text.size : Int)) = false := decide_eq_false (by omega)
  have HE : Hid (sgK seed key text = key ∧ sgE seed key text = endsTo seed key text 6 ∧ sgP seed key text = pathB (pubsB seed) key.toNat) := ⟨if_pos hok, if_pos hok, if_pos hok⟩
  obtain ⟨I, rfl⟩ := Int.eq_ofNat_of_zero_le h2.1
  rw [Int.toNat_natCast] at HE
  have hG := specSignB_any seed I text W1 hs (by omega) ht
  clear hok h1 h2 h3 HZero HNo X1
  go_enter Tryz.func28, Tryz.ntmps28
  go_wp2_with fail
  rw [← HW1.out]
  refine hS.mono ?_
  rintro e w1 ⟨rfl, rfl⟩
  go_wp2_with fail
  refine hK.mono ?_
  rintro e w1 ⟨rfl, rfl⟩
  go_wp2_with fail
  refine hG.mono ?_
  rintro e w2 ⟨v1, v2, rfl, o1, o2, hne, b2⟩
  obtain ⟨s0, s1, s2, r0, r1, r2⟩ := HBk.out w2 b2
  obtain ⟨q1, c1, rfl, _, _⟩ := ownS_form o1
  obtain ⟨q2, c2, rfl, _, _⟩ := ownS_form o2
  have HEnd : Hid (∀ x y z : Value, (((w2.setCell ⟨w.heap.size, 0, none⟩ x).setCell ⟨w.heap.size, 1, none⟩ y).setCell ⟨w.heap.size, 2, none⟩ z).ownsRow w.heap.size 9 1 (.slice q1 (endsTo seed I text 6).length c1) (endsTo seed I text 6).length (strRow (endsTo seed I text 6)) ∧ (((w2.setCell ⟨w.heap.size, 0, none⟩ x).setCell ⟨w.heap.size, 1, none⟩ y).setCell ⟨w.heap.size, 2, none⟩ z).ownsRow w.heap.size 9 1 (.slice q2 (pathB (pubsB seed) I).length c2) (pathB (pubsB seed) I).length (strRow (pathB (pubsB seed) I)) ∧ Below w.heap.size w (((w2.setCell ⟨w.heap.size, 0, none⟩ x).setCell ⟨w.heap.size, 1, none⟩ y).setCell ⟨w.heap.size, 2, none⟩ z)) := by
    intro x y z
    have hz := HZ1.out
    have h1 : ∀ {v : Value} {n : Nat} {xs : List Value}, w2.ownsRow w1.heap.size 9 1 v n xs → (((w2.setCell ⟨w.heap.size, 0, none⟩ x).setCell ⟨w.heap.size, 1, none⟩ y).setCell ⟨w.heap.size, 2, none⟩ z).ownsRow w.heap.size 9 1 v n xs := fun h => ownS_mono (ownsRow_setCell_below (ownsRow_setCell_below (ownsRow_setCell_below h (by show w.heap.size < _; omega) _) (by show w.heap.size < _; omega) _) (by show w.heap.size < _; omega) _) (by omega)
    have hB := chainB B1.out b2
    exact ⟨h1 o1, h1 o2, ((hB.setCell (Nat.le_refl _) _).setCell (Nat.le_refl _) _).setCell (Nat.le_refl _) _⟩
  have HNe : Hid ((Value.slice q1 (endsTo seed I text 6).length c1).ownBlock ≠ (Value.slice q2 (pathB (pubsB seed) I).length c2).ownBlock) := hne
  clear o1 o2 b2 hne HBk t0 t1 t2 u0 u1 u2 hG
  generalize endsTo seed (I : Int) text 6 = L1 at *
  generalize pathB (pubsB seed) I = L2 at *
  go_wp2_with fail
  refine bodyPost_ret (v := .agg #[.int .i64 (I : Int), .slice q1 L1.length c1, .slice q2 L2.length c2]) (by simp [results, Tryz.results28, go_sem, s0, s1, s2]) rfl ?_
  obtain ⟨r1, r2, r3⟩ := HEnd.out (.int .i64 (I : Int)) (.slice q1 L1.length c1) (.slice q2 L2.length c2)
  obtain ⟨e1, e2, e3⟩ := HE.out
  rw [e1, e2, e3]
  exact ⟨_, _, rfl, r1, r2, .inr HNe.out, r3⟩
end Go.Proofs.YtnaonldkbaapeacGreatDoor
/-
  The program's putPath and PathOf: the path of an entry, 'pathA', in new memory of its own.
  Conditions: the slice's cells hold the entries; index is an int64; the two tables lie as the program's text lays them.
-/
namespace Go.Proofs.YtnaonldkbaapeacGreatDoor
open Go.RowKit Go.Lib
set_option linter.unusedVariables false
set_option maxRecDepth 20000

set_option maxHeartbeats 1000000 in
theorem putPath_any (N : Nat) : ∀ (W0 : World) (X : Nat) (p : Option Addr) (cap : Nat) (ss : List ByteArray) (i : Nat) (l : List ByteArray) (v : Value) (w : World), ss.length = N → Tabs W0 → TxtAt W0 p ss → ss.length ≤ 1024 → ss.length ≤ cap → (∀ x ∈ ss, x.size ≤ 100) →
    i < ss.length → l.length + ss.length ≤ 1048576 → PutS W0 X l v w →
    Calls Tryz.prog 101 #[.slice p ss.length cap, .int .i64 (i : Int), putF X] w fun e w' => e = .returned (.tuple #[]) ∧ ∃ v', PutS W0 X (l ++ pathB ss i) v' w' := by
  induction N using Nat.strongRecOn with
  | _ N ih =>
  intro W0 X p cap ss i l v w hN hT hp hn hcap h100 hi hl hK
  subst hN
  have HT : Hid (Tabs W0) := hT
  have HP : Hid (TxtAt W0 p ss) := hp
  have HX : Hid (∀ x ∈ ss, x.size ≤ 100) := h100
  have HK : Hid (PutS W0 X l v w) := hK
  clear hT hp h100 hK
  unfold putF at ih ⊢
  by_cases h2 : 2 ≤ ss.length
  · obtain ⟨b, off, rfl, hb, _⟩ := HP.out 0 (by omega)
    have h1 := halfN_lt h2
    have h0 := halfN_pos ss.length
    have l1 : (ss.take (halfN ss.length)).length = halfN ss.length := by simp; omega
    have l2 : (ss.drop (halfN ss.length)).length = ss.length - halfN ss.length := by simp
    have hH := fun w => halves_any b off ss.length cap w h2 (by omega) hcap
    by_cases hik : i < halfN ss.length
    · have hlen := pathB_len (ss.take (halfN ss.length)) i (by omega)
      have HB : Hid (l ++ pathB (ss.take (halfN ss.length)) i ++ [treeB (ss.drop (halfN ss.length))] = l ++ pathB ss i) := by
        show _ = _
        rw [pathB_left h2 hik, List.append_assoc]
      have I1 : Hid (∀ w', PutS W0 X l v w' → Calls Tryz.prog 101 #[.slice (some ⟨b, off, none⟩) (halfN ss.length) (halfN ss.length), .int .i64 (i : Int), .func (.func 109) #[] #[.pointer (some ⟨X, 0, none⟩)]] w' fun e w'' => e = .returned (.tuple #[]) ∧ ∃ v', PutS W0 X (l ++ pathB (ss.take (halfN ss.length)) i) v' w'') := by
        intro w' hK
        have := ih _ (by omega) W0 X (some ⟨b, off, none⟩) (halfN ss.length) (ss.take (halfN ss.length)) i l v w' l1 HT.out (HP.out.take _) (by omega) (by omega) (fun x hx => HX.out x (List.mem_of_mem_take hx)) (by omega) (by omega) hK
        rwa [l1] at this
      have I2 : Hid (∀ l' v' w', l'.length ≤ 1048576 → PutS W0 X l' v' w' → Calls Tryz.prog 109 #[.slice (some ⟨b, off + halfN ss.length, none⟩) (ss.length - halfN ss.length) (ss.length - halfN ss.length), .pointer (some ⟨X, 0, none⟩)] w' fun e w'' => e = .returned (.tuple #[]) ∧ ∃ v'', PutS W0 X (l' ++ [treeB (ss.drop (halfN ss.length))]) v'' w'') := by
        intro l' v' w' hl' hK
        have := put_any W0 X l' v' (some ⟨b, off + halfN ss.length, none⟩) (ss.length - halfN ss.length) (ss.drop (halfN ss.length)) w' HT.out (HP.out.drop _) (by omega) (by omega) (fun x hx => HX.out x (List.mem_of_mem_drop hx)) hl' hK
        rwa [l2] at this
      have hll : (l ++ pathB (ss.take (halfN ss.length)) i).length ≤ 1048576 := by rw [List.length_append]; omega
      clear l1 l2 hlen
      generalize l ++ pathB (ss.take (halfN ss.length)) i = Q at *
      generalize treeB (ss.drop (halfN ss.length)) = T2 at *
      generalize halfN ss.length = k at *
      clear ih
      go_enter Tryz.func101, Tryz.ntmps101
      go_wp2_with fail
      refine (hH _).mono ?_
      rintro e w1 ⟨rfl, b1⟩
      go_wp2_with fail
      refine (I1.out _ (HK.out.below b1)).mono ?_
      rintro e w2 ⟨rfl, v2, K2⟩
      have HK2 : Hid (PutS W0 X Q v2 w2) := K2
      clear K2
      go_wp2_with fail
      refine (I2.out Q v2 _ hll HK2.out).mono ?_
      rintro e w3 ⟨rfl, v3, K3⟩
      have HK3 : Hid (PutS W0 X (Q ++ [T2]) v3 w3) := K3
      clear K3
      go_wp2_with fail
      refine bodyPost_ret (results_none rfl _ _ _) rfl ?_
      exact ⟨rfl, v3, by rw [← HB.out]; exact HK3.out⟩
    · have hlen := pathB_len (ss.drop (halfN ss.length)) (i - halfN ss.length) (by omega)
      have HB : Hid (l ++ pathB (ss.drop (halfN ss.length)) (i - halfN ss.length) ++ [treeB (ss.take (halfN ss.length))] = l ++ pathB ss i) := by
        show _ = _
        rw [pathB_right h2 hik, List.append_assoc]
      have I1 : Hid (∀ w', PutS W0 X l v w' → Calls Tryz.prog 101 #[.slice (some ⟨b, off + halfN ss.length, none⟩) (ss.length - halfN ss.length) (ss.length - halfN ss.length), .int .i64 ((i : Int) - (halfN ss.length : Int)), .func (.func 109) #[] #[.pointer (some ⟨X, 0, none⟩)]] w' fun e w'' => e = .returned (.tuple #[]) ∧ ∃ v', PutS W0 X (l ++ pathB (ss.drop (halfN ss.length)) (i - halfN ss.length)) v' w'') := by
        intro w' hK
        have := ih _ (by omega) W0 X (some ⟨b, off + halfN ss.length, none⟩) (ss.length - halfN ss.length) (ss.drop (halfN ss.length)) (i - halfN ss.length) l v w' l2 HT.out (HP.out.drop _) (by omega) (by omega) (fun x hx => HX.out x (List.mem_of_mem_drop hx)) (by omega) (by omega) hK
        rw [l2, show ((i - halfN ss.length : Nat) : Int) = (i : Int) - (halfN ss.length : Int) by omega] at this
        exact this
      have I2 : Hid (∀ l' v' w', l'.length ≤ 1048576 → PutS W0 X l' v' w' → Calls Tryz.prog 109 #[.slice (some ⟨b, off, none⟩) (halfN ss.length) (halfN ss.length), .pointer (some ⟨X, 0, none⟩)] w' fun e w'' => e = .returned (.tuple #[]) ∧ ∃ v'', PutS W0 X (l' ++ [treeB (ss.take (halfN ss.length))]) v'' w'') := by
        intro l' v' w' hl' hK
        have := put_any W0 X l' v' (some ⟨b, off, none⟩) (halfN ss.length) (ss.take (halfN ss.length)) w' HT.out (HP.out.take _) (by omega) (by omega) (fun x hx => HX.out x (List.mem_of_mem_take hx)) hl' hK
        rwa [l1] at this
      have hll : (l ++ pathB (ss.drop (halfN ss.length)) (i - halfN ss.length)).length ≤ 1048576 := by rw [List.length_append]; omega
      clear l1 l2 hlen
      generalize l ++ pathB (ss.drop (halfN ss.length)) (i - halfN ss.length) = Q at *
      generalize treeB (ss.take (halfN ss.length)) = T2 at *
      generalize halfN ss.length = k at *
      clear ih
      go_enter Tryz.func101, Tryz.ntmps101
      go_wp2_with fail
      refine (hH _).mono ?_
      rintro e w1 ⟨rfl, b1⟩
      go_wp2_with fail
      refine (I1.out _ (HK.out.below b1)).mono ?_
      rintro e w2 ⟨rfl, v2, K2⟩
      have HK2 : Hid (PutS W0 X Q v2 w2) := K2
      clear K2
      go_wp2_with fail
      refine (I2.out Q v2 _ hll HK2.out).mono ?_
      rintro e w3 ⟨rfl, v3, K3⟩
      have HK3 : Hid (PutS W0 X (Q ++ [T2]) v3 w3) := K3
      clear K3
      go_wp2_with fail
      go_end0
      exact ⟨rfl, v3, by rw [← HB.out]; exact HK3.out⟩
  · have h1 : (ss.length : Int) = 1 := by omega
    have HB : Hid (l ++ pathB ss i = l) := by show _ = _; rw [pathB_one h2, List.append_nil]
    clear ih
    go_enter Tryz.func101, Tryz.ntmps101
    go_wp2
    refine bodyPost_ret (results_none rfl _ _ _) rfl ?_
    exact ⟨rfl, v, by rw [HB.out]; exact HK.out⟩

set_option maxHeartbeats 1000000 in
theorem implPath_any (p : Option Addr) (cap : Nat) (ss : List ByteArray) (i : Int) (w : World) (hT : Tabs w) (hp : TxtAt w p ss) (hn : ss.length ≤ 140737488355328) (hcap : ss.length ≤ cap) (i0 : -9223372036854775808 ≤ i) (i1 : i ≤ 9223372036854775807) :
    Calls Tryz.prog 67 #[.slice p ss.length cap, .int .i64 i] w fun e w' => ∃ v, e = .returned v ∧ w'.ownsRow w.heap.size 9 1 v (pathA ss i).length (strRow (pathA ss i)) ∧ Below w.heap.size w w' := by
  have HT : Hid (Tabs w) := hT
  have HP : Hid (TxtAt w p ss) := hp
  clear hT hp
  have hr := entR_any p cap ss w HP.out hn hcap
  have H0 : Hid (pathA ss i = if entB ss = true ∧ 0 ≤ i ∧ i < ss.length then pathB ss i.toNat else []) := rfl
  cases he : entB ss
  · rw [he] at hr
    have H : Hid (pathA ss i = []) := H0.out.trans (if_neg fun h => by rw [he] at h; exact absurd h.1 (by simp))
    clear he
    go_enter Tryz.func67, Tryz.ntmps67
    go_wp2_with fail
    refine hr.mono ?_
    rintro e w1 ⟨rfl, rfl⟩
    go_wp2_with fail
    go_ret
    exact ⟨_, rfl, by rw [H.out]; exact World.ownsRow_nil _ _ _ _, Below.refl _ _⟩
  by_cases c1 : 0 ≤ i
  case neg =>
    rw [he] at hr
    have d1 : decide (i < 0) = true := decide_eq_true (by omega)
    have H : Hid (pathA ss i = []) := H0.out.trans (if_neg fun h => c1 h.2.1)
    clear he
    go_enter Tryz.func67, Tryz.ntmps67
    go_wp2_with fail
    refine hr.mono ?_
    rintro e w1 ⟨rfl, rfl⟩
    go_wp2_with fail
    go_ret
    exact ⟨_, rfl, by rw [H.out]; exact World.ownsRow_nil _ _ _ _, Below.refl _ _⟩
  have d1 : decide (i < 0) = false := decide_eq_false (by omega)
  by_cases c2 : i < ss.length
  case neg =>
    rw [he] at hr
    have d2 : decide ((ss.length : Int) ≤ i) = true := decide_eq_true (by omega)
    have H : Hid (pathA ss i = []) := H0.out.trans (if_neg fun h => c2 h.2.2)
    clear he
    go_enter Tryz.func67, Tryz.ntmps67
    go_wp2_with fail
    refine hr.mono ?_
    rintro e w1 ⟨rfl, rfl⟩
    go_wp2_with fail
    go_ret
    exact ⟨_, rfl, by rw [H.out]; exact World.ownsRow_nil _ _ _ _, Below.refl _ _⟩
  have d2 : decide ((ss.length : Int) ≤ i) = false := decide_eq_false (by omega)
  have H : Hid (pathA ss i = pathB ss i.toNat) := H0.out.trans (if_pos ⟨he, c1, c2⟩)
  have h100 := entB_all he
  have h64 := entB_len he
  rw [he] at hr
  obtain ⟨I, rfl⟩ := Int.eq_ofNat_of_zero_le c1
  rw [Int.toNat_natCast] at H
  have d3 : decide (ss.length ≤ I) = false := decide_eq_false (by omega)
  have HPP : Hid (∀ w', PutS w w.heap.size [] (.slice none 0 0) w' → Calls Tryz.prog 101 #[.slice p ss.length cap, .int .i64 (I : Int), .func (.func 109) #[] #[.pointer (some ⟨w.heap.size, 0, none⟩)]] w' fun e w'' => e = .returned (.tuple #[]) ∧ ∃ v', PutS w w.heap.size (pathA ss I) v' w'') := by
    intro w' hK
    have := putPath_any ss.length w w.heap.size p cap ss I [] _ w' rfl HT.out HP.out (by omega) hcap h100 (by omega) (by simp; omega) hK
    rw [List.nil_append, ← H.out] at this
    exact this
  have HTK := putter_any w
  unfold putF allF at HTK
  clear he h100 H0 H
  generalize pathA ss (I : Int) = R at *
  go_enter Tryz.func67, Tryz.ntmps67
  go_wp2_with fail
  refine hr.mono ?_
  rintro e w1 ⟨rfl, hw1⟩
  subst hw1
  go_wp2_with fail
  refine HTK.mono ?_
  rintro e w2 ⟨rfl, K2⟩
  have HK2 : Hid (PutS w1 w1.heap.size [] (.slice none 0 0) w2) := K2
  clear K2
  go_wp2_with fail
  refine (HPP.out _ HK2.out).mono ?_
  rintro e w3 ⟨rfl, v3, K3⟩
  have HK3 : Hid (PutS w1 w1.heap.size R v3 w3) := K3
  clear K3
  go_wp2_with fail
  refine (all_any w1 w1.heap.size R v3 w3 HK3.out).mono ?_
  rintro e w4 ⟨rfl, hw4⟩
  subst hw4
  go_wp2_with fail
  go_ret
  exact ⟨_, rfl, HK3.out.own, HK3.out.bel⟩
end Go.Proofs.YtnaonldkbaapeacGreatDoor
/-
  Rows of texts that are filled one by one, and rows of six numbers, as plain lists: what the program's chains come to.
-/
namespace Go.Proofs.YtnaonldkbaapeacGreatDoor
open Go.RowKit Go.Lib
set_option linter.unusedVariables false

/-- A row of n texts of which the first k are there. -/
def fillTo (f : Nat → ByteArray) (n k : Nat) : List ByteArray := (List.range k).map f ++ List.replicate (n - k) ByteArray.empty
theorem fillTo_len (f : Nat → ByteArray) (n k : Nat) (h : k ≤ n) : (fillTo f n k).length = n := by simp [fillTo]; omega
theorem fillTo_zero (f : Nat → ByteArray) (n : Nat) : fillTo f n 0 = List.replicate n ByteArray.empty := by simp [fillTo]
theorem fillTo_all (f : Nat → ByteArray) (n : Nat) : fillTo f n n = (List.range n).map f := by simp [fillTo]
theorem fillTo_set (f : Nat → ByteArray) (n k : Nat) (h : k < n) : (fillTo f n k).set k (f k) = fillTo f n (k + 1) := by
  unfold fillTo
  obtain ⟨m, hm⟩ : ∃ m, n - k = m + 1 := ⟨n - k - 1, by omega⟩
  rw [hm, List.replicate_succ, List.range_succ, List.map_append, show n - (k + 1) = m by omega]
  rw [List.set_append_right _ _ (by simp)]
  simp
theorem range_get (f : Nat → ByteArray) (n k : Nat) (h : k < n) : ((List.range n).map f).getD k ByteArray.empty = f k := by simp [List.getD_eq_getElem?_getD, h]
theorem range_len (f : Nat → ByteArray) (n : Nat) : ((List.range n).map f).length = n := by simp
theorem range_wide (f : Nat → ByteArray) (n : Nat) (h : ∀ j, (f j).size = 32) : ∀ x ∈ (List.range n).map f, x.size = 32 := by
  intro x hx
  obtain ⟨i, _, rfl⟩ := List.mem_map.1 hx
  exact h i
theorem cat_map (f : Nat → ByteArray) : ∀ n, cat ((List.range n).map f) = catB f n
  | 0 => rfl
  | n + 1 => by
    rw [List.range_succ, List.map_append]
    show _ = catB f n ++ f n
    rw [← cat_map f n]
    apply ByteArray.ext
    simp [cat]
/-- Six numbers, as the cells of an array. -/
def numA (l : List Int) : Array Value := (l.map (Value.int .i64)).toArray
theorem numA_size (l : List Int) : (numA l).size = l.length := by simp [numA]
theorem numA_at (l : List Int) (k : Nat) (h : k < l.length) : (numA l)[k]? = some (.int .i64 (l.getD k 0)) := by
  simp [numA, List.getD_eq_getElem?_getD, h]
theorem numA_one (l : List Int) : (numA l).all (·.oneCell') = true := by
  unfold numA
  rw [List.all_toArray, List.all_eq_true]
  intro x hx
  obtain ⟨i, _, rfl⟩ := List.mem_map.1 hx
  rfl
theorem numA_set (l : List Int) (k : Nat) (v : Int) : (numA l).setIfInBounds k (.int .i64 v) = numA (l.set k v) := by
  simp [numA, List.map_set]
/-- Each chain, so many steps further. -/
def goneTo (chains : List ByteArray) (steps : List Int) (j : Nat) : ByteArray := stepsB (steps.getD j 0).toNat (chains.getD j ByteArray.empty)
end Go.Proofs.YtnaonldkbaapeacGreatDoor
/-
  What the program's seedRight, walked (with Digest as its step), allWalked and digestOfAll answer.
  Conditions: the chains' texts have 32 bytes; the two tables lie as the program's text lays them.
-/
namespace Go.Proofs.YtnaonldkbaapeacGreatDoor
open Go.RowKit Go.Lib
set_option linter.unusedVariables false
set_option maxRecDepth 20000

theorem seedRight_any (t : ByteArray) (w : World) (ht : t.size ≤ maxLen) : Calls Tryz.prog 62 #[.string t] w fun e w' => e = .returned (.bool (seedB t)) ∧ w' = w := by
  unfold maxLen at ht
  have H0 : Hid (seedB t = decide (1 ≤ t.size ∧ t.size ≤ 64)) := rfl
  by_cases h1 : 1 ≤ t.size
  · have d1 : decide (1 ≤ (t.size : Int)) = true := decide_eq_true (by omega)
    by_cases h2 : t.size ≤ 64
    · have d2 : decide ((t.size : Int) ≤ 64) = true := decide_eq_true (by omega)
      rw [H0.out, decide_eq_true ⟨h1, h2⟩]
      go_enter Tryz.func62, Tryz.ntmps62
      go_wp2
      go_ret
      exact ⟨rfl, rfl⟩
    · have d2 : decide ((t.size : Int) ≤ 64) = false := decide_eq_false (by omega)
      rw [H0.out, decide_eq_false (fun h => h2 h.2)]
      go_enter Tryz.func62, Tryz.ntmps62
      go_wp2
      go_ret
      exact ⟨rfl, rfl⟩
  · have d1 : decide (1 ≤ (t.size : Int)) = false := decide_eq_false (by omega)
    rw [H0.out, decide_eq_false (fun h => h1 h.1)]
    go_enter Tryz.func62, Tryz.ntmps62
    go_wp2
    go_ret
    exact ⟨rfl, rfl⟩

/-- Digest, handed on as a value. -/
def digF : Value := .func (.func 98) #[] #[]

set_option maxHeartbeats 1000000 in
theorem walked_any (t : ByteArray) (n : Nat) (w : World) (hT : Tabs w) (ht : t.size ≤ 8000) (hn : n ≤ 1000) :
    Calls Tryz.prog 97 #[.string t, .int .i64 (n : Int), .func (.func 98) #[] #[]] w fun e w' => e = .returned (.string (stepsB n t)) ∧ Below w.heap.size w w' := by
  obtain ⟨R, hR⟩ : ∃ R, R = stepsB n t := ⟨_, rfl⟩
  rw [← hR]
  have HR : Hid (R = stepsB n t) := hR
  have HT : Hid (Tabs w) := hT
  clear hR hT
  go_enter Tryz.func97, Tryz.ntmps97
  go_wp2_with fail
  go_loopw [0, 8] (fun s i wr => ∃ (k : Nat) (u : ByteArray), s = .string u ∧ i = .int .i64 k ∧ k ≤ n ∧ u.size ≤ 8000 ∧ Hid (R = stepsB (n - k) u) ∧ Hid (Below w.heap.size w wr)) (fun _ i _ => n - (intOf i).toNat)
  case atStart => exact ⟨0, t, rfl, rfl, by omega, ht, HR, Below.refl _ _⟩
  case round =>
    clear HR
    obtain ⟨k, u, rfl, rfl, hk, hu, HR, HB⟩ := hrel
    by_cases hlt : k < n
    · have d1 : decide ((k : Int) < n) = true := decide_eq_true (by omega)
      have HR2 : Hid (R = stepsB (n - (k + 1)) (digB u)) := by
        have h := HR.out
        rw [show n - k = (n - (k + 1)) + 1 by omega] at h
        exact h
      have hs := digB_size u
      have hD := implDigest_any u wr (by unfold maxLen; omega) (HT.out.below HB.out HT.out.1)
      rw [show digestB u = digB u from if_pos hu] at hD
      clear HR
      go_wp2_with fail
      refine hD.mono ?_
      rintro e w1 ⟨rfl, b1⟩
      generalize digB u = D at *
      have HB1 : Hid (Below w.heap.size w w1) := chainB HB.out b1
      clear b1 HB hD
      go_wp2_with fail
      go_roundw
      case rel => exact ⟨k + 1, D, rfl, by go_num, by omega, by omega, HR2, HB1⟩
      case measure => simp [intOf]; omega
    · obtain rfl : k = n := by omega
      have HR2 : Hid (R = u) := by
        have h := HR.out
        rw [show k - k = 0 by omega] at h
        exact h
      have d1 : decide ((k : Int) < k) = false := decide_eq_false (by omega)
      clear HR
      go_wp2_with fail
      go_ret
      exact ⟨ret_str HR2.out.symm, HB.out⟩

end Go.Proofs.YtnaonldkbaapeacGreatDoor
/-
  What the program's allWalked answers: a new row of six texts, each chain so many steps further.
  Conditions: the chains' texts have 32 bytes; each number of steps is from 0 to 15; the two tables lie as the program's text lays them.
-/
namespace Go.Proofs.YtnaonldkbaapeacGreatDoor
open Go.RowKit Go.Lib
set_option linter.unusedVariables false
set_option maxRecDepth 20000

theorem under6 : Tryz.prog.underlying 87 = some (.array (Tryz.prog.arrayLen 87) (Tryz.prog.elem 87)) := by kernel_rfl
theorem len6 : Tryz.prog.arrayLen 87 = 6 := by kernel_rfl
theorem info6 : (Tryz.prog.info? 87).map (·.size) = some 6 := by kernel_rfl
theorem numA_cell {w : World} {g : Nat} {l : List Int} {T : TypeId} (h : w.heap[g]? = some (.cells (numA l) T (0, 0))) (i : Nat) (hi : i < l.length) : w.cell? ⟨g, i, none⟩ = some (.int .i64 (l.getD i 0)) ∧ w.frozen? ⟨g, i, none⟩ = false := by
  constructor
  · simp [World.cell?, h, numA, List.getElem?_eq_getElem hi, List.getD_eq_getElem?_getD]
  · simp [World.frozen?, h]

set_option maxHeartbeats 4000000 in
theorem allWalked_any (q : Option Addr) (c : Nat) (chains : List ByteArray) (steps : List Int) (w : World) (hT : Tabs w) (hq : TxtAt w q chains) (hl : chains.length = 6) (hc : 6 ≤ c) (h32 : ∀ x ∈ chains, x.size = 32) (hs : steps.length = 6) (hb : ∀ j, j < 6 → 0 ≤ steps.getD j 0 ∧ steps.getD j 0 ≤ 15) :
    Calls Tryz.prog 64 #[.slice q 6 c, .agg (numA steps)] w fun e w' => ∃ g, e = .returned (.slice (some ⟨g, 0, none⟩) 6 6) ∧ w.heap.size ≤ g ∧ BlkS w' g ((List.range 6).map (goneTo chains steps)) ∧ Below w.heap.size w w' := by
  have HT : Hid (Tabs w) := hT
  have HQ : Hid (TxtAt w q chains) := hq
  have HL : Hid (chains.length = 6) := hl
  have H32 : Hid (∀ x ∈ chains, x.size = 32) := h32
  have HS : Hid (steps.length = 6) := hs
  have HBd : Hid (∀ j, j < 6 → 0 ≤ steps.getD j 0 ∧ steps.getD j 0 ≤ 15) := hb
  clear hT hq hl h32 hs hb
  obtain ⟨bq, oq, rfl, -, -⟩ := HQ.out 0 (by rw [HL.out]; omega)
  obtain ⟨f, hf⟩ : ∃ f, f = goneTo chains steps := ⟨_, rfl⟩
  have HF : Hid (f = goneTo chains steps) := hf
  rw [← hf]
  clear hf
  have HFA : Hid (fillTo f 6 6 = (List.range 6).map f) := fillTo_all f 6
  rw [← HFA.out]
  obtain ⟨W1, hW1⟩ : ∃ W1, W1 = w.alloc (.cells (numA steps) 87) := ⟨_, rfl⟩
  have HW1 : Hid (W1 = w.alloc (.cells (numA steps) 87)) := hW1
  have S1 : W1.heap.size = w.heap.size + 1 := by rw [hW1]; simp
  have R1 : W1.heap[w.heap.size]? = some (.cells (numA steps) 87 (0, 0)) := by rw [hW1]; exact (MapKept.heap_alloc w _).1
  have B1 : Below w.heap.size w W1 := by rw [hW1]; exact (Below.refl _ _).alloc (Nat.le_refl _) _
  clear hW1
  obtain ⟨W2, hW2⟩ : ∃ W2, W2 = W1.alloc (.cells (strRow (fillTo f 6 0)).toArray 9) := ⟨_, rfl⟩
  have hmk := run_make_str 6 (by omega) W1
  rw [← fillTo_zero f 6, ← hW2] at hmk
  rw [show ((6 : Nat) : Int) = (6 : Int) from rfl] at hmk
  have R2 : Hid (W2.heap[w.heap.size]? = some (.cells (numA steps) 87 (0, 0))) := by rw [hW2]; exact (Below.heap_alloc _ _ _ (by omega)).trans R1
  have K2 : Hid (BlkS W2 W1.heap.size (fillTo f 6 0)) := by rw [hW2]; exact alloc_str _ _
  have B2 : Hid (Below w.heap.size w W2) := by rw [hW2]; exact B1.alloc B1.size _
  rw [S1] at K2 hmk
  rw [HW1.out] at hmk
  clear hW2 R1 B1 S1
  go_enter Tryz.func64, Tryz.ntmps64
  go_wp2_with fail
  go_loopw [10] (fun i wr => ∃ (k : Nat), i = .int .i64 k ∧ k ≤ 6 ∧ Hid (wr.heap[w.heap.size]? = some (.cells (numA steps) 87 (0, 0))) ∧ Hid (BlkS wr (w.heap.size + 1) (fillTo f 6 k)) ∧ Hid (Below w.heap.size w wr)) (fun i _ => 6 - (intOf i).toNat)
  case atStart => exact ⟨0, rfl, by omega, R2, K2, B2⟩
  case round =>
    clear hmk R2 K2 B2 HW1
    obtain ⟨k, rfl, hk, HR, HK, HB⟩ := hrel
    by_cases hlt : k < 6
    · have d1 : decide ((k : Int) < 6) = true := decide_eq_true (by omega)
      have i1 : (k : Int) < 6 := by omega
      have hkc : k < chains.length := by rw [HL.out]; omega
      have x1 := (HQ.out.below HB.out).at k hkc
      obtain ⟨x2, -⟩ := numA_cell HR.out k (by rw [HS.out]; omega)
      obtain ⟨m0, m1⟩ := HBd.out k hlt
      have hE32 := H32.out _ (List.getElem_mem hkc)
      have HU : Hid (f k = stepsB (steps.getD k 0).toNat chains[k]) := by
        show _ = _
        rw [HF.out]
        unfold goneTo
        congr 1
        simp [List.getD_eq_getElem?_getD, hkc]
      obtain ⟨M, hM⟩ := Int.eq_ofNat_of_zero_le m0
      rw [hM] at x2 m1 HU
      rw [Int.toNat_natCast] at HU
      have hset := fillTo_set f 6 k hlt
      have hlen := fillTo_len f 6 k (by omega)
      have hlt2 := HK.out.lt
      have HX : Hid (∀ y, Below wr.heap.size wr y → y.frozen? ⟨w.heap.size + 1, k, none⟩ = false ∧ (∃ v, y.cell? ⟨w.heap.size + 1, k, none⟩ = some v) ∧ Hid ((y.setCell ⟨w.heap.size + 1, k, none⟩ (.string (f k))).heap[w.heap.size]? = some (.cells (numA steps) 87 (0, 0))) ∧ Hid (BlkS (y.setCell ⟨w.heap.size + 1, k, none⟩ (.string (f k))) (w.heap.size + 1) (fillTo f 6 (k + 1))) ∧ Hid (Below w.heap.size w (y.setCell ⟨w.heap.size + 1, k, none⟩ (.string (f k))))) := by
        intro y hb
        have hK := HK.out.below hb hlt2
        obtain ⟨c1, c2⟩ := hK.cell k (by rw [hlen]; omega)
        refine ⟨c2, ⟨_, c1⟩, ?_, ?_, ?_⟩
        · show _ = _
          rw [show (y.setCell ⟨w.heap.size + 1, k, none⟩ (.string (f k))).heap[w.heap.size]? = y.heap[w.heap.size]? by simp [World.setCell, Array.getElem?_modify]]
          exact (hb.block _ (by omega)).trans HR.out
        · show BlkS _ _ _
          rw [← hset]; exact hK.set k _
        · exact (HB.out.trans (hb.mono HB.out.size)).setCell (by show w.heap.size ≤ w.heap.size + 1; omega) _
      have QW : Hid (∀ y, Below wr.heap.size wr y → Calls Tryz.prog 97 #[.string chains[k], .int .i64 (M : Int), .func (.func 98) #[] #[]] y fun e x1 => e = .returned (.string (f k)) ∧ Below y.heap.size y x1) := fun y hb => by
        rw [HU.out]
        exact walked_any _ M y (HT.out.below (HB.out.trans (hb.mono HB.out.size)) HT.out.1) (by omega) (by omega)
      have i2 : (0 : Int) ≤ k := by omega
      generalize chains[k] = C at *
      generalize f k = E at *
      clear HU hM m0 hE32 hset hlen
      go_wp2_with fail
      go_region_with (first
        | (go_at_call 97; refine (QW.out _ (by first | exact Below.refl _ _ | exact (Below.refl _ _).drew)).mono ?_; rintro e y1 ⟨rfl, z1⟩; have z1 : Below wr.heap.size wr y1 := chainB (by first | exact Below.refl _ _ | exact (Below.refl _ _).drew) z1; obtain ⟨x3, ⟨v4, x4⟩, x5, x6, x7⟩ := HX.out _ z1))
      all_goals
        clear HR HK HB z1 x3 x4
        go_wp2_with fail
        go_roundw
        case rel => exact ⟨k + 1, by go_num, by omega, x5, x6, x7⟩
        case measure => simp [intOf]; omega
    · obtain rfl : k = 6 := by omega
      rw [show ((6 : Nat) : Int) = (6 : Int) from rfl]
      go_wp2_with fail
      go_ret
      exact ⟨_, rfl, by omega, HK.out, HB.out⟩
end Go.Proofs.YtnaonldkbaapeacGreatDoor
