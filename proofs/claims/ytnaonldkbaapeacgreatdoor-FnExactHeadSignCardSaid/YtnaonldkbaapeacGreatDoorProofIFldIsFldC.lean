/-
  Parts of one proof, laid as one text: ProofI, FldIs, FldC; what each says stands at its head.
-/
import Derived.Test.YtnaonldkbaapeacGreatDoorRows
import Derived.Test.YtnaonldkbaapeacGreatDoorBytesDigMath
import Derived.Test.YtnaonldkbaapeacGreatDoorTreeMath
import Derived.Test.YtnaonldkbaapeacGreatDoorSlASlBBxKOwnSTakes
import Derived.Test.YtnaonldkbaapeacGreatDoorProof2HalvesTreePutter
import Derived.Test.YtnaonldkbaapeacGreatDoorLawLmOpFOpLgPathMath
import Derived.Handy
import Derived.Test.YtnaonldkbaapeacGreatDoorTimeBPutMathPutNum
import Derived.WalkSpells
import Derived.OwnWalk
import Derived.Test.YtnaonldkbaapeacGreatDoorAll2LeafNodeTree2
import Derived.Test.YtnaonldkbaapeacGreatDoorNameRight
import Derived.Test.YtnaonldkbaapeacGreatDoorJoinedPutTextFldMath
import Derived.Deep.RegionHeld3
import Derived.Deep.RegionWith
/-
  The program's putProof and ProofOf: the proof of the first ones, 'proofA', in new memory of its own.
  Conditions: the slice's cells hold the entries; old is an int64; the two tables lie as the program's text lays them.
-/
namespace Go.Proofs.YtnaonldkbaapeacGreatDoor
open Go.RowKit Go.Lib
set_option linter.unusedVariables false
set_option maxRecDepth 20000

set_option maxHeartbeats 1000000 in
theorem putProof_any (N : Nat) : ∀ (W0 : World) (X : Nat) (p : Option Addr) (cap : Nat) (ss : List ByteArray) (m : Nat) (whole : Bool) (l : List ByteArray) (v : Value) (w : World), ss.length = N → Tabs W0 → TxtAt W0 p ss → ss.length ≤ 1024 → ss.length ≤ cap → (∀ x ∈ ss, x.size ≤ 100) →
    1 ≤ m → m ≤ ss.length → l.length + ss.length ≤ 1048576 → PutS W0 X l v w →
    Calls Tryz.prog 79 #[.slice p ss.length cap, .int .i64 (m : Int), .bool whole, putF X] w fun e w' => e = .returned (.tuple #[]) ∧ ∃ v', PutS W0 X (l ++ proofB m ss whole) v' w' := by
  induction N using Nat.strongRecOn with
  | _ N ih =>
  intro W0 X p cap ss m whole l v w hN hT hp hn hcap h100 hm1 hm hl hK
  subst hN
  have HT : Hid (Tabs W0) := hT
  have HP : Hid (TxtAt W0 p ss) := hp
  have HX : Hid (∀ x ∈ ss, x.size ≤ 100) := h100
  have HK : Hid (PutS W0 X l v w) := hK
  clear hT hp h100 hK
  unfold putF at ih ⊢
  by_cases he : m = ss.length
  · have d0 : ((m : Int) == (ss.length : Int)) = true := by simp; omega
    cases whole
    · have HB : Hid (l ++ [treeB ss] = l ++ proofB m ss false) := by show _ = _; rw [proofB_all he]; rfl
      have HC := put_any W0 X l v p cap ss w HT.out HP.out (by omega) hcap HX.out (by omega) HK.out
      rw [HB.out] at HC
      clear ih he HB
      generalize l ++ proofB m ss false = Q at *
      go_enter Tryz.func79, Tryz.ntmps79
      go_wp2_with fail
      refine HC.mono ?_
      rintro e w3 ⟨rfl, v3, K3⟩
      have HK3 : Hid (PutS W0 X Q v3 w3) := K3
      clear K3
      go_wp2_with fail
      refine bodyPost_ret (results_none rfl _ _ _) rfl ?_
      exact ⟨rfl, v3, HK3.out⟩
    · have HB : Hid (l = l ++ proofB m ss true) := by show _ = _; rw [proofB_all he]; simp
      clear ih he
      go_enter Tryz.func79, Tryz.ntmps79
      go_wp2_with fail
      refine bodyPost_ret (results_none rfl _ _ _) rfl ?_
      exact ⟨rfl, v, by rw [← HB.out]; exact HK.out⟩
  · have d0 : ((m : Int) == (ss.length : Int)) = false := by simp; omega
    have h2 : 2 ≤ ss.length := by omega
    obtain ⟨b, off, rfl, hb, _⟩ := HP.out 0 (by omega)
    have h1 := halfN_lt h2
    have h0 := halfN_pos ss.length
    have l1 : (ss.take (halfN ss.length)).length = halfN ss.length := by simp; omega
    have l2 : (ss.drop (halfN ss.length)).length = ss.length - halfN ss.length := by simp
    have hH := fun w => halves_any b off ss.length cap w h2 (by omega) hcap
    by_cases hik : m ≤ halfN ss.length
    · have hlen := proofB_len (ss.take (halfN ss.length)) m hm1 (by omega) whole
      have HB : Hid (l ++ proofB m (ss.take (halfN ss.length)) whole ++ [treeB (ss.drop (halfN ss.length))] = l ++ proofB m ss whole) := by
        show _ = _
        rw [proofB_left h2 he hik, List.append_assoc]
      have I1 : Hid (∀ w', PutS W0 X l v w' → Calls Tryz.prog 79 #[.slice (some ⟨b, off, none⟩) (halfN ss.length) (halfN ss.length), .int .i64 (m : Int), .bool whole, .func (.func 109) #[] #[.pointer (some ⟨X, 0, none⟩)]] w' fun e w'' => e = .returned (.tuple #[]) ∧ ∃ v', PutS W0 X (l ++ proofB m (ss.take (halfN ss.length)) whole) v' w'') := by
        intro w' hK
        have := ih _ (by omega) W0 X (some ⟨b, off, none⟩) (halfN ss.length) (ss.take (halfN ss.length)) m whole l v w' l1 HT.out (HP.out.take _) (by omega) (by omega) (fun x hx => HX.out x (List.mem_of_mem_take hx)) hm1 (by omega) (by omega) hK
        rwa [l1] at this
      have I2 : Hid (∀ l' v' w', l'.length ≤ 1048576 → PutS W0 X l' v' w' → Calls Tryz.prog 109 #[.slice (some ⟨b, off + halfN ss.length, none⟩) (ss.length - halfN ss.length) (ss.length - halfN ss.length), .pointer (some ⟨X, 0, none⟩)] w' fun e w'' => e = .returned (.tuple #[]) ∧ ∃ v'', PutS W0 X (l' ++ [treeB (ss.drop (halfN ss.length))]) v'' w'') := by
        intro l' v' w' hl' hK
        have := put_any W0 X l' v' (some ⟨b, off + halfN ss.length, none⟩) (ss.length - halfN ss.length) (ss.drop (halfN ss.length)) w' HT.out (HP.out.drop _) (by omega) (by omega) (fun x hx => HX.out x (List.mem_of_mem_drop hx)) hl' hK
        rwa [l2] at this
      have hll : (l ++ proofB m (ss.take (halfN ss.length)) whole).length ≤ 1048576 := by rw [List.length_append]; omega
      clear l1 l2 hlen
      generalize l ++ proofB m (ss.take (halfN ss.length)) whole = Q at *
      generalize treeB (ss.drop (halfN ss.length)) = T2 at *
      generalize halfN ss.length = k at *
      clear ih he
      go_enter Tryz.func79, Tryz.ntmps79
      go_wp2_with fail
      refine (hH _).mono ?_
      rintro e w1 ⟨rfl, b1⟩
      go_wp2_with fail
      refine (I1.out _ (HK.out.below b1)).mono ?_
      rintro e w2 ⟨rfl, v2, K2⟩
      have HK2 : Hid (PutS W0 X Q v2 w2) := K2
      clear K2
      go_wp2_with fail
      refine (I2.out Q v2 _ hll HK2.out).mono ?_
      rintro e w3 ⟨rfl, v3, K3⟩
      have HK3 : Hid (PutS W0 X (Q ++ [T2]) v3 w3) := K3
      clear K3
      go_wp2_with fail
      refine bodyPost_ret (results_none rfl _ _ _) rfl ?_
      exact ⟨rfl, v3, by rw [← HB.out]; exact HK3.out⟩
    · have hlen := proofB_len (ss.drop (halfN ss.length)) (m - halfN ss.length) (by omega) (by omega) false
      have HB : Hid (l ++ proofB (m - halfN ss.length) (ss.drop (halfN ss.length)) false ++ [treeB (ss.take (halfN ss.length))] = l ++ proofB m ss whole) := by
        show _ = _
        rw [proofB_right h2 he hik, List.append_assoc]
      have I1 : Hid (∀ w', PutS W0 X l v w' → Calls Tryz.prog 79 #[.slice (some ⟨b, off + halfN ss.length, none⟩) (ss.length - halfN ss.length) (ss.length - halfN ss.length), .int .i64 ((m : Int) - (halfN ss.length : Int)), .bool false, .func (.func 109) #[] #[.pointer (some ⟨X, 0, none⟩)]] w' fun e w'' => e = .returned (.tuple #[]) ∧ ∃ v', PutS W0 X (l ++ proofB (m - halfN ss.length) (ss.drop (halfN ss.length)) false) v' w'') := by
        intro w' hK
        have := ih _ (by omega) W0 X (some ⟨b, off + halfN ss.length, none⟩) (ss.length - halfN ss.length) (ss.drop (halfN ss.length)) (m - halfN ss.length) false l v w' l2 HT.out (HP.out.drop _) (by omega) (by omega) (fun x hx => HX.out x (List.mem_of_mem_drop hx)) (by omega) (by omega) (by omega) hK
        rw [l2, show ((m - halfN ss.length : Nat) : Int) = (m : Int) - (halfN ss.length : Int) by omega] at this
        exact this
      have I2 : Hid (∀ l' v' w', l'.length ≤ 1048576 → PutS W0 X l' v' w' → Calls Tryz.prog 109 #[.slice (some ⟨b, off, none⟩) (halfN ss.length) (halfN ss.length), .pointer (some ⟨X, 0, none⟩)] w' fun e w'' => e = .returned (.tuple #[]) ∧ ∃ v'', PutS W0 X (l' ++ [treeB (ss.take (halfN ss.length))]) v'' w'') := by
        intro l' v' w' hl' hK
        have := put_any W0 X l' v' (some ⟨b, off, none⟩) (halfN ss.length) (ss.take (halfN ss.length)) w' HT.out (HP.out.take _) (by omega) (by omega) (fun x hx => HX.out x (List.mem_of_mem_take hx)) hl' hK
        rwa [l1] at this
      have hll : (l ++ proofB (m - halfN ss.length) (ss.drop (halfN ss.length)) false).length ≤ 1048576 := by rw [List.length_append]; omega
      clear l1 l2 hlen
      generalize l ++ proofB (m - halfN ss.length) (ss.drop (halfN ss.length)) false = Q at *
      generalize treeB (ss.take (halfN ss.length)) = T2 at *
      generalize halfN ss.length = k at *
      clear ih he
      go_enter Tryz.func79, Tryz.ntmps79
      go_wp2_with fail
      refine (hH _).mono ?_
      rintro e w1 ⟨rfl, b1⟩
      go_wp2_with fail
      refine (I1.out _ (HK.out.below b1)).mono ?_
      rintro e w2 ⟨rfl, v2, K2⟩
      have HK2 : Hid (PutS W0 X Q v2 w2) := K2
      clear K2
      go_wp2_with fail
      refine (I2.out Q v2 _ hll HK2.out).mono ?_
      rintro e w3 ⟨rfl, v3, K3⟩
      have HK3 : Hid (PutS W0 X (Q ++ [T2]) v3 w3) := K3
      clear K3
      go_wp2_with fail
      go_end0
      exact ⟨rfl, v3, by rw [← HB.out]; exact HK3.out⟩

set_option maxHeartbeats 1000000 in
theorem implProof_any (p : Option Addr) (cap : Nat) (ss : List ByteArray) (i : Int) (w : World) (hT : Tabs w) (hp : TxtAt w p ss) (hn : ss.length ≤ 140737488355328) (hcap : ss.length ≤ cap) (i0 : -9223372036854775808 ≤ i) (i1 : i ≤ 9223372036854775807) :
    Calls Tryz.prog 43 #[.slice p ss.length cap, .int .i64 i] w fun e w' => ∃ v, e = .returned v ∧ w'.ownsRow w.heap.size 9 1 v (proofA ss i).length (strRow (proofA ss i)) ∧ Below w.heap.size w w' := by
  have HT : Hid (Tabs w) := hT
  have HP : Hid (TxtAt w p ss) := hp
  clear hT hp
  have hr := entR_any p cap ss w HP.out hn hcap
  have H0 : Hid (proofA ss i = if entB ss = true ∧ 1 ≤ i ∧ i ≤ ss.length then proofB i.toNat ss true else []) := rfl
  cases he : entB ss
  · rw [he] at hr
    have H : Hid (proofA ss i = []) := H0.out.trans (if_neg fun h => by rw [he] at h; exact absurd h.1 (by simp))
    clear he
    go_enter Tryz.func43, Tryz.ntmps43
    go_wp2_with fail
    refine hr.mono ?_
    rintro e w1 ⟨rfl, rfl⟩
    go_wp2_with fail
    go_ret
    exact ⟨_, rfl, by rw [H.out]; exact World.ownsRow_nil _ _ _ _, Below.refl _ _⟩
  by_cases c1 : 1 ≤ i
  case neg =>
    rw [he] at hr
    have d1 : decide (i < 1) = true := decide_eq_true (by omega)
    have H : Hid (proofA ss i = []) := H0.out.trans (if_neg fun h => c1 h.2.1)
    clear he
    go_enter Tryz.func43, Tryz.ntmps43
    go_wp2_with fail
    refine hr.mono ?_
    rintro e w1 ⟨rfl, rfl⟩
    go_wp2_with fail
    go_ret
    exact ⟨_, rfl, by rw [H.out]; exact World.ownsRow_nil _ _ _ _, Below.refl _ _⟩
  have d1 : decide (i < 1) = false := decide_eq_false (by omega)
  by_cases c2 : i ≤ ss.length
  case neg =>
    rw [he] at hr
    have d2 : decide ((ss.length : Int) < i) = true := decide_eq_true (by omega)
    have H : Hid (proofA ss i = []) := H0.out.trans (if_neg fun h => c2 h.2.2)
    clear he
    go_enter Tryz.func43, Tryz.ntmps43
    go_wp2_with fail
    refine hr.mono ?_
    rintro e w1 ⟨rfl, rfl⟩
    go_wp2_with fail
    go_ret
    exact ⟨_, rfl, by rw [H.out]; exact World.ownsRow_nil _ _ _ _, Below.refl _ _⟩
  have d2 : decide ((ss.length : Int) < i) = false := decide_eq_false (by omega)
  have H : Hid (proofA ss i = proofB i.toNat ss true) := H0.out.trans (if_pos ⟨he, c1, c2⟩)
  have h100 := entB_all he
  have h64 := entB_len he
  rw [he] at hr
  obtain ⟨I, rfl⟩ := Int.eq_ofNat_of_zero_le (show 0 ≤ i by omega)
  rw [Int.toNat_natCast] at H
  have d3 : decide (ss.length < I) = false := decide_eq_false (by omega)
  have HPP : Hid (∀ w', PutS w w.heap.size [] (.slice none 0 0) w' → Calls Tryz.prog 79 #[.slice p ss.length cap, .int .i64 (I : Int), .bool true, .func (.func 109) #[] #[.pointer (some ⟨w.heap.size, 0, none⟩)]] w' fun e w'' => e = .returned (.tuple #[]) ∧ ∃ v', PutS w w.heap.size (proofA ss I) v' w'') := by
    intro w' hK
    have := putProof_any ss.length w w.heap.size p cap ss I true [] _ w' rfl HT.out HP.out (by omega) hcap h100 (by omega) (by omega) (by simp; omega) hK
    rw [List.nil_append, ← H.out] at this
    exact this
  have HTK := putter_any w
  unfold putF allF at HTK
  clear he h100 H0 H
  generalize proofA ss (I : Int) = R at *
  go_enter Tryz.func43, Tryz.ntmps43
  go_wp2_with fail
  refine hr.mono ?_
  rintro e w1 ⟨rfl, hw1⟩
  subst hw1
  go_wp2_with fail
  refine HTK.mono ?_
  rintro e w2 ⟨rfl, K2⟩
  have HK2 : Hid (PutS w1 w1.heap.size [] (.slice none 0 0) w2) := K2
  clear K2
  go_wp2_with fail
  refine (HPP.out _ HK2.out).mono ?_
  rintro e w3 ⟨rfl, v3, K3⟩
  have HK3 : Hid (PutS w1 w1.heap.size R v3 w3) := K3
  clear K3
  go_wp2_with fail
  refine (all_any w1 w1.heap.size R v3 w3 HK3.out).mono ?_
  rintro e w4 ⟨rfl, hw4⟩
  subst hw4
  go_wp2_with fail
  go_ret
  exact ⟨_, rfl, HK3.out.own, HK3.out.bel⟩
end Go.Proofs.YtnaonldkbaapeacGreatDoor
/-
  What the specification's l07Is and l07Time answer.
-/
namespace Go.Proofs.YtnaonldkbaapeacGreatDoor
open Go.RowKit Go.Lib
set_option linter.unusedVariables false
set_option maxRecDepth 20000

theorem l07Is_any (n lo hi : Int) (w : World) : Calls Tryz.prog 36 #[.int .i64 n, .int .i64 lo, .int .i64 hi] w fun e w' => e = .returned (.bool (decide (lo ≤ n ∧ n ≤ hi))) ∧ w' = w := by
  by_cases h1 : lo ≤ n
  · have d1 : decide (lo ≤ n) = true := decide_eq_true h1
    by_cases h2 : n ≤ hi
    · have d2 : decide (n ≤ hi) = true := decide_eq_true h2
      rw [decide_eq_true (And.intro h1 h2)]
      clear h1 h2
      go_enter Tryz.func36, Tryz.ntmps36
      go_wp2_with fail
      go_ret
      exact ⟨rfl, rfl⟩
    · have d2 : decide (n ≤ hi) = false := decide_eq_false h2
      rw [decide_eq_false (fun h => h2 h.2)]
      clear h1 h2
      go_enter Tryz.func36, Tryz.ntmps36
      go_wp2_with fail
      go_ret
      exact ⟨rfl, rfl⟩
  · have d1 : decide (lo ≤ n) = false := decide_eq_false h1
    rw [decide_eq_false (fun h => h1 h.1)]
    clear h1
    go_enter Tryz.func36, Tryz.ntmps36
    go_wp2_with fail
    go_ret
    exact ⟨rfl, rfl⟩
theorem l07Time_any (n : Int) (w : World) : Calls Tryz.prog 46 #[.int .i64 n] w fun e w' => e = .returned (.bool (timeB n)) ∧ w' = w := by
  have h := l07Is_any n 0 1000000 w
  unfold timeB
  generalize decide (0 ≤ n ∧ n ≤ 1000000) = bo at *
  go_enter Tryz.func46, Tryz.ntmps46
  go_wp2_with fail
  refine h.mono ?_
  rintro e w1 ⟨rfl, rfl⟩
  go_wp2_with fail
  go_ret
  exact ⟨rfl, rfl⟩
end Go.Proofs.YtnaonldkbaapeacGreatDoor
/-
  What the specification's l07Is, l07Time, l07Commit, CommitOf and FieldRight answer.
-/
namespace Go.Proofs.YtnaonldkbaapeacGreatDoor
open Go.RowKit Go.Lib
set_option linter.unusedVariables false
set_option maxRecDepth 20000

theorem l07Commit_any (n s v : ByteArray) (w : World) (hn : n.size ≤ 1000) (hs : s.size ≤ 1000) (hv : v.size ≤ 1000) : Calls Tryz.prog 135 #[.string n, .string s, .string v] w fun e w' => e = .returned (.string (digB (cmT n s v))) ∧ Below w.heap.size w w' := by
  have t1 := putTextB_le n (by omega)
  have t2 := putTextB_le s (by omega)
  have t3 := putTextB_le v (by omega)
  have HN : Hid (∀ x, Calls Tryz.prog 54 #[.string n] x fun e w' => e = .returned (.string (putTextB n)) ∧ Below x.heap.size x w') := fun x => specPutText_any n x (by unfold maxLen; omega)
  have HS : Hid (∀ x, Calls Tryz.prog 54 #[.string s] x fun e w' => e = .returned (.string (putTextB s)) ∧ Below x.heap.size x w') := fun x => specPutText_any s x (by unfold maxLen; omega)
  have HV : Hid (∀ x, Calls Tryz.prog 54 #[.string v] x fun e w' => e = .returned (.string (putTextB v)) ∧ Below x.heap.size x w') := fun x => specPutText_any v x (by unfold maxLen; omega)
  have HT : Hid (cmT n s v = (⟨#[2]⟩ : ByteArray) ++ putTextB n ++ putTextB s ++ putTextB v) := rfl
  have hA := fun x => specAll_any (cmT n s v) x (by rw [HT.out]; simp only [ByteArray.size_append]; show 1 + _ + _ + _ ≤ _; omega)
  have HA : Hid (∀ x, Calls Tryz.prog 91 #[.string ((⟨#[2]⟩ : ByteArray) ++ putTextB n ++ putTextB s ++ putTextB v)] x fun e w' => e = .returned (.string (digB (cmT n s v))) ∧ Below x.heap.size x w') := fun x => by rw [← HT.out]; exact hA x
  generalize digB (cmT n s v) = O at *
  clear HT hA
  generalize putTextB n = A at *
  generalize putTextB s = B at *
  generalize putTextB v = C at *
  have z1 : ((⟨#[2]⟩ : ByteArray) ++ A).size ≤ 2000 := by rw [ByteArray.size_append]; show 1 + _ ≤ _; omega
  have z2 : ((⟨#[2]⟩ : ByteArray) ++ A ++ B).size ≤ 4000 := by rw [ByteArray.size_append]; omega
  go_enter Tryz.func135, Tryz.ntmps135
  go_wp2_with fail
  refine (HN.out w).mono ?_
  rintro e w1 ⟨rfl, b1⟩
  go_wp2_with fail
  refine (HS.out w1).mono ?_
  rintro e w2 ⟨rfl, b2⟩
  have b2 := chainB b1 b2
  go_wp2_with fail
  refine (HV.out w2).mono ?_
  rintro e w3 ⟨rfl, b3⟩
  have b3 := chainB b2 b3
  go_wp2_with fail
  refine (HA.out w3).mono ?_
  rintro e w4 ⟨rfl, b4⟩
  have b4 := chainB b3 b4
  go_wp2_with fail
  go_ret
  exact ⟨rfl, b4⟩
set_option maxHeartbeats 1000000 in
theorem specCommitOf_any (n s v : ByteArray) (w : World) (hn : n.size ≤ maxLen) (hs : s.size ≤ maxLen) (hv : v.size ≤ maxLen) : Calls Tryz.prog 114 #[.string n, .string s, .string v] w fun e w' => e = .returned (.string (cmB n s v)) ∧ Below w.heap.size w w' := by
  have hN := specNameRight_any n w hn
  unfold maxLen at hn hs hv
  cases hk : nrB n with
  | false =>
    have HV : Hid (cmB n s v = ByteArray.empty) := if_neg (by unfold cmOk; rw [hk]; exact Bool.false_ne_true)
    rw [hk] at hN
    rw [HV.out]
    go_enter Tryz.func114, Tryz.ntmps114
    go_wp2_with fail
    refine hN.mono ?_
    rintro e w1 ⟨rfl, rfl⟩
    go_wp2_with fail
    go_ret
    exact ⟨rfl, Below.refl _ _⟩
  | true =>
  rw [hk] at hN
  by_cases h1 : s.size < 1
  · have HV : Hid (cmB n s v = ByteArray.empty) := if_neg (by unfold cmOk; rw [decide_eq_false (by omega)]; simp)
    have d1 : decide ((s.size : Int) < 1) = true := decide_eq_true (by omega)
    rw [HV.out]
    go_enter Tryz.func114, Tryz.ntmps114
    go_wp2_with fail
    refine hN.mono ?_
    rintro e w1 ⟨rfl, rfl⟩
    go_wp2_with fail
    go_ret
    exact ⟨rfl, Below.refl _ _⟩
  have d1 : decide ((s.size : Int) < 1) = false := decide_eq_false (by omega)
  by_cases h2 : 8 < s.size
  · have HV : Hid (cmB n s v = ByteArray.empty) := if_neg (by unfold cmOk; rw [decide_eq_false (p := 1 ≤ s.size ∧ s.size ≤ 8) (by omega)]; simp)
    have d2 : decide (8 < (s.size : Int)) = true := decide_eq_true (by omega)
    rw [HV.out]
    go_enter Tryz.func114, Tryz.ntmps114
    go_wp2_with fail
    refine hN.mono ?_
    rintro e w1 ⟨rfl, rfl⟩
    go_wp2_with fail
    go_ret
    exact ⟨rfl, Below.refl _ _⟩
  have d2 : decide (8 < (s.size : Int)) = false := decide_eq_false (by omega)
  by_cases h3 : 16 < v.size
  · have HV : Hid (cmB n s v = ByteArray.empty) := if_neg (by unfold cmOk; rw [decide_eq_false (p := v.size ≤ 16) (by omega)]; simp)
    have d3 : decide (16 < (v.size : Int)) = true := decide_eq_true (by omega)
    rw [HV.out]
    go_enter Tryz.func114, Tryz.ntmps114
    go_wp2_with fail
    refine hN.mono ?_
    rintro e w1 ⟨rfl, rfl⟩
    go_wp2_with fail
    go_ret
    exact ⟨rfl, Below.refl _ _⟩
  have d3 : decide (16 < (v.size : Int)) = false := decide_eq_false (by omega)
  have HV : Hid (cmB n s v = digB (cmT n s v)) := if_pos (by unfold cmOk; rw [hk, decide_eq_true (p := 1 ≤ s.size ∧ s.size ≤ 8) (by omega), decide_eq_true (p := v.size ≤ 16) (by omega)]; rfl)
  have hC := l07Commit_any n s v w (by have := nrB_le hk; omega) (by omega) (by omega)
  rw [HV.out]
  clear hk h1 h2 h3
  go_enter Tryz.func114, Tryz.ntmps114
  go_wp2_with fail
  refine hN.mono ?_
  rintro e w1 ⟨rfl, rfl⟩
  go_wp2_with fail
  refine hC.mono ?_
  rintro e w2 ⟨rfl, b2⟩
  go_wp2_with fail
  go_ret
  exact ⟨rfl, b2⟩
set_option maxHeartbeats 2000000 in
theorem specFieldRight_any (f : Fld) (w : World) (h1 : f.n.size ≤ maxLen) (h2 : f.c.size ≤ maxLen) (h3 : f.s.size ≤ maxLen) (h4 : f.v.size ≤ maxLen) : Calls Tryz.prog 82 #[.agg #[.string f.n, .string f.c, .string f.s, .string f.v, .bool f.g]] w fun e w' => e = .returned (.bool (fdB f)) ∧ Below w.heap.size w w' := by
  obtain ⟨n, c, s, v, g⟩ := f
  show Calls Tryz.prog 82 #[.agg #[.string n, .string c, .string s, .string v, .bool g]] w _
  have h1 : n.size ≤ maxLen := h1
  have h2 : c.size ≤ maxLen := h2
  have h3 : s.size ≤ maxLen := h3
  have h4 : v.size ≤ maxLen := h4
  obtain ⟨W1, hW1⟩ : ∃ W1, W1 = w.alloc (.cells #[.string n, .string c, .string s, .string v, .bool g] 75) := ⟨_, rfl⟩
  have HW1 : Hid (W1 = w.alloc (.cells #[.string n, .string c, .string s, .string v, .bool g] 75)) := hW1
  have B1 : Hid (Below w.heap.size w W1) := by rw [hW1]; exact (Below.refl _ _).alloc (Nat.le_refl _) _
  have K1 : Hid (Bxs W1 w.heap.size 75 #[.string n, .string c, .string s, .string v, .bool g]) := by rw [hW1]; exact Bxs.new _ _ _
  have hN := specNameRight_any n W1 h1
  have HC : Hid (∀ x, Calls Tryz.prog 114 #[.string n, .string s, .string v] x fun e w' => e = .returned (.string (cmB n s v)) ∧ Below x.heap.size x w') := fun x => specCommitOf_any n s v x h1 h3 h4
  have HF : Hid (fdB ⟨n, c, s, v, g⟩ = (nrB n && (decide (c.size = 32) && (if g = true then emB s && emB v else c.toList == (cmB n s v).toList)))) := rfl
  have HX : Hid (∀ x, Below W1.heap.size W1 x → x.cell? ⟨w.heap.size, 0, none⟩ = some (.string n) ∧ x.cell? ⟨w.heap.size, 1, none⟩ = some (.string c) ∧ x.cell? ⟨w.heap.size, 2, none⟩ = some (.string s) ∧ x.cell? ⟨w.heap.size, 3, none⟩ = some (.string v) ∧ x.cell? ⟨w.heap.size, 4, none⟩ = some (.bool g)) := fun x hb => ⟨(K1.out.below hb).cell 0, (K1.out.below hb).cell 1, (K1.out.below hb).cell 2, (K1.out.below hb).cell 3, (K1.out.below hb).cell 4⟩
  obtain ⟨x0, x1, x2, x3, x4⟩ := HX.out W1 (Below.refl _ _)
  have y0 := x0
  rw [hW1] at y0
  unfold maxLen at h1 h2 h3 h4
  clear hW1
  rw [HF.out]
  cases hk : nrB n with
  | false =>
    rw [hk] at hN
    rw [Bool.false_and]
    go_enter Tryz.func82, Tryz.ntmps82
    go_wp2_with fail
    rw [← HW1.out]
    refine hN.mono ?_
    rintro e w1 ⟨rfl, rfl⟩
    go_wp2_with fail
    go_ret
    exact ⟨rfl, B1.out⟩
  | true =>
  rw [hk] at hN
  rw [Bool.true_and]
  by_cases hc : ¬ c.size = 32
  · have d1 : ((c.size : Int) == 32) = false := beq_eq_false_iff_ne.2 (by omega)
    have d1n : ((c.size : Int) != 32) = true := bne_iff_ne.2 (by omega)
    rw [decide_eq_false hc, Bool.false_and]
    clear hc
    go_enter Tryz.func82, Tryz.ntmps82
    go_wp2_with fail
    rw [← HW1.out]
    refine hN.mono ?_
    rintro e w1 ⟨rfl, rfl⟩
    go_wp2_with fail
    go_ret
    exact ⟨rfl, B1.out⟩
  have hc : c.size = 32 := Decidable.byContradiction hc
  have d1 : ((c.size : Int) == 32) = true := beq_iff_eq.2 (by omega)
  have d1n : ((c.size : Int) != 32) = false := by unfold bne; rw [d1]; rfl
  rw [decide_eq_true hc, Bool.true_and]
  clear hc
  cases g with
  | true =>
    rw [if_pos rfl]
    cases hs : emB s with
    | false =>
      have ds : s.toList.isEmpty = false := (emB_isEmpty s).trans hs
      rw [Bool.false_and]
      go_enter Tryz.func82, Tryz.ntmps82
      go_wp2_with fail
      rw [← HW1.out]
      refine hN.mono ?_
      rintro e w1 ⟨rfl, rfl⟩
      go_wp2_with fail
      go_ret
      exact ⟨rfl, B1.out⟩
    | true =>
      have ds : s.toList.isEmpty = true := (emB_isEmpty s).trans hs
      rw [Bool.true_and]
      cases hv : emB v with
      | false =>
        have dv : v.toList.isEmpty = false := (emB_isEmpty v).trans hv
        go_enter Tryz.func82, Tryz.ntmps82
        go_wp2_with fail
        rw [← HW1.out]
        refine hN.mono ?_
        rintro e w1 ⟨rfl, rfl⟩
        go_wp2_with fail
        go_ret
        exact ⟨rfl, B1.out⟩
      | true =>
        have dv : v.toList.isEmpty = true := (emB_isEmpty v).trans hv
        go_enter Tryz.func82, Tryz.ntmps82
        go_wp2_with fail
        rw [← HW1.out]
        refine hN.mono ?_
        rintro e w1 ⟨rfl, rfl⟩
        go_wp2_with fail
        go_ret
        exact ⟨rfl, B1.out⟩
  | false =>
    rw [if_neg (by exact Bool.false_ne_true)]
    obtain ⟨C, hC⟩ : ∃ C, C = cmB n s v := ⟨_, rfl⟩
    rw [← hC] at HC ⊢
    clear hC HF
    go_enter Tryz.func82, Tryz.ntmps82
    go_wp2_with fail
    rw [← HW1.out]
    refine hN.mono ?_
    rintro e w1 ⟨rfl, rfl⟩
    have BR : Hid (Below w1.heap.size w1 w1.drew) := (Below.refl _ _).drew
    go_wp2_with fail
    go_region_held3 (fun w' => w'.cell? ⟨w.heap.size, 0, none⟩ = some (.string n) ∧ w'.cell? ⟨w.heap.size, 1, none⟩ = some (.string c) ∧ w'.cell? ⟨w.heap.size, 2, none⟩ = some (.string s) ∧ w'.cell? ⟨w.heap.size, 3, none⟩ = some (.string v) ∧ w'.cell? ⟨w.heap.size, 4, none⟩ = some (.bool false)) ((first | exact HX.out _ BR.out | exact HX.out _ z1)) (first
      | (go_at_call 114; with_reducible refine (HC.out _).mono ?_; rintro e x9 ⟨rfl, z0⟩; have z1 : Below w1.heap.size w1 x9 := chainB BR.out z0))
    all_goals
      go_wp2_with fail
      go_ret
      exact ⟨rfl, chainB B1.out z1⟩
end Go.Proofs.YtnaonldkbaapeacGreatDoor
