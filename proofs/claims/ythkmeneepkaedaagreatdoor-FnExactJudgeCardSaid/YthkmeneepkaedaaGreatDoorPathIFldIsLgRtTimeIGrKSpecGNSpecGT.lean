/-
  Parts of one proof, laid as one text: PathI, FldIs, LgRt, TimeI, GrK, SpecGN, SpecGT; what each says stands at its head.
-/
import Derived.Test.YthkmeneepkaedaaGreatDoorRows
import Derived.Test.YthkmeneepkaedaaGreatDoorBytesDigMath
import Derived.Test.YthkmeneepkaedaaGreatDoorTreeMathSlASlBBxKOwnS
import Derived.Test.YthkmeneepkaedaaGreatDoorTakesLTillTwoPathMathTree2Path2HalvesTreePutter
import Derived.Handy
import Derived.Test.YthkmeneepkaedaaGreatDoorTimeBPutMathPutNumJoinedPutTextFldMath
import Derived.WalkSpells
import Derived.OwnWalk
import Derived.Test.YthkmeneepkaedaaGreatDoorGetValGetTxtNumMathFldRdNumFromTmbMathLgMath
import Derived.Test.YthkmeneepkaedaaGreatDoorLgAtKLgAnsLawSLawMLawMGLawPfLawSG
import Derived.Test.YthkmeneepkaedaaGreatDoorFldGShwKFldHTakesAudMathLawAuOpAuFldRiseScanMath
import Derived.Deep.RegionHeld3
/-
  The program's putPath and PathOf: the path of an entry, 'pathA', in new memory of its own.
  Conditions: the slice's cells hold the entries; index is an int64; the two tables lie as the program's text lays them.
-/
namespace Go.Proofs.YthkmeneepkaedaaGreatDoor
open Go.RowKit Go.Lib
set_option linter.unusedVariables false
set_option maxRecDepth 20000

set_option maxHeartbeats 1000000 in
theorem putPath_any (N : Nat) : ∀ (W0 : World) (X : Nat) (p : Option Addr) (cap : Nat) (ss : List ByteArray) (i : Nat) (l : List ByteArray) (v : Value) (w : World), ss.length = N → Tabs W0 → TxtAt W0 p ss → ss.length ≤ 1024 → ss.length ≤ cap → (∀ x ∈ ss, x.size ≤ 100) →
    i < ss.length → l.length + ss.length ≤ 1048576 → PutS W0 X l v w →
    Calls Tryz.prog 111 #[.slice p ss.length cap, .int .i64 (i : Int), putF X] w fun e w' => e = .returned (.tuple #[]) ∧ ∃ v', PutS W0 X (l ++ pathB ss i) v' w' := by
  induction N using Nat.strongRecOn with
  | _ N ih =>
  intro W0 X p cap ss i l v w hN hT hp hn hcap h100 hi hl hK
  subst hN
  have HT : Hid (Tabs W0) := hT
  have HP : Hid (TxtAt W0 p ss) := hp
  have HX : Hid (∀ x ∈ ss, x.size ≤ 100) := h100
  have HK : Hid (PutS W0 X l v w) := hK
  clear hT hp h100 hK
  unfold putF at ih ⊢
  by_cases h2 : 2 ≤ ss.length
  · obtain ⟨b, off, rfl, hb, _⟩ := HP.out 0 (by omega)
    have h1 := halfN_lt h2
    have h0 := halfN_pos ss.length
    have l1 : (ss.take (halfN ss.length)).length = halfN ss.length := by simp; omega
    have l2 : (ss.drop (halfN ss.length)).length = ss.length - halfN ss.length := by simp
    have hH := fun w => halves_any b off ss.length cap w h2 (by omega) hcap
    by_cases hik : i < halfN ss.length
    · have hlen := pathB_len (ss.take (halfN ss.length)) i (by omega)
      have HB : Hid (l ++ pathB (ss.take (halfN ss.length)) i ++ [treeB (ss.drop (halfN ss.length))] = l ++ pathB ss i) := by
        show _ = _
        rw [pathB_left h2 hik, List.append_assoc]
      have I1 : Hid (∀ w', PutS W0 X l v w' → Calls Tryz.prog 111 #[.slice (some ⟨b, off, none⟩) (halfN ss.length) (halfN ss.length), .int .i64 (i : Int), .func (.func 135) #[] #[.pointer (some ⟨X, 0, none⟩)]] w' fun e w'' => e = .returned (.tuple #[]) ∧ ∃ v', PutS W0 X (l ++ pathB (ss.take (halfN ss.length)) i) v' w'') := by
        intro w' hK
        have := ih _ (by omega) W0 X (some ⟨b, off, none⟩) (halfN ss.length) (ss.take (halfN ss.length)) i l v w' l1 HT.out (HP.out.take _) (by omega) (by omega) (fun x hx => HX.out x (List.mem_of_mem_take hx)) (by omega) (by omega) hK
        rwa [l1] at this
      have I2 : Hid (∀ l' v' w', l'.length ≤ 1048576 → PutS W0 X l' v' w' → Calls Tryz.prog 135 #[.slice (some ⟨b, off + halfN ss.length, none⟩) (ss.length - halfN ss.length) (ss.length - halfN ss.length), .pointer (some ⟨X, 0, none⟩)] w' fun e w'' => e = .returned (.tuple #[]) ∧ ∃ v'', PutS W0 X (l' ++ [treeB (ss.drop (halfN ss.length))]) v'' w'') := by
        intro l' v' w' hl' hK
        have := put_any W0 X l' v' (some ⟨b, off + halfN ss.length, none⟩) (ss.length - halfN ss.length) (ss.drop (halfN ss.length)) w' HT.out (HP.out.drop _) (by omega) (by omega) (fun x hx => HX.out x (List.mem_of_mem_drop hx)) hl' hK
        rwa [l2] at this
      have hll : (l ++ pathB (ss.take (halfN ss.length)) i).length ≤ 1048576 := by rw [List.length_append]; omega
      clear l1 l2 hlen
      generalize l ++ pathB (ss.take (halfN ss.length)) i = Q at *
      generalize treeB (ss.drop (halfN ss.length)) = T2 at *
      generalize halfN ss.length = k at *
      clear ih
      go_enter Tryz.func111, Tryz.ntmps111
      go_wp2_with fail
      refine (hH _).mono ?_
      rintro e w1 ⟨rfl, b1⟩
      go_wp2_with fail
      refine (I1.out _ (HK.out.below b1)).mono ?_
      rintro e w2 ⟨rfl, v2, K2⟩
      have HK2 : Hid (PutS W0 X Q v2 w2) := K2
      clear K2
      go_wp2_with fail
      refine (I2.out Q v2 _ hll HK2.out).mono ?_
      rintro e w3 ⟨rfl, v3, K3⟩
      have HK3 : Hid (PutS W0 X (Q ++ [T2]) v3 w3) := K3
      clear K3
      go_wp2_with fail
      refine bodyPost_ret (results_none rfl _ _ _) rfl ?_
      exact ⟨rfl, v3, by rw [← HB.out]; exact HK3.out⟩
    · have hlen := pathB_len (ss.drop (halfN ss.length)) (i - halfN ss.length) (by omega)
      have HB : Hid (l ++ pathB (ss.drop (halfN ss.length)) (i - halfN ss.length) ++ [treeB (ss.take (halfN ss.length))] = l ++ pathB ss i) := by
        show _ = _
        rw [pathB_right h2 hik, List.append_assoc]
      have I1 : Hid (∀ w', PutS W0 X l v w' → Calls Tryz.prog 111 #[.slice (some ⟨b, off + halfN ss.length, none⟩) (ss.length - halfN ss.length) (ss.length - halfN ss.length), .int .i64 ((i : Int) - (halfN ss.length : Int)), .func (.func 135) #[] #[.pointer (some ⟨X, 0, none⟩)]] w' fun e w'' => e = .returned (.tuple #[]) ∧ ∃ v', PutS W0 X (l ++ pathB (ss.drop (halfN ss.length)) (i - halfN ss.length)) v' w'') := by
        intro w' hK
        have := ih _ (by omega) W0 X (some ⟨b, off + halfN ss.length, none⟩) (ss.length - halfN ss.length) (ss.drop (halfN ss.length)) (i - halfN ss.length) l v w' l2 HT.out (HP.out.drop _) (by omega) (by omega) (fun x hx => HX.out x (List.mem_of_mem_drop hx)) (by omega) (by omega) hK
        rw [l2, show ((i - halfN ss.length : Nat) : Int) = (i : Int) - (halfN ss.length : Int) by omega] at this
        exact this
      have I2 : Hid (∀ l' v' w', l'.length ≤ 1048576 → PutS W0 X l' v' w' → Calls Tryz.prog 135 #[.slice (some ⟨b, off, none⟩) (halfN ss.length) (halfN ss.length), .pointer (some ⟨X, 0, none⟩)] w' fun e w'' => e = .returned (.tuple #[]) ∧ ∃ v'', PutS W0 X (l' ++ [treeB (ss.take (halfN ss.length))]) v'' w'') := by
        intro l' v' w' hl' hK
        have := put_any W0 X l' v' (some ⟨b, off, none⟩) (halfN ss.length) (ss.take (halfN ss.length)) w' HT.out (HP.out.take _) (by omega) (by omega) (fun x hx => HX.out x (List.mem_of_mem_take hx)) hl' hK
        rwa [l1] at this
      have hll : (l ++ pathB (ss.drop (halfN ss.length)) (i - halfN ss.length)).length ≤ 1048576 := by rw [List.length_append]; omega
      clear l1 l2 hlen
      generalize l ++ pathB (ss.drop (halfN ss.length)) (i - halfN ss.length) = Q at *
      generalize treeB (ss.take (halfN ss.length)) = T2 at *
      generalize halfN ss.length = k at *
      clear ih
      go_enter Tryz.func111, Tryz.ntmps111
      go_wp2_with fail
      refine (hH _).mono ?_
      rintro e w1 ⟨rfl, b1⟩
      go_wp2_with fail
      refine (I1.out _ (HK.out.below b1)).mono ?_
      rintro e w2 ⟨rfl, v2, K2⟩
      have HK2 : Hid (PutS W0 X Q v2 w2) := K2
      clear K2
      go_wp2_with fail
      refine (I2.out Q v2 _ hll HK2.out).mono ?_
      rintro e w3 ⟨rfl, v3, K3⟩
      have HK3 : Hid (PutS W0 X (Q ++ [T2]) v3 w3) := K3
      clear K3
      go_wp2_with fail
      go_end0
      exact ⟨rfl, v3, by rw [← HB.out]; exact HK3.out⟩
  · have h1 : (ss.length : Int) = 1 := by omega
    have HB : Hid (l ++ pathB ss i = l) := by show _ = _; rw [pathB_one h2, List.append_nil]
    clear ih
    go_enter Tryz.func111, Tryz.ntmps111
    go_wp2
    refine bodyPost_ret (results_none rfl _ _ _) rfl ?_
    exact ⟨rfl, v, by rw [HB.out]; exact HK.out⟩

set_option maxHeartbeats 1000000 in
theorem implPath_any (p : Option Addr) (cap : Nat) (ss : List ByteArray) (i : Int) (w : World) (hT : Tabs w) (hp : TxtAt w p ss) (hn : ss.length ≤ 140737488355328) (hcap : ss.length ≤ cap) (i0 : -9223372036854775808 ≤ i) (i1 : i ≤ 9223372036854775807) :
    Calls Tryz.prog 80 #[.slice p ss.length cap, .int .i64 i] w fun e w' => ∃ v, e = .returned v ∧ w'.ownsRow w.heap.size 9 1 v (pathA ss i).length (strRow (pathA ss i)) ∧ Below w.heap.size w w' := by
  have HT : Hid (Tabs w) := hT
  have HP : Hid (TxtAt w p ss) := hp
  clear hT hp
  have hr := entR_any p cap ss w HP.out hn hcap
  have H0 : Hid (pathA ss i = if entB ss = true ∧ 0 ≤ i ∧ i < ss.length then pathB ss i.toNat else []) := rfl
  cases he : entB ss
  · rw [he] at hr
    have H : Hid (pathA ss i = []) := H0.out.trans (if_neg fun h => by rw [he] at h; exact absurd h.1 (by simp))
    clear he
    go_enter Tryz.func80, Tryz.ntmps80
    go_wp2_with fail
    refine hr.mono ?_
    rintro e w1 ⟨rfl, rfl⟩
    go_wp2_with fail
    go_ret
    exact ⟨_, rfl, by rw [H.out]; exact World.ownsRow_nil _ _ _ _, Below.refl _ _⟩
  by_cases c1 : 0 ≤ i
  case neg =>
    rw [he] at hr
    have d1 : decide (i < 0) = true := decide_eq_true (by omega)
    have H : Hid (pathA ss i = []) := H0.out.trans (if_neg fun h => c1 h.2.1)
    clear he
    go_enter Tryz.func80, Tryz.ntmps80
    go_wp2_with fail
    refine hr.mono ?_
    rintro e w1 ⟨rfl, rfl⟩
    go_wp2_with fail
    go_ret
    exact ⟨_, rfl, by rw [H.out]; exact World.ownsRow_nil _ _ _ _, Below.refl _ _⟩
  have d1 : decide (i < 0) = false := decide_eq_false (by omega)
  by_cases c2 : i < ss.length
  case neg =>
    rw [he] at hr
    have d2 : decide ((ss.length : Int) ≤ i) = true := decide_eq_true (by omega)
    have H : Hid (pathA ss i = []) := H0.out.trans (if_neg fun h => c2 h.2.2)
    clear he
    go_enter Tryz.func80, Tryz.ntmps80
    go_wp2_with fail
    refine hr.mono ?_
    rintro e w1 ⟨rfl, rfl⟩
    go_wp2_with fail
    go_ret
    exact ⟨_, rfl, by rw [H.out]; exact World.ownsRow_nil _ _ _ _, Below.refl _ _⟩
  have d2 : decide ((ss.length : Int) ≤ i) = false := decide_eq_false (by omega)
  have H : Hid (pathA ss i = pathB ss i.toNat) := H0.out.trans (if_pos ⟨he, c1, c2⟩)
  have h100 := entB_all he
  have h64 := entB_len he
  rw [he] at hr
  obtain ⟨I, rfl⟩ := Int.eq_ofNat_of_zero_le c1
  rw [Int.toNat_natCast] at H
  have d3 : decide (ss.length ≤ I) = false := decide_eq_false (by omega)
  have HPP : Hid (∀ w', PutS w w.heap.size [] (.slice none 0 0) w' → Calls Tryz.prog 111 #[.slice p ss.length cap, .int .i64 (I : Int), .func (.func 135) #[] #[.pointer (some ⟨w.heap.size, 0, none⟩)]] w' fun e w'' => e = .returned (.tuple #[]) ∧ ∃ v', PutS w w.heap.size (pathA ss I) v' w'') := by
    intro w' hK
    have := putPath_any ss.length w w.heap.size p cap ss I [] _ w' rfl HT.out HP.out (by omega) hcap h100 (by omega) (by simp; omega) hK
    rw [List.nil_append, ← H.out] at this
    exact this
  have HTK := putter_any w
  unfold putF allF at HTK
  clear he h100 H0 H
  generalize pathA ss (I : Int) = R at *
  go_enter Tryz.func80, Tryz.ntmps80
  go_wp2_with fail
  refine hr.mono ?_
  rintro e w1 ⟨rfl, hw1⟩
  subst hw1
  go_wp2_with fail
  refine HTK.mono ?_
  rintro e w2 ⟨rfl, K2⟩
  have HK2 : Hid (PutS w1 w1.heap.size [] (.slice none 0 0) w2) := K2
  clear K2
  go_wp2_with fail
  refine (HPP.out _ HK2.out).mono ?_
  rintro e w3 ⟨rfl, v3, K3⟩
  have HK3 : Hid (PutS w1 w1.heap.size R v3 w3) := K3
  clear K3
  go_wp2_with fail
  refine (all_any w1 w1.heap.size R v3 w3 HK3.out).mono ?_
  rintro e w4 ⟨rfl, hw4⟩
  subst hw4
  go_wp2_with fail
  go_ret
  exact ⟨_, rfl, HK3.out.own, HK3.out.bel⟩
end Go.Proofs.YthkmeneepkaedaaGreatDoor
/-
  What the specification's l07Is and l07Time answer.
-/
namespace Go.Proofs.YthkmeneepkaedaaGreatDoor
open Go.RowKit Go.Lib
set_option linter.unusedVariables false
set_option maxRecDepth 20000

theorem l07Is_any (n lo hi : Int) (w : World) : Calls Tryz.prog 64 #[.int .i64 n, .int .i64 lo, .int .i64 hi] w fun e w' => e = .returned (.bool (decide (lo ≤ n ∧ n ≤ hi))) ∧ w' = w := by
  by_cases h1 : lo ≤ n
  · have d1 : decide (lo ≤ n) = true := decide_eq_true h1
    by_cases h2 : n ≤ hi
    · have d2 : decide (n ≤ hi) = true := decide_eq_true h2
      rw [decide_eq_true (And.intro h1 h2)]
      clear h1 h2
      go_enter Tryz.func64, Tryz.ntmps64
      go_wp2_with fail
      go_ret
      exact ⟨rfl, rfl⟩
    · have d2 : decide (n ≤ hi) = false := decide_eq_false h2
      rw [decide_eq_false (fun h => h2 h.2)]
      clear h1 h2
      go_enter Tryz.func64, Tryz.ntmps64
      go_wp2_with fail
      go_ret
      exact ⟨rfl, rfl⟩
  · have d1 : decide (lo ≤ n) = false := decide_eq_false h1
    rw [decide_eq_false (fun h => h1 h.1)]
    clear h1
    go_enter Tryz.func64, Tryz.ntmps64
    go_wp2_with fail
    go_ret
    exact ⟨rfl, rfl⟩
theorem l07Time_any (n : Int) (w : World) : Calls Tryz.prog 25 #[.int .i64 n] w fun e w' => e = .returned (.bool (timeB n)) ∧ w' = w := by
  have h := l07Is_any n 0 1000000 w
  unfold timeB
  generalize decide (0 ≤ n ∧ n ≤ 1000000) = bo at *
  go_enter Tryz.func25, Tryz.ntmps25
  go_wp2_with fail
  refine h.mono ?_
  rintro e w1 ⟨rfl, rfl⟩
  go_wp2_with fail
  go_ret
  exact ⟨rfl, rfl⟩
end Go.Proofs.YthkmeneepkaedaaGreatDoor
/-
  The root of a log's first leaves and its head, in plain mathematics; the leaves of a right log are small.
-/
namespace Go.Proofs.YthkmeneepkaedaaGreatDoor
open Go.RowKit Go.Lib
set_option linter.unusedVariables false

def roO (rs : List Rw) (lv : List ByteArray) (now n : Int) : ByteArray := if lgB rs lv now = true then (if 0 ≤ n ∧ n ≤ (lv.length : Int) then treeB (lv.take n.toNat) else ByteArray.empty) else ByteArray.empty
def hdB (lv : List ByteArray) : ByteArray := putB (lv.length : Int) ++ putTextB (treeB lv)
def hdO (rs : List Rw) (lv : List ByteArray) (now : Int) : ByteArray := if lgB rs lv now = true then hdB lv else ByteArray.empty
theorem go_small (rs : List Rw) (now : Int) : ∀ (suf pre : List ByteArray) (n n' : Nat), cGo rs now pre n suf = some n' → ∀ t ∈ suf, t.size ≤ 100
  | [], _, _, _, _ => fun t h => by cases h
  | t :: ts, pre, n, n', h => by
    rw [cGo] at h
    have each : ∀ {m : Nat} {q : List ByteArray}, t.size ≤ 100 → cGo rs now q m ts = some n' → ∀ x ∈ t :: ts, x.size ≤ 100 := fun ht hc x hx => by
      rcases List.mem_cons.1 hx with rfl | hx
      · exact ht
      · exact go_small rs now ts _ _ _ hc x hx
    split at h
    · rename_i hn
      refine each ?_ h
      rw [((nx_iff _ _ _).1 hn).2]
      unfold rlB
      rw [ByteArray.size_append, digB_size]
      show 1 + 32 ≤ 100
      omega
    · split at h
      · rename_i hn ho
        refine each ?_ h
        unfold okT at ho
        simp only [Bool.and_eq_true, decide_eq_true_iff] at ho
        obtain ⟨-, -, hR, -⟩ := tr_sound ho.1
        have := (tmRaw_size (trT t)).2
        rw [hR] at this
        omega
      · cases h
theorem lg_small {rs : List Rw} {lv : List ByteArray} {now : Int} (h : lgB rs lv now = true) : ∀ t ∈ lv, t.size ≤ 100 := by
  rw [lg_eq] at h
  unfold imB at h
  simp only [Bool.and_eq_true] at h
  cases hc : cGo rs now [] 0 lv with
  | none => rw [hc] at h; exact absurd h.2.2 (by simp)
  | some n => exact go_small rs now lv [] 0 n hc
theorem ent_take {lv : List ByteArray} (h1 : lv.length ≤ 64) (h2 : ∀ t ∈ lv, t.size ≤ 100) (k : Nat) : entB (lv.take k) = true :=
  entB_true (by simp; omega) (fun j hj => h2 _ (List.mem_of_mem_take (List.getElem_mem hj)))
theorem rtSize (wx : World) : (sizeOf (Tryz.prog.elem 23)).run Tryz.prog wx = .ok 1 wx := by kernel_rfl
theorem rtElem : Tryz.prog.underlying 23 = some (.slice (Tryz.prog.elem 23)) := by kernel_rfl
theorem sl_to (q : Option Addr) (n c k : Nat) (hk : k ≤ c) (wx : World) : (Instr.slice 23 (.slice q n c) none (some (.int .i64 (k : Int))) none).run Tryz.prog wx = .ok (.slice q k c) wx := by
  rw [run_slice_h (P := Tryz.prog) wx 23 q n c rtElem .i64 (k : Int) (by omega) (by omega), rtSize]
  cases q <;> simp [sliced, Result.andThen, Addr.add]
theorem rtSizeL (wx : World) : (sizeOf (Tryz.prog.elem 70)).run Tryz.prog wx = .ok 1 wx := by kernel_rfl
theorem rtElemL : Tryz.prog.underlying 70 = some (.slice (Tryz.prog.elem 70)) := by kernel_rfl
theorem sl_lv (q : Option Addr) (n c k : Nat) (hk : k ≤ c) (wx : World) : (Instr.slice 70 (.slice q n c) none (some (.int .i64 (k : Int))) none).run Tryz.prog wx = .ok (.slice q k c) wx := by
  rw [run_slice_h (P := Tryz.prog) wx 70 q n c rtElemL .i64 (k : Int) (by omega) (by omega), rtSizeL]
  cases q <;> simp [sliced, Result.andThen, Addr.add]
theorem putTextB_32 {t : ByteArray} (h : t.size = 32) : (putTextB t).size ≤ 42 := by
  have := putTextB_le t (by omega)
  omega
end Go.Proofs.YthkmeneepkaedaaGreatDoor
/-
  What the program's timeRight answers.
-/
namespace Go.Proofs.YthkmeneepkaedaaGreatDoor
open Go.RowKit Go.Lib
set_option linter.unusedVariables false
set_option maxRecDepth 20000

theorem timeRight_any (n : Int) (w : World) : Calls Tryz.prog 70 #[.int .i64 n] w fun e w' => e = .returned (.bool (timeB n)) ∧ w' = w := by
  unfold timeB
  by_cases h1 : 0 ≤ n
  · have d1 : decide (0 ≤ n) = true := decide_eq_true h1
    by_cases h2 : n ≤ 1000000
    · have d2 : decide (n ≤ 1000000) = true := decide_eq_true h2
      rw [decide_eq_true (And.intro h1 h2)]
      clear h1 h2
      go_enter Tryz.func70, Tryz.ntmps70
      go_wp2_with fail
      go_ret
      exact ⟨rfl, rfl⟩
    · have d2 : decide (n ≤ 1000000) = false := decide_eq_false h2
      rw [decide_eq_false (fun h => h2 h.2)]
      clear h1 h2
      go_enter Tryz.func70, Tryz.ntmps70
      go_wp2_with fail
      go_ret
      exact ⟨rfl, rfl⟩
  · have d1 : decide (0 ≤ n) = false := decide_eq_false h1
    rw [decide_eq_false (fun h => h1 h.1)]
    clear h1
    go_enter Tryz.func70, Tryz.ntmps70
    go_wp2_with fail
    go_ret
    exact ⟨rfl, rfl⟩
end Go.Proofs.YthkmeneepkaedaaGreatDoor
/-
  A world that has grown, one block turned: steps of it.
-/
namespace Go.Proofs.YthkmeneepkaedaaGreatDoor
open Go.RowKit Go.Lib
set_option linter.unusedVariables false

theorem grown_below {w x : World} {P : Nat} (h : Below w.heap.size w x) : w.grownBy x (some P) := ⟨h.os, h.tape, h.output, h.size, fun g hg _ => h.block g hg⟩
theorem grown_set {w x : World} {P : Nat} (h : w.grownBy x (some P)) (i : Nat) (v : Value) : w.grownBy (x.setCell ⟨P, i, none⟩ v) (some P) := by
  refine ⟨h.os, h.tape, h.output, ?_, fun g hg hne => ?_⟩
  · have := h.size
    simpa [World.setCell] using this
  · have hne' : P ≠ g := fun e => hne (by rw [e])
    rw [show (x.setCell ⟨P, i, none⟩ v).heap[g]? = x.heap[g]? by simp [World.setCell, Array.getElem?_modify, hne']]
    exact h.block g hg hne
theorem grown_trans {a b c : World} {P : Nat} (h : a.grownBy b (some P)) (k : b.grownBy c (some P)) : a.grownBy c (some P) :=
  ⟨k.os.trans h.os, k.tape.trans h.tape, k.output.trans h.output, Nat.le_trans h.size k.size, fun g hg hne => (k.block g (Nat.lt_of_lt_of_le hg h.size) hne).trans (h.block g hg hne)⟩
theorem grown_drew {a b : World} {P : Nat} (h : a.grownBy b (some P)) : a.grownBy b.drew (some P) := ⟨h.os, h.tape, h.output, h.size, h.block⟩
/-- Behind a growth that turns a block of one's own all below is as it was. -/
theorem below_turned {B : Nat} {a x y : World} {P : Nat} (h : Below B a x) (k : x.grownBy y (some P)) (hx : B ≤ x.heap.size) (hP : B ≤ P) : Below B a y :=
  h.grown k hx (fun j hj => by have := hj; simp at this; omega)
end Go.Proofs.YthkmeneepkaedaaGreatDoor
/-
  What the specification's GetNum answers: 'getN' of the text and the place, in new memory.
  Conditions: the string fits the form's own reach; the place is an int64.
-/
namespace Go.Proofs.YthkmeneepkaedaaGreatDoor
open Go.RowKit
set_option linter.unusedVariables false

set_option maxRecDepth 20000 in
set_option maxHeartbeats 2000000 in
theorem specGetNum_any (s : ByteArray) (at0 : Int) (w : World) (hs : s.size ≤ maxLen) (h1 : at0 ≤ 9223372036854775807) :
    Calls Tryz.prog 115 #[.string s, .int .i64 at0] w fun e w' => e = .returned (getV s at0) ∧ Below w.heap.size w w' := by
  unfold maxLen at hs
  by_cases hb : 8000 < s.size
  · have H : Hid (getV s at0 = numOut 0 0 2) := getV_size hb
    go_enter Tryz.func115, Tryz.ntmps115
    go_wp2
    go_returns
    exact ⟨ret_valN (H.out.trans rfl).symm, (Below.refl _ _).alloc (Nat.le_refl _) _⟩
  by_cases h0 : at0 < 0
  · have H : Hid (getV s at0 = numOut 0 0 1) := getV_form hb h0
    go_enter Tryz.func115, Tryz.ntmps115
    go_wp2
    go_returns
    exact ⟨ret_valN (H.out.trans rfl).symm, (Below.refl _ _).alloc (Nat.le_refl _) _⟩
  obtain ⟨a, ha⟩ : ∃ a : Nat, at0 = a := ⟨at0.toNat, by omega⟩
  subst ha
  have d1 : decide (8000 < (s.size : Int)) = false := by simp; omega
  have d2 : decide ((a : Int) < 0) = false := by simp
  have HB : Hid (¬ 8000 < s.size) := hb
  go_enter Tryz.func115, Tryz.ntmps115
  go_wp2
  go_loop [5, 6] (fun x i => ∃ (k : Nat) (u : Int), i = .int .i64 k ∧ x = .int .u64 u ∧ Hid (GetTo s a k u)) (fun _ i => 10 - (intOf i).toNat)
  case atStart => exact ⟨0, 0, rfl, rfl, getTo_start s a⟩
  case round =>
    obtain ⟨k, u, rfl, rfl, HT⟩ := hrel
    have hk : k ≤ 9 := HT.out.1
    have hu0 : 0 ≤ u := HT.out.2.1
    have hu1 : Hid (u < 2 ^ (7 * k)) := HT.out.2.2.1
    by_cases hl : s.size ≤ a + k
    · have H : Hid (getV s (a : Int) = numOut 0 0 4) := getV_bad HB.out (by decide) (getTo_short HT.out hl)
      go_wp2
      go_returns
      exact ⟨ret_valN (H.out.trans rfl).symm, (Below.refl _ _).alloc (Nat.le_refl _) _⟩
    have hak : a + k < s.size := by omega
    have hcb : (s[a + k].toNat : Int) ≤ 255 := by have := s[a + k].toNat_lt; omega
    by_cases hbig : k = 9 ∧ 1 < (s[a + k].toNat : Int)
    · have H : Hid (getV s (a : Int) = numOut 0 0 3) := getV_bad HB.out (by decide) (getTo_big HT.out hak hbig.1 hbig.2)
      have k9 : ((k : Int) == 9) = true := by simp; omega
      obtain ⟨e9, hc1⟩ := hbig
      clear e9
      go_wp2
      go_returns
      exact ⟨ret_valN (H.out.trans rfl).symm, (Below.refl _ _).alloc (Nat.le_refl _) _⟩
    by_cases hc : 128 ≤ (s[a + k].toNat : Int)
    · have hk8 : k ≤ 8 := by omega
      have k9 : ((k : Int) == 9) = false := by simp; omega
      have HM : Hid (GetTo s a (k + 1) (u + ((s[a + k].toNat : Int) - 128) * 2 ^ (7 * k))) := getTo_more HT.out hak hk8 hc
      have HA : Hid (IntKind.u64.wrap (u + IntKind.u64.wrap ((s[a + k].toNat : Int) % 128 * 2 ^ (7 * k))) = u + ((s[a + k].toNat : Int) - 128) * 2 ^ (7 * k)) := by
        show _ = _
        rw [spec_add hk hu0 hu1.out (by omega) (by omega) (by omega), show (s[a + k].toNat : Int) % 128 = (s[a + k].toNat : Int) - 128 by omega]
      clear hbig hb
      go_wp2
      go_round
      case rel => exact ⟨k + 1, _, by go_num, by rw [HA.out], HM⟩
      case measure => simp [intOf]; omega
    · have h9 : k = 9 → (s[a + k].toNat : Int) ≤ 1 := fun e => by omega
      obtain ⟨v, hv⟩ : ∃ v, v = u + (s[a + k].toNat : Int) * 2 ^ (7 * k) := ⟨_, rfl⟩
      have hvb := add_fits (x := (s[a + k].toNat : Int)) hk hu0 hu1.out (by omega) (by omega) h9
      have hA : IntKind.u64.wrap (u + IntKind.u64.wrap ((s[a + k].toNat : Int) % 128 * 2 ^ (7 * k))) = v := by
        rw [show (s[a + k].toNat : Int) % 128 = (s[a + k].toNat : Int) by omega, spec_add hk hu0 hu1.out (by omega) (by omega) h9, hv]
      have v0 : 0 ≤ v := by omega
      have v1 : v ≤ 18446744073709551615 := by omega
      have HV : Hid (v = u + (s[a + k].toNat : Int) * 2 ^ (7 * k)) := hv
      have H9 : Hid (k = 9 → (s[a + k].toNat : Int) ≤ 1) := h9
      clear hv hvb hbig hb h9
      by_cases hz : (s[a + k].toNat : Int) = 0 ∧ 0 < k
      · have H : Hid (getV s (a : Int) = numOut 0 0 3) := getV_bad HB.out (by decide) (getTo_zero HT.out hak hz.1 hz.2)
        have c0 : ((s[a + k].toNat : Int) == 0) = true := by simp; omega
        have hkp : 0 < k := hz.2
        have c1 : (s[a + k].toNat : Int) ≤ 0 := by omega
        clear hz
        cases k9 : ((k : Int) == 9)
        · go_wp2
          go_returns
          exact ⟨ret_valN (H.out.trans rfl).symm, (Below.refl _ _).alloc (Nat.le_refl _) _⟩
        · go_wp2
          go_returns
          exact ⟨ret_valN (H.out.trans rfl).symm, (Below.refl _ _).alloc (Nat.le_refl _) _⟩
      · have H : Hid (getV s (a : Int) = numOut (unfoldN v) ((a : Int) + (k : Int) + 1) 0) := by
          show _ = _
          rw [getV_ok HB.out (getTo_ok HT.out hak (by omega) H9.out (fun hp hc0 => hz ⟨hc0, hp⟩)), ← HV.out]
          congr 1
        have h9i : ((k : Int) == 9) = true → (s[a + k].toNat : Int) ≤ 1 := fun e => H9.out (by simp at e; omega)
        have hzi : ((s[a + k].toNat : Int) == 0) = true → (k : Int) ≤ 0 := fun e => by simp at e; omega
        have H9i : Hid (((k : Int) == 9) = true → (s[a + k].toNat : Int) ≤ 1) := h9i
        have Hzi : Hid (((s[a + k].toNat : Int) == 0) = true → (k : Int) ≤ 0) := hzi
        clear hz h9i hzi
        cases hp : (v % 2 == 1)
        · have HU : Hid (unfoldN v = v / 2) := if_neg (by simp at hp; omega)
          cases k9 : ((k : Int) == 9)
          · cases c0 : ((s[a + k].toNat : Int) == 0)
            · go_wp2
              go_returns
              exact ⟨ret_valN (by rw [H.out, HU.out]; rfl), (Below.refl _ _).alloc (Nat.le_refl _) _⟩
            · have hk0 := Hzi.out c0
              go_wp2
              go_returns
              exact ⟨ret_valN (by rw [H.out, HU.out]; rfl), (Below.refl _ _).alloc (Nat.le_refl _) _⟩
          · have hc1 := H9i.out k9
            cases c0 : ((s[a + k].toNat : Int) == 0)
            · go_wp2
              go_returns
              exact ⟨ret_valN (by rw [H.out, HU.out]; rfl), (Below.refl _ _).alloc (Nat.le_refl _) _⟩
            · have hk0 := Hzi.out c0
              exfalso
              simp at k9; omega
        · have HU : Hid (unfoldN v = -(v / 2) - 1) := if_pos (by simpa using hp)
          cases k9 : ((k : Int) == 9)
          · cases c0 : ((s[a + k].toNat : Int) == 0)
            · go_wp2
              go_returns
              exact ⟨ret_valN (by rw [H.out, HU.out]; rfl), (Below.refl _ _).alloc (Nat.le_refl _) _⟩
            · have hk0 := Hzi.out c0
              go_wp2
              go_returns
              exact ⟨ret_valN (by rw [H.out, HU.out]; rfl), (Below.refl _ _).alloc (Nat.le_refl _) _⟩
          · have hc1 := H9i.out k9
            cases c0 : ((s[a + k].toNat : Int) == 0)
            · go_wp2
              go_returns
              exact ⟨ret_valN (by rw [H.out, HU.out]; rfl), (Below.refl _ _).alloc (Nat.le_refl _) _⟩
            · have hk0 := Hzi.out c0
              exfalso
              simp at k9; omega
end Go.Proofs.YthkmeneepkaedaaGreatDoor
/-
  What the specification's GetText answers: 'getTV' of the text and the place, in new memory.
  Conditions: the string fits the form's own reach; the place is an int64.
-/
namespace Go.Proofs.YthkmeneepkaedaaGreatDoor
open Go.RowKit Go.Extern.Stop Go.Stop Go.Extern
set_option linter.unusedVariables false

end Go.Proofs.YthkmeneepkaedaaGreatDoor
