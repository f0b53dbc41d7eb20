/-
  Parts of one proof, laid as one text: TakePath, ConMath, ProofLaw, SignMath, Mac2; what each says stands at its head.
-/
import Derived.Test.YtnjegmffjelnpaaGreatDoorRows
import Derived.Test.YtnjegmffjelnpaaGreatDoorBytesDigMathTurnIWholeR
import Derived.Test.YtnjegmffjelnpaaGreatDoorTreeMath
import Derived.Test.YtnjegmffjelnpaaGreatDoorSlABxKSlBOwnSSgnBOwnBPadI
import Derived.Test.YtnjegmffjelnpaaGreatDoorPowerHalvesTreeTree2TreeHPathMathIncMathTaker
import Derived.Test.YtnjegmffjelnpaaGreatDoorAll2LeafNode
import Derived.Handy
import Derived.Test.YtnjegmffjelnpaaGreatDoorMacMathPutMathJoinedDigITurn2
/-
  The program's takePath and Included: what is taken, step by step, leads from the leaf to a tree; 'incB'.
  Conditions: the path's cells hold the texts; the two tables lie as the program's text lays them.
-/
namespace Go.Proofs.YtnjegmffjelnpaaGreatDoor
open Go.RowKit Go.Lib
set_option linter.unusedVariables false
set_option maxRecDepth 20000

theorem nodeA_size (l r : ByteArray) : (nodeA l r).size ≤ 32 := by
  unfold nodeA; split
  · rw [nodeB_size]; omega
  · simp
theorem tk_size {ss : List ByteArray} (hs : ∀ x ∈ ss, x.size = 32) (a : Nat) : (tk ss a).size ≤ 32 := by
  by_cases h : a < ss.length
  · rw [(tk_of hs h).1]; omega
  · rw [tk_out h]; simp
theorem nx_le {ss : List ByteArray} {a : Nat} (h : a ≤ ss.length) : nx ss a ≤ ss.length := by unfold nx; split <;> omega
theorem foldP_size (ss : List ByteArray) (leaf : ByteArray) (hl : leaf.size ≤ 32) (ds : List Bool) : ∀ a, (ds.foldl (stepP ss) (leaf, a)).1.size ≤ 32 := by
  induction ds generalizing leaf with
  | nil => intro a; exact hl
  | cons d ds ih =>
    intro a
    rw [List.foldl_cons]
    refine ih _ ?_ _
    split <;> exact nodeA_size _ _

set_option maxHeartbeats 1000000 in
theorem takePath_any (N : Nat) : ∀ (W0 : World) (L A : Nat) (p : Option Addr) (ss : List ByteArray) (cap a i : Nat) (leaf : ByteArray) (w : World), Tabs W0 → TxtAt W0 p ss → ss.length ≤ 1048576 → ss.length ≤ cap → (∀ x ∈ ss, x.size = 32) →
    leaf.size ≤ 32 → i < N → N ≤ 9223372036854775807 → TkS W0 L A p ss cap a w →
    Calls Tryz.prog 65 #[.string leaf, .int .i64 (i : Int), .int .i64 (N : Int), takeF L A] w fun e w' => e = .returned (.string ((dirs i N).foldl (stepP ss) (leaf, a)).1) ∧ TkS W0 L A p ss cap ((dirs i N).foldl (stepP ss) (leaf, a)).2 w' := by
  induction N using Nat.strongRecOn with
  | _ N ih =>
  intro W0 L A p ss cap a i leaf w hT hp hn hcap h32 hleaf hi hN hK
  have HT : Hid (Tabs W0) := hT
  have HP : Hid (TxtAt W0 p ss) := hp
  have H32 : Hid (∀ x ∈ ss, x.size = 32) := h32
  have HK : Hid (TkS W0 L A p ss cap a w) := hK
  clear hT hp h32 hK
  unfold takeF at ih ⊢
  by_cases h2 : 2 ≤ N
  · have h1 := halfN_lt h2
    have h0 := halfN_pos N
    have hH := fun w => power_any N w h2 hN
    by_cases hik : i < halfN N
    · have I := ih (halfN N) h1 W0 L A p ss cap a i leaf w HT.out HP.out hn hcap H32.out hleaf hik (by omega) HK.out
      have z1 := foldP_size ss leaf hleaf (dirs i (halfN N)) a
      rw [dirs_left h2 hik, List.foldl_append]
      generalize (dirs i (halfN N)).foldl (stepP ss) (leaf, a) = S at *
      obtain ⟨T, a1⟩ := S
      have HS : Hid (nodeA T (tk ss a1) = (List.foldl (stepP ss) (T, a1) [false]).1 ∧ nx ss a1 = (List.foldl (stepP ss) (T, a1) [false]).2) := ⟨rfl, rfl⟩
      have z2 := tk_size H32.out a1
      dsimp only at I z1
      generalize halfN N = k at *
      clear ih
      go_enter Tryz.func65, Tryz.ntmps65
      go_wp2_with fail
      refine (hH _).mono ?_
      rintro e w1 ⟨rfl, hw1⟩
      subst hw1
      go_wp2_with fail
      refine I.mono ?_
      rintro e w2 ⟨rfl, K2⟩
      have HK2 : Hid (TkS W0 L A p ss cap a1 w2) := K2
      clear K2
      go_wp2_with fail
      refine (take_any W0 L A p ss cap a1 _ HP.out hn hcap HK2.out).mono ?_
      rintro e w3 ⟨rfl, K3⟩
      have HK3 : Hid (TkS W0 L A p ss cap (nx ss a1) w3) := K3
      clear K3
      generalize tk ss a1 = X at *
      go_wp2_with fail
      refine (implNode_any T X _ (HT.out.below HK3.out.bel HT.out.1) (by unfold maxLen; omega) (by unfold maxLen; omega)).mono ?_
      rintro e w4 ⟨rfl, b4⟩
      go_wp2_with fail
      go_ret
      exact ⟨ret_str HS.out.1, by rw [← HS.out.2]; exact HK3.out.below b4⟩
    · have I := ih (N - halfN N) (by omega) W0 L A p ss cap a (i - halfN N) leaf w HT.out HP.out hn hcap H32.out hleaf (by omega) (by omega) HK.out
      have z1 := foldP_size ss leaf hleaf (dirs (i - halfN N) (N - halfN N)) a
      rw [dirs_right h2 hik, List.foldl_append]
      generalize (dirs (i - halfN N) (N - halfN N)).foldl (stepP ss) (leaf, a) = S at *
      obtain ⟨T, a1⟩ := S
      have HS : Hid (nodeA (tk ss a1) T = (List.foldl (stepP ss) (T, a1) [true]).1 ∧ nx ss a1 = (List.foldl (stepP ss) (T, a1) [true]).2) := ⟨rfl, rfl⟩
      have z2 := tk_size H32.out a1
      dsimp only at I z1
      generalize halfN N = k at *
      rw [show (((i - k : Nat) : Int)) = (i : Int) - k by omega, show (((N - k : Nat) : Int)) = (N : Int) - k by omega] at I
      clear ih
      go_enter Tryz.func65, Tryz.ntmps65
      go_wp2_with fail
      refine (hH _).mono ?_
      rintro e w1 ⟨rfl, hw1⟩
      subst hw1
      go_wp2_with fail
      refine I.mono ?_
      rintro e w2 ⟨rfl, K2⟩
      have HK2 : Hid (TkS W0 L A p ss cap a1 w2) := K2
      clear K2
      go_wp2_with fail
      refine (take_any W0 L A p ss cap a1 _ HP.out hn hcap HK2.out).mono ?_
      rintro e w3 ⟨rfl, K3⟩
      have HK3 : Hid (TkS W0 L A p ss cap (nx ss a1) w3) := K3
      clear K3
      generalize tk ss a1 = X at *
      go_wp2_with fail
      refine (implNode_any X T _ (HT.out.below HK3.out.bel HT.out.1) (by unfold maxLen; omega) (by unfold maxLen; omega)).mono ?_
      rintro e w4 ⟨rfl, b4⟩
      go_wp2_with fail
      go_ret
      exact ⟨ret_str HS.out.1, by rw [← HS.out.2]; exact HK3.out.below b4⟩
  · have hN1 : N = 1 := by omega
    subst hN1
    have HD : Hid (dirs i 1 = []) := dirs_one (by omega)
    clear ih
    go_enter Tryz.func65, Tryz.ntmps65
    go_wp2
    go_ret
    rw [HD.out]
    exact ⟨rfl, HK.out⟩
end Go.Proofs.YtnjegmffjelnpaaGreatDoor
/-
  Consistent as a plain function: 'conA'.
-/
namespace Go.Proofs.YtnjegmffjelnpaaGreatDoor
open Go.RowKit Go.Lib
set_option linter.unusedVariables false

def conB (m n : Nat) (ss : List ByteArray) (was root : ByteArray) : Bool :=
  if lft (pd m n) = true then decide (cl2 was was (pd m n) ss = some (was, root))
  else match ss with
    | [] => false
    | s :: t => decide (cl2 s s (pd m n) t = some (was, root))
def conA (m n : Int) (ss : List ByteArray) (was root : ByteArray) : Bool :=
  if 1 ≤ m ∧ m ≤ n ∧ ss.length ≤ 64 ∧ was.size = 32 ∧ root.size = 32 ∧ wideB ss = true then conB m.toNat n.toNat ss was root else false
def startC (ss : List ByteArray) (ds : List Bool) (whole : ByteArray) (a : Nat) : ByteArray × ByteArray × Nat := ds.foldl (stepC ss) (seedC ss (if lft ds = true then whole else ByteArray.empty) a)
theorem conI {ss : List ByteArray} (hs : ∀ x ∈ ss, x.size = 32) {was root : ByteArray} (hw : was.size = 32) (hr : root.size = 32) (m n : Nat) :
    ((startC ss (pd m n) was 0).1 = was ∧ (startC ss (pd m n) was 0).2.1 = root ∧ (startC ss (pd m n) was 0).2.2 = ss.length) ↔ conB m n ss was root = true := by
  unfold startC conB
  by_cases hl : lft (pd m n) = true
  · rw [if_pos hl, if_pos hl, show seedC ss was 0 = (was, was, 0) from if_neg (by omega), decide_eq_true_iff]
    have := foldC hs (was := was) hr (pd m n) was was 0 hw hw (Nat.zero_le _)
    rwa [List.drop_zero] at this
  · rw [if_neg hl, if_neg hl, show seedC ss ByteArray.empty 0 = (tk ss 0, tk ss 0, nx ss 0) from if_pos rfl]
    match ss, hs with
    | [], _ =>
      constructor
      · rintro ⟨_, h, _⟩
        rw [show tk ([] : List ByteArray) 0 = ByteArray.empty from rfl, stepC_empty] at h
        rw [← h] at hr; simp at hr
      · intro h; cases h
    | s :: t, hs =>
      have h1 : s.size = 32 := hs s (by simp)
      rw [show tk (s :: t) 0 = s from rfl, show nx (s :: t) 0 = 1 from by simp [nx], decide_eq_true_iff]
      have := foldC hs (was := was) hr (pd m n) s s 1 h1 h1 (by simp)
      rwa [List.drop_succ_cons, List.drop_zero] at this
theorem stepC_size {ss : List ByteArray} (s : ByteArray × ByteArray × Nat) (d : Bool) (h : s.1.size ≤ 32) : (stepC ss s d).1.size ≤ 32 ∧ (stepC ss s d).2.1.size ≤ 32 := by
  unfold stepC
  cases d
  · exact ⟨h, nodeA_size _ _⟩
  · exact ⟨nodeA_size _ _, nodeA_size _ _⟩
theorem foldC_size {ss : List ByteArray} (ds : List Bool) : ∀ (s : ByteArray × ByteArray × Nat), s.1.size ≤ 32 → s.2.1.size ≤ 32 → (ds.foldl (stepC ss) s).1.size ≤ 32 ∧ (ds.foldl (stepC ss) s).2.1.size ≤ 32 := by
  induction ds with
  | nil => exact fun s h1 h2 => ⟨h1, h2⟩
  | cons d ds ih => exact fun s h1 h2 => ih _ (stepC_size s d h1).1 (stepC_size s d h1).2
theorem seedC_size {ss : List ByteArray} (hs : ∀ x ∈ ss, x.size = 32) {whole : ByteArray} (hw : whole.size ≤ 32) (a : Nat) : (seedC ss whole a).1.size ≤ 32 ∧ (seedC ss whole a).2.1.size ≤ 32 := by
  unfold seedC; split
  · exact ⟨tk_size hs a, tk_size hs a⟩
  · exact ⟨hw, hw⟩
theorem startC_size {ss : List ByteArray} (hs : ∀ x ∈ ss, x.size = 32) (ds : List Bool) {whole : ByteArray} (hw : whole.size ≤ 32) (a : Nat) : (startC ss ds whole a).1.size ≤ 32 ∧ (startC ss ds whole a).2.1.size ≤ 32 := by
  have h0 : (if lft ds = true then whole else ByteArray.empty).size ≤ 32 := by split; exact hw; simp
  unfold startC
  exact foldC_size ds _ (seedC_size hs h0 a).1 (seedC_size hs h0 a).2
theorem startC_left (ss : List ByteArray) (ds : List Bool) (whole : ByteArray) (a : Nat) : startC ss (ds ++ [false]) whole a = stepC ss (startC ss ds whole a) false := by
  unfold startC; rw [lft_false, List.foldl_append]; rfl
theorem startC_right (ss : List ByteArray) (ds : List Bool) (whole : ByteArray) (a : Nat) : startC ss (ds ++ [true]) whole a = stepC ss (startC ss ds ByteArray.empty a) true := by
  unfold startC; rw [lft_true, List.foldl_append, ite_self]; rfl
/-- What the specification goes along: was ahead of the proof, if old is a power of two. -/
def conL (m n : Nat) (ss : List ByteArray) (was : ByteArray) : List ByteArray := if lft (pd m n) = true then was :: ss else ss
theorem conB_of {m n : Nat} {ss : List ByteArray} {was root : ByteArray} : conB m n ss was root = match conL m n ss was with
    | [] => false
    | s :: t => decide (cl2 s s (pd m n) t = some (was, root)) := by
  unfold conB conL
  by_cases hl : lft (pd m n) = true
  · rw [if_pos hl, if_pos hl]
  · rw [if_neg hl, if_neg hl]
end Go.Proofs.YtnjegmffjelnpaaGreatDoor
/-
  The laws of paths and proofs as the program's functions say them: what pathA and proofA hold is 32 bytes wide; incA and conA are true of them.
-/
namespace Go.Proofs.YtnjegmffjelnpaaGreatDoor
open Go.RowKit Go.Lib
set_option linter.unusedVariables false

theorem pathB_wide (l : List ByteArray) (i : Nat) : ∀ x ∈ pathB l i, x.size = 32 := by
  induction hn : l.length using Nat.strongRecOn generalizing l i with
  | _ n ih =>
    subst hn
    intro x hx
    by_cases h2 : 2 ≤ l.length
    · have hlt := halfN_lt h2
      have hp := halfN_pos l.length
      by_cases hi : i < halfN l.length
      · rw [pathB_left h2 hi] at hx
        rcases List.mem_append.1 hx with h | h
        · exact ih (halfN l.length) hlt (l.take (halfN l.length)) i (by simp; omega) x h
        · rw [List.mem_singleton.1 h]; exact treeB_size _
      · rw [pathB_right h2 hi] at hx
        rcases List.mem_append.1 hx with h | h
        · exact ih (l.length - halfN l.length) (by omega) (l.drop (halfN l.length)) (i - halfN l.length) (by simp) x h
        · rw [List.mem_singleton.1 h]; exact treeB_size _
    · rw [pathB_one h2] at hx; simp at hx
theorem proofB_wide (l : List ByteArray) (m : Nat) (h1 : 1 ≤ m) (hm : m ≤ l.length) (whole : Bool) : ∀ x ∈ proofB m l whole, x.size = 32 := by
  induction hn : l.length using Nat.strongRecOn generalizing l m whole with
  | _ n ih =>
    subst hn
    intro x hx
    by_cases he : m = l.length
    · rw [proofB_all he] at hx
      split at hx
      · simp at hx
      · rw [List.mem_singleton.1 hx]; exact treeB_size _
    · have h2 : 2 ≤ l.length := by omega
      have hlt := halfN_lt h2
      have hp := halfN_pos l.length
      by_cases hi : m ≤ halfN l.length
      · rw [proofB_left h2 he hi] at hx
        rcases List.mem_append.1 hx with h | h
        · exact ih (halfN l.length) hlt (l.take (halfN l.length)) m h1 (by simp; omega) whole (by simp; omega) x h
        · rw [List.mem_singleton.1 h]; exact treeB_size _
      · rw [proofB_right h2 he hi] at hx
        rcases List.mem_append.1 hx with h | h
        · exact ih (l.length - halfN l.length) (by omega) (l.drop (halfN l.length)) (m - halfN l.length) (by omega) (by simp; omega) false (by simp) x h
        · rw [List.mem_singleton.1 h]; exact treeB_size _
theorem pathA_wide (ss : List ByteArray) (i : Int) : ∀ x ∈ pathA ss i, x.size = 32 := by
  intro x hx; unfold pathA at hx; split at hx
  · exact pathB_wide _ _ x hx
  · simp at hx
theorem proofA_wide (ss : List ByteArray) (m : Int) : ∀ x ∈ proofA ss m, x.size = 32 := by
  intro x hx; unfold proofA at hx; split at hx
  · rename_i h; exact proofB_wide _ _ (by omega) (by omega) _ x hx
  · simp at hx
theorem pathA_few (ss : List ByteArray) (i : Int) : (pathA ss i).length ≤ 63 := by
  unfold pathA; split
  · rename_i h
    have h1 := entB_len h.1
    have h2 := pathB_len ss i.toNat (by omega)
    omega
  · simp
theorem proofA_few (ss : List ByteArray) (m : Int) : (proofA ss m).length ≤ 64 := by
  unfold proofA; split
  · rename_i h
    have h1 := entB_len h.1
    have h2 := proofB_len ss m.toNat (by omega) (by omega) true
    omega
  · simp
theorem wideB_of {ss : List ByteArray} (h : ∀ x ∈ ss, x.size = 32) : wideB ss = true := wideB_true fun j hj => h _ (List.getElem_mem hj)
theorem entB_take {ss : List ByteArray} (h : entB ss = true) (m : Nat) : entB (ss.take m) = true :=
  entB_true (by have := entB_len h; simp; omega) fun j hj => entB_all h _ (List.mem_of_mem_take (List.getElem_mem hj))
theorem treeA_of {ss : List ByteArray} (h : entB ss = true) : treeA ss = treeB ss := by unfold treeA; rw [h]; rfl
theorem treeA_le (ss : List ByteArray) : (treeA ss).size ≤ 32 := by
  unfold treeA; split
  · rw [treeB_size]; omega
  · simp
theorem treeA_ent {ss : List ByteArray} (h : treeA ss ≠ ByteArray.empty) : entB ss = true := by
  by_cases he : entB ss = true
  · exact he
  · exact absurd (by unfold treeA; simp [he]) h

/-- P4: each entry is included by its path. -/
theorem inc_true {ss : List ByteArray} (h : entB ss = true) (i : Nat) (hi : i < ss.length) : incA (leafB ss[i]) i ss.length (pathA ss i) (treeA ss) = true := by
  have e1 : pathA ss (i : Int) = pathB ss i := by unfold pathA; rw [if_pos ⟨h, by omega, by omega⟩]; simp
  have hw := pathA_wide ss i
  have hf := pathA_few ss i
  unfold incA
  rw [if_pos ⟨by omega, by omega, hf, leafB_size _, by rw [treeA_of h]; exact treeB_size _, wideB_of hw⟩, e1, treeA_of h]
  simpa using path_law ss i hi
/-- P5: the first ones are told by their proof to be the beginning of all. -/
theorem con_true {ss : List ByteArray} (h : entB ss = true) (m : Nat) (h1 : 1 ≤ m) (hm : m ≤ ss.length) : conA m ss.length (proofA ss m) (treeA (ss.take m)) (treeA ss) = true := by
  have e1 : proofA ss (m : Int) = proofB m ss true := by unfold proofA; rw [if_pos ⟨h, by omega, by omega⟩]; simp
  have hw := proofA_wide ss m
  have hf := proofA_few ss m
  unfold conA
  rw [if_pos ⟨by omega, by omega, hf, by rw [treeA_of (entB_take h m)]; exact treeB_size _, by rw [treeA_of h]; exact treeB_size _, wideB_of hw⟩, e1, treeA_of h, treeA_of (entB_take h m)]
  obtain ⟨s, ps, h2, h3⟩ := proof_law ss m h1 hm true
  unfold conB
  simp only [Int.toNat_natCast]
  by_cases hl : lft (pd m ss.length) = true
  · simp only [hl, Bool.and_self, if_true] at h2
    rw [if_pos hl, h2.2, decide_eq_true_iff, ← h2.1]
    rw [← h2.1] at h3; exact h3
  · simp only [hl, Bool.and_false, if_false, Bool.false_eq_true] at h2
    rw [if_neg hl, h2]
    simpa using h3
end Go.Proofs.YtnjegmffjelnpaaGreatDoor
/-
  Signatures as plain functions: steps, keys, digits, what is signed and what is verified; what is signed is verified under the seed's root (P6).
-/
namespace Go.Proofs.YtnjegmffjelnpaaGreatDoor
open Go.RowKit Go.Lib
set_option linter.unusedVariables false

def stepsB : Nat → ByteArray → ByteArray
  | 0, t => t
  | n + 1, t => stepsB n (digB t)
theorem stepsB_add (a b : Nat) : ∀ t, stepsB (a + b) t = stepsB b (stepsB a t) := by
  induction a with
  | zero => intro t; rw [Nat.zero_add]; rfl
  | succ a ih => intro t; rw [show a + 1 + b = (a + b) + 1 by omega]; exact ih (digB t)
theorem stepsB_size (n : Nat) : ∀ t : ByteArray, t.size = 32 → (stepsB n t).size = 32 := by
  induction n with
  | zero => intro t h; exact h
  | succ n ih => intro t h; exact ih _ (digB_size t)
theorem putI_le (f : Nat) : ∀ u, (putI f u).length ≤ f + 1 := by
  induction f with
  | zero => intro u; simp [putI]
  | succ f ih =>
    intro u
    have := ih (u / 128)
    unfold putI; split <;> simp <;> omega
theorem putB_le (i : Int) : (putB i).size ≤ 10 := by
  unfold putB; rw [strOfNums_size]; exact putI_le 9 _
theorem putB2_size (i j : Int) : (putB i ++ putB j).size ≤ 20 := by
  have h1 := putI_le 9 (foldN i)
  have h2 := putI_le 9 (foldN j)
  rw [ByteArray.size_append]
  unfold putB
  rw [strOfNums_size, strOfNums_size]; omega
def begB (seed : ByteArray) (i j : Int) : ByteArray := macB seed (putB i ++ putB j)
theorem begB_size (seed : ByteArray) (i j : Int) : (begB seed i j).size = 32 := digB_size _
def catB (f : Nat → ByteArray) : Nat → ByteArray
  | 0 => ByteArray.empty
  | n + 1 => catB f n ++ f n
theorem catB_size (f : Nat → ByteArray) (n : Nat) (h : ∀ j, j < n → (f j).size = 32) : (catB f n).size = 32 * n := by
  induction n with
  | zero => rfl
  | succ n ih =>
    show (catB f n ++ f n).size = _
    rw [ByteArray.size_append, ih (fun j hj => h j (by omega)), h n (by omega)]; omega
theorem catB_congr (f g : Nat → ByteArray) (n : Nat) (h : ∀ j, j < n → f j = g j) : catB f n = catB g n := by
  induction n with
  | zero => rfl
  | succ n ih =>
    show catB f n ++ f n = catB g n ++ g n
    rw [ih (fun j hj => h j (by omega)), h n (by omega)]
/-- Chain j of key i, behind all its steps. -/
def topB (seed : ByteArray) (i : Int) (j : Nat) : ByteArray := stepsB 15 (begB seed i j)
theorem topB_size (seed : ByteArray) (i : Int) (j : Nat) : (topB seed i j).size = 32 := stepsB_size _ _ (begB_size _ _ _)
def pubB (seed : ByteArray) (i : Nat) : ByteArray := digB (catB (topB seed i) 6)
theorem pubB_size (seed : ByteArray) (i : Nat) : (pubB seed i).size = 32 := digB_size _
def pubsTo (seed : ByteArray) (k : Nat) : List ByteArray := (List.range k).map (pubB seed)
def pubsB (seed : ByteArray) : List ByteArray := pubsTo seed 4
theorem pubsTo_step (seed : ByteArray) (k : Nat) : pubsTo seed (k + 1) = pubsTo seed k ++ [pubB seed k] := by simp [pubsTo, List.range_succ]
theorem pubsTo_len (seed : ByteArray) (k : Nat) : (pubsTo seed k).length = k := by simp [pubsTo]
theorem pubsTo_wide (seed : ByteArray) (k : Nat) : ∀ x ∈ pubsTo seed k, x.size = 32 := by
  intro x hx
  obtain ⟨i, _, rfl⟩ := List.mem_map.1 hx
  exact pubB_size _ _
theorem pubsB_ent (seed : ByteArray) : entB (pubsB seed) = true := by
  refine entB_true (by rw [pubsB, pubsTo_len]; omega) (fun j h => ?_)
  rw [pubsTo_wide seed 4 _ (List.getElem_mem h)]; omega
def seedB (seed : ByteArray) : Bool := decide (1 ≤ seed.size ∧ seed.size ≤ 64)
def rootA (seed : ByteArray) : ByteArray := if seedB seed = true then treeB (pubsB seed) else ByteArray.empty

/-- The digits of a text. -/
def digsI (t : ByteArray) : List Int :=
  let a := byteAt (digB t) 0
  let b := byteAt (digB t) 1
  let r := 60 - a / 16 - a % 16 - b / 16 - b % 16
  [a / 16, a % 16, b / 16, b % 16, r / 16, r % 16]
def dg (t : ByteArray) (j : Nat) : Int := (digsI t).getD j 0
theorem dg_bd (t : ByteArray) (j : Nat) (hj : j < 6) : 0 ≤ dg t j ∧ dg t j ≤ 15 := by
  have h0 := byteAt_bd (digB t) 0
  have h1 := byteAt_bd (digB t) 1
  unfold dg digsI
  generalize byteAt (digB t) 0 = a at *
  generalize byteAt (digB t) 1 = b at *
  match j, hj with
  | 0, _ => simp; omega
  | 1, _ => simp; omega
  | 2, _ => simp; omega
  | 3, _ => simp; omega
  | 4, _ => simp; omega
  | 5, _ => simp; omega
  | j + 6, h => omega
theorem digsI_len (t : ByteArray) : (digsI t).length = 6 := rfl

/-- What Ends hold of the first k chains. -/
def endsTo (seed : ByteArray) (key : Int) (text : ByteArray) (k : Nat) : List ByteArray := (List.range k).map fun j => stepsB (dg text j).toNat (begB seed key j)
theorem endsTo_step (seed : ByteArray) (key : Int) (text : ByteArray) (k : Nat) : endsTo seed key text (k + 1) = endsTo seed key text k ++ [stepsB (dg text k).toNat (begB seed key k)] := by simp [endsTo, List.range_succ]
theorem endsTo_len (seed : ByteArray) (key : Int) (text : ByteArray) (k : Nat) : (endsTo seed key text k).length = k := by simp [endsTo]
theorem endsTo_wide (seed : ByteArray) (key : Int) (text : ByteArray) (k : Nat) : ∀ x ∈ endsTo seed key text k, x.size = 32 := by
  intro x hx
  obtain ⟨j, _, rfl⟩ := List.mem_map.1 hx
  exact stepsB_size _ _ (begB_size _ _ _)
theorem endsTo_get (seed : ByteArray) (key : Int) (text : ByteArray) (k j : Nat) (h : j < k) : (endsTo seed key text k).getD j ByteArray.empty = stepsB (dg text j).toNat (begB seed key j) := by
  simp [endsTo, List.getD_eq_getElem?_getD, h]

def signOk (seed : ByteArray) (key : Int) (text : ByteArray) : Bool := seedB seed && (decide (0 ≤ key ∧ key ≤ 3) && decide (text.size ≤ 8000))
def sgK (seed : ByteArray) (key : Int) (text : ByteArray) : Int := if signOk seed key text = true then key else 0
def sgE (seed : ByteArray) (key : Int) (text : ByteArray) : List ByteArray := if signOk seed key text = true then endsTo seed key text 6 else []
def sgP (seed : ByteArray) (key : Int) (text : ByteArray) : List ByteArray := if signOk seed key text = true then pathB (pubsB seed) key.toNat else []

/-- The first k Ends, taken to their tops, one behind the other. -/
def upTo (text : ByteArray) (ends : List ByteArray) (k : Nat) : ByteArray := catB (fun j => stepsB (15 - dg text j).toNat (ends.getD j ByteArray.empty)) k
theorem upTo_step (text : ByteArray) (ends : List ByteArray) (k : Nat) : upTo text ends (k + 1) = upTo text ends k ++ stepsB (15 - dg text k).toNat (ends.getD k ByteArray.empty) := rfl
def verA (root text : ByteArray) (key : Int) (ends path : List ByteArray) : Bool :=
  if sgnB key ends path = true ∧ root.size = 32 ∧ text.size ≤ 8000 then incA (leafB (digB (upTo text ends 6))) key 4 path root else false

theorem pathB_two (l : List ByteArray) (h : l.length = 2) (i : Nat) (hi : i < 2) : (pathB l i).length = 1 := by
  have h2 : halfN l.length = 1 := by rw [h]; exact halfN_unique (n := 2) (j := 0) (by omega) (by omega)
  by_cases hl : i < halfN l.length
  · rw [pathB_left (by omega) hl, pathB_one (by simp; omega)]; simp
  · rw [pathB_right (by omega) hl, pathB_one (by simp; omega)]; simp
theorem pathB_four (l : List ByteArray) (h : l.length = 4) (i : Nat) (hi : i < 4) : (pathB l i).length = 2 := by
  have h2 : halfN l.length = 2 := by rw [h]; exact halfN_unique (n := 4) (j := 1) (by omega) (by omega)
  by_cases hl : i < halfN l.length
  · rw [pathB_left (by omega) hl, List.length_append, pathB_two _ (by simp; omega) _ (by omega)]; simp
  · rw [pathB_right (by omega) hl, List.length_append, pathB_two _ (by simp; omega) _ (by omega)]; simp
theorem pubsB_len (seed : ByteArray) : (pubsB seed).length = 4 := pubsTo_len seed 4
theorem signOk_parts {seed : ByteArray} {key : Int} {text : ByteArray} (h : signOk seed key text = true) : seedB seed = true ∧ (0 ≤ key ∧ key ≤ 3) ∧ text.size ≤ 8000 := by
  unfold signOk at h
  rw [Bool.and_eq_true, Bool.and_eq_true, decide_eq_true_iff, decide_eq_true_iff] at h
  exact h
/-- What is signed is right. -/
theorem sign_right (seed : ByteArray) (key : Int) (text : ByteArray) : sgnB (sgK seed key text) (sgE seed key text) (sgP seed key text) = signOk seed key text := by
  cases h : signOk seed key text with
  | true =>
    obtain ⟨_, hk, _⟩ := signOk_parts h
    unfold sgK sgE sgP
    rw [if_pos h, if_pos h, if_pos h]
    unfold sgnB
    rw [decide_eq_true hk, endsTo_len, pathB_four _ (pubsB_len seed) _ (by omega), wideB_of (endsTo_wide seed key text 6), wideB_of (pathB_wide _ _)]
    rfl
  | false =>
    have hn : ¬ signOk seed key text = true := by rw [h]; exact Bool.false_ne_true
    unfold sgK sgE sgP
    rw [if_neg hn, if_neg hn, if_neg hn]
    rfl
/-- P6: what is signed is verified under the seed's root. -/
theorem sign_true {seed : ByteArray} {key : Int} {text : ByteArray} (h : signOk seed key text = true) : verA (rootA seed) text (sgK seed key text) (sgE seed key text) (sgP seed key text) = true := by
  obtain ⟨hs, hk, ht⟩ := signOk_parts h
  obtain ⟨i, rfl⟩ := Int.eq_ofNat_of_zero_le hk.1
  have hr := sign_right seed i text
  rw [h] at hr
  have hroot : rootA seed = treeB (pubsB seed) := if_pos hs
  unfold verA
  rw [if_pos ⟨hr, by rw [hroot, treeB_size], ht⟩, hroot]
  unfold sgK sgE sgP
  rw [if_pos h, if_pos h, if_pos h, Int.toNat_natCast]
  have hup : upTo text (endsTo seed i text 6) 6 = catB (topB seed i) 6 := by
    refine catB_congr _ _ _ (fun j hj => ?_)
    obtain ⟨b0, b1⟩ := dg_bd text j hj
    show stepsB (15 - dg text j).toNat ((endsTo seed i text 6).getD j ByteArray.empty) = stepsB 15 (begB seed i j)
    rw [endsTo_get _ _ _ _ _ hj, ← stepsB_add, show (dg text j).toNat + (15 - dg text j).toNat = 15 by omega]
  rw [hup]
  have hi : i < (pubsB seed).length := by rw [pubsB_len]; omega
  have hg : (pubsB seed)[i] = pubB seed i := by simp [pubsB, pubsTo]
  have hI := inc_true (pubsB_ent seed) i hi
  rw [hg, pubsB_len] at hI
  have hp : pathA (pubsB seed) (i : Int) = pathB (pubsB seed) i := by
    unfold pathA; rw [if_pos ⟨pubsB_ent seed, by omega, by rw [pubsB_len]; omega⟩, Int.toNat_natCast]
  have ht : treeA (pubsB seed) = treeB (pubsB seed) := if_pos (pubsB_ent seed)
  rw [hp, ht] at hI
  exact hI
end Go.Proofs.YtnjegmffjelnpaaGreatDoor
/-
  The specification's l02Pad and l02Mac: 'padK', 'macB', in new memory.
-/
namespace Go.Proofs.YtnjegmffjelnpaaGreatDoor
open Go.RowKit Go.Lib
set_option linter.unusedVariables false
set_option maxRecDepth 20000

theorem conv_row {w : World} {g : Nat} {xs : List Int} {T : TypeId} (h : w.heap[g]? = some (.cells (rowN xs).toArray T (0, 0))) (n c : Nat) (hn : xs.length = n) :
    (convert 22 9 (.slice (some ⟨g, 0, none⟩) n c)).run Tryz.prog w = .ok (.string (strOfNums xs)) w :=
  run_convert_bytes_arg (P := Tryz.prog) w 22 5 Tryz.underlying22 Tryz.underlying5 g 0 n c xs hn (fun i hi => by
    have : i < xs.length := by omega
    simp [World.cell?, h, rowN, List.getD_eq_getElem?_getD, this]) 9 Tryz.underlying9

theorem run_make_64 (w : World) : (Instr.makeSlice 22 (.int .i64 64) (.int .i64 64)).run Tryz.prog w = .ok (.slice (some ⟨w.heap.size, 0, none⟩) 64 64) (w.alloc (.cells (zrow 64).toArray 5)) := run_make_u8q 64 (by omega) w
set_option maxHeartbeats 1000000 in
theorem specPad_any (key : ByteArray) (m : Int) (w : World) (hk : key.size ≤ 64) (m0 : 0 ≤ m) (m1 : m ≤ 255) :
    Calls Tryz.prog 132 #[.string key, .int .u8 m] w fun e w' => e = .returned (.string (padK key m)) ∧ Below w.heap.size w w' := by
  have hmk := run_make_64
  obtain ⟨w2, hcp, hrow2, hbel⟩ := copy_str (P := Tryz.prog) (w.alloc (.cells (zrow 64).toArray 5)) 22 9 3 5 Tryz.underlying22 sizeU8q w.heap.size 0 64 64 key (zrow 64) 5 (heap_alloc_new w _) (by omega) (by simp [zrow]; omega)
  have HB2 : Hid (Below w.heap.size w w2) := hbel w.heap.size w ((Below.refl _ _).alloc (Nat.le_refl _) _) (Nat.le_refl _)
  rw [pad_zero key 64 hk, kPart_zero key m hk] at hrow2
  have HR2 : Hid (w2.heap[w.heap.size]? = some (.cells (rowN (kPart key m 0)).toArray 5 (0, 0))) := hrow2
  have HP : Hid (padK key m = strOfNums (kPart key m 64)) := rfl
  clear hrow2 hbel
  go_enter Tryz.func132, Tryz.ntmps132
  go_wp2
  go_loopw [6] (fun x wr => ∃ k : Nat, k ≤ 64 ∧ x = .int .i64 k ∧ Hid (wr.heap[w.heap.size]? = some (.cells (rowN (kPart key m k)).toArray 5 (0, 0))) ∧ Hid (Below w.heap.size w wr)) (fun x _ => 64 - (Go.RowKit.intOf x).toNat)
  case atStart => exact ⟨0, by omega, rfl, HR2, HB2⟩
  case round =>
    clear HR2 HB2 hmk hcp
    obtain ⟨k, hk2, rfl, hrow, hnx⟩ := hrel
    by_cases hlt : k < 64
    · obtain ⟨hc, hf⟩ := kRow_cell hrow.out hlt
      have hbd := byteAt_bd key k
      have hset := kPart_set key m k hlt
      have H0 : ∀ x, x = byteAt key k → (wr.setCell ⟨w.heap.size, k, none⟩ (.int .u8 (bits .xor .u8 x m))).heap[w.heap.size]? = some (.cells (rowN (kPart key m (k + 1))).toArray 5 (0, 0)) := by
        rintro x rfl; rw [blk_set hrow.out, hset]
      have H1 := H0 _ rfl
      clear H0 hset
      generalize byteAt key k = c at *
      have HR : Hid ((wr.setCell ⟨w.heap.size, k, none⟩ (.int .u8 (bits .xor .u8 c m))).heap[w.heap.size]? = some (.cells (rowN (kPart key m (k + 1))).toArray 5 (0, 0))) := H1
      have HB : Hid (Below w.heap.size w (wr.setCell ⟨w.heap.size, k, none⟩ (.int .u8 (bits .xor .u8 c m)))) := hnx.out.setCell (Nat.le_refl _) _
      clear H1
      have j : (k : Int) < 64 := by omega
      go_wp2
      go_roundw
      case rel => exact ⟨k + 1, by omega, by go_num, HR, HB⟩
      case measure => simp [Go.RowKit.intOf]; omega
    · have hk64 : k = 64 := by omega
      subst hk64
      have hconv := conv_row hrow.out 64 64 (kPart_len _ _ _)
      rw [← HP.out] at hconv
      go_wp2
      go_ret
      exact ⟨rfl, hnx.out⟩

def Gives (f : FuncId) (args : Array Value) (r : ByteArray) : Prop := ∀ w, Calls Tryz.prog f args w fun e w' => e = .returned (.string r) ∧ Below w.heap.size w w'
set_option maxHeartbeats 1000000 in
theorem specMac_core (key K P1 P2 text D1 D2 : ByteArray) (w : World) (hk : key.size ≤ 1099511627776) (hp1 : P1.size ≤ 64) (hp2 : P2.size ≤ 64) (hd1 : D1.size ≤ 32) (ht : text.size ≤ 1099511620000)
    (A1 : (64 < key.size ∧ Gives 66 #[.string key] K) ∨ (key.size ≤ 64 ∧ K = key))
    (A2 : Gives 132 #[.string K, .int .u8 92] P1) (A3 : Gives 132 #[.string K, .int .u8 54] P2)
    (A4 : Gives 66 #[.string (P2 ++ text)] D1) (A5 : Gives 66 #[.string (P1 ++ D1)] D2) :
    Calls Tryz.prog 112 #[.string key, .string text] w fun e w' => e = .returned (.string D2) ∧ Below w.heap.size w w' := by
  have H2 : Hid (Gives 132 #[.string K, .int .u8 92] P1) := A2
  have H3 : Hid (Gives 132 #[.string K, .int .u8 54] P2) := A3
  have H4 : Hid (Gives 66 #[.string (P2 ++ text)] D1) := A4
  have H5 : Hid (Gives 66 #[.string (P1 ++ D1)] D2) := A5
  clear A2 A3 A4 A5
  rcases A1 with ⟨h, A1⟩ | ⟨h, rfl⟩
  · have H1 : Hid (Gives 66 #[.string key] K) := A1
    clear A1
    go_enter Tryz.func112, Tryz.ntmps112
    go_wp2_with fail
    refine (H1.out _).mono ?_
    rintro e w1 ⟨rfl, b1⟩
    go_wp2_with fail
    refine (H2.out _).mono ?_
    rintro e w2 ⟨rfl, b2⟩
    go_wp2_with fail
    refine (H3.out _).mono ?_
    rintro e w3 ⟨rfl, b3⟩
    go_wp2_with fail
    refine (H4.out _).mono ?_
    rintro e w4 ⟨rfl, b4⟩
    go_wp2_with fail
    refine (H5.out _).mono ?_
    rintro e w5 ⟨rfl, b5⟩
    go_wp2_with fail
    go_ret
    exact ⟨rfl, b1.trans ((b2.trans ((b3.trans ((b4.trans (b5.mono b4.size)).mono b3.size)).mono b2.size)).mono b1.size)⟩
  · go_enter Tryz.func112, Tryz.ntmps112
    go_wp2_with fail
    refine (H2.out _).mono ?_
    rintro e w2 ⟨rfl, b2⟩
    go_wp2_with fail
    refine (H3.out _).mono ?_
    rintro e w3 ⟨rfl, b3⟩
    go_wp2_with fail
    refine (H4.out _).mono ?_
    rintro e w4 ⟨rfl, b4⟩
    go_wp2_with fail
    refine (H5.out _).mono ?_
    rintro e w5 ⟨rfl, b5⟩
    go_wp2_with fail
    go_ret
    exact ⟨rfl, b2.trans ((b3.trans ((b4.trans (b5.mono b4.size)).mono b3.size)).mono b2.size)⟩
theorem specMacB_any (key text : ByteArray) (w : World) (hk : key.size ≤ 1099511627776) (ht : text.size ≤ 1099511620000) :
    Calls Tryz.prog 112 #[.string key, .string text] w fun e w' => e = .returned (.string (macB key text)) ∧ Below w.heap.size w w' := by
  refine specMac_core key (keyK key) (padK (keyK key) 92) (padK (keyK key) 54) text (digB (padK (keyK key) 54 ++ text)) (macB key text) w hk (Nat.le_of_eq (padK_size _ _)) (Nat.le_of_eq (padK_size _ _)) (Nat.le_of_eq (digB_size _)) ht ?_
    (fun w => specPad_any _ 92 w (keyK_size key) (by omega) (by omega)) (fun w => specPad_any _ 54 w (keyK_size key) (by omega) (by omega))
    (fun w => specAll_any _ w (by rw [ByteArray.size_append, padK_size]; omega)) (fun w => specAll_any _ w (by rw [ByteArray.size_append, padK_size, digB_size]; omega))
  by_cases h : 64 < key.size
  · refine .inl ⟨h, ?_⟩
    rw [show keyK key = digB key from if_pos h]
    exact fun w => specAll_any key w hk
  · exact .inr ⟨by omega, if_neg h⟩
end Go.Proofs.YtnjegmffjelnpaaGreatDoor
