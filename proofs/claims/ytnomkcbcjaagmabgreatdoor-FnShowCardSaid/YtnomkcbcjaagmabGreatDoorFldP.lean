/-
  What the specification's reader's many and ShownRead answer.
-/
import Derived.Test.YtnomkcbcjaagmabGreatDoorRows
import Derived.Test.YtnomkcbcjaagmabGreatDoorBytesDigMath
import Derived.Test.YtnomkcbcjaagmabGreatDoorSlASlBOwnS
import Derived.Test.YtnomkcbcjaagmabGreatDoorBxKGrKTakesSrc
import Derived.Test.YtnomkcbcjaagmabGreatDoorFldHStepAppTakesLOwnBTurn2
import Derived.Test.YtnomkcbcjaagmabGreatDoorScanMathGetValGetTxtSpecGN
import Derived.Test.YtnomkcbcjaagmabGreatDoorJoinedPutTextFldMath
import Derived.Test.YtnomkcbcjaagmabGreatDoorAll2FldIsFldC
import Derived.Test.YtnomkcbcjaagmabGreatDoorFldL
import Derived.Test.YtnomkcbcjaagmabGreatDoorFldRiseFldGShwK
import Derived.Test.YtnomkcbcjaagmabGreatDoorFldV
import Derived.Test.YtnomkcbcjaagmabGreatDoorFldB
import Derived.Test.YtnomkcbcjaagmabGreatDoorFldN
import Derived.Handy
import Derived.WalkSpells
import Derived.OwnWalk
import Derived.Deep.RegionHeld3
namespace Go.Proofs.YtnomkcbcjaagmabGreatDoor
open Go.RowKit Go.Lib
set_option linter.unusedVariables false
set_option maxRecDepth 20000

def inM (n m : Int) : Bool := decide (0 ≤ n ∧ n ≤ m)
def rmN (t : ByteArray) (a : Int) (bd : Bool) (m : Int) : Int := if inM (rnN t a bd) m = true then rnN t a bd else 0
def rmB (t : ByteArray) (a : Int) (bd : Bool) (m : Int) : Bool := if inM (rnN t a bd) m = true then rnB t a bd else true
theorem rnA_le {t : ByteArray} {a : Int} {bd : Bool} (ht : t.size ≤ 8000) (h0 : 0 ≤ a) (h : a ≤ 8000) : 0 ≤ rnA t a bd ∧ rnA t a bd ≤ 8000 := by
  unfold rnA
  split
  · exact ⟨h0, h⟩
  · rename_i hb
    have := getN_place t a (by unfold rnB at hb; simp at hb; exact hb.2)
    omega
theorem rtA_le {t : ByteArray} {a : Int} {bd : Bool} (ht : t.size ≤ 8000) (h0 : 0 ≤ a) (h : a ≤ 8000) : 0 ≤ rtA t a bd ∧ rtA t a bd ≤ 8000 := by
  unfold rtA
  split
  · exact ⟨h0, h⟩
  · rename_i hb
    have := getT_place t a (by unfold rtB at hb; simp at hb; exact hb.2)
    omega
theorem rtT_le (t : ByteArray) (a : Int) (bd : Bool) : (rtT t a bd).size ≤ t.size := by
  unfold rtT
  split
  · exact Nat.zero_le _
  · unfold getT
    split
    · exact Nat.zero_le _
    · split
      · exact Nat.zero_le _
      · split
        · exact Nat.zero_le _
        · show (t.extract _ _).size ≤ _
          rw [ByteArray.size_extract]; omega
set_option maxHeartbeats 2000000 in
theorem rdMany_any (P : Nat) (t : ByteArray) (a : Int) (bd : Bool) (m : Int) (w : World) (hp : Bxs w P 126 #[.string t, .int .i64 a, .bool bd]) (ht : t.size ≤ 8000) (a1 : a ≤ 9223372036854775807) :
    Calls Tryz.prog 79 #[.pointer (some ⟨P, 0, none⟩), .int .i64 m] w fun e w' => e = .returned (.int .i64 (rmN t a bd m)) ∧ Bxs w' P 126 #[.string t, .int .i64 (rnA t a bd), .bool (rmB t a bd m)] ∧ w.grownBy w' (some P) := by
  have hN := rdNum_any P t a bd w hp ht a1
  have HI : Hid (∀ n x, Calls Tryz.prog 81 #[.int .i64 n, .int .i64 0, .int .i64 m] x fun e w' => e = .returned (.bool (inM n m)) ∧ w' = x) := fun n x => l07Is_any n 0 m x
  have HV : Hid (rmN t a bd m = if inM (rnN t a bd) m = true then rnN t a bd else 0) := rfl
  have HW : Hid (rmB t a bd m = if inM (rnN t a bd) m = true then rnB t a bd else true) := rfl
  generalize rmN t a bd m = V at *
  generalize rmB t a bd m = B at *
  generalize rnN t a bd = n at *
  generalize rnA t a bd = a' at *
  generalize rnB t a bd = b' at *
  clear hp a1 ht
  cases hi : inM n m with
  | true =>
    have HV : Hid (V = n) := HV.out.trans (if_pos hi)
    have HW : Hid (B = b') := HW.out.trans (if_pos hi)
    have hI := fun x => HI.out n x
    rw [hi] at hI
    clear hi
    go_enter Tryz.func79, Tryz.ntmps79
    go_wp2_with fail
    refine hN.mono ?_
    rintro e y ⟨rfl, hb, hg⟩
    go_wp2_with fail
    refine (hI y).mono ?_
    rintro e y2 ⟨rfl, rfl⟩
    go_wp2_with fail
    go_ret
    rw [HV.out, HW.out]
    exact ⟨rfl, hb, hg⟩
  | false =>
    have HV : Hid (V = 0) := HV.out.trans (if_neg (by rw [hi]; exact Bool.false_ne_true))
    have HW : Hid (B = true) := HW.out.trans (if_neg (by rw [hi]; exact Bool.false_ne_true))
    have hI := fun x => HI.out n x
    rw [hi] at hI
    clear hi
    go_enter Tryz.func79, Tryz.ntmps79
    go_wp2_with fail
    refine hN.mono ?_
    rintro e y ⟨rfl, hb, hg⟩
    go_wp2_with fail
    refine (hI y).mono ?_
    rintro e y2 ⟨rfl, rfl⟩
    have p2 : y2.cell? ⟨P, 2, none⟩ = some (.bool b') := hb.cell 2
    have f2 := hb.fr 2
    have HE : Hid (Bxs (y2.setCell ⟨P, 2, none⟩ (.bool true)) P 126 #[.string t, .int .i64 a', .bool true] ∧ w.grownBy (y2.setCell ⟨P, 2, none⟩ (.bool true)) (some P)) := ⟨hb.set 2 _, grown_set hg 2 _⟩
    clear hb hg
    go_wp2_with fail
    go_ret
    rw [HV.out, HW.out]
    exact ⟨rfl, HE.out⟩
/-! ### What ShownRead answers -/
structure RdT where
  a : Int
  bd : Bool
  ns : List ByteArray
  cs : List ByteArray
def rdStep (t : ByteArray) (s : RdT) : RdT := ⟨rtA t (rtA t s.a s.bd) (rtB t s.a s.bd), rtB t (rtA t s.a s.bd) (rtB t s.a s.bd), s.ns ++ [rtT t s.a s.bd], s.cs ++ [rtT t (rtA t s.a s.bd) (rtB t s.a s.bd)]⟩
def rdL (t : ByteArray) : Nat → RdT → RdT
  | 0, s => s
  | k + 1, s => if s.bd = true then s else rdL t k (rdStep t s)
theorem rdL_bad (t : ByteArray) (k : Nat) (s : RdT) (h : s.bd = true) : rdL t k s = s := by
  cases k with
  | zero => rfl
  | succ k => exact if_pos h
theorem rdL_step (t : ByteArray) (k : Nat) (s : RdT) (h : s.bd = false) : rdL t (k + 1) s = rdL t k (rdStep t s) := if_neg (by rw [h]; exact Bool.false_ne_true)
def srK (t : ByteArray) : ByteArray := rtT t 0 false
def srAt (t : ByteArray) : Int := rnN t (rtA t 0 false) (rtB t 0 false)
def srL (t : ByteArray) : RdT := rdL t (rmN t (rnA t (rtA t 0 false) (rtB t 0 false)) (rnB t (rtA t 0 false) (rtB t 0 false)) 3).toNat ⟨rnA t (rnA t (rtA t 0 false) (rtB t 0 false)) (rnB t (rtA t 0 false) (rtB t 0 false)), rmB t (rnA t (rtA t 0 false) (rtB t 0 false)) (rnB t (rtA t 0 false) (rtB t 0 false)) 3, [], []⟩
def srIx (t : ByteArray) (s : RdT) : Int := rnN t s.a s.bd
def srS (t : ByteArray) (s : RdT) : ByteArray := rtT t (rnA t s.a s.bd) (rnB t s.a s.bd)
def srV (t : ByteArray) (s : RdT) : ByteArray := rtT t (rtA t (rnA t s.a s.bd) (rnB t s.a s.bd)) (rtB t (rnA t s.a s.bd) (rnB t s.a s.bd))
def srBd (t : ByteArray) (s : RdT) : Bool := rtB t (rtA t (rnA t s.a s.bd) (rnB t s.a s.bd)) (rtB t (rnA t s.a s.bd) (rnB t s.a s.bd))
def srP (t : ByteArray) : Shw := ⟨srK t, srAt t, (srL t).ns, (srL t).cs, srIx t (srL t), srS t (srL t), srV t (srL t)⟩
def srC (t : ByteArray) : Int := if 8000 < t.size then 2 else if srBd t (srL t) = true ∨ t.toList.isEmpty = true ∨ ((sbB (srP t)).toList == t.toList) = false then 3 else 0
def srO (t : ByteArray) : Shw := if srC t = 0 then srP t else shwZ
/-- The box of what is shown, its two rows, and the reader's box. -/
structure RdS (W : World) (P Z : Nat) (t : ByteArray) (a : Int) (bd : Bool) (cs : Array Value) (v1 v2 : Value) (A B : List ByteArray) (x : World) : Prop where
  two : Two W Z 48 cs v1 v2 A B x
  rd : Bxs x P 126 #[.string t, .int .i64 a, .bool bd]
  hP : W.heap.size ≤ P
  ne : P ≠ Z
section
variable {W : World} {P Z : Nat} {t : ByteArray} {a : Int} {bd : Bool} {cs : Array Value} {v1 v2 : Value} {A B : List ByteArray} {x y : World}
theorem RdS.below (h : RdS W P Z t a bd cs v1 v2 A B x) (hb : Below x.heap.size x y) : RdS W P Z t a bd cs v1 v2 A B y := ⟨h.two.below hb, h.rd.below hb, h.hP, h.ne⟩
theorem RdS.swap (h : RdS W P Z t a bd cs v1 v2 A B x) : RdS W P Z t a bd cs v2 v1 B A x := ⟨h.two.swap, h.rd, h.hP, h.ne⟩
theorem RdS.put (h : RdS W P Z t a bd cs v1 v2 A B x) (j : Nat) (u : Value) : RdS W P Z t a bd (cs.setIfInBounds j u) v1 v2 A B (x.setCell ⟨Z, j, none⟩ u) := ⟨h.two.put j u, h.rd.other _ _ (Ne.symm h.ne) _, h.hP, h.ne⟩
theorem RdS.call {a' : Int} {bd' : Bool} (h : RdS W P Z t a bd cs v1 v2 A B x) (hr : Bxs y P 126 #[.string t, .int .i64 a', .bool bd']) (hg : x.grownBy y (some P)) : RdS W P Z t a' bd' cs v1 v2 A B y := by
  have n1 := ownR_ne h.two.own1 h.rd (by decide)
  have n2 := ownR_ne h.two.own2 h.rd (by decide)
  refine ⟨⟨h.two.bel.grown hg h.two.bel.size (fun j hj => by cases hj; exact h.hP), h.two.hZ, h.two.hT, h.two.box.grown hg (fun e => h.ne (by cases e; rfl)), ownR_grown h.two.own1 hg (fun g h1 h2 => n1 (by rw [h1, h2])), ownR_grown h.two.own2 hg (fun g h1 h2 => n2 (by rw [h1, h2])), h.two.ap⟩, hr, h.hP, h.ne⟩
theorem RdS.app (h : RdS W P Z t a bd cs v1 v2 A B x) (j : Nat) (s : ByteArray) (hj : cs[j]? = some v1) (hl : A.length + 1 ≤ 1048576) :
    ∃ g c y, (Builtin.append_ #[23, 23] 23 #[v1, .slice (some ⟨x.heap.size, 0, none⟩) 1 1]).run Tryz.prog (x.alloc (.cells #[.string s] 9)) = .ok (.slice (some ⟨g, 0, none⟩) (A.length + 1) c) y ∧
      RdS W P Z t a bd (cs.setIfInBounds j (.slice (some ⟨g, 0, none⟩) (A.length + 1) c)) (.slice (some ⟨g, 0, none⟩) (A.length + 1) c) v2 (A ++ [s]) B (y.setCell ⟨Z, j, none⟩ (.slice (some ⟨g, 0, none⟩) (A.length + 1) c)) ∧ y.cell? ⟨Z, j, none⟩ = some v1 ∧ y.frozen? ⟨Z, j, none⟩ = false := by
  obtain ⟨g, c, y, h1, h2, h3, h4⟩ := app_str x W.heap.size v1 A h.two.own1 s hl h.two.bel.size
  have H := h.two
  have hb : Bxs y Z 48 cs := (H.box.alloc _).grown h3 (Ne.symm (ownR_ne H.own1 H.box H.hT))
  have hB : Below W.heap.size W y := (H.bel.alloc H.bel.size _).grown h3 (by have := H.bel.size; rw [szA]; omega) (fun j hj => (H.own1.lt j hj).1)
  have o2 : y.ownsRow W.heap.size 9 1 v2 B.length (strRow B) := ownR_grown (H.own2.alloc _) h3 (fun g' hg' he => H.ap g' he hg')
  have hr : Bxs y P 126 #[.string t, .int .i64 a, .bool bd] := (h.rd.alloc _).grown h3 (Ne.symm (ownR_ne H.own1 h.rd (by decide)))
  have hap : ∀ g', (Value.slice (some ⟨g, 0, none⟩) (A.length + 1) c).ownBlock = some g' → v2.ownBlock ≠ some g' := by
    intro g' hg' he
    have : g = g' := by simpa [Value.ownBlock] using hg'
    subst this
    rcases h4 with h4 | h4
    · exact H.ap g h4 he
    · have := (H.own2.lt g he).2; omega
  refine ⟨g, c, y, h1, ⟨⟨hB.setCell H.hZ _, H.hZ, H.hT, hb.set j _, ownsRow_setCell_other h2 (ownR_ne h2 hb H.hT) _, ownsRow_setCell_other o2 (ownR_ne o2 hb H.hT) _, hap⟩, hr.other _ _ (Ne.symm h.ne) _, h.hP, h.ne⟩, ?_, hb.fr j⟩
  rw [hb.cell j]; exact hj
end
set_option maxHeartbeats 8000000 in
theorem specShownRead_any (t : ByteArray) (w : World) (ht : t.size ≤ maxLen) :
    Calls Tryz.prog 28 #[.string t] w fun e w' => ∃ v1 v2, e = .returned (.agg #[.string (srO t).k, .int .i64 (srO t).at_, v1, v2, .int .i64 (srO t).ix, .string (srO t).s, .string (srO t).v, .int .i64 (srC t)]) ∧ ShwO w.heap.size (srO t) v1 v2 w' ∧ Below w.heap.size w w' := by
  obtain ⟨W1, hW1⟩ : ∃ W1, W1 = w.alloc (.cells #[.string ⟨#[]⟩, .int .i64 0, .slice none 0 0, .slice none 0 0, .int .i64 0, .string ⟨#[]⟩, .string ⟨#[]⟩, .int .i64 0] 50) := ⟨_, rfl⟩
  have HW1 : Hid (W1 = w.alloc (.cells #[.string ⟨#[]⟩, .int .i64 0, .slice none 0 0, .slice none 0 0, .int .i64 0, .string ⟨#[]⟩, .string ⟨#[]⟩, .int .i64 0] 50)) := hW1
  have HS1 : Hid (W1.heap.size = w.heap.size + 1) := by rw [hW1]; show _ = _; simp
  have K1 : Hid (Bxs W1 w.heap.size 50 #[.string ByteArray.empty, .int .i64 0, .slice none 0 0, .slice none 0 0, .int .i64 0, .string ByteArray.empty, .string ByteArray.empty, .int .i64 0]) := by rw [hW1]; exact Bxs.new _ _ _
  have B1 : Hid (Below w.heap.size w W1) := by rw [hW1]; exact (Below.refl _ _).alloc (Nat.le_refl _) _
  have HEr : Hid (∀ (y : World) (c : Int) (x0 x1 x2 x3 x4 x5 x6 x7 : Value), Below W1.heap.size W1 y → srC t = c → c ≠ 0 → ∃ v1 v2, Ending.returned (.agg #[.string ByteArray.empty, .int .i64 0, .slice none 0 0, .slice none 0 0, .int .i64 0, .string ByteArray.empty, .string ByteArray.empty, .int .i64 c]) = .returned (.agg #[.string (srO t).k, .int .i64 (srO t).at_, v1, v2, .int .i64 (srO t).ix, .string (srO t).s, .string (srO t).v, .int .i64 (srC t)]) ∧ ShwO w.heap.size (srO t) v1 v2 (set8 y w.heap.size x0 x1 x2 x3 x4 x5 x6 x7) ∧ Below w.heap.size w (set8 y w.heap.size x0 x1 x2 x3 x4 x5 x6 x7)) := by
    intro y c x0 x1 x2 x3 x4 x5 x6 x7 hb hc hn
    have hn' : ¬ srC t = 0 := by rw [hc]; exact hn
    rw [show srO t = shwZ from if_neg hn', hc]
    exact ⟨_, _, rfl, ShwO.nil _ _, below_set8 (chainB B1.out hb) (Nat.le_refl _) _ _ _ _ _ _ _ _⟩
  clear hW1
  unfold maxLen at ht
  by_cases h8 : 8000 < t.size
  · have hC : Hid (srC t = 2) := if_pos h8
    have d8 : decide (8000 < (t.size : Int)) = true := decide_eq_true (by omega)
    have HE := fun x0 x1 x2 x3 x4 x5 x6 x7 => HEr.out W1 2 x0 x1 x2 x3 x4 x5 x6 x7 (Below.refl _ _) hC.out (by omega)
    rw [HW1.out] at HE
    have HE : Hid _ := HE
    clear HEr h8
    go_enter Tryz.func28, Tryz.ntmps28
    go_upto_region 2 with fail
    rw [← HW1.out] at HE ⊢
    obtain ⟨r0, r1, r2, r3, r4, r5, r6, r7⟩ := K1.out.eight
    obtain ⟨f0, f1, f2, f3, f4, f5, f6, f7⟩ := K1.out.free8
    go_wp2_with fail
    refine bodyPost_ret (v := .agg #[.string ByteArray.empty, .int .i64 0, .slice none 0 0, .slice none 0 0, .int .i64 0, .string ByteArray.empty, .string ByteArray.empty, .int .i64 2]) (by simp [results, Tryz.results28, go_sem, r0, r1, r2, r3, r4, r5, r6, r7]; rfl) rfl ?_
    exact HE.out _ _ _ _ _ _ _ _
  have d8 : decide (8000 < (t.size : Int)) = false := decide_eq_false (by omega)
  have ht8 : t.size ≤ 8000 := by omega
  obtain ⟨P, hPw⟩ : ∃ P, P = w.heap.size + 1 := ⟨_, rfl⟩
  have hP : P = W1.heap.size := by rw [hPw, HS1.out]
  have HTx : Hid (∀ (a : Int) (bd : Bool) (x : World), a ≤ 8000 → Bxs x P 126 #[.string t, .int .i64 a, .bool bd] → Calls Tryz.prog 77 #[.pointer (some ⟨P, 0, none⟩)] x fun e w' => e = .returned (.string (rtT t a bd)) ∧ Bxs w' P 126 #[.string t, .int .i64 (rtA t a bd), .bool (rtB t a bd)] ∧ x.grownBy w' (some P)) := fun a bd x h hb => rdText_any P t a bd x hb ht8 (by omega)
  have HNx : Hid (∀ (a : Int) (bd : Bool) (x : World), a ≤ 8000 → Bxs x P 126 #[.string t, .int .i64 a, .bool bd] → Calls Tryz.prog 78 #[.pointer (some ⟨P, 0, none⟩)] x fun e w' => e = .returned (.int .i64 (rnN t a bd)) ∧ Bxs w' P 126 #[.string t, .int .i64 (rnA t a bd), .bool (rnB t a bd)] ∧ x.grownBy w' (some P)) := fun a bd x h hb => rdNum_any P t a bd x hb ht8 (by omega)
  have HMx : Hid (∀ (a : Int) (bd : Bool) (x : World), a ≤ 8000 → Bxs x P 126 #[.string t, .int .i64 a, .bool bd] → Calls Tryz.prog 79 #[.pointer (some ⟨P, 0, none⟩), .int .i64 3] x fun e w' => e = .returned (.int .i64 (rmN t a bd 3)) ∧ Bxs w' P 126 #[.string t, .int .i64 (rnA t a bd), .bool (rmB t a bd 3)] ∧ x.grownBy w' (some P)) := fun a bd x h hb => rdMany_any P t a bd 3 x hb ht8 (by omega)
  have HTA : Hid (∀ (a : Int) (bd : Bool), 0 ≤ a → a ≤ 8000 → 0 ≤ rtA t a bd ∧ rtA t a bd ≤ 8000) := fun a bd h0 h1 => rtA_le ht8 h0 h1
  have HNA : Hid (∀ (a : Int) (bd : Bool), 0 ≤ a → a ≤ 8000 → 0 ≤ rnA t a bd ∧ rnA t a bd ≤ 8000) := fun a bd h0 h1 => rnA_le ht8 h0 h1
  obtain ⟨K, hK⟩ : ∃ K, K = srK t := ⟨_, rfl⟩
  obtain ⟨a1, ha1⟩ : ∃ a, a = rtA t 0 false := ⟨_, rfl⟩
  obtain ⟨b1, hb1⟩ : ∃ b, b = rtB t 0 false := ⟨_, rfl⟩
  obtain ⟨AT, hAT⟩ : ∃ a, a = rnN t a1 b1 := ⟨_, rfl⟩
  obtain ⟨a2, ha2⟩ : ∃ a, a = rnA t a1 b1 := ⟨_, rfl⟩
  obtain ⟨b2, hb2⟩ : ∃ b, b = rnB t a1 b1 := ⟨_, rfl⟩
  obtain ⟨n3, hn3⟩ : ∃ a, a = rmN t a2 b2 3 := ⟨_, rfl⟩
  obtain ⟨a3, ha3⟩ : ∃ a, a = rnA t a2 b2 := ⟨_, rfl⟩
  obtain ⟨b3, hb3⟩ : ∃ b, b = rmB t a2 b2 3 := ⟨_, rfl⟩
  have HL : Hid (srL t = rdL t n3.toNat ⟨a3, b3, [], []⟩) := by show _ = _; rw [hn3, ha3, hb3, ha2, hb2, ha1, hb1]; rfl
  have HAt : Hid (srAt t = AT) := by show _ = _; rw [hAT, ha1, hb1]; rfl
  have l1 : 0 ≤ a1 ∧ a1 ≤ 8000 := by rw [ha1]; exact HTA.out 0 false (by omega) (by omega)
  have l2 : 0 ≤ a2 ∧ a2 ≤ 8000 := by rw [ha2]; exact HNA.out _ _ l1.1 l1.2
  have l3 : 0 ≤ a3 ∧ a3 ≤ 8000 := by rw [ha3]; exact HNA.out _ _ l2.1 l2.2
  have ln : 0 ≤ n3 ∧ n3 ≤ 3 := by
    rw [hn3]; unfold rmN inM
    split
    · rename_i h; rw [decide_eq_true_iff] at h; exact h
    · exact ⟨by omega, by omega⟩
  obtain ⟨n, hn⟩ := Int.eq_ofNat_of_zero_le ln.1
  obtain ⟨W2, hW2⟩ : ∃ W2, W2 = W1.alloc (.cells #[.string t, .int .i64 0, .bool false] 126) := ⟨_, rfl⟩
  have KP : Bxs W2 P 126 #[.string t, .int .i64 0, .bool false] := by rw [hW2, hP]; exact Bxs.new _ _ _
  have B2 : Below W1.heap.size W1 W2 := by rw [hW2]; exact (Below.refl _ _).alloc (Nat.le_refl _) _
  have C1 : Hid (Calls Tryz.prog 77 #[.pointer (some ⟨P, 0, none⟩)] W2 fun e w' => e = .returned (.string K) ∧ Bxs w' P 126 #[.string t, .int .i64 a1, .bool b1] ∧ W2.grownBy w' (some P)) := by rw [ha1, hb1, hK]; exact HTx.out 0 false W2 (by omega) KP
  have CN : Hid (∀ (x : World), Bxs x P 126 #[.string t, .int .i64 a1, .bool b1] → Calls Tryz.prog 78 #[.pointer (some ⟨P, 0, none⟩)] x fun e w' => e = .returned (.int .i64 AT) ∧ Bxs w' P 126 #[.string t, .int .i64 a2, .bool b2] ∧ x.grownBy w' (some P)) := by rw [hAT, ha2, hb2]; exact fun x hb => HNx.out a1 b1 x l1.2 hb
  have CM : Hid (∀ (x : World), Bxs x P 126 #[.string t, .int .i64 a2, .bool b2] → Calls Tryz.prog 79 #[.pointer (some ⟨P, 0, none⟩), .int .i64 3] x fun e w' => e = .returned (.int .i64 n3) ∧ Bxs w' P 126 #[.string t, .int .i64 a3, .bool b3] ∧ x.grownBy w' (some P)) := by rw [hn3, ha3, hb3]; exact fun x hb => HMx.out a2 b2 x l2.2 hb
  have HW2 : Hid (W2 = W1.alloc (.cells #[.string t, .int .i64 0, .bool false] 126)) := hW2
  have HPd : Hid (P = w.heap.size + 1) := hPw
  have HPs : Hid (W1.heap.size ≤ P) := by show _ ≤ _; omega
  have HPl : Hid (P < W2.heap.size) := KP.lt
  have HK2 : Hid (K = srK t) := hK
  have HN3 : Hid (n3 = (n : Int)) := hn
  have HB2 : Hid (Below W1.heap.size W1 W2) := B2
  clear hK ha1 hb1 hAT ha2 hb2 hn3 ha3 hb3 l1 l2 HMx KP hW2 h8 hn B2 hP hPw
  have ln : n ≤ 3 := by have := HN3.out; omega
  go_enter Tryz.func28, Tryz.ntmps28
  go_upto_region 4 with fail
  rw [← HW1.out]
  rw [← HW2.out, ← HPd.out]
  clear HW2 HW1 HPd d8
  go_wp2_with fail
  refine C1.out.mono ?_
  rintro e y1 ⟨rfl, kb1, hg1⟩
  go_upto_region 5 with fail
  obtain ⟨y2, hy2⟩ : ∃ y2, y2 = y1.alloc (.cells #[.string K, .int .i64 0, .slice none 0 0, .slice none 0 0, .int .i64 0, .string ⟨#[]⟩, .string ⟨#[]⟩] 48) := ⟨_, rfl⟩
  rw [← hy2]
  obtain ⟨Z, hZ⟩ : ∃ Z, Z = y1.heap.size := ⟨_, rfl⟩
  have S2 : RdS W1 P Z t a1 b1 #[.string K, .int .i64 0, .slice none 0 0, .slice none 0 0, .int .i64 0, .string ByteArray.empty, .string ByteArray.empty] (.slice none 0 0) (.slice none 0 0) [] [] y2 := by
    have hz1 := hg1.size
    have hz2 := HPl.out
    have hz3 := HB2.out.size
    have hb1 : Below W1.heap.size W1 y1 := HB2.out.grown hg1 hz3 (fun j hj => by cases hj; exact HPs.out)
    rw [hy2, hZ]
    exact ⟨⟨hb1.alloc hb1.size _, hb1.size, by decide, Bxs.new _ _ _, World.ownsRow_nil _ _ _ _, World.ownsRow_nil _ _ _ _, fun g hg => by cases hg⟩, kb1.alloc _, HPs.out, by omega⟩
  rw [← hZ]
  clear hy2 hZ kb1 hg1 C1 HB2 HPl
  go_wp2_with fail
  refine (CN.out y2 S2.rd).mono ?_
  rintro e y3 ⟨rfl, kb2, hg2⟩
  have S3 := S2.call kb2 hg2
  have z1 : y3.cell? ⟨Z, 1, none⟩ = some (.int .i64 0) := S3.two.box.cell 1
  have g1 := S3.two.box.fr 1
  have S4 := S3.put 1 (.int .i64 AT)
  have S4 : Hid (RdS W1 P Z t a2 b2 #[.string K, .int .i64 AT, .slice none 0 0, .slice none 0 0, .int .i64 0, .string ByteArray.empty, .string ByteArray.empty] (.slice none 0 0) (.slice none 0 0) [] [] (y3.setCell ⟨Z, 1, none⟩ (.int .i64 AT))) := S4
  clear S2 S3 kb2 hg2 CN
  go_upto_region 6 with fail
  generalize y3.setCell ⟨Z, 1, none⟩ (.int .i64 AT) = y4 at *
  clear z1 g1
  go_wp2_with fail
  refine (CM.out y4 S4.out.rd).mono ?_
  rintro e y5 ⟨rfl, kb3, hg3⟩
  have S5 : Hid (RdS W1 P Z t a3 b3 #[.string K, .int .i64 AT, .slice none 0 0, .slice none 0 0, .int .i64 0, .string ByteArray.empty, .string ByteArray.empty] (.slice none 0 0) (.slice none 0 0) [] [] y5) := S4.out.call kb3 hg3
  clear S4 kb3 hg3 CM
  rw [HN3.out]
  have HL : Hid (srL t = rdL t n ⟨a3, b3, [], []⟩) := by show _ = _; rw [HL.out, HN3.out, Int.toNat_natCast]
  have HTL : Hid (∀ (a : Int) (bd : Bool), (rtT t a bd).size ≤ 8000) := fun a bd => Nat.le_trans (rtT_le t a bd) ht8
  go_wp2_with fail
  go_loopw [5] (fun v wr => ∃ (k : Nat) (a : Int) (bd : Bool) (v1 v2 : Value) (A B : List ByteArray), v = .int .i64 k ∧ k ≤ 3 ∧ 0 ≤ a ∧ a ≤ 8000 ∧ Hid (srL t = rdL t k ⟨a, bd, A, B⟩) ∧ Hid (A.length + k ≤ 3 ∧ B.length + k ≤ 3) ∧ Hid ((∀ x ∈ A, x.size ≤ 8000) ∧ (∀ x ∈ B, x.size ≤ 8000)) ∧ Hid (RdS W1 P Z t a bd #[.string K, .int .i64 AT, v1, v2, .int .i64 0, .string ByteArray.empty, .string ByteArray.empty] v1 v2 A B wr)) (fun v _ => (intOf v).toNat)
  case atStart => exact ⟨n, a3, b3, _, _, [], [], rfl, ln, l3.1, l3.2, HL, ⟨by simpa using ln, by simpa using ln⟩, ⟨fun x hx => by simp at hx, fun x hx => by simp at hx⟩, S5⟩
  case round =>
    clear S5 HL
    obtain ⟨k, a, bd, v1, v2, A, B, rfl, hk3, ha0, ha8, HL, HLn, HSz, hS⟩ := hrel
    have p2 : wr.cell? ⟨P, 2, none⟩ = some (.bool bd) := hS.out.rd.cell 2
    by_cases hgo : 0 < k ∧ bd = false
    · obtain ⟨hk0, rfl⟩ := hgo
      have dk : decide (0 < (k : Int)) = true := decide_eq_true (by omega)
      have dkn : decide (0 < k) = true := decide_eq_true hk0
      obtain ⟨k', rfl⟩ : ∃ k', k = k' + 1 := ⟨k - 1, by omega⟩
      have hl1 := HTA.out a false ha0 ha8
      obtain ⟨s1, hs1⟩ : ∃ s, s = rtT t a false := ⟨_, rfl⟩
      obtain ⟨c1, hc1⟩ : ∃ s, s = rtA t a false := ⟨_, rfl⟩
      obtain ⟨d1, hd1⟩ : ∃ s, s = rtB t a false := ⟨_, rfl⟩
      rw [← hc1] at hl1
      have hl2 := HTA.out c1 d1 hl1.1 hl1.2
      obtain ⟨s2, hs2⟩ : ∃ s, s = rtT t c1 d1 := ⟨_, rfl⟩
      obtain ⟨c2, hc2⟩ : ∃ s, s = rtA t c1 d1 := ⟨_, rfl⟩
      obtain ⟨d2, hd2⟩ : ∃ s, s = rtB t c1 d1 := ⟨_, rfl⟩
      rw [← hc2] at hl2
      have CT1 : Hid (∀ (x : World), Bxs x P 126 #[.string t, .int .i64 a, .bool false] → Calls Tryz.prog 77 #[.pointer (some ⟨P, 0, none⟩)] x fun e w' => e = .returned (.string s1) ∧ Bxs w' P 126 #[.string t, .int .i64 c1, .bool d1] ∧ x.grownBy w' (some P)) := by rw [hs1, hc1, hd1]; exact fun x hb => HTx.out a false x ha8 hb
      have CT2 : Hid (∀ (x : World), Bxs x P 126 #[.string t, .int .i64 c1, .bool d1] → Calls Tryz.prog 77 #[.pointer (some ⟨P, 0, none⟩)] x fun e w' => e = .returned (.string s2) ∧ Bxs w' P 126 #[.string t, .int .i64 c2, .bool d2] ∧ x.grownBy w' (some P)) := by rw [hs2, hc2, hd2]; exact fun x hb => HTx.out c1 d1 x hl1.2 hb
      have HL2 : Hid (srL t = rdL t k' ⟨c2, d2, A ++ [s1], B ++ [s2]⟩) := by show _ = _; rw [HL.out, rdL_step _ _ _ rfl, hs1, hs2, hc2, hd2, hc1, hd1]; rfl
      have HSz2 : Hid ((∀ x ∈ A ++ [s1], x.size ≤ 8000) ∧ (∀ x ∈ B ++ [s2], x.size ≤ 8000)) := by
        have z1 : s1.size ≤ 8000 := by rw [hs1]; exact HTL.out _ _
        have z2 : s2.size ≤ 8000 := by rw [hs2]; exact HTL.out _ _
        exact ⟨fun x hx => by rcases List.mem_append.1 hx with h | h; exact HSz.out.1 x h; rw [List.mem_singleton.1 h]; exact z1, fun x hx => by rcases List.mem_append.1 hx with h | h; exact HSz.out.2 x h; rw [List.mem_singleton.1 h]; exact z2⟩
      have HLn2 : Hid ((A ++ [s1]).length + k' ≤ 3 ∧ (B ++ [s2]).length + k' ≤ 3) := by have := HLn.out; exact ⟨by simp; omega, by simp; omega⟩
      have HLa : Hid (A.length + 1 ≤ 1048576) := by have := HLn.out; show _ ≤ _; omega
      have HLb : Hid (B.length + 1 ≤ 1048576) := by have := HLn.out; show _ ≤ _; omega
      clear hs1 hs2 hc1 hc2 hd1 hd2 HL HLn HSz hl1
      have BR : Hid (Below wr.heap.size wr wr.drew) := (Below.refl _ _).drew
      have hS0 : Hid (RdS W1 P Z t a false #[.string K, .int .i64 AT, v1, v2, .int .i64 0, .string ByteArray.empty, .string ByteArray.empty] v1 v2 A B wr.drew) := hS.out.below BR.out
      go_upto_region 9 with fail
      refine region_till (fun w' => w'.cell? ⟨Z, 2, none⟩ = some v1) 7 (by kernel_rfl) (hS0.out.two.box.cell 2) (fun hHeld => ?_)
      refine till_take 0 (v := ?_) rfl (by kernel_rfl) (by kernel_rfl) (by kernel_rfl) (by kernel_rfl) (fun _ _ _ h => h) hHeld (Or.inl ⟨by rfl, ?_⟩) ?_
      rotate_left
      · (intro w hSw; (try dsimp only at hSw); go_simp; try with_reducible rfl)
      simp only [Act.put, List.setIfInBounds_toArray, List.set_cons_zero, List.set_cons_succ]
      refine till_take 1 (v := ?_) rfl (by kernel_rfl) (by kernel_rfl) (by kernel_rfl) (by kernel_rfl) (fun _ _ _ h => h) hHeld (Or.inl ⟨by rfl, ?_⟩) ?_
      rotate_left
      · (intro w hSw; (try dsimp only at hSw); go_simp; try with_reducible rfl)
      simp only [Act.put, List.setIfInBounds_toArray, List.set_cons_zero, List.set_cons_succ]
      refine till_take 2 (v := ?_) rfl (by kernel_rfl) (by kernel_rfl) (by kernel_rfl) (by kernel_rfl) (fun _ _ _ h => h) hHeld (Or.inl ⟨by rfl, ?_⟩) ?_
      rotate_left
      · (intro w hSw; (try dsimp only at hSw); go_simp; try with_reducible rfl)
      simp only [Act.put, List.setIfInBounds_toArray, List.set_cons_zero, List.set_cons_succ]
      refine till_ready 3 rfl (by kernel_rfl) (fun K hK => ?_)
      go_simp; (go_at_call 77; with_reducible refine (CT1.out _ hS0.out.rd).mono ?_; rintro e q1 ⟨rfl, kq, gq⟩); have T1 := hS0.out.call kq gq
      refine hK.out _ _ (T1.two.box.cell 2) (fun hHeld => ?_)
      clear hK K
      try simp only [Act.put, List.setIfInBounds_toArray, List.set_cons_zero, List.set_cons_succ]
      refine till_ready 4 rfl (by kernel_rfl) (fun K hK => ?_)
      go_simp
      refine hK.out _ _ ((T1.two.box.alloc _).cell 2) (fun hHeld => ?_)
      clear hK K
      try simp only [Act.put, List.setIfInBounds_toArray, List.set_cons_zero, List.set_cons_succ]
      refine till_ready 5 rfl (by kernel_rfl) (fun K hK => ?_)
      obtain ⟨g, cp, q2, hrun, T2, c7, f7⟩ := T1.app 2 s1 rfl HLa.out; refine step_append_run rfl _ _ 23 rfl v1 (.slice (some ⟨q1.heap.size, 0, none⟩) 1 1) _ _ rfl rfl hrun ?_
      refine hK.out _ _ (c7) (fun hHeld => ?_)
      clear hK K
      try simp only [Act.put, List.setIfInBounds_toArray, List.set_cons_zero, List.set_cons_succ]
      refine till_take 6 (v := ?_) rfl (by kernel_rfl) (by kernel_rfl) (by kernel_rfl) (by kernel_rfl) (fun _ _ _ h => h) hHeld (Or.inl ⟨by rfl, ?_⟩) ?_
      rotate_left
      · (intro w hSw; (try dsimp only at hSw); go_simp; try with_reducible rfl)
      simp only [Act.put, List.setIfInBounds_toArray, List.set_cons_zero, List.set_cons_succ]
      refine till_last rfl (by kernel_rfl) (by kernel_rfl) (fun K hK => ?_)
      go_simp
      refine hK.out _ _ ?_
      clear hK K
      go_upto_region 10 with fail
      obtain ⟨z1, hz1⟩ : ∃ z1, z1 = q2.setCell ⟨Z, 2, none⟩ (.slice (some ⟨g, 0, none⟩) (A.length + 1) cp) := ⟨_, rfl⟩
      rw [← hz1] at T2 ⊢
      have hS2 : Hid (RdS W1 P Z t c1 d1 #[.string K, .int .i64 AT, .slice (some ⟨g, 0, none⟩) (A.length + 1) cp, v2, .int .i64 0, .string ByteArray.empty, .string ByteArray.empty] (.slice (some ⟨g, 0, none⟩) (A.length + 1) cp) v2 (A ++ [s1]) B z1) := T2
      have BR2 : Hid (Below z1.heap.size z1 z1.drew) := (Below.refl _ _).drew
      have hS1 : Hid (RdS W1 P Z t c1 d1 #[.string K, .int .i64 AT, .slice (some ⟨g, 0, none⟩) (A.length + 1) cp, v2, .int .i64 0, .string ByteArray.empty, .string ByteArray.empty] (.slice (some ⟨g, 0, none⟩) (A.length + 1) cp) v2 (A ++ [s1]) B z1.drew) := hS2.out.below BR2.out
      clear hz1 T2 c7 f7 hrun hHeld p2 hS hS0 T1 kq gq hS2
      refine region_till (fun w' => w'.cell? ⟨Z, 3, none⟩ = some v2) 7 (by kernel_rfl) (hS1.out.two.box.cell 3) (fun hHeld => ?_)
      refine till_take 0 (v := ?_) rfl (by kernel_rfl) (by kernel_rfl) (by kernel_rfl) (by kernel_rfl) (fun _ _ _ h => h) hHeld (Or.inl ⟨by rfl, ?_⟩) ?_
      rotate_left
      · (intro w hSw; (try dsimp only at hSw); go_simp; try with_reducible rfl)
      simp only [Act.put, List.setIfInBounds_toArray, List.set_cons_zero, List.set_cons_succ]
      refine till_take 1 (v := ?_) rfl (by kernel_rfl) (by kernel_rfl) (by kernel_rfl) (by kernel_rfl) (fun _ _ _ h => h) hHeld (Or.inl ⟨by rfl, ?_⟩) ?_
      rotate_left
      · (intro w hSw; (try dsimp only at hSw); go_simp; try with_reducible rfl)
      simp only [Act.put, List.setIfInBounds_toArray, List.set_cons_zero, List.set_cons_succ]
      refine till_take 2 (v := ?_) rfl (by kernel_rfl) (by kernel_rfl) (by kernel_rfl) (by kernel_rfl) (fun _ _ _ h => h) hHeld (Or.inl ⟨by rfl, ?_⟩) ?_
      rotate_left
      · (intro w hSw; (try dsimp only at hSw); go_simp; try with_reducible rfl)
      simp only [Act.put, List.setIfInBounds_toArray, List.set_cons_zero, List.set_cons_succ]
      refine till_ready 3 rfl (by kernel_rfl) (fun K hK => ?_)
      go_simp; (go_at_call 77; with_reducible refine (CT2.out _ hS1.out.rd).mono ?_; rintro e q12 ⟨rfl, kq2, gq2⟩); have T12 := hS1.out.call kq2 gq2
      refine hK.out _ _ (T12.two.box.cell 3) (fun hHeld => ?_)
      clear hK K
      try simp only [Act.put, List.setIfInBounds_toArray, List.set_cons_zero, List.set_cons_succ]
      refine till_ready 4 rfl (by kernel_rfl) (fun K hK => ?_)
      go_simp
      refine hK.out _ _ ((T12.two.box.alloc _).cell 3) (fun hHeld => ?_)
      clear hK K
      try simp only [Act.put, List.setIfInBounds_toArray, List.set_cons_zero, List.set_cons_succ]
      refine till_ready 5 rfl (by kernel_rfl) (fun K hK => ?_)
      obtain ⟨g2, cp2, q22, hrun2, T22, c72, f72⟩ := T12.swap.app 3 s2 rfl HLb.out; refine step_append_run rfl _ _ 23 rfl v2 (.slice (some ⟨q12.heap.size, 0, none⟩) 1 1) _ _ rfl rfl hrun2 ?_
      refine hK.out _ _ (c72) (fun hHeld => ?_)
      clear hK K
      try simp only [Act.put, List.setIfInBounds_toArray, List.set_cons_zero, List.set_cons_succ]
      refine till_take 6 (v := ?_) rfl (by kernel_rfl) (by kernel_rfl) (by kernel_rfl) (by kernel_rfl) (fun _ _ _ h => h) hHeld (Or.inl ⟨by rfl, ?_⟩) ?_
      rotate_left
      · (intro w hSw; (try dsimp only at hSw); go_simp; try with_reducible rfl)
      simp only [Act.put, List.setIfInBounds_toArray, List.set_cons_zero, List.set_cons_succ]
      refine till_last rfl (by kernel_rfl) (by kernel_rfl) (fun K hK => ?_)
      go_simp
      refine hK.out _ _ ?_
      clear hK K
      have S9 : Hid (RdS W1 P Z t c2 d2 #[.string K, .int .i64 AT, .slice (some ⟨g, 0, none⟩) (A.length + 1) cp, .slice (some ⟨g2, 0, none⟩) (B.length + 1) cp2, .int .i64 0, .string ByteArray.empty, .string ByteArray.empty] (.slice (some ⟨g, 0, none⟩) (A.length + 1) cp) (.slice (some ⟨g2, 0, none⟩) (B.length + 1) cp2) (A ++ [s1]) (B ++ [s2]) (q22.setCell ⟨Z, 3, none⟩ (.slice (some ⟨g2, 0, none⟩) (B.length + 1) cp2))) := T22.swap
      clear T22 c72 f72 hrun2 T12 kq2 gq2 hHeld
      go_wp2_with fail
      go_roundw
      case rel => exact ⟨k', c2, d2, _, _, A ++ [s1], B ++ [s2], by go_num, by omega, hl2.1, hl2.2, HL2, HLn2, HSz2, S9⟩
      case measure => simp [intOf]
    · have HLs : Hid (srL t = ⟨a, bd, A, B⟩) := by
        show _ = _
        rw [HL.out]
        cases k with
        | zero => rfl
        | succ k => exact rdL_bad _ _ _ (by cases bd with | true => rfl | false => exact absurd ⟨Nat.succ_pos k, rfl⟩ hgo)
      have hl5 := HNA.out a bd ha0 ha8
      obtain ⟨ix, hix⟩ : ∃ s, s = rnN t a bd := ⟨_, rfl⟩
      obtain ⟨a5, ha5⟩ : ∃ s, s = rnA t a bd := ⟨_, rfl⟩
      obtain ⟨b5, hb5⟩ : ∃ s, s = rnB t a bd := ⟨_, rfl⟩
      rw [← ha5] at hl5
      have hl6 := HTA.out a5 b5 hl5.1 hl5.2
      obtain ⟨ss, hss⟩ : ∃ s, s = rtT t a5 b5 := ⟨_, rfl⟩
      obtain ⟨a6, ha6⟩ : ∃ s, s = rtA t a5 b5 := ⟨_, rfl⟩
      obtain ⟨b6, hb6⟩ : ∃ s, s = rtB t a5 b5 := ⟨_, rfl⟩
      rw [← ha6] at hl6
      obtain ⟨vv, hvv⟩ : ∃ s, s = rtT t a6 b6 := ⟨_, rfl⟩
      obtain ⟨a7, ha7⟩ : ∃ s, s = rtA t a6 b6 := ⟨_, rfl⟩
      obtain ⟨b7, hb7⟩ : ∃ s, s = rtB t a6 b6 := ⟨_, rfl⟩
      have CA : Hid (∀ (x : World), Bxs x P 126 #[.string t, .int .i64 a, .bool bd] → Calls Tryz.prog 78 #[.pointer (some ⟨P, 0, none⟩)] x fun e w' => e = .returned (.int .i64 ix) ∧ Bxs w' P 126 #[.string t, .int .i64 a5, .bool b5] ∧ x.grownBy w' (some P)) := by rw [hix, ha5, hb5]; exact fun x hb => HNx.out a bd x ha8 hb
      have CB : Hid (∀ (x : World), Bxs x P 126 #[.string t, .int .i64 a5, .bool b5] → Calls Tryz.prog 77 #[.pointer (some ⟨P, 0, none⟩)] x fun e w' => e = .returned (.string ss) ∧ Bxs w' P 126 #[.string t, .int .i64 a6, .bool b6] ∧ x.grownBy w' (some P)) := by rw [hss, ha6, hb6]; exact fun x hb => HTx.out a5 b5 x hl5.2 hb
      have CC : Hid (∀ (x : World), Bxs x P 126 #[.string t, .int .i64 a6, .bool b6] → Calls Tryz.prog 77 #[.pointer (some ⟨P, 0, none⟩)] x fun e w' => e = .returned (.string vv) ∧ Bxs w' P 126 #[.string t, .int .i64 a7, .bool b7] ∧ x.grownBy w' (some P)) := by rw [hvv, ha7, hb7]; exact fun x hb => HTx.out a6 b6 x hl6.2 hb
      have HP : Hid (srP t = ⟨K, AT, A, B, ix, ss, vv⟩) := by
        show _ = _
        unfold srP
        rw [HLs.out, HAt.out, ← HK2.out, hvv, ha6, hb6, hss, hix, ha5, hb5]; rfl
      have HBd : Hid (srBd t (srL t) = b7) := by show _ = _; rw [HLs.out, hb7, ha6, hb6, ha5, hb5]; rfl
      have HCd : Hid (srC t = if b7 = true ∨ t.toList.isEmpty = true ∨ ((sbB ⟨K, AT, A, B, ix, ss, vv⟩).toList == t.toList) = false then 3 else 0) := by
        show _ = _
        unfold srC
        rw [if_neg (by omega), HBd.out, HP.out]
      have HLe : Hid (ShwLe ⟨K, AT, A, B, ix, ss, vv⟩) := by
        have z0 : K.size ≤ 8000 := by rw [HK2.out]; exact HTL.out _ _
        have z1 : ss.size ≤ 8000 := by rw [hss]; exact HTL.out _ _
        have z2 : vv.size ≤ 8000 := by rw [hvv]; exact HTL.out _ _
        have e : (8000 : Nat) ≤ maxLen := by unfold maxLen; omega
        exact ⟨Nat.le_trans z0 e, fun x hx => Nat.le_trans (HSz.out.1 x hx) e, fun x hx => Nat.le_trans (HSz.out.2 x hx) e, Nat.le_trans z1 e, Nat.le_trans z2 e⟩
      obtain ⟨p1, m1, rfl, -, -⟩ := ownS_form hS.out.two.own1
      have pc2 := p2
      clear p2
      obtain ⟨p2, m2, rfl, -, -⟩ := ownS_form hS.out.two.own2
      clear hix ha5 hb5 hss ha6 hb6 hvv ha7 hb7 HL HSz hl5 hl6 HTx HNx HTA HNA HTL HBd HAt HK2
      have HlA : Hid (A.length ≤ 3 ∧ B.length ≤ 3) := by have := HLn.out; exact ⟨by omega, by omega⟩
      by_cases hk0 : k = 0
      · have dk : decide (0 < (k : Int)) = false := decide_eq_false (by omega)
        have dkn : decide (0 < k) = false := decide_eq_false (by omega)
        clear hgo hk0 hk3 HLs
        go_wp2_with fail
        refine (CA.out wr hS.out.rd).mono ?_
        rintro e y6 ⟨rfl, kb, hg⟩
        have S' : RdS W1 P Z t a5 b5 #[.string K, .int .i64 AT, .slice p1 A.length m1, .slice p2 B.length m2, .int .i64 0, .string ByteArray.empty, .string ByteArray.empty] (.slice p1 A.length m1) (.slice p2 B.length m2) A B y6 := hS.out.call kb hg
        have zc : y6.cell? ⟨Z, 4, none⟩ = some (.int .i64 0) := S'.two.box.cell 4
        have gc := S'.two.box.fr 4
        have hSa : Hid (RdS W1 P Z t a5 b5 #[.string K, .int .i64 AT, .slice p1 A.length m1, .slice p2 B.length m2, .int .i64 ix, .string ByteArray.empty, .string ByteArray.empty] (.slice p1 A.length m1) (.slice p2 B.length m2) A B (y6.setCell ⟨Z, 4, none⟩ (.int .i64 ix))) := S'.put 4 (.int .i64 ix)
        clear S' kb hg hS
        go_upto_region 12 with fail
        generalize y6.setCell ⟨Z, 4, none⟩ (.int .i64 ix) = y6b at *
        clear zc gc
        go_wp2_with fail
        refine (CB.out y6b hSa.out.rd).mono ?_
        rintro e y8 ⟨rfl, kb, hg⟩
        have S' : RdS W1 P Z t a6 b6 #[.string K, .int .i64 AT, .slice p1 A.length m1, .slice p2 B.length m2, .int .i64 ix, .string ByteArray.empty, .string ByteArray.empty] (.slice p1 A.length m1) (.slice p2 B.length m2) A B y8 := hSa.out.call kb hg
        have zc : y8.cell? ⟨Z, 5, none⟩ = some (.string ByteArray.empty) := S'.two.box.cell 5
        have gc := S'.two.box.fr 5
        have hSb : Hid (RdS W1 P Z t a6 b6 #[.string K, .int .i64 AT, .slice p1 A.length m1, .slice p2 B.length m2, .int .i64 ix, .string ss, .string ByteArray.empty] (.slice p1 A.length m1) (.slice p2 B.length m2) A B (y8.setCell ⟨Z, 5, none⟩ (.string ss))) := S'.put 5 (.string ss)
        clear S' kb hg hSa
        go_upto_region 13 with fail
        generalize y8.setCell ⟨Z, 5, none⟩ (.string ss) = y8b at *
        clear zc gc
        go_wp2_with fail
        refine (CC.out y8b hSb.out.rd).mono ?_
        rintro e y10 ⟨rfl, kb, hg⟩
        have S' : RdS W1 P Z t a7 b7 #[.string K, .int .i64 AT, .slice p1 A.length m1, .slice p2 B.length m2, .int .i64 ix, .string ss, .string ByteArray.empty] (.slice p1 A.length m1) (.slice p2 B.length m2) A B y10 := hSb.out.call kb hg
        have zc : y10.cell? ⟨Z, 6, none⟩ = some (.string ByteArray.empty) := S'.two.box.cell 6
        have gc := S'.two.box.fr 6
        have hT : Hid (RdS W1 P Z t a7 b7 #[.string K, .int .i64 AT, .slice p1 A.length m1, .slice p2 B.length m2, .int .i64 ix, .string ss, .string vv] (.slice p1 A.length m1) (.slice p2 B.length m2) A B (y10.setCell ⟨Z, 6, none⟩ (.string vv))) := S'.put 6 (.string vv)
        clear S' kb hg hSb
        go_upto_region 14 with fail
        generalize y10.setCell ⟨Z, 6, none⟩ (.string vv) = y10b at *
        clear zc gc
        clear dk dkn pc2 CA CB CC
        have q2 : y10b.cell? ⟨P, 2, none⟩ = some (.bool b7) := hT.out.rd.cell 2
        have bt : Below W1.heap.size W1 y10b := hT.out.two.bel
        cases b7 with
        | true =>
          have hC : Hid (srC t = 3) := HCd.out.trans (if_pos (Or.inl rfl))
          have HE : Hid (∀ x0 x1 x2 x3 x4 x5 x6 x7 : Value, ∃ v1 v2, Ending.returned (.agg #[.string ByteArray.empty, .int .i64 0, .slice none 0 0, .slice none 0 0, .int .i64 0, .string ByteArray.empty, .string ByteArray.empty, .int .i64 3]) = .returned (.agg #[.string (srO t).k, .int .i64 (srO t).at_, v1, v2, .int .i64 (srO t).ix, .string (srO t).s, .string (srO t).v, .int .i64 (srC t)]) ∧ ShwO w.heap.size (srO t) v1 v2 (set8 y10b w.heap.size x0 x1 x2 x3 x4 x5 x6 x7) ∧ Below w.heap.size w (set8 y10b w.heap.size x0 x1 x2 x3 x4 x5 x6 x7)) := fun x0 x1 x2 x3 x4 x5 x6 x7 => HEr.out y10b 3 x0 x1 x2 x3 x4 x5 x6 x7 bt hC.out (by omega)
          obtain ⟨r0, r1, r2, r3, r4, r5, r6, r7⟩ := (K1.out.below bt).eight
          obtain ⟨f0, f1, f2, f3, f4, f5, f6, f7⟩ := (K1.out.below bt).free8
          clear HEr
          go_wp2_with fail
          refine bodyPost_ret (v := .agg #[.string ByteArray.empty, .int .i64 0, .slice none 0 0, .slice none 0 0, .int .i64 0, .string ByteArray.empty, .string ByteArray.empty, .int .i64 3]) (by simp [results, Tryz.results28, go_sem, r0, r1, r2, r3, r4, r5, r6, r7]; rfl) rfl ?_
          exact HE.out _ _ _ _ _ _ _ _
        | false =>
        cases hte : t.toList.isEmpty with
        | true =>
          have hC : Hid (srC t = 3) := HCd.out.trans (if_pos (Or.inr (Or.inl hte)))
          have HE : Hid (∀ x0 x1 x2 x3 x4 x5 x6 x7 : Value, ∃ v1 v2, Ending.returned (.agg #[.string ByteArray.empty, .int .i64 0, .slice none 0 0, .slice none 0 0, .int .i64 0, .string ByteArray.empty, .string ByteArray.empty, .int .i64 3]) = .returned (.agg #[.string (srO t).k, .int .i64 (srO t).at_, v1, v2, .int .i64 (srO t).ix, .string (srO t).s, .string (srO t).v, .int .i64 (srC t)]) ∧ ShwO w.heap.size (srO t) v1 v2 (set8 y10b w.heap.size x0 x1 x2 x3 x4 x5 x6 x7) ∧ Below w.heap.size w (set8 y10b w.heap.size x0 x1 x2 x3 x4 x5 x6 x7)) := fun x0 x1 x2 x3 x4 x5 x6 x7 => HEr.out y10b 3 x0 x1 x2 x3 x4 x5 x6 x7 bt hC.out (by omega)
          obtain ⟨r0, r1, r2, r3, r4, r5, r6, r7⟩ := (K1.out.below bt).eight
          obtain ⟨f0, f1, f2, f3, f4, f5, f6, f7⟩ := (K1.out.below bt).free8
          clear HEr
          go_wp2_with fail
          refine bodyPost_ret (v := .agg #[.string ByteArray.empty, .int .i64 0, .slice none 0 0, .slice none 0 0, .int .i64 0, .string ByteArray.empty, .string ByteArray.empty, .int .i64 3]) (by simp [results, Tryz.results28, go_sem, r0, r1, r2, r3, r4, r5, r6, r7]; rfl) rfl ?_
          exact HE.out _ _ _ _ _ _ _ _
        | false =>
        obtain ⟨x0, x1, x2, x3, x4, x5, x6⟩ : y10b.cell? ⟨Z, 0, none⟩ = some (.string K) ∧ y10b.cell? ⟨Z, 1, none⟩ = some (.int .i64 AT) ∧ y10b.cell? ⟨Z, 2, none⟩ = some (.slice p1 A.length m1) ∧ y10b.cell? ⟨Z, 3, none⟩ = some (.slice p2 B.length m2) ∧ y10b.cell? ⟨Z, 4, none⟩ = some (.int .i64 ix) ∧ y10b.cell? ⟨Z, 5, none⟩ = some (.string ss) ∧ y10b.cell? ⟨Z, 6, none⟩ = some (.string vv) := ⟨hT.out.two.box.cell 0, hT.out.two.box.cell 1, hT.out.two.box.cell 2, hT.out.two.box.cell 3, hT.out.two.box.cell 4, hT.out.two.box.cell 5, hT.out.two.box.cell 6⟩
        obtain ⟨q1', mm1, e1, h1a, h1b⟩ := ownS_form hT.out.two.own1
        obtain ⟨q2', mm2, e2, h2a, h2b⟩ := ownS_form hT.out.two.own2
        cases e1
        cases e2
        have CS := specShownBytes_any ⟨K, AT, A, B, ix, ss, vv⟩ p1 m1 p2 m2 y10b h1b h2b (by have := HlA.out; show A.length ≤ _; omega) (by have := HlA.out; show B.length ≤ _; omega) h1a h2a HLe.out
        dsimp only at CS
        clear h1b h2b
        generalize sbB ⟨K, AT, A, B, ix, ss, vv⟩ = X at *
        cases hxe : (X.toList == t.toList) with
        | false =>
          have hC : Hid (srC t = 3) := HCd.out.trans (if_pos (Or.inr (Or.inr hxe)))
          go_wp2_with fail
          refine CS.mono ?_
          rintro e y11 ⟨rfl, be⟩
          have bt2 : Below W1.heap.size W1 y11 := chainB bt be
          have HE : Hid (∀ x0 x1 x2 x3 x4 x5 x6 x7 : Value, ∃ v1 v2, Ending.returned (.agg #[.string ByteArray.empty, .int .i64 0, .slice none 0 0, .slice none 0 0, .int .i64 0, .string ByteArray.empty, .string ByteArray.empty, .int .i64 3]) = .returned (.agg #[.string (srO t).k, .int .i64 (srO t).at_, v1, v2, .int .i64 (srO t).ix, .string (srO t).s, .string (srO t).v, .int .i64 (srC t)]) ∧ ShwO w.heap.size (srO t) v1 v2 (set8 y11 w.heap.size x0 x1 x2 x3 x4 x5 x6 x7) ∧ Below w.heap.size w (set8 y11 w.heap.size x0 x1 x2 x3 x4 x5 x6 x7)) := fun x0 x1 x2 x3 x4 x5 x6 x7 => HEr.out y11 3 x0 x1 x2 x3 x4 x5 x6 x7 bt2 hC.out (by omega)
          obtain ⟨r0, r1, r2, r3, r4, r5, r6, r7⟩ := (K1.out.below bt2).eight
          obtain ⟨f0, f1, f2, f3, f4, f5, f6, f7⟩ := (K1.out.below bt2).free8
          clear HEr
          go_wp2_with fail
          refine bodyPost_ret (v := .agg #[.string ByteArray.empty, .int .i64 0, .slice none 0 0, .slice none 0 0, .int .i64 0, .string ByteArray.empty, .string ByteArray.empty, .int .i64 3]) (by simp [results, Tryz.results28, go_sem, r0, r1, r2, r3, r4, r5, r6, r7]; rfl) rfl ?_
          exact HE.out _ _ _ _ _ _ _ _
        | true =>
          have hC : Hid (srC t = 0) := HCd.out.trans (if_neg (by rintro (h | h | h); exact Bool.false_ne_true h; rw [hte] at h; exact Bool.false_ne_true h; rw [hxe] at h; exact absurd h (by decide)))
          have HO : Hid (srO t = ⟨K, AT, A, B, ix, ss, vv⟩) := (if_pos hC.out).trans HP.out
          go_wp2_with fail
          refine CS.mono ?_
          rintro e y11 ⟨rfl, be⟩
          have T2 := hT.out.below be
          have HD : Hid (∀ x0 x1 x2 x3 x4 x5 x6 x7 : Value, ShwO w.heap.size ⟨K, AT, A, B, ix, ss, vv⟩ (.slice p1 A.length m1) (.slice p2 B.length m2) (set8 y11 w.heap.size x0 x1 x2 x3 x4 x5 x6 x7) ∧ Below w.heap.size w (set8 y11 w.heap.size x0 x1 x2 x3 x4 x5 x6 x7)) := by
            intro x0 x1 x2 x3 x4 x5 x6 x7
            have hs1 := HS1.out
            exact ⟨⟨ownS_mono (own_set8 T2.two.own1 (by omega) _ _ _ _ _ _ _ _) (by omega), ownS_mono (own_set8 T2.two.own2 (by omega) _ _ _ _ _ _ _ _) (by omega), T2.two.ap⟩, below_set8 (chainB B1.out T2.two.bel) (Nat.le_refl _) _ _ _ _ _ _ _ _⟩
          obtain ⟨r0, r1, r2, r3, r4, r5, r6, r7⟩ := (K1.out.below T2.two.bel).eight
          obtain ⟨f0, f1, f2, f3, f4, f5, f6, f7⟩ := (K1.out.below T2.two.bel).free8
          clear x0 x1 x2 x3 x4 x5 x6 q2
          obtain ⟨x0, x1, x2, x3, x4, x5, x6⟩ : y11.cell? ⟨Z, 0, none⟩ = some (.string K) ∧ y11.cell? ⟨Z, 1, none⟩ = some (.int .i64 AT) ∧ y11.cell? ⟨Z, 2, none⟩ = some (.slice p1 A.length m1) ∧ y11.cell? ⟨Z, 3, none⟩ = some (.slice p2 B.length m2) ∧ y11.cell? ⟨Z, 4, none⟩ = some (.int .i64 ix) ∧ y11.cell? ⟨Z, 5, none⟩ = some (.string ss) ∧ y11.cell? ⟨Z, 6, none⟩ = some (.string vv) := ⟨T2.two.box.cell 0, T2.two.box.cell 1, T2.two.box.cell 2, T2.two.box.cell 3, T2.two.box.cell 4, T2.two.box.cell 5, T2.two.box.cell 6⟩
          clear T2 hT bt be HEr
          go_wp2_with fail
          refine bodyPost_ret (v := .agg #[.string K, .int .i64 AT, .slice p1 A.length m1, .slice p2 B.length m2, .int .i64 ix, .string ss, .string vv, .int .i64 0]) (by simp [results, Tryz.results28, go_sem, r0, r1, r2, r3, r4, r5, r6, r7]) rfl ?_
          rw [HO.out, hC.out]
          exact ⟨_, _, rfl, HD.out _ _ _ _ _ _ _ _⟩
      · have dk : decide (0 < (k : Int)) = true := decide_eq_true (by omega)
        have dkn : decide (0 < k) = true := decide_eq_true (by omega)
        obtain rfl : bd = true := by cases bd with | true => rfl | false => exact absurd ⟨by omega, rfl⟩ hgo
        clear hgo hk0 hk3 HLs
        go_wp2_with fail
        refine (CA.out wr hS.out.rd).mono ?_
        rintro e y6 ⟨rfl, kb, hg⟩
        have S' : RdS W1 P Z t a5 b5 #[.string K, .int .i64 AT, .slice p1 A.length m1, .slice p2 B.length m2, .int .i64 0, .string ByteArray.empty, .string ByteArray.empty] (.slice p1 A.length m1) (.slice p2 B.length m2) A B y6 := hS.out.call kb hg
        have zc : y6.cell? ⟨Z, 4, none⟩ = some (.int .i64 0) := S'.two.box.cell 4
        have gc := S'.two.box.fr 4
        have hSa : Hid (RdS W1 P Z t a5 b5 #[.string K, .int .i64 AT, .slice p1 A.length m1, .slice p2 B.length m2, .int .i64 ix, .string ByteArray.empty, .string ByteArray.empty] (.slice p1 A.length m1) (.slice p2 B.length m2) A B (y6.setCell ⟨Z, 4, none⟩ (.int .i64 ix))) := S'.put 4 (.int .i64 ix)
        clear S' kb hg hS
        go_upto_region 12 with fail
        generalize y6.setCell ⟨Z, 4, none⟩ (.int .i64 ix) = y6b at *
        clear zc gc
        go_wp2_with fail
        refine (CB.out y6b hSa.out.rd).mono ?_
        rintro e y8 ⟨rfl, kb, hg⟩
        have S' : RdS W1 P Z t a6 b6 #[.string K, .int .i64 AT, .slice p1 A.length m1, .slice p2 B.length m2, .int .i64 ix, .string ByteArray.empty, .string ByteArray.empty] (.slice p1 A.length m1) (.slice p2 B.length m2) A B y8 := hSa.out.call kb hg
        have zc : y8.cell? ⟨Z, 5, none⟩ = some (.string ByteArray.empty) := S'.two.box.cell 5
        have gc := S'.two.box.fr 5
        have hSb : Hid (RdS W1 P Z t a6 b6 #[.string K, .int .i64 AT, .slice p1 A.length m1, .slice p2 B.length m2, .int .i64 ix, .string ss, .string ByteArray.empty] (.slice p1 A.length m1) (.slice p2 B.length m2) A B (y8.setCell ⟨Z, 5, none⟩ (.string ss))) := S'.put 5 (.string ss)
        clear S' kb hg hSa
        go_upto_region 13 with fail
        generalize y8.setCell ⟨Z, 5, none⟩ (.string ss) = y8b at *
        clear zc gc
        go_wp2_with fail
        refine (CC.out y8b hSb.out.rd).mono ?_
        rintro e y10 ⟨rfl, kb, hg⟩
        have S' : RdS W1 P Z t a7 b7 #[.string K, .int .i64 AT, .slice p1 A.length m1, .slice p2 B.length m2, .int .i64 ix, .string ss, .string ByteArray.empty] (.slice p1 A.length m1) (.slice p2 B.length m2) A B y10 := hSb.out.call kb hg
        have zc : y10.cell? ⟨Z, 6, none⟩ = some (.string ByteArray.empty) := S'.two.box.cell 6
        have gc := S'.two.box.fr 6
        have hT : Hid (RdS W1 P Z t a7 b7 #[.string K, .int .i64 AT, .slice p1 A.length m1, .slice p2 B.length m2, .int .i64 ix, .string ss, .string vv] (.slice p1 A.length m1) (.slice p2 B.length m2) A B (y10.setCell ⟨Z, 6, none⟩ (.string vv))) := S'.put 6 (.string vv)
        clear S' kb hg hSb
        go_upto_region 14 with fail
        generalize y10.setCell ⟨Z, 6, none⟩ (.string vv) = y10b at *
        clear zc gc
        clear dk dkn pc2 CA CB CC
        have q2 : y10b.cell? ⟨P, 2, none⟩ = some (.bool b7) := hT.out.rd.cell 2
        have bt : Below W1.heap.size W1 y10b := hT.out.two.bel
        cases b7 with
        | true =>
          have hC : Hid (srC t = 3) := HCd.out.trans (if_pos (Or.inl rfl))
          have HE : Hid (∀ x0 x1 x2 x3 x4 x5 x6 x7 : Value, ∃ v1 v2, Ending.returned (.agg #[.string ByteArray.empty, .int .i64 0, .slice none 0 0, .slice none 0 0, .int .i64 0, .string ByteArray.empty, .string ByteArray.empty, .int .i64 3]) = .returned (.agg #[.string (srO t).k, .int .i64 (srO t).at_, v1, v2, .int .i64 (srO t).ix, .string (srO t).s, .string (srO t).v, .int .i64 (srC t)]) ∧ ShwO w.heap.size (srO t) v1 v2 (set8 y10b w.heap.size x0 x1 x2 x3 x4 x5 x6 x7) ∧ Below w.heap.size w (set8 y10b w.heap.size x0 x1 x2 x3 x4 x5 x6 x7)) := fun x0 x1 x2 x3 x4 x5 x6 x7 => HEr.out y10b 3 x0 x1 x2 x3 x4 x5 x6 x7 bt hC.out (by omega)
          obtain ⟨r0, r1, r2, r3, r4, r5, r6, r7⟩ := (K1.out.below bt).eight
          obtain ⟨f0, f1, f2, f3, f4, f5, f6, f7⟩ := (K1.out.below bt).free8
          clear HEr
          go_wp2_with fail
          refine bodyPost_ret (v := .agg #[.string ByteArray.empty, .int .i64 0, .slice none 0 0, .slice none 0 0, .int .i64 0, .string ByteArray.empty, .string ByteArray.empty, .int .i64 3]) (by simp [results, Tryz.results28, go_sem, r0, r1, r2, r3, r4, r5, r6, r7]; rfl) rfl ?_
          exact HE.out _ _ _ _ _ _ _ _
        | false =>
        cases hte : t.toList.isEmpty with
        | true =>
          have hC : Hid (srC t = 3) := HCd.out.trans (if_pos (Or.inr (Or.inl hte)))
          have HE : Hid (∀ x0 x1 x2 x3 x4 x5 x6 x7 : Value, ∃ v1 v2, Ending.returned (.agg #[.string ByteArray.empty, .int .i64 0, .slice none 0 0, .slice none 0 0, .int .i64 0, .string ByteArray.empty, .string ByteArray.empty, .int .i64 3]) = .returned (.agg #[.string (srO t).k, .int .i64 (srO t).at_, v1, v2, .int .i64 (srO t).ix, .string (srO t).s, .string (srO t).v, .int .i64 (srC t)]) ∧ ShwO w.heap.size (srO t) v1 v2 (set8 y10b w.heap.size x0 x1 x2 x3 x4 x5 x6 x7) ∧ Below w.heap.size w (set8 y10b w.heap.size x0 x1 x2 x3 x4 x5 x6 x7)) := fun x0 x1 x2 x3 x4 x5 x6 x7 => HEr.out y10b 3 x0 x1 x2 x3 x4 x5 x6 x7 bt hC.out (by omega)
          obtain ⟨r0, r1, r2, r3, r4, r5, r6, r7⟩ := (K1.out.below bt).eight
          obtain ⟨f0, f1, f2, f3, f4, f5, f6, f7⟩ := (K1.out.below bt).free8
          clear HEr
          go_wp2_with fail
          refine bodyPost_ret (v := .agg #[.string ByteArray.empty, .int .i64 0, .slice none 0 0, .slice none 0 0, .int .i64 0, .string ByteArray.empty, .string ByteArray.empty, .int .i64 3]) (by simp [results, Tryz.results28, go_sem, r0, r1, r2, r3, r4, r5, r6, r7]; rfl) rfl ?_
          exact HE.out _ _ _ _ _ _ _ _
        | false =>
        obtain ⟨x0, x1, x2, x3, x4, x5, x6⟩ : y10b.cell? ⟨Z, 0, none⟩ = some (.string K) ∧ y10b.cell? ⟨Z, 1, none⟩ = some (.int .i64 AT) ∧ y10b.cell? ⟨Z, 2, none⟩ = some (.slice p1 A.length m1) ∧ y10b.cell? ⟨Z, 3, none⟩ = some (.slice p2 B.length m2) ∧ y10b.cell? ⟨Z, 4, none⟩ = some (.int .i64 ix) ∧ y10b.cell? ⟨Z, 5, none⟩ = some (.string ss) ∧ y10b.cell? ⟨Z, 6, none⟩ = some (.string vv) := ⟨hT.out.two.box.cell 0, hT.out.two.box.cell 1, hT.out.two.box.cell 2, hT.out.two.box.cell 3, hT.out.two.box.cell 4, hT.out.two.box.cell 5, hT.out.two.box.cell 6⟩
        obtain ⟨q1', mm1, e1, h1a, h1b⟩ := ownS_form hT.out.two.own1
        obtain ⟨q2', mm2, e2, h2a, h2b⟩ := ownS_form hT.out.two.own2
        cases e1
        cases e2
        have CS := specShownBytes_any ⟨K, AT, A, B, ix, ss, vv⟩ p1 m1 p2 m2 y10b h1b h2b (by have := HlA.out; show A.length ≤ _; omega) (by have := HlA.out; show B.length ≤ _; omega) h1a h2a HLe.out
        dsimp only at CS
        clear h1b h2b
        generalize sbB ⟨K, AT, A, B, ix, ss, vv⟩ = X at *
        cases hxe : (X.toList == t.toList) with
        | false =>
          have hC : Hid (srC t = 3) := HCd.out.trans (if_pos (Or.inr (Or.inr hxe)))
          go_wp2_with fail
          refine CS.mono ?_
          rintro e y11 ⟨rfl, be⟩
          have bt2 : Below W1.heap.size W1 y11 := chainB bt be
          have HE : Hid (∀ x0 x1 x2 x3 x4 x5 x6 x7 : Value, ∃ v1 v2, Ending.returned (.agg #[.string ByteArray.empty, .int .i64 0, .slice none 0 0, .slice none 0 0, .int .i64 0, .string ByteArray.empty, .string ByteArray.empty, .int .i64 3]) = .returned (.agg #[.string (srO t).k, .int .i64 (srO t).at_, v1, v2, .int .i64 (srO t).ix, .string (srO t).s, .string (srO t).v, .int .i64 (srC t)]) ∧ ShwO w.heap.size (srO t) v1 v2 (set8 y11 w.heap.size x0 x1 x2 x3 x4 x5 x6 x7) ∧ Below w.heap.size w (set8 y11 w.heap.size x0 x1 x2 x3 x4 x5 x6 x7)) := fun x0 x1 x2 x3 x4 x5 x6 x7 => HEr.out y11 3 x0 x1 x2 x3 x4 x5 x6 x7 bt2 hC.out (by omega)
          obtain ⟨r0, r1, r2, r3, r4, r5, r6, r7⟩ := (K1.out.below bt2).eight
          obtain ⟨f0, f1, f2, f3, f4, f5, f6, f7⟩ := (K1.out.below bt2).free8
          clear HEr
          go_wp2_with fail
          refine bodyPost_ret (v := .agg #[.string ByteArray.empty, .int .i64 0, .slice none 0 0, .slice none 0 0, .int .i64 0, .string ByteArray.empty, .string ByteArray.empty, .int .i64 3]) (by simp [results, Tryz.results28, go_sem, r0, r1, r2, r3, r4, r5, r6, r7]; rfl) rfl ?_
          exact HE.out _ _ _ _ _ _ _ _
        | true =>
          have hC : Hid (srC t = 0) := HCd.out.trans (if_neg (by rintro (h | h | h); exact Bool.false_ne_true h; rw [hte] at h; exact Bool.false_ne_true h; rw [hxe] at h; exact absurd h (by decide)))
          have HO : Hid (srO t = ⟨K, AT, A, B, ix, ss, vv⟩) := (if_pos hC.out).trans HP.out
          go_wp2_with fail
          refine CS.mono ?_
          rintro e y11 ⟨rfl, be⟩
          have T2 := hT.out.below be
          have HD : Hid (∀ x0 x1 x2 x3 x4 x5 x6 x7 : Value, ShwO w.heap.size ⟨K, AT, A, B, ix, ss, vv⟩ (.slice p1 A.length m1) (.slice p2 B.length m2) (set8 y11 w.heap.size x0 x1 x2 x3 x4 x5 x6 x7) ∧ Below w.heap.size w (set8 y11 w.heap.size x0 x1 x2 x3 x4 x5 x6 x7)) := by
            intro x0 x1 x2 x3 x4 x5 x6 x7
            have hs1 := HS1.out
            exact ⟨⟨ownS_mono (own_set8 T2.two.own1 (by omega) _ _ _ _ _ _ _ _) (by omega), ownS_mono (own_set8 T2.two.own2 (by omega) _ _ _ _ _ _ _ _) (by omega), T2.two.ap⟩, below_set8 (chainB B1.out T2.two.bel) (Nat.le_refl _) _ _ _ _ _ _ _ _⟩
          obtain ⟨r0, r1, r2, r3, r4, r5, r6, r7⟩ := (K1.out.below T2.two.bel).eight
          obtain ⟨f0, f1, f2, f3, f4, f5, f6, f7⟩ := (K1.out.below T2.two.bel).free8
          clear x0 x1 x2 x3 x4 x5 x6 q2
          obtain ⟨x0, x1, x2, x3, x4, x5, x6⟩ : y11.cell? ⟨Z, 0, none⟩ = some (.string K) ∧ y11.cell? ⟨Z, 1, none⟩ = some (.int .i64 AT) ∧ y11.cell? ⟨Z, 2, none⟩ = some (.slice p1 A.length m1) ∧ y11.cell? ⟨Z, 3, none⟩ = some (.slice p2 B.length m2) ∧ y11.cell? ⟨Z, 4, none⟩ = some (.int .i64 ix) ∧ y11.cell? ⟨Z, 5, none⟩ = some (.string ss) ∧ y11.cell? ⟨Z, 6, none⟩ = some (.string vv) := ⟨T2.two.box.cell 0, T2.two.box.cell 1, T2.two.box.cell 2, T2.two.box.cell 3, T2.two.box.cell 4, T2.two.box.cell 5, T2.two.box.cell 6⟩
          clear T2 hT bt be HEr
          go_wp2_with fail
          refine bodyPost_ret (v := .agg #[.string K, .int .i64 AT, .slice p1 A.length m1, .slice p2 B.length m2, .int .i64 ix, .string ss, .string vv, .int .i64 0]) (by simp [results, Tryz.results28, go_sem, r0, r1, r2, r3, r4, r5, r6, r7]) rfl ?_
          rw [HO.out, hC.out]
          exact ⟨_, _, rfl, HD.out _ _ _ _ _ _ _ _⟩
end Go.Proofs.YtnomkcbcjaagmabGreatDoor
