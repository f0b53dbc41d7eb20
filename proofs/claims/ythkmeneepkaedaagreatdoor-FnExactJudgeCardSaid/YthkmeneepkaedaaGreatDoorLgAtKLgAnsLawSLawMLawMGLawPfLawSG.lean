/-
  Parts of one proof, laid as one text: LgAtK, LgAns, LawS, LawM, LawMG, LawPf, LawSG; what each says stands at its head.
-/
import Derived.Test.YthkmeneepkaedaaGreatDoorRows
import Derived.Test.YthkmeneepkaedaaGreatDoorBytesDigMath
import Derived.Test.YthkmeneepkaedaaGreatDoorTreeMathSlASlBBxKOwnS
import Derived.Test.YthkmeneepkaedaaGreatDoorTimeBPutMathPutNumJoinedPutTextFldMath
import Derived.Test.YthkmeneepkaedaaGreatDoorGetValGetTxtNumMathFldRdNumFromTmbMathLgMath
import Derived.Handy
import Derived.Deep.QuietTactic
import Derived.BigQuiet
import Derived.OwnWalk
import Derived.Laws.OwnMore
import Derived.Deep.AppendLies
import Derived.WalkSpells
/-
  What holds of a log that lies in memory: its rows and leaves as cells, within the reach.
-/
namespace Go.Proofs.YthkmeneepkaedaaGreatDoor
open Go.RowKit Go.Lib
set_option linter.unusedVariables false

/-- What holds of a log that lies in memory. -/
structure LgAt (p : Option Addr) (lv : List ByteArray) (cp : Nat) (q : Option Addr) (rs : List Rw) (cq : Nat) (w : World) : Prop where
  tx : TxtAt w p lv
  lc : lv.length ≤ cp
  ln : lv.length ≤ 1048576
  lz : TxtsLe lv
  rw : RwAt w q rs
  rc : rs.length ≤ cq
  rn : rs.length ≤ 1048576
  rz : RwsLe rs
theorem LgAt.below {p : Option Addr} {lv : List ByteArray} {cp : Nat} {q : Option Addr} {rs : List Rw} {cq : Nat} {w x : World} (h : LgAt p lv cp q rs cq w) (hb : Below w.heap.size w x) : LgAt p lv cp q rs cq x :=
  ⟨h.tx.below hb, h.lc, h.ln, h.lz, h.rw.below hb, h.rc, h.rn, h.rz⟩
end Go.Proofs.YthkmeneepkaedaaGreatDoor
/-
  What is told of a log, in plain mathematics: the place of a row's leaf, the code and the status of a field.
-/
namespace Go.Proofs.YthkmeneepkaedaaGreatDoor
open Go.RowKit Go.Lib
set_option linter.unusedVariables false

def plFrom (row : Int) : Nat → Nat → List ByteArray → Int
  | _, _, [] => -1
  | n, i, t :: ts => if isRl t = true then (if (n : Int) = row then (i : Int) else plFrom row (n + 1) (i + 1) ts) else plFrom row n (i + 1) ts
def plB (lv : List ByteArray) (row : Int) : Int := plFrom row 0 0 lv
def plO (rs : List Rw) (lv : List ByteArray) (now r : Int) : Int := if lgB rs lv now = true then plB lv r else -1
def tbO (rs : List Rw) (lv : List ByteArray) (now r f : Int) : Int := if lgB rs lv now = true then tbAt lv r f else -1
/-- The code of a field: it is there, it is gone, there is none. -/
def fcO (rs : List Rw) (r f : Int) : Int := if 0 ≤ r ∧ r ≤ (rs.length : Int) - 1 then (if 0 ≤ f ∧ f ≤ ((rs.getD r.toNat rwZ).fs.length : Int) - 1 then (if (fldOf rs r f).g = true then 7 else 0) else 6) else 6
def gcO (rs : List Rw) (lv : List ByteArray) (now r f : Int) : Int := if lgB rs lv now = true then fcO rs r f else 1
def stC (c : Int) : Int := if c = 0 then 1 else if c = 7 then 2 else 0
def stO (rs : List Rw) (lv : List ByteArray) (now r f : Int) : Int := if lgB rs lv now = true then stC (fcO rs r f) else 0
theorem stO_gc (rs : List Rw) (lv : List ByteArray) (now r f : Int) : stO rs lv now r f = stC (gcO rs lv now r f) := by
  unfold stO gcO
  split
  · rfl
  · rfl
theorem fcO_cases (rs : List Rw) (r f : Int) : fcO rs r f = 0 ∨ fcO rs r f = 7 ∨ fcO rs r f = 6 := by
  unfold fcO
  split
  · split
    · split
      · exact .inr (.inl rfl)
      · exact .inl rfl
    · exact .inr (.inr rfl)
  · exact .inr (.inr rfl)
theorem lg_right {rs : List Rw} {lv : List ByteArray} {now : Int} (h : lgB rs lv now = true) : rs.length ≤ 6 ∧ lv.length ≤ 64 ∧ (∀ r ∈ rs, rB r = true) := by
  unfold lgB at h
  simp only [Bool.and_eq_true, decide_eq_true_iff] at h
  refine ⟨h.1, h.2.1, fun r hr => ?_⟩
  have h2 := h.2.2.2.1
  unfold rsB at h2
  rw [List.all_eq_true] at h2
  exact (Bool.and_eq_true_iff.1 (h2 r hr)).1
end Go.Proofs.YthkmeneepkaedaaGreatDoor
/-
  What the laws' own helpers answer for slices of texts: szStringS (of few and small ones, a number that is not below 0, else -1), toStringS (a copy in new memory), eqStringS (are they alike).
  Conditions: the slices' cells hold those texts.
-/
namespace Go.Proofs.YthkmeneepkaedaaGreatDoor
open Go.RowKit Go.Lib
set_option linter.unusedVariables false

def cutS (ss : List ByteArray) (k : Nat) : List ByteArray := ss.take k ++ List.replicate (ss.length - k) ByteArray.empty
theorem cutS_len (ss : List ByteArray) (k : Nat) (h : k ≤ ss.length) : (cutS ss k).length = ss.length := by simp [cutS]; omega
theorem cutS_set (ss : List ByteArray) (k : Nat) (h : k < ss.length) : (cutS ss k).set k ss[k] = cutS ss (k + 1) := by
  unfold cutS
  rw [show ss.length - k = (ss.length - (k + 1)) + 1 by omega, List.replicate_succ]
  have hl : (ss.take k).length = k := by simp; omega
  rw [List.set_append_right _ _ (by omega), hl, Nat.sub_self, List.set_cons_zero, List.take_succ_eq_append_getElem h, List.append_assoc]; rfl

def SzEnd (r : Int) (ss : List ByteArray) : Prop := r = -1 ∨ (0 ≤ r ∧ ss.length ≤ 1048576 ∧ ∀ x ∈ ss, x.size ≤ 1048576)
set_option maxHeartbeats 400000 in
theorem sz_any (p : Option Addr) (cap : Nat) (ss : List ByteArray) (w : World) (hp : TxtAt w p ss) (hn : ss.length ≤ 9223372036854775807) (hcap : ss.length ≤ cap) (hs : ∀ x ∈ ss, x.size ≤ 9223372036854775807) :
    Calls Tryz.prog 24 #[.slice p ss.length cap, .int .i64 1048576] w fun e w' => (∃ r : Int, e = .returned (.int .i64 r) ∧ SzEnd r ss) ∧ w' = w := by
  have HP : Hid (TxtAt w p ss) := hp
  have HS : Hid (∀ x ∈ ss, x.size ≤ 9223372036854775807) := hs
  clear hp hs
  by_cases hl : ss.length ≤ 1048576
  · go_enter Tryz.func24, Tryz.ntmps24
    go_wp2
    go_loop [5, 1] (fun i x => ∃ (k : Nat) (l : Int), k ≤ ss.length ∧ i = .int .i64 k ∧ x = .int .i64 l ∧ 0 ≤ l ∧ l ≤ 1048576 ∧ Hid (∀ j (h : j < ss.length), j < k → ss[j].size ≤ 1048576)) (fun i _ => ss.length - (intOf i).toNat)
    case atStart => exact ⟨0, _, Nat.zero_le _, rfl, rfl, by omega, by omega, fun j h hk => by omega⟩
    case round =>
      obtain ⟨k, l, hk, rfl, rfl, hl0, hl1, HK⟩ := hrel
      by_cases hlt : k < ss.length
      · obtain ⟨b, off, rfl, hb, hck⟩ := HP.out k hlt
        have hsz := HS.out ss[k] (List.getElem_mem hlt)
        by_cases h32 : (ss[k].size : Int) ≤ l
        · have HK2 : Hid (∀ j (h : j < ss.length), j < k + 1 → ss[j].size ≤ 1048576) := fun j h hj => if he : j = k then by subst he; omega else HK.out j h (by omega)
          generalize ss[k] = q at *
          go_wp2
          go_round
          case rel => exact ⟨k + 1, l - q.size, by omega, by go_num, by go_num, by omega, by omega, HK2⟩
          case measure => simp [intOf]; omega
        · generalize ss[k] = q at *
          go_wp2
          go_ret
          exact ⟨⟨_, rfl, .inl rfl⟩, rfl⟩
      · have HF : Hid (∀ x ∈ ss, x.size ≤ 1048576) := fun x hx => by
          obtain ⟨j, hj, rfl⟩ := List.getElem_of_mem hx
          exact HK.out j hj (by omega)
        go_wp2
        go_ret
        exact ⟨⟨_, rfl, .inr ⟨hl0, hl, HF.out⟩⟩, rfl⟩
  · go_enter Tryz.func24, Tryz.ntmps24
    go_wp2
    go_ret
    exact ⟨⟨_, rfl, .inl rfl⟩, rfl⟩

set_option maxHeartbeats 400000 in
theorem to_any (p : Option Addr) (cap : Nat) (ss : List ByteArray) (w : World) (hp : TxtAt w p ss) (hn : ss.length ≤ 1048576) (hcap : ss.length ≤ cap) :
    Calls Tryz.prog 30 #[.slice p ss.length cap] w fun e w' => e = .returned (.slice (some ⟨w.heap.size, 0, none⟩) ss.length ss.length) ∧ BlkS w' w.heap.size ss ∧ Below w.heap.size w w' := by
  have HP : Hid (TxtAt w p ss) := hp
  clear hp
  have hmk := run_make_str ss.length hn
  have H0 : Hid (BlkS (w.alloc (.cells (strRow (List.replicate ss.length ByteArray.empty)).toArray 9)) w.heap.size (cutS ss 0)) := by
    have := alloc_str w (List.replicate ss.length ByteArray.empty)
    show BlkS _ _ _
    unfold cutS; simpa using this
  go_enter Tryz.func30, Tryz.ntmps30
  go_wp2
  go_loopw [4] (fun i wr => ∃ k : Nat, k ≤ ss.length ∧ i = .int .i64 k ∧ Hid (BlkS wr w.heap.size (cutS ss k)) ∧ Hid (Below w.heap.size w wr)) (fun i _ => ss.length - (intOf i).toNat)
  case atStart => exact ⟨0, Nat.zero_le _, rfl, H0, (Below.refl _ _).alloc (Nat.le_refl _) _⟩
  case round =>
    clear H0 hmk
    obtain ⟨k, hk, rfl, hrow, hnx⟩ := hrel
    have hsz := hrow.out.lt
    by_cases hlt : k < ss.length
    · obtain ⟨b, off, rfl, hb, hck⟩ := HP.out k hlt
      have hc1 : wr.cell? ⟨b, off + k, none⟩ = some (.string ss[k]) := (hnx.out.cell (p := ⟨b, off + k, none⟩) hb).trans hck
      obtain ⟨hc2, hf2⟩ := hrow.out.cell k (by rw [cutS_len _ _ (by omega)]; exact hlt)
      have HR : Hid (BlkS (wr.setCell ⟨w.heap.size, k, none⟩ (.string ss[k])) w.heap.size (cutS ss (k + 1))) := by
        show BlkS _ _ _
        rw [← cutS_set ss k hlt]; exact hrow.out.set k _
      have HB : Hid (Below w.heap.size w (wr.setCell ⟨w.heap.size, k, none⟩ (.string ss[k]))) := hnx.out.setCell (Nat.le_refl _) _
      clear hck
      generalize ss[k] = q at *
      generalize (cutS ss k)[k]'_ = q2 at *
      go_wp2
      go_roundw
      case rel => exact ⟨k + 1, by omega, by go_num, HR, HB⟩
      case measure => simp [intOf]; omega
    · have hkk : k = ss.length := by omega
      subst hkk
      have HR : Hid (BlkS wr w.heap.size ss) := by
        have := hrow.out; unfold cutS at this; show BlkS _ _ _; simpa using this
      go_wp2
      go_ret
      exact ⟨rfl, HR.out, hnx.out⟩

set_option maxHeartbeats 400000 in
theorem eq_any (p q : Option Addr) (cap cap2 : Nat) (ss ts : List ByteArray) (w : World) (hp : TxtAt w p ss) (hq : TxtAt w q ts) (hn : ss.length ≤ 140737488355328) (hn2 : ts.length ≤ 140737488355328) (hcap : ss.length ≤ cap) (hcap2 : ts.length ≤ cap2) :
    Calls Tryz.prog 34 #[.slice p ss.length cap, .slice q ts.length cap2] w fun e w' => e = .returned (.bool (decide (ss = ts))) ∧ Below w.heap.size w w' := by
  have HP : Hid (TxtAt w p ss) := hp
  have HQ : Hid (TxtAt w q ts) := hq
  clear hp hq
  by_cases hl : ss.length = ts.length
  · rw [← hl]
    have hl2 : Hid (ss.length = ts.length) := hl
    clear hl
    rw [← hl2.out] at hcap2
    go_enter Tryz.func34, Tryz.ntmps34
    go_wp2
    go_loopw [5] (fun i wr => ∃ k m : Nat, k ≤ ss.length ∧ i = .int .i64 k ∧ wr = w.drewN m ∧ Hid (∀ j (h : j < ss.length) (h2 : j < ts.length), j < k → ss[j] = ts[j])) (fun i _ => ss.length - (intOf i).toNat)
    case atStart => exact ⟨0, 0, Nat.zero_le _, rfl, rfl, fun j h h2 hk => by omega⟩
    case round =>
      obtain ⟨k, m, hk, rfl, rfl, HK⟩ := hrel
      by_cases hlt : k < ss.length
      · have hlt2 : k < ts.length := by have := hl2.out; omega
        obtain ⟨b, off, rfl, hb, hck⟩ := HP.out k hlt
        obtain ⟨b2, off2, rfl, hb2, hck2⟩ := HQ.out k hlt2
        have j5 : (k : Int) < ss.length := by omega
        by_cases he : ss[k] = ts[k]
        · have HK2 : Hid (∀ j (h : j < ss.length) (h2 : j < ts.length), j < k + 1 → ss[j] = ts[j]) := fun j h h2 hj => if hjk : j = k then by subst hjk; exact he else HK.out j h h2 (by omega)
          rw [← he] at hck2
          clear he
          generalize ss[k] = x at *
          go_wp2
          go_quiet (fail)
          go_wp2
          go_roundw
          case rel => exact ⟨k + 1, _, by omega, by go_num, rfl, HK2⟩
          case measure => simp [intOf]; omega
        · have HF : Hid (decide (ss = ts) = false) := decide_eq_false (fun h => he (by subst h; rfl))
          generalize ss[k] = x at *
          generalize ts[k] = y at *
          have hne : (x.toList == y.toList) = false := by
            rw [beq_eq_false_iff_ne]
            exact fun h => he (toList_inj h)
          clear he
          go_wp2
          go_quiet (fail)
          go_wp2
          go_ret
          exact ⟨ret_bool HF.out.symm, ⟨rfl, rfl, rfl, Nat.le_refl _, fun _ _ => rfl⟩⟩
      · have HF : Hid (decide (ss = ts) = true) := decide_eq_true (List.ext_getElem hl2.out fun j h h2 => HK.out j h h2 (by omega))
        go_wp2
        go_ret
        exact ⟨ret_bool HF.out.symm, ⟨rfl, rfl, rfl, Nat.le_refl _, fun _ _ => rfl⟩⟩
  · have HF : Hid (decide (ss = ts) = false) := decide_eq_false (fun h => hl (by rw [h]))
    have hl2 : ¬ (ss.length : Int) = ts.length := by omega
    go_enter Tryz.func34, Tryz.ntmps34
    go_wp2
    go_ret
    exact ⟨ret_bool HF.out.symm, Below.refl _ _⟩
end Go.Proofs.YthkmeneepkaedaaGreatDoor
/-
  What the laws' own helpers do that mark texts: markText (the mark of a number), markStringS (each text of a slice becomes its mark), heldStringS (are all still marked).
  Conditions: the slice owns its row, of at most 2^20 texts.
-/
namespace Go.Proofs.YthkmeneepkaedaaGreatDoor
open Go.RowKit Go.Lib
set_option linter.unusedVariables false
set_option maxRecDepth 20000

def digs (k : Nat) (acc : ByteArray) : ByteArray := if h : k = 0 then acc else digs (k / 10) (strOfNums [48 + (k : Int) % 10] ++ acc)
termination_by k
decreasing_by omega
theorem digs_zero (acc : ByteArray) : digs 0 acc = acc := by rw [digs]; simp
theorem digs_pos {k : Nat} (h : k ≠ 0) (acc : ByteArray) : digs k acc = digs (k / 10) (strOfNums [48 + (k : Int) % 10] ++ acc) := by rw [digs]; simp [h]
def mk109 : ByteArray := ⟨#[109]⟩
def markB (k : Nat) : ByteArray := mk109 ++ digs k ByteArray.empty
def marksTo (l : List ByteArray) (k : Nat) : List ByteArray := (List.range k).map (fun j => markB (j + 1)) ++ l.drop k
def marksL (n : Nat) : List ByteArray := (List.range n).map (fun j => markB (j + 1))
theorem marksTo_len (l : List ByteArray) (k : Nat) (h : k ≤ l.length) : (marksTo l k).length = l.length := by simp [marksTo]; omega
theorem marksTo_set (l : List ByteArray) (k : Nat) (h : k < l.length) : (marksTo l k).set k (markB (k + 1)) = marksTo l (k + 1) := by
  unfold marksTo
  have hl : ((List.range k).map (fun j => markB (j + 1))).length = k := by simp
  rw [List.set_append_right _ _ (by omega), hl, Nat.sub_self, List.drop_eq_getElem_cons h, List.set_cons_zero, List.range_succ, List.map_append, List.append_assoc]; rfl
theorem marksTo_all (l : List ByteArray) : marksTo l l.length = marksL l.length := by unfold marksTo marksL; simp

theorem conv_one (w : World) (x : Int) : (convert 159 9 (.slice (some ⟨w.heap.size, 0, none⟩) 1 1)).run Tryz.prog (w.alloc (.cells #[.int .u8 x] 5)) = .ok (.string (strOfNums [x])) (w.alloc (.cells #[.int .u8 x] 5)) :=
  run_convert_bytes_arg (P := Tryz.prog) _ 159 5 Tryz.underlying159 Tryz.underlying5 w.heap.size 0 1 1 [x] rfl (fun i hi => by
    have : i = 0 := by simpa using hi
    subst this
    rw [World.cell?_alloc_mark]; rfl) 9 Tryz.underlying9

set_option maxHeartbeats 1000000 in
theorem markText_any (k : Nat) (w : World) (h1 : 1 ≤ k) (h2 : k ≤ 16777217) :
    Calls Tryz.prog 83 #[.int .i64 (k : Int)] w fun e w' => e = .returned (.string (markB k)) ∧ Below w.heap.size w w' := by
  have HB : Hid (markB k = mk109 ++ digs k ByteArray.empty) := rfl
  generalize markB k = M at *
  go_enter Tryz.func83, Tryz.ntmps83
  go_wp2
  go_loopw [0, 3] (fun x v wr => ∃ (j : Nat) (acc : ByteArray), x = .int .i64 j ∧ v = .string acc ∧ acc.size + j ≤ k ∧ Hid (M = mk109 ++ digs j acc) ∧ Hid (Below w.heap.size w wr)) (fun x _ _ => (intOf x).toNat)
  case atStart => exact ⟨k, ByteArray.empty, rfl, rfl, by simp, HB, Below.refl _ _⟩
  case round =>
    clear HB
    obtain ⟨j, acc, rfl, rfl, hs, hM, hB⟩ := hrel
    by_cases hj : 0 < j
    · have hcv := conv_one wr (48 + (j : Int) % 10)
      have hz : (strOfNums [48 + (j : Int) % 10]).size = 1 := by rw [strOfNums_size]; rfl
      have HM2 : Hid (M = mk109 ++ digs (j / 10) (strOfNums [48 + (j : Int) % 10] ++ acc)) := by show _ = _; rw [hM.out, digs_pos (by omega)]
      have HB2 : Hid (Below w.heap.size w (wr.alloc (.cells #[.int .u8 (48 + (j : Int) % 10)] 5))) := hB.out.alloc hB.out.size _
      generalize strOfNums [48 + (j : Int) % 10] = D at *
      go_wp2
      go_roundw
      case rel => exact ⟨j / 10, D ++ acc, by go_num, rfl, by rw [ByteArray.size_append, hz]; omega, HM2, HB2⟩
      case measure => simp [intOf]; omega
    · obtain rfl : j = 0 := by omega
      have HM2 : Hid (M = mk109 ++ acc) := by show _ = _; rw [hM.out, digs_zero]
      go_wp2
      go_ret
      exact ⟨ret_str HM2.out.symm, hB.out⟩

set_option maxHeartbeats 1000000 in
theorem mark_any (base : Nat) (v : Value) (l : List ByteArray) (w : World) (h : w.ownsRow base 9 1 v l.length (strRow l)) (hl : l.length ≤ 1048576) :
    Calls Tryz.prog 47 #[v, .int .i64 1] w fun e w' => e = .returned (.int .i64 ((l.length : Int) + 1)) ∧ w'.ownsRow base 9 1 v l.length (strRow (marksL l.length)) ∧ w.grownBy w' v.ownBlock := by
  rcases h.2 with ⟨rfl, h0⟩ | ⟨g, cap, cur, rfl, hg1, hg2, hg3, hg4, hg5, hg6⟩
  · have hl0 : l = [] := List.length_eq_zero_iff.1 h0
    subst hl0
    clear h h0
    go_enter Tryz.func47, Tryz.ntmps47
    go_wp2
    go_loop [5, 1] (fun i x => i = .int .i64 0 ∧ x = .int .i64 1) (fun _ _ => 0)
    case atStart => exact ⟨rfl, rfl⟩
    case round =>
      obtain ⟨rfl, rfl⟩ := hrel
      go_wp2
      go_ret
      exact ⟨rfl, World.ownsRow_nil _ _ _ _, World.grownBy.refl _ _⟩
  · have HO : Hid (w.ownsRow base 9 1 (.slice (some ⟨g, 0, none⟩) l.length cap) l.length (strRow (marksTo l 0))) := by
      show World.ownsRow _ _ _ _ _ _ _
      rw [show marksTo l 0 = l by simp [marksTo]]; exact h
    have HL : Hid (∀ k, k ≤ l.length → (strRow (marksTo l k)).length = l.length) := fun k hk => by simp [strRow, marksTo_len l k hk]
    clear h hg2 hg5 hg6
    go_enter Tryz.func47, Tryz.ntmps47
    go_wp2
    go_loopw [5, 1] (fun i x wr => ∃ k : Nat, k ≤ l.length ∧ i = .int .i64 k ∧ x = .int .i64 ((k : Int) + 1) ∧ Hid (wr.ownsRow base 9 1 (.slice (some ⟨g, 0, none⟩) l.length cap) l.length (strRow (marksTo l k))) ∧ Hid (w.grownBy wr (some g))) (fun i _ _ => l.length - (intOf i).toNat)
    case atStart => exact ⟨0, Nat.zero_le _, rfl, rfl, HO, World.grownBy.refl _ _⟩
    case round =>
      clear HO
      obtain ⟨k, hk, rfl, rfl, hown, hgr⟩ := hrel
      by_cases hlt : k < l.length
      · have hm := markText_any (k + 1) wr (by omega) (by omega)
        have hset := marksTo_set l k hlt
        have HS : Hid (∀ w2, Below wr.heap.size wr w2 → w2.cell? ⟨g, k, none⟩ = some (.string ((marksTo l k)[k]'(by rw [marksTo_len l k hk]; exact hlt))) ∧ w2.frozen? ⟨g, k, none⟩ = false ∧ (w2.setCell ⟨g, k, none⟩ (.string (markB (k + 1)))).ownsRow base 9 1 (.slice (some ⟨g, 0, none⟩) l.length cap) l.length (strRow (marksTo l (k + 1))) ∧ w.grownBy (w2.setCell ⟨g, k, none⟩ (.string (markB (k + 1)))) (some g)) := by
          intro w2 hb
          have ho2 := ownS_below hown.out hb
          refine ⟨?_, ho2.frozenAt k, ?_, ?_⟩
          · rw [ho2.cellAt k (by omega)]; simp [strRow, marksTo_len l k hk, hlt]
          · have := (ho2.stored k (.string (markB (k + 1)))).1
            have e : (strRow (marksTo l k)).set k (.string (markB (k + 1))) = strRow (marksTo l (k + 1)) := by rw [← hset]; simp [strRow, List.map_set]
            rw [e] at this; exact this
          · have a := hgr.out
            refine ⟨hb.os.trans a.os, hb.tape.trans a.tape, hb.output.trans a.output, ?_, ?_⟩
            · simpa [World.setCell] using Nat.le_trans a.size hb.size
            · intro q hq hne
              have hqg : g ≠ q := fun e => hne (by rw [e])
              rw [show (w2.setCell ⟨g, k, none⟩ (.string (markB (k + 1)))).heap[q]? = w2.heap[q]? by simp [World.setCell, Array.getElem?_modify, hqg]]
              exact (hb.block q (Nat.lt_of_lt_of_le hq a.size)).trans (a.block q hq hne)
        rw [show ((k + 1 : Nat) : Int) = (k : Int) + 1 by omega] at hm
        generalize markB (k + 1) = M at *
        generalize (marksTo l k)[k]'_ = M0 at *
        clear hset
        go_wp2_with fail
        refine hm.mono ?_
        rintro e w2 ⟨rfl, b2⟩
        obtain ⟨c2, f2, o2, g2⟩ := HS.out w2 b2
        have HO2 : Hid ((w2.setCell ⟨g, k, none⟩ (.string M)).ownsRow base 9 1 (.slice (some ⟨g, 0, none⟩) l.length cap) l.length (strRow (marksTo l (k + 1)))) := o2
        have HG2 : Hid (w.grownBy (w2.setCell ⟨g, k, none⟩ (.string M)) (some g)) := g2
        clear o2 g2
        go_wp2_with fail
        go_roundw
        case rel => exact ⟨k + 1, by omega, by go_num, by go_num, HO2, HG2⟩
        case measure => simp [intOf]; omega
      · obtain rfl : k = l.length := by omega
        have HO2 : Hid (wr.ownsRow base 9 1 (.slice (some ⟨g, 0, none⟩) l.length cap) l.length (strRow (marksL l.length))) := by
          show World.ownsRow _ _ _ _ _ _ _
          rw [← marksTo_all]; exact hown.out
        go_wp2
        go_ret
        exact ⟨rfl, HO2.out, hgr.out⟩

set_option maxHeartbeats 1000000 in
theorem held_any (p : Option Addr) (cap n : Nat) (w : World) (hp : TxtAt w p (marksL n)) (hn : n ≤ 1048576) (hcap : n ≤ cap) :
    Calls Tryz.prog 85 #[.slice p n cap, .int .i64 1] w fun e w' => e = .returned (.int .i64 ((n : Int) + 1)) ∧ Below w.heap.size w w' := by
  have HP : Hid (TxtAt w p (marksL n)) := hp
  have HL : Hid ((marksL n).length = n) := by show _ = _; simp [marksL]
  clear hp
  go_enter Tryz.func85, Tryz.ntmps85
  go_wp2
  go_loopw [5, 1] (fun i x wr => ∃ k : Nat, k ≤ n ∧ i = .int .i64 k ∧ x = .int .i64 ((k : Int) + 1) ∧ Hid (Below w.heap.size w wr)) (fun i _ _ => n - (intOf i).toNat)
  case atStart => exact ⟨0, Nat.zero_le _, rfl, rfl, Below.refl _ _⟩
  case round =>
    obtain ⟨k, hk, rfl, rfl, hB⟩ := hrel
    by_cases hlt : k < n
    · obtain ⟨b, off, rfl, hb, hck⟩ := HP.out k (by rw [HL.out]; exact hlt)
      have hc1 : wr.cell? ⟨b, off + k, none⟩ = some (.string (markB (k + 1))) := by
        rw [hB.out.cell (p := ⟨b, off + k, none⟩) hb, hck]; simp [marksL]
      have hbw : b < wr.heap.size := Nat.lt_of_lt_of_le hb hB.out.size
      have HM : Hid (∀ w', Below wr.heap.size wr w' → Calls Tryz.prog 83 #[.int .i64 ((k : Int) + 1)] w' fun e w'' => e = .returned (.string (markB (k + 1))) ∧ Below w'.heap.size w' w'') := by
        intro w' _
        have := markText_any (k + 1) w' (by omega) (by omega)
        rwa [show ((k + 1 : Nat) : Int) = (k : Int) + 1 by omega] at this
      clear hck
      generalize markB (k + 1) = M at *
      have j5 : (k : Int) < n := by omega
      go_wp2_with fail
      go_region_with (go_at_call 83; refine (HM.out _ ((Below.refl _ _).drew)).mono ?_; rintro e w2 ⟨rfl, b2⟩; have b2 := chainB ((Below.refl _ _).drew) b2; have c2 := (b2.cell (p := ⟨b, off + k, none⟩) hbw).trans hc1)
      all_goals
        have HB2 : Hid (Below w.heap.size w w2) := chainB hB.out b2
        go_wp2_with fail
        go_roundw
        case rel => exact ⟨k + 1, by omega, by go_num, by go_num, HB2⟩
        case measure => simp [intOf]; omega
    · obtain rfl : k = n := by omega
      go_wp2
      go_ret
      exact ⟨rfl, hB.out⟩
end Go.Proofs.YthkmeneepkaedaaGreatDoor
/-
  markStringS and heldStringS from any number on: what the laws' own helpers answer.
-/
namespace Go.Proofs.YthkmeneepkaedaaGreatDoor
open Go.RowKit Go.Lib
set_option linter.unusedVariables false
set_option maxRecDepth 20000

def marksT (s : Nat) (l : List ByteArray) (k : Nat) : List ByteArray := (List.range k).map (fun j => markB (j + s)) ++ l.drop k
def marksN (s n : Nat) : List ByteArray := (List.range n).map (fun j => markB (j + s))
theorem marksT_len (s : Nat) (l : List ByteArray) (k : Nat) (h : k ≤ l.length) : (marksT s l k).length = l.length := by simp [marksT]; omega
theorem marksT_set (s : Nat) (l : List ByteArray) (k : Nat) (h : k < l.length) : (marksT s l k).set k (markB (k + s)) = marksT s l (k + 1) := by
  unfold marksT
  have hl : ((List.range k).map (fun j => markB (j + s))).length = k := by simp
  rw [List.set_append_right _ _ (by omega), hl, Nat.sub_self, List.drop_eq_getElem_cons h, List.set_cons_zero, List.range_succ, List.map_append, List.append_assoc]; rfl
theorem marksT_all (s : Nat) (l : List ByteArray) : marksT s l l.length = marksN s l.length := by unfold marksT marksN; simp

set_option maxHeartbeats 1000000 in
theorem markG_any (s : Nat) (hs1 : 1 ≤ s) (base : Nat) (v : Value) (l : List ByteArray) (w : World) (h : w.ownsRow base 9 1 v l.length (strRow l)) (hl : s + l.length ≤ 16777217) :
    Calls Tryz.prog 47 #[v, .int .i64 (s : Int)] w fun e w' => e = .returned (.int .i64 ((l.length : Int) + s)) ∧ w'.ownsRow base 9 1 v l.length (strRow (marksN s l.length)) ∧ w.grownBy w' v.ownBlock := by
  rcases h.2 with ⟨rfl, h0⟩ | ⟨g, cap, cur, rfl, hg1, hg2, hg3, hg4, hg5, hg6⟩
  · have hl0 : l = [] := List.length_eq_zero_iff.1 h0
    subst hl0
    clear h h0
    go_enter Tryz.func47, Tryz.ntmps47
    go_wp2
    go_loop [5, 1] (fun i x => i = .int .i64 0 ∧ x = .int .i64 (s : Int)) (fun _ _ => 0)
    case atStart => exact ⟨rfl, rfl⟩
    case round =>
      obtain ⟨rfl, rfl⟩ := hrel
      go_wp2
      go_ret
      exact ⟨rfl, World.ownsRow_nil _ _ _ _, World.grownBy.refl _ _⟩
  · have HO : Hid (w.ownsRow base 9 1 (.slice (some ⟨g, 0, none⟩) l.length cap) l.length (strRow (marksT s l 0))) := by
      show World.ownsRow _ _ _ _ _ _ _
      rw [show marksT s l 0 = l by simp [marksT]]; exact h
    have HL : Hid (∀ k, k ≤ l.length → (strRow (marksT s l k)).length = l.length) := fun k hk => by simp [strRow, marksT_len s l k hk]
    clear h hg2 hg5 hg6
    go_enter Tryz.func47, Tryz.ntmps47
    go_wp2
    go_loopw [5, 1] (fun i x wr => ∃ k : Nat, k ≤ l.length ∧ i = .int .i64 k ∧ x = .int .i64 ((k : Int) + s) ∧ Hid (wr.ownsRow base 9 1 (.slice (some ⟨g, 0, none⟩) l.length cap) l.length (strRow (marksT s l k))) ∧ Hid (w.grownBy wr (some g))) (fun i _ _ => l.length - (intOf i).toNat)
    case atStart => exact ⟨0, Nat.zero_le _, rfl, by simp, HO, World.grownBy.refl _ _⟩
    case round =>
      clear HO
      obtain ⟨k, hk, rfl, rfl, hown, hgr⟩ := hrel
      by_cases hlt : k < l.length
      · have hm := markText_any (k + s) wr (by omega) (by omega)
        have hset := marksT_set s l k hlt
        have HS : Hid (∀ w2, Below wr.heap.size wr w2 → w2.cell? ⟨g, k, none⟩ = some (.string ((marksT s l k)[k]'(by rw [marksT_len s l k hk]; exact hlt))) ∧ w2.frozen? ⟨g, k, none⟩ = false ∧ (w2.setCell ⟨g, k, none⟩ (.string (markB (k + s)))).ownsRow base 9 1 (.slice (some ⟨g, 0, none⟩) l.length cap) l.length (strRow (marksT s l (k + 1))) ∧ w.grownBy (w2.setCell ⟨g, k, none⟩ (.string (markB (k + s)))) (some g)) := by
          intro w2 hb
          have ho2 := ownS_below hown.out hb
          refine ⟨?_, ho2.frozenAt k, ?_, ?_⟩
          · rw [ho2.cellAt k (by omega)]; simp [strRow, marksT_len s l k hk, hlt]
          · have := (ho2.stored k (.string (markB (k + s)))).1
            have e : (strRow (marksT s l k)).set k (.string (markB (k + s))) = strRow (marksT s l (k + 1)) := by rw [← hset]; simp [strRow, List.map_set]
            rw [e] at this; exact this
          · have a := hgr.out
            refine ⟨hb.os.trans a.os, hb.tape.trans a.tape, hb.output.trans a.output, ?_, ?_⟩
            · simpa [World.setCell] using Nat.le_trans a.size hb.size
            · intro q hq hne
              have hqg : g ≠ q := fun e => hne (by rw [e])
              rw [show (w2.setCell ⟨g, k, none⟩ (.string (markB (k + s)))).heap[q]? = w2.heap[q]? by simp [World.setCell, Array.getElem?_modify, hqg]]
              exact (hb.block q (Nat.lt_of_lt_of_le hq a.size)).trans (a.block q hq hne)
        rw [show ((k + s : Nat) : Int) = (k : Int) + s by omega] at hm
        generalize markB (k + s) = M at *
        generalize (marksT s l k)[k]'_ = M0 at *
        clear hset
        go_wp2_with fail
        refine hm.mono ?_
        rintro e w2 ⟨rfl, b2⟩
        obtain ⟨c2, f2, o2, g2⟩ := HS.out w2 b2
        have HO2 : Hid ((w2.setCell ⟨g, k, none⟩ (.string M)).ownsRow base 9 1 (.slice (some ⟨g, 0, none⟩) l.length cap) l.length (strRow (marksT s l (k + 1)))) := o2
        have HG2 : Hid (w.grownBy (w2.setCell ⟨g, k, none⟩ (.string M)) (some g)) := g2
        clear o2 g2
        go_wp2_with fail
        go_roundw
        case rel => exact ⟨k + 1, by omega, by go_num, by go_num, HO2, HG2⟩
        case measure => simp [intOf]; omega
      · obtain rfl : k = l.length := by omega
        have HO2 : Hid (wr.ownsRow base 9 1 (.slice (some ⟨g, 0, none⟩) l.length cap) l.length (strRow (marksN s l.length))) := by
          show World.ownsRow _ _ _ _ _ _ _
          rw [← marksT_all]; exact hown.out
        go_wp2
        go_ret
        exact ⟨rfl, HO2.out, hgr.out⟩

set_option maxHeartbeats 1000000 in
theorem heldG_any (s : Nat) (hs1 : 1 ≤ s) (p : Option Addr) (cap n : Nat) (w : World) (hp : TxtAt w p (marksN s n)) (hn : s + n ≤ 16777217) (hcap : n ≤ cap) :
    Calls Tryz.prog 85 #[.slice p n cap, .int .i64 (s : Int)] w fun e w' => e = .returned (.int .i64 ((n : Int) + s)) ∧ Below w.heap.size w w' := by
  have HP : Hid (TxtAt w p (marksN s n)) := hp
  have HL : Hid ((marksN s n).length = n) := by show _ = _; simp [marksN]
  clear hp
  go_enter Tryz.func85, Tryz.ntmps85
  go_wp2
  go_loopw [5, 1] (fun i x wr => ∃ k : Nat, k ≤ n ∧ i = .int .i64 k ∧ x = .int .i64 ((k : Int) + s) ∧ Hid (Below w.heap.size w wr)) (fun i _ _ => n - (intOf i).toNat)
  case atStart => exact ⟨0, Nat.zero_le _, rfl, by simp, Below.refl _ _⟩
  case round =>
    obtain ⟨k, hk, rfl, rfl, hB⟩ := hrel
    by_cases hlt : k < n
    · obtain ⟨b, off, rfl, hb, hck⟩ := HP.out k (by rw [HL.out]; exact hlt)
      have hc1 : wr.cell? ⟨b, off + k, none⟩ = some (.string (markB (k + s))) := by
        rw [hB.out.cell (p := ⟨b, off + k, none⟩) hb, hck]; simp [marksN]
      have hbw : b < wr.heap.size := Nat.lt_of_lt_of_le hb hB.out.size
      have HM : Hid (∀ w', Below wr.heap.size wr w' → Calls Tryz.prog 83 #[.int .i64 ((k : Int) + s)] w' fun e w'' => e = .returned (.string (markB (k + s))) ∧ Below w'.heap.size w' w'') := by
        intro w' _
        have := markText_any (k + s) w' (by omega) (by omega)
        rwa [show ((k + s : Nat) : Int) = (k : Int) + s by omega] at this
      clear hck
      generalize markB (k + s) = M at *
      have j5 : (k : Int) < n := by omega
      go_wp2_with fail
      go_region_with (go_at_call 83; refine (HM.out _ ((Below.refl _ _).drew)).mono ?_; rintro e w2 ⟨rfl, b2⟩; have b2 := chainB ((Below.refl _ _).drew) b2; have c2 := (b2.cell (p := ⟨b, off + k, none⟩) hbw).trans hc1)
      all_goals
        have HB2 : Hid (Below w.heap.size w w2) := chainB hB.out b2
        go_wp2_with fail
        go_roundw
        case rel => exact ⟨k + 1, by omega, by go_num, by go_num, HB2⟩
        case measure => simp [intOf]; omega
    · obtain rfl : k = n := by omega
      go_wp2
      go_ret
      exact ⟨rfl, hB.out⟩
end Go.Proofs.YthkmeneepkaedaaGreatDoor
/-
  What the laws' own helpers markProof and heldProof do.
-/
namespace Go.Proofs.YthkmeneepkaedaaGreatDoor
open Go.RowKit Go.Lib
set_option linter.unusedVariables false
set_option maxRecDepth 20000

set_option maxHeartbeats 1000000 in
theorem markProof_any (lf : ByteArray) (ix sz : Int) (base : Nat) (pg : Option Addr) (cg : Nat) (P : List ByteArray) (w : World) (o : w.ownsRow base 9 1 (.slice pg P.length cg) P.length (strRow P)) (hl : P.length ≤ 1048576) :
    Calls Tryz.prog 48 #[.agg #[.string lf, .int .i64 ix, .int .i64 sz, .slice pg P.length cg], .int .i64 1] w fun e w' => e = .returned (.int .i64 ((P.length : Int) + 1)) ∧ w'.ownsRow base 9 1 (.slice pg P.length cg) P.length (strRow (marksL P.length)) ∧ w.grownBy w' (Value.slice pg P.length cg).ownBlock := by
  obtain ⟨W1, hW1⟩ : ∃ W1, W1 = w.alloc (.cells #[.string lf, .int .i64 ix, .int .i64 sz, .slice pg P.length cg] 35) := ⟨_, rfl⟩
  have HW1 : Hid (W1 = w.alloc (.cells #[.string lf, .int .i64 ix, .int .i64 sz, .slice pg P.length cg] 35)) := hW1
  have B1 : Below w.heap.size w W1 := by rw [hW1]; exact (Below.refl _ _).alloc (Nat.le_refl _) _
  have HB1 : Hid (Below w.heap.size w W1) := B1
  have K1 : Hid (Bxs W1 w.heap.size 35 #[.string lf, .int .i64 ix, .int .i64 sz, .slice pg P.length cg]) := by rw [hW1]; exact Bxs.new _ _ _
  have hM := mark_any base _ P W1 (ownS_below o B1) hl
  have x3 := K1.out.cell 3
  rw [HW1.out] at x3
  clear hW1 B1 o
  go_enter Tryz.func48, Tryz.ntmps48
  go_wp2_with fail
  rw [← HW1.out]
  refine hM.mono ?_
  rintro e y ⟨rfl, o2, hg⟩
  have HG : Hid (w.grownBy y (Value.slice pg P.length cg).ownBlock) := ⟨hg.os.trans HB1.out.os, hg.tape.trans HB1.out.tape, hg.output.trans HB1.out.output, Nat.le_trans HB1.out.size hg.size, fun k hk hn => (hg.block k (Nat.lt_of_lt_of_le hk HB1.out.size) hn).trans (HB1.out.block k hk)⟩
  have HO : Hid (y.ownsRow base 9 1 (.slice pg P.length cg) P.length (strRow (marksL P.length))) := o2
  clear hM hg o2 x3
  go_wp2_with fail
  go_ret
  exact ⟨rfl, HO.out, HG.out⟩
set_option maxHeartbeats 1000000 in
theorem heldProof_any (lf : ByteArray) (ix sz : Int) (pg : Option Addr) (cg n : Nat) (w : World) (hp : TxtAt w pg (marksL n)) (hn : n ≤ 1048576) (hc : n ≤ cg) :
    Calls Tryz.prog 50 #[.agg #[.string lf, .int .i64 ix, .int .i64 sz, .slice pg n cg], .int .i64 1] w fun e w' => e = .returned (.int .i64 ((n : Int) + 1)) ∧ Below w.heap.size w w' := by
  obtain ⟨W1, hW1⟩ : ∃ W1, W1 = w.alloc (.cells #[.string lf, .int .i64 ix, .int .i64 sz, .slice pg n cg] 35) := ⟨_, rfl⟩
  have HW1 : Hid (W1 = w.alloc (.cells #[.string lf, .int .i64 ix, .int .i64 sz, .slice pg n cg] 35)) := hW1
  have B1 : Hid (Below w.heap.size w W1) := by rw [hW1]; exact (Below.refl _ _).alloc (Nat.le_refl _) _
  have K1 : Hid (Bxs W1 w.heap.size 35 #[.string lf, .int .i64 ix, .int .i64 sz, .slice pg n cg]) := by rw [hW1]; exact Bxs.new _ _ _
  have hM := held_any pg cg n W1 (hp.below B1.out) hn hc
  have d0 : decide ((n : Int) + 1 < 0) = false := decide_eq_false (by omega)
  have x3 := K1.out.cell 3
  rw [HW1.out] at x3
  clear hW1 hp
  go_enter Tryz.func50, Tryz.ntmps50
  go_wp2_with fail
  rw [← HW1.out]
  refine hM.mono ?_
  rintro e y ⟨rfl, b⟩
  clear hM x3
  go_wp2_with fail
  go_ret
  exact ⟨rfl, chainB B1.out b⟩
end Go.Proofs.YthkmeneepkaedaaGreatDoor
/-
  szStringS from any number on.
-/
namespace Go.Proofs.YthkmeneepkaedaaGreatDoor
open Go.RowKit Go.Lib
set_option linter.unusedVariables false

def SzTo (r l0 : Int) (ss : List ByteArray) : Prop := r = -1 ∨ (0 ≤ r ∧ r ≤ l0 ∧ ss.length ≤ 1048576 ∧ ∀ x ∈ ss, x.size ≤ 1048576)
set_option maxHeartbeats 400000 in
theorem szG_any (l0 : Int) (l00 : 0 ≤ l0) (l01 : l0 ≤ 1048576) (p : Option Addr) (cap : Nat) (ss : List ByteArray) (w : World) (hp : TxtAt w p ss) (hn : ss.length ≤ 9223372036854775807) (hcap : ss.length ≤ cap) (hs : ∀ x ∈ ss, x.size ≤ 9223372036854775807) :
    Calls Tryz.prog 24 #[.slice p ss.length cap, .int .i64 l0] w fun e w' => (∃ r : Int, e = .returned (.int .i64 r) ∧ SzTo r l0 ss) ∧ w' = w := by
  have HP : Hid (TxtAt w p ss) := hp
  have HS : Hid (∀ x ∈ ss, x.size ≤ 9223372036854775807) := hs
  clear hp hs
  by_cases hl : (ss.length : Int) ≤ l0
  · go_enter Tryz.func24, Tryz.ntmps24
    go_wp2
    go_loop [5, 1] (fun i x => ∃ (k : Nat) (l : Int), k ≤ ss.length ∧ i = .int .i64 k ∧ x = .int .i64 l ∧ 0 ≤ l ∧ l ≤ l0 ∧ Hid (∀ j (h : j < ss.length), j < k → ss[j].size ≤ 1048576)) (fun i _ => ss.length - (intOf i).toNat)
    case atStart => exact ⟨0, _, Nat.zero_le _, rfl, rfl, by omega, by omega, fun j h hk => by omega⟩
    case round =>
      obtain ⟨k, l, hk, rfl, rfl, hl0, hl1, HK⟩ := hrel
      by_cases hlt : k < ss.length
      · obtain ⟨b, off, rfl, hb, hck⟩ := HP.out k hlt
        have hsz := HS.out ss[k] (List.getElem_mem hlt)
        by_cases h32 : (ss[k].size : Int) ≤ l
        · have HK2 : Hid (∀ j (h : j < ss.length), j < k + 1 → ss[j].size ≤ 1048576) := fun j h hj => if he : j = k then by subst he; omega else HK.out j h (by omega)
          generalize ss[k] = q at *
          go_wp2
          go_round
          case rel => exact ⟨k + 1, l - q.size, by omega, by go_num, by go_num, by omega, by omega, HK2⟩
          case measure => simp [intOf]; omega
        · generalize ss[k] = q at *
          go_wp2
          go_ret
          exact ⟨⟨_, rfl, .inl rfl⟩, rfl⟩
      · have HF : Hid (∀ x ∈ ss, x.size ≤ 1048576) := fun x hx => by
          obtain ⟨j, hj, rfl⟩ := List.getElem_of_mem hx
          exact HK.out j hj (by omega)
        go_wp2
        go_ret
        exact ⟨⟨_, rfl, .inr ⟨hl0, by omega, by omega, HF.out⟩⟩, rfl⟩
  · go_enter Tryz.func24, Tryz.ntmps24
    go_wp2
    go_ret
    exact ⟨⟨_, rfl, .inl rfl⟩, rfl⟩

end Go.Proofs.YthkmeneepkaedaaGreatDoor
