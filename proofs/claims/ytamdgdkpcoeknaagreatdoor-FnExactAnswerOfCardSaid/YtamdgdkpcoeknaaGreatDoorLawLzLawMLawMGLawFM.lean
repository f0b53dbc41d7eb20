/-
  Parts of one proof, laid as one text: LawLz, LawM, LawMG, LawFM; what each says stands at its head.
-/
import Derived.Test.YtamdgdkpcoeknaaGreatDoorRows
import Derived.Test.YtamdgdkpcoeknaaGreatDoorBytesDigMath
import Derived.Test.YtamdgdkpcoeknaaGreatDoorTreeMathSlASlBBxKOwnS
import Derived.Test.YtamdgdkpcoeknaaGreatDoorTimeBPutMathPutNumJoinedPutTextFldMath
import Derived.Test.YtamdgdkpcoeknaaGreatDoorLgMathLgAtKOneKFldBlkRwBlkTakes
import Derived.Test.YtamdgdkpcoeknaaGreatDoorLawFLawFRLawSLawSG
import Derived.Test.YtamdgdkpcoeknaaGreatDoorLawLgLawLh
import Derived.Handy
import Derived.WalkSpells
import Derived.OwnWalk
import Derived.Laws.OwnMore
import Derived.Deep.AppendLies
import Derived.Test.YtamdgdkpcoeknaaGreatDoorFldGShwKFldHPathMathFldRiseScanMath
import Derived.Deep.RegionLaw
import Derived.Deep.RegionWith
/-
  What the laws' own helpers szFieldS, szRow, szRowS, szStringS and szLog answer, the sum kept: of what is few and small a number that is not below 0 and that leaves room for the count of all rows, fields and leaves; else -1.
-/
namespace Go.Proofs.YtamdgdkpcoeknaaGreatDoor
open Go.RowKit Go.Lib
set_option linter.unusedVariables false
set_option maxRecDepth 20000

/-- How many fields the rows have, all together. -/
def fsN (rs : List Rw) : Nat := (rs.map (fun r => r.fs.length)).sum
theorem fsN_take (rs : List Rw) (k : Nat) (h : k < rs.length) : fsN (rs.take (k + 1)) = fsN (rs.take k) + rs[k].fs.length := by
  unfold fsN
  rw [List.take_succ_eq_append_getElem h, List.map_append, List.sum_append]; simp
theorem fsN_all (rs : List Rw) : fsN (rs.take rs.length) = fsN rs := by rw [List.take_length]
theorem fsN_mem {rs : List Rw} {x : Rw} (h : x ∈ rs) : x.fs.length ≤ fsN rs := by
  unfold fsN
  induction rs with
  | nil => cases h
  | cons y l ih =>
    rw [List.map_cons, List.sum_cons]
    rcases List.mem_cons.1 h with rfl | h
    · omega
    · have := ih h; omega
set_option maxHeartbeats 1000000 in
theorem szFz_any (l0 : Int) (l00 : 0 ≤ l0) (l01 : l0 ≤ 1048576) (p : Option Addr) (cap : Nat) (fs : List Fld) (w : World) (hp : FldAt w p fs) (hn : fs.length ≤ 9223372036854775807) (hcap : fs.length ≤ cap) (hs : FldsBig fs) :
    Calls Tryz.prog 87 #[.slice p fs.length cap, .int .i64 l0] w fun e w' => (∃ r : Int, e = .returned (.int .i64 r) ∧ (r = -1 ∨ (0 ≤ r ∧ r + fs.length ≤ l0))) ∧ Below w.heap.size w w' := by
  have HP : Hid (FldAt w p fs) := hp
  have HS : Hid (FldsBig fs) := hs
  clear hp hs
  by_cases hl : (fs.length : Int) ≤ l0
  · go_enter Tryz.func87, Tryz.ntmps87
    go_wp2_with fail
    go_loopw [5, 1] (fun i x wr => ∃ (k : Nat) (l : Int), k ≤ fs.length ∧ i = .int .i64 k ∧ x = .int .i64 l ∧ 0 ≤ l ∧ l + fs.length ≤ l0 ∧ Hid (Below w.heap.size w wr)) (fun i _ _ => fs.length - (intOf i).toNat)
    case atStart => exact ⟨0, _, Nat.zero_le _, rfl, rfl, by omega, by omega, Below.refl _ _⟩
    case round =>
      obtain ⟨k, l, hk, rfl, rfl, hl0, hl1, HB⟩ := hrel
      by_cases hlt : k < fs.length
      · obtain ⟨b, off, rfl, hb, hc1, hc2, hc3, hc4, hc5⟩ := (HP.out.below HB.out) k hlt
        have hsz := HS.out fs[k] (List.getElem_mem hlt)
        have j5 : (k : Int) < fs.length := by omega
        generalize fs[k] = f at *
        obtain ⟨n, c, s, v, g⟩ := f
        have hc1 : wr.cell? ⟨b, off + k * 5, none⟩ = some (.string n) := hc1
        have hc2 : wr.cell? ⟨b, off + k * 5 + 1, none⟩ = some (.string c) := hc2
        have hc3 : wr.cell? ⟨b, off + k * 5 + 2, none⟩ = some (.string s) := hc3
        have hc4 : wr.cell? ⟨b, off + k * 5 + 3, none⟩ = some (.string v) := hc4
        have hc5 : wr.cell? ⟨b, off + k * 5 + 4, none⟩ = some (.bool g) := hc5
        have hS := szFld_any ⟨n, c, s, v, g⟩ l wr hl0 (by omega) hsz.1 hsz.2.1 hsz.2.2.1 hsz.2.2.2
        clear hsz
        go_wp2_with fail
        refine hS.mono ?_
        rintro e w1 ⟨⟨r, rfl, hr⟩, b1⟩
        have HB1 : Hid (Below w.heap.size w w1) := chainB HB.out b1
        clear b1 HB hS hc1 hc2 hc3 hc4 hc5
        rcases hr with rfl | ⟨r0, r1⟩
        · go_wp2_with fail
          go_ret
          exact ⟨⟨_, rfl, .inl rfl⟩, HB1.out⟩
        · have dl : decide (r < 0) = false := decide_eq_false (by omega)
          go_wp2_with fail
          go_roundw
          case rel => exact ⟨k + 1, r, by omega, by go_num, rfl, by omega, by omega, HB1⟩
          case measure => simp [intOf]; omega
      · go_wp2_with fail
        go_ret
        exact ⟨⟨_, rfl, .inr ⟨hl0, by omega⟩⟩, HB.out⟩
  · go_enter Tryz.func87, Tryz.ntmps87
    go_wp2_with fail
    go_ret
    exact ⟨⟨_, rfl, .inl rfl⟩, Below.refl _ _⟩
set_option maxHeartbeats 400000 in
theorem szGz_any (l0 : Int) (l00 : 0 ≤ l0) (l01 : l0 ≤ 1048576) (p : Option Addr) (cap : Nat) (ss : List ByteArray) (w : World) (hp : TxtAt w p ss) (hn : ss.length ≤ 9223372036854775807) (hcap : ss.length ≤ cap) (hs : ∀ x ∈ ss, x.size ≤ 9223372036854775807) :
    Calls Tryz.prog 21 #[.slice p ss.length cap, .int .i64 l0] w fun e w' => (∃ r : Int, e = .returned (.int .i64 r) ∧ (r = -1 ∨ (0 ≤ r ∧ r + ss.length ≤ l0))) ∧ w' = w := by
  have HP : Hid (TxtAt w p ss) := hp
  have HS : Hid (∀ x ∈ ss, x.size ≤ 9223372036854775807) := hs
  clear hp hs
  by_cases hl : (ss.length : Int) ≤ l0
  · go_enter Tryz.func21, Tryz.ntmps21
    go_wp2
    go_loop [5, 1] (fun i x => ∃ (k : Nat) (l : Int), k ≤ ss.length ∧ i = .int .i64 k ∧ x = .int .i64 l ∧ 0 ≤ l ∧ l + ss.length ≤ l0) (fun i _ => ss.length - (intOf i).toNat)
    case atStart => exact ⟨0, _, Nat.zero_le _, rfl, rfl, by omega, by omega⟩
    case round =>
      obtain ⟨k, l, hk, rfl, rfl, hl0, hl1⟩ := hrel
      by_cases hlt : k < ss.length
      · obtain ⟨b, off, rfl, hb, hck⟩ := HP.out k hlt
        have hsz := HS.out ss[k] (List.getElem_mem hlt)
        by_cases h32 : (ss[k].size : Int) ≤ l
        · generalize ss[k] = q at *
          go_wp2
          go_round
          case rel => exact ⟨k + 1, l - q.size, by omega, by go_num, by go_num, by omega, by omega⟩
          case measure => simp [intOf]; omega
        · generalize ss[k] = q at *
          go_wp2
          go_ret
          exact ⟨⟨_, rfl, .inl rfl⟩, rfl⟩
      · go_wp2
        go_ret
        exact ⟨⟨_, rfl, .inr ⟨hl0, by omega⟩⟩, rfl⟩
  · go_enter Tryz.func21, Tryz.ntmps21
    go_wp2
    go_ret
    exact ⟨⟨_, rfl, .inl rfl⟩, rfl⟩
set_option maxHeartbeats 1000000 in
theorem szRowZ_any (l0 : Int) (l00 : 0 ≤ l0) (l01 : l0 ≤ 1048576) (kd : ByteArray) (at_ : Int) (p : Option Addr) (c : Nat) (fs : List Fld) (w : World) (h1 : FldAt w p fs) (n1 : fs.length ≤ 9223372036854775807) (m1 : fs.length ≤ c) (s1 : FldsBig fs) (s0 : kd.size ≤ 9223372036854775807) :
    Calls Tryz.prog 57 #[.agg #[.string kd, .int .i64 at_, .slice p fs.length c], .int .i64 l0] w fun e w' => (∃ r : Int, e = .returned (.int .i64 r) ∧ (r = -1 ∨ (0 ≤ r ∧ r + fs.length ≤ l0))) ∧ Below w.heap.size w w' := by
  obtain ⟨W1, hW1⟩ : ∃ W1, W1 = w.alloc (.cells #[.string kd, .int .i64 at_, .slice p fs.length c] 108) := ⟨_, rfl⟩
  have HW1 : Hid (W1 = w.alloc (.cells #[.string kd, .int .i64 at_, .slice p fs.length c] 108)) := hW1
  have B1 : Hid (Below w.heap.size w W1) := by rw [hW1]; exact (Below.refl _ _).alloc (Nat.le_refl _) _
  have H2 : Hid (∀ (l0 : Int), 0 ≤ l0 → l0 ≤ 1048576 → Calls Tryz.prog 87 #[.slice p fs.length c, .int .i64 l0] W1 fun e w' => (∃ r : Int, e = .returned (.int .i64 r) ∧ (r = -1 ∨ (0 ≤ r ∧ r + fs.length ≤ l0))) ∧ Below W1.heap.size W1 w') := fun l0 a b => szFz_any l0 a b p c fs W1 (h1.below B1.out) n1 m1 s1
  clear h1 s1 hW1
  by_cases hk : (kd.size : Int) ≤ l0
  · have H3 := H2.out (l0 - kd.size) (by omega) (by omega)
    have d0 : decide (l0 - (kd.size : Int) < 0) = false := decide_eq_false (by omega)
    clear H2
    go_enter Tryz.func57, Tryz.ntmps57
    go_wp2_with fail
    rw [← HW1.out]
    refine H3.mono ?_
    rintro e w2 ⟨⟨r', rfl, hr'⟩, b2⟩
    have b2 := chainB B1.out b2
    clear H3
    rcases hr' with rfl | ⟨r4, r5⟩
    · go_wp2_with fail
      go_ret
      exact ⟨⟨_, rfl, .inl rfl⟩, b2⟩
    · have dr : decide (r' < 0) = false := decide_eq_false (by omega)
      go_wp2_with fail
      go_ret
      exact ⟨⟨_, rfl, .inr ⟨r4, by omega⟩⟩, b2⟩
  · have d0 : decide (l0 - (kd.size : Int) < 0) = true := decide_eq_true (by omega)
    clear H2
    go_enter Tryz.func57, Tryz.ntmps57
    go_wp2_with fail
    rw [← HW1.out]
    go_ret
    exact ⟨⟨_, rfl, .inl rfl⟩, B1.out⟩
set_option maxHeartbeats 2000000 in
theorem szRowsZ_any (p : Option Addr) (cap : Nat) (rs : List Rw) (w : World) (hp : RwAt w p rs) (hn : rs.length ≤ 9223372036854775807) (hcap : rs.length ≤ cap) (hs : RwsBig rs) :
    Calls Tryz.prog 20 #[.slice p rs.length cap, .int .i64 1048576] w fun e w' => (∃ r : Int, e = .returned (.int .i64 r) ∧ (r = -1 ∨ (0 ≤ r ∧ r + rs.length + fsN rs ≤ 1048576))) ∧ Below w.heap.size w w' := by
  have HP : Hid (RwAt w p rs) := hp
  have HS : Hid (RwsBig rs) := hs
  clear hp hs
  by_cases hl : (rs.length : Int) ≤ 1048576
  · have d0 : decide ((1048576 : Int) - (rs.length : Int) < 0) = false := decide_eq_false (by omega)
    go_enter Tryz.func20, Tryz.ntmps20
    go_wp2_with fail
    go_loopw [5, 1] (fun i x wr => ∃ (k : Nat) (l : Int), k ≤ rs.length ∧ i = .int .i64 k ∧ x = .int .i64 l ∧ 0 ≤ l ∧ l + rs.length + fsN (rs.take k) ≤ 1048576 ∧ Hid (Below w.heap.size w wr)) (fun i _ _ => rs.length - (intOf i).toNat)
    case atStart => exact ⟨0, _, Nat.zero_le _, rfl, rfl, by omega, by simp [fsN], Below.refl _ _⟩
    case round =>
      obtain ⟨k, l, hk, rfl, rfl, l0, l1, HB⟩ := hrel
      by_cases hlt : k < rs.length
      · have i1 : (k : Int) < rs.length := by omega
        obtain ⟨b, off, rq, rc, rfl, hb0, c0, c1, c2, c3, c4⟩ := (HP.out.below HB.out) k hlt
        have hbb := HS.out _ (List.getElem_mem hlt)
        have hZ := szRowZ_any l l0 (by omega) rs[k].k rs[k].a rq rc rs[k].fs wr c4 hbb.1 c3 hbb.2.2 hbb.2.1
        have hsum := fsN_take rs k hlt
        clear hbb hb0 c3 c4
        generalize rs[k].k = rk at *
        generalize rs[k].a = ra at *
        generalize rs[k].fs.length = fl at *
        go_wp2_with fail
        refine hZ.mono ?_
        rintro e y ⟨⟨r', rfl, hr'⟩, b2⟩
        clear hZ c0 c1 c2
        have HB2 : Hid (Below w.heap.size w y) := chainB HB.out b2
        rcases hr' with rfl | ⟨r4, r5⟩
        · go_wp2_with fail
          go_ret
          exact ⟨⟨_, rfl, .inl rfl⟩, HB2.out⟩
        · have dr : decide (r' < 0) = false := decide_eq_false (by omega)
          go_wp2_with fail
          go_roundw
          case rel => exact ⟨k + 1, r', by omega, by simp, rfl, r4, by omega, HB2.out⟩
          case measure => simp [intOf]; omega
      · obtain rfl : k = rs.length := by omega
        rw [fsN_all] at l1
        go_wp2_with fail
        go_ret
        exact ⟨⟨_, rfl, .inr ⟨l0, l1⟩⟩, HB.out⟩
  · have d0 : decide ((1048576 : Int) - (rs.length : Int) < 0) = true := decide_eq_true (by omega)
    go_enter Tryz.func20, Tryz.ntmps20
    go_wp2_with fail
    go_ret
    exact ⟨⟨_, rfl, .inl rfl⟩, Below.refl _ _⟩
set_option maxHeartbeats 2000000 in
theorem szLogZ_any (q : Option Addr) (cq : Nat) (rs : List Rw) (p : Option Addr) (cp : Nat) (lv : List ByteArray) (now : Int) (w : World) (hq : RwAt w q rs) (hn : rs.length ≤ 9223372036854775807) (hcq : rs.length ≤ cq) (hs : RwsBig rs) (hp : TxtAt w p lv) (hl : lv.length ≤ 9223372036854775807) (hcp : lv.length ≤ cp) (hz : ∀ x ∈ lv, x.size ≤ 9223372036854775807) :
    Calls Tryz.prog 5 #[.agg #[.slice q rs.length cq, .slice p lv.length cp, .int .i64 now], .int .i64 1048576] w fun e w' => (∃ r : Int, e = .returned (.int .i64 r) ∧ (r = -1 ∨ (0 ≤ r ∧ rs.length + fsN rs + lv.length ≤ 1048576))) ∧ Below w.heap.size w w' := by
  obtain ⟨W1, hW1⟩ : ∃ W1, W1 = w.alloc (.cells #[.slice q rs.length cq, .slice p lv.length cp, .int .i64 now] 25) := ⟨_, rfl⟩
  have HW1 : Hid (W1 = w.alloc (.cells #[.slice q rs.length cq, .slice p lv.length cp, .int .i64 now] 25)) := hW1
  have B1 : Hid (Below w.heap.size w W1) := by rw [hW1]; exact (Below.refl _ _).alloc (Nat.le_refl _) _
  have K1 : Hid (Bxs W1 w.heap.size 25 #[.slice q rs.length cq, .slice p lv.length cp, .int .i64 now]) := by rw [hW1]; exact Bxs.new _ _ _
  have hR := szRowsZ_any q cq rs W1 (hq.below B1.out) hn hcq hs
  have HT : Hid (∀ (l0 : Int), 0 ≤ l0 → l0 ≤ 1048576 → ∀ x, Below W1.heap.size W1 x → Calls Tryz.prog 21 #[.slice p lv.length cp, .int .i64 l0] x fun e w' => (∃ r : Int, e = .returned (.int .i64 r) ∧ (r = -1 ∨ (0 ≤ r ∧ r + lv.length ≤ l0))) ∧ w' = x) := fun l0 a b x hb => szGz_any l0 a b p cp lv x ((hp.below B1.out).below hb) hl hcp hz
  clear hW1 hq hp hs hz
  go_enter Tryz.func5, Tryz.ntmps5
  go_wp2_with fail
  rw [← HW1.out]
  refine hR.mono ?_
  rintro e y ⟨⟨r, rfl, hr⟩, by_⟩
  clear hR
  have x1 := (K1.out.below by_).cell 1
  rcases hr with rfl | ⟨r0, r1⟩
  · go_wp2_with fail
    go_ret
    exact ⟨⟨_, rfl, .inl rfl⟩, chainB B1.out by_⟩
  · have dr : decide (r < 0) = false := decide_eq_false (by omega)
    have hT := HT.out r r0 (by omega) y by_
    go_wp2_with fail
    refine hT.mono ?_
    rintro e y2 ⟨⟨r', rfl, hr'⟩, rfl⟩
    clear hT HT
    rcases hr' with rfl | ⟨r4, r5⟩
    · go_wp2_with fail
      go_ret
      exact ⟨⟨_, rfl, .inl rfl⟩, chainB B1.out by_⟩
    · have dr' : decide (r' < 0) = false := decide_eq_false (by omega)
      go_wp2_with fail
      go_ret
      exact ⟨⟨_, rfl, .inr ⟨r4, by omega⟩⟩, chainB B1.out by_⟩
end Go.Proofs.YtamdgdkpcoeknaaGreatDoor
/-
  What the laws' own helpers do that mark texts: markText (the mark of a number), markStringS (each text of a slice becomes its mark), heldStringS (are all still marked).
  Conditions: the slice owns its row, of at most 2^20 texts.
-/
namespace Go.Proofs.YtamdgdkpcoeknaaGreatDoor
open Go.RowKit Go.Lib
set_option linter.unusedVariables false
set_option maxRecDepth 20000

def digs (k : Nat) (acc : ByteArray) : ByteArray := if h : k = 0 then acc else digs (k / 10) (strOfNums [48 + (k : Int) % 10] ++ acc)
termination_by k
decreasing_by omega
theorem digs_zero (acc : ByteArray) : digs 0 acc = acc := by rw [digs]; simp
theorem digs_pos {k : Nat} (h : k ≠ 0) (acc : ByteArray) : digs k acc = digs (k / 10) (strOfNums [48 + (k : Int) % 10] ++ acc) := by rw [digs]; simp [h]
def mk109 : ByteArray := ⟨#[109]⟩
def markB (k : Nat) : ByteArray := mk109 ++ digs k ByteArray.empty
def marksTo (l : List ByteArray) (k : Nat) : List ByteArray := (List.range k).map (fun j => markB (j + 1)) ++ l.drop k
def marksL (n : Nat) : List ByteArray := (List.range n).map (fun j => markB (j + 1))
theorem marksTo_len (l : List ByteArray) (k : Nat) (h : k ≤ l.length) : (marksTo l k).length = l.length := by simp [marksTo]; omega
theorem marksTo_set (l : List ByteArray) (k : Nat) (h : k < l.length) : (marksTo l k).set k (markB (k + 1)) = marksTo l (k + 1) := by
  unfold marksTo
  have hl : ((List.range k).map (fun j => markB (j + 1))).length = k := by simp
  rw [List.set_append_right _ _ (by omega), hl, Nat.sub_self, List.drop_eq_getElem_cons h, List.set_cons_zero, List.range_succ, List.map_append, List.append_assoc]; rfl
theorem marksTo_all (l : List ByteArray) : marksTo l l.length = marksL l.length := by unfold marksTo marksL; simp

theorem conv_one (w : World) (x : Int) : (convert 149 9 (.slice (some ⟨w.heap.size, 0, none⟩) 1 1)).run Tryz.prog (w.alloc (.cells #[.int .u8 x] 5)) = .ok (.string (strOfNums [x])) (w.alloc (.cells #[.int .u8 x] 5)) :=
  run_convert_bytes_arg (P := Tryz.prog) _ 149 5 Tryz.underlying149 Tryz.underlying5 w.heap.size 0 1 1 [x] rfl (fun i hi => by
    have : i = 0 := by simpa using hi
    subst this
    rw [World.cell?_alloc_mark]; rfl) 9 Tryz.underlying9

set_option maxHeartbeats 1000000 in
theorem markText_any (k : Nat) (w : World) (h1 : 1 ≤ k) (h2 : k ≤ 16777217) :
    Calls Tryz.prog 74 #[.int .i64 (k : Int)] w fun e w' => e = .returned (.string (markB k)) ∧ Below w.heap.size w w' := by
  have HB : Hid (markB k = mk109 ++ digs k ByteArray.empty) := rfl
  generalize markB k = M at *
  go_enter Tryz.func74, Tryz.ntmps74
  go_wp2
  go_loopw [0, 3] (fun x v wr => ∃ (j : Nat) (acc : ByteArray), x = .int .i64 j ∧ v = .string acc ∧ acc.size + j ≤ k ∧ Hid (M = mk109 ++ digs j acc) ∧ Hid (Below w.heap.size w wr)) (fun x _ _ => (intOf x).toNat)
  case atStart => exact ⟨k, ByteArray.empty, rfl, rfl, by simp, HB, Below.refl _ _⟩
  case round =>
    clear HB
    obtain ⟨j, acc, rfl, rfl, hs, hM, hB⟩ := hrel
    by_cases hj : 0 < j
    · have hcv := conv_one wr (48 + (j : Int) % 10)
      have hz : (strOfNums [48 + (j : Int) % 10]).size = 1 := by rw [strOfNums_size]; rfl
      have HM2 : Hid (M = mk109 ++ digs (j / 10) (strOfNums [48 + (j : Int) % 10] ++ acc)) := by show _ = _; rw [hM.out, digs_pos (by omega)]
      have HB2 : Hid (Below w.heap.size w (wr.alloc (.cells #[.int .u8 (48 + (j : Int) % 10)] 5))) := hB.out.alloc hB.out.size _
      generalize strOfNums [48 + (j : Int) % 10] = D at *
      go_wp2
      go_roundw
      case rel => exact ⟨j / 10, D ++ acc, by go_num, rfl, by rw [ByteArray.size_append, hz]; omega, HM2, HB2⟩
      case measure => simp [intOf]; omega
    · obtain rfl : j = 0 := by omega
      have HM2 : Hid (M = mk109 ++ acc) := by show _ = _; rw [hM.out, digs_zero]
      go_wp2
      go_ret
      exact ⟨ret_str HM2.out.symm, hB.out⟩

set_option maxHeartbeats 1000000 in
theorem mark_any (base : Nat) (v : Value) (l : List ByteArray) (w : World) (h : w.ownsRow base 9 1 v l.length (strRow l)) (hl : l.length ≤ 1048576) :
    Calls Tryz.prog 41 #[v, .int .i64 1] w fun e w' => e = .returned (.int .i64 ((l.length : Int) + 1)) ∧ w'.ownsRow base 9 1 v l.length (strRow (marksL l.length)) ∧ w.grownBy w' v.ownBlock := by
  rcases h.2 with ⟨rfl, h0⟩ | ⟨g, cap, cur, rfl, hg1, hg2, hg3, hg4, hg5, hg6⟩
  · have hl0 : l = [] := List.length_eq_zero_iff.1 h0
    subst hl0
    clear h h0
    go_enter Tryz.func41, Tryz.ntmps41
    go_wp2
    go_loop [5, 1] (fun i x => i = .int .i64 0 ∧ x = .int .i64 1) (fun _ _ => 0)
    case atStart => exact ⟨rfl, rfl⟩
    case round =>
      obtain ⟨rfl, rfl⟩ := hrel
      go_wp2
      go_ret
      exact ⟨rfl, World.ownsRow_nil _ _ _ _, World.grownBy.refl _ _⟩
  · have HO : Hid (w.ownsRow base 9 1 (.slice (some ⟨g, 0, none⟩) l.length cap) l.length (strRow (marksTo l 0))) := by
      show World.ownsRow _ _ _ _ _ _ _
      rw [show marksTo l 0 = l by simp [marksTo]]; exact h
    have HL : Hid (∀ k, k ≤ l.length → (strRow (marksTo l k)).length = l.length) := fun k hk => by simp [strRow, marksTo_len l k hk]
    clear h hg2 hg5 hg6
    go_enter Tryz.func41, Tryz.ntmps41
    go_wp2
    go_loopw [5, 1] (fun i x wr => ∃ k : Nat, k ≤ l.length ∧ i = .int .i64 k ∧ x = .int .i64 ((k : Int) + 1) ∧ Hid (wr.ownsRow base 9 1 (.slice (some ⟨g, 0, none⟩) l.length cap) l.length (strRow (marksTo l k))) ∧ Hid (w.grownBy wr (some g))) (fun i _ _ => l.length - (intOf i).toNat)
    case atStart => exact ⟨0, Nat.zero_le _, rfl, rfl, HO, World.grownBy.refl _ _⟩
    case round =>
      clear HO
      obtain ⟨k, hk, rfl, rfl, hown, hgr⟩ := hrel
      by_cases hlt : k < l.length
      · have hm := markText_any (k + 1) wr (by omega) (by omega)
        have hset := marksTo_set l k hlt
        have HS : Hid (∀ w2, Below wr.heap.size wr w2 → w2.cell? ⟨g, k, none⟩ = some (.string ((marksTo l k)[k]'(by rw [marksTo_len l k hk]; exact hlt))) ∧ w2.frozen? ⟨g, k, none⟩ = false ∧ (w2.setCell ⟨g, k, none⟩ (.string (markB (k + 1)))).ownsRow base 9 1 (.slice (some ⟨g, 0, none⟩) l.length cap) l.length (strRow (marksTo l (k + 1))) ∧ w.grownBy (w2.setCell ⟨g, k, none⟩ (.string (markB (k + 1)))) (some g)) := by
          intro w2 hb
          have ho2 := ownS_below hown.out hb
          refine ⟨?_, ho2.frozenAt k, ?_, ?_⟩
          · rw [ho2.cellAt k (by omega)]; simp [strRow, marksTo_len l k hk, hlt]
          · have := (ho2.stored k (.string (markB (k + 1)))).1
            have e : (strRow (marksTo l k)).set k (.string (markB (k + 1))) = strRow (marksTo l (k + 1)) := by rw [← hset]; simp [strRow, List.map_set]
            rw [e] at this; exact this
          · have a := hgr.out
            refine ⟨hb.os.trans a.os, hb.tape.trans a.tape, hb.output.trans a.output, ?_, ?_⟩
            · simpa [World.setCell] using Nat.le_trans a.size hb.size
            · intro q hq hne
              have hqg : g ≠ q := fun e => hne (by rw [e])
              rw [show (w2.setCell ⟨g, k, none⟩ (.string (markB (k + 1)))).heap[q]? = w2.heap[q]? by simp [World.setCell, Array.getElem?_modify, hqg]]
              exact (hb.block q (Nat.lt_of_lt_of_le hq a.size)).trans (a.block q hq hne)
        rw [show ((k + 1 : Nat) : Int) = (k : Int) + 1 by omega] at hm
        generalize markB (k + 1) = M at *
        generalize (marksTo l k)[k]'_ = M0 at *
        clear hset
        go_wp2_with fail
        refine hm.mono ?_
        rintro e w2 ⟨rfl, b2⟩
        obtain ⟨c2, f2, o2, g2⟩ := HS.out w2 b2
        have HO2 : Hid ((w2.setCell ⟨g, k, none⟩ (.string M)).ownsRow base 9 1 (.slice (some ⟨g, 0, none⟩) l.length cap) l.length (strRow (marksTo l (k + 1)))) := o2
        have HG2 : Hid (w.grownBy (w2.setCell ⟨g, k, none⟩ (.string M)) (some g)) := g2
        clear o2 g2
        go_wp2_with fail
        go_roundw
        case rel => exact ⟨k + 1, by omega, by go_num, by go_num, HO2, HG2⟩
        case measure => simp [intOf]; omega
      · obtain rfl : k = l.length := by omega
        have HO2 : Hid (wr.ownsRow base 9 1 (.slice (some ⟨g, 0, none⟩) l.length cap) l.length (strRow (marksL l.length))) := by
          show World.ownsRow _ _ _ _ _ _ _
          rw [← marksTo_all]; exact hown.out
        go_wp2
        go_ret
        exact ⟨rfl, HO2.out, hgr.out⟩

set_option maxHeartbeats 1000000 in
theorem held_any (p : Option Addr) (cap n : Nat) (w : World) (hp : TxtAt w p (marksL n)) (hn : n ≤ 1048576) (hcap : n ≤ cap) :
    Calls Tryz.prog 76 #[.slice p n cap, .int .i64 1] w fun e w' => e = .returned (.int .i64 ((n : Int) + 1)) ∧ Below w.heap.size w w' := by
  have HP : Hid (TxtAt w p (marksL n)) := hp
  have HL : Hid ((marksL n).length = n) := by show _ = _; simp [marksL]
  clear hp
  go_enter Tryz.func76, Tryz.ntmps76
  go_wp2
  go_loopw [5, 1] (fun i x wr => ∃ k : Nat, k ≤ n ∧ i = .int .i64 k ∧ x = .int .i64 ((k : Int) + 1) ∧ Hid (Below w.heap.size w wr)) (fun i _ _ => n - (intOf i).toNat)
  case atStart => exact ⟨0, Nat.zero_le _, rfl, rfl, Below.refl _ _⟩
  case round =>
    obtain ⟨k, hk, rfl, rfl, hB⟩ := hrel
    by_cases hlt : k < n
    · obtain ⟨b, off, rfl, hb, hck⟩ := HP.out k (by rw [HL.out]; exact hlt)
      have hc1 : wr.cell? ⟨b, off + k, none⟩ = some (.string (markB (k + 1))) := by
        rw [hB.out.cell (p := ⟨b, off + k, none⟩) hb, hck]; simp [marksL]
      have hbw : b < wr.heap.size := Nat.lt_of_lt_of_le hb hB.out.size
      have HM : Hid (∀ w', Below wr.heap.size wr w' → Calls Tryz.prog 74 #[.int .i64 ((k : Int) + 1)] w' fun e w'' => e = .returned (.string (markB (k + 1))) ∧ Below w'.heap.size w' w'') := by
        intro w' _
        have := markText_any (k + 1) w' (by omega) (by omega)
        rwa [show ((k + 1 : Nat) : Int) = (k : Int) + 1 by omega] at this
      clear hck
      generalize markB (k + 1) = M at *
      have j5 : (k : Int) < n := by omega
      go_wp2_with fail
      go_region_with (go_at_call 74; refine (HM.out _ ((Below.refl _ _).drew)).mono ?_; rintro e w2 ⟨rfl, b2⟩; have b2 := chainB ((Below.refl _ _).drew) b2; have c2 := (b2.cell (p := ⟨b, off + k, none⟩) hbw).trans hc1)
      all_goals
        have HB2 : Hid (Below w.heap.size w w2) := chainB hB.out b2
        go_wp2_with fail
        go_roundw
        case rel => exact ⟨k + 1, by omega, by go_num, by go_num, HB2⟩
        case measure => simp [intOf]; omega
    · obtain rfl : k = n := by omega
      go_wp2
      go_ret
      exact ⟨rfl, hB.out⟩
end Go.Proofs.YtamdgdkpcoeknaaGreatDoor
/-
  markStringS and heldStringS from any number on: what the laws' own helpers answer.
-/
namespace Go.Proofs.YtamdgdkpcoeknaaGreatDoor
open Go.RowKit Go.Lib
set_option linter.unusedVariables false
set_option maxRecDepth 20000

def marksT (s : Nat) (l : List ByteArray) (k : Nat) : List ByteArray := (List.range k).map (fun j => markB (j + s)) ++ l.drop k
def marksN (s n : Nat) : List ByteArray := (List.range n).map (fun j => markB (j + s))
theorem marksT_len (s : Nat) (l : List ByteArray) (k : Nat) (h : k ≤ l.length) : (marksT s l k).length = l.length := by simp [marksT]; omega
theorem marksT_set (s : Nat) (l : List ByteArray) (k : Nat) (h : k < l.length) : (marksT s l k).set k (markB (k + s)) = marksT s l (k + 1) := by
  unfold marksT
  have hl : ((List.range k).map (fun j => markB (j + s))).length = k := by simp
  rw [List.set_append_right _ _ (by omega), hl, Nat.sub_self, List.drop_eq_getElem_cons h, List.set_cons_zero, List.range_succ, List.map_append, List.append_assoc]; rfl
theorem marksT_all (s : Nat) (l : List ByteArray) : marksT s l l.length = marksN s l.length := by unfold marksT marksN; simp

set_option maxHeartbeats 1000000 in
theorem markG_any (s : Nat) (hs1 : 1 ≤ s) (base : Nat) (v : Value) (l : List ByteArray) (w : World) (h : w.ownsRow base 9 1 v l.length (strRow l)) (hl : s + l.length ≤ 16777217) :
    Calls Tryz.prog 41 #[v, .int .i64 (s : Int)] w fun e w' => e = .returned (.int .i64 ((l.length : Int) + s)) ∧ w'.ownsRow base 9 1 v l.length (strRow (marksN s l.length)) ∧ w.grownBy w' v.ownBlock := by
  rcases h.2 with ⟨rfl, h0⟩ | ⟨g, cap, cur, rfl, hg1, hg2, hg3, hg4, hg5, hg6⟩
  · have hl0 : l = [] := List.length_eq_zero_iff.1 h0
    subst hl0
    clear h h0
    go_enter Tryz.func41, Tryz.ntmps41
    go_wp2
    go_loop [5, 1] (fun i x => i = .int .i64 0 ∧ x = .int .i64 (s : Int)) (fun _ _ => 0)
    case atStart => exact ⟨rfl, rfl⟩
    case round =>
      obtain ⟨rfl, rfl⟩ := hrel
      go_wp2
      go_ret
      exact ⟨rfl, World.ownsRow_nil _ _ _ _, World.grownBy.refl _ _⟩
  · have HO : Hid (w.ownsRow base 9 1 (.slice (some ⟨g, 0, none⟩) l.length cap) l.length (strRow (marksT s l 0))) := by
      show World.ownsRow _ _ _ _ _ _ _
      rw [show marksT s l 0 = l by simp [marksT]]; exact h
    have HL : Hid (∀ k, k ≤ l.length → (strRow (marksT s l k)).length = l.length) := fun k hk => by simp [strRow, marksT_len s l k hk]
    clear h hg2 hg5 hg6
    go_enter Tryz.func41, Tryz.ntmps41
    go_wp2
    go_loopw [5, 1] (fun i x wr => ∃ k : Nat, k ≤ l.length ∧ i = .int .i64 k ∧ x = .int .i64 ((k : Int) + s) ∧ Hid (wr.ownsRow base 9 1 (.slice (some ⟨g, 0, none⟩) l.length cap) l.length (strRow (marksT s l k))) ∧ Hid (w.grownBy wr (some g))) (fun i _ _ => l.length - (intOf i).toNat)
    case atStart => exact ⟨0, Nat.zero_le _, rfl, by simp, HO, World.grownBy.refl _ _⟩
    case round =>
      clear HO
      obtain ⟨k, hk, rfl, rfl, hown, hgr⟩ := hrel
      by_cases hlt : k < l.length
      · have hm := markText_any (k + s) wr (by omega) (by omega)
        have hset := marksT_set s l k hlt
        have HS : Hid (∀ w2, Below wr.heap.size wr w2 → w2.cell? ⟨g, k, none⟩ = some (.string ((marksT s l k)[k]'(by rw [marksT_len s l k hk]; exact hlt))) ∧ w2.frozen? ⟨g, k, none⟩ = false ∧ (w2.setCell ⟨g, k, none⟩ (.string (markB (k + s)))).ownsRow base 9 1 (.slice (some ⟨g, 0, none⟩) l.length cap) l.length (strRow (marksT s l (k + 1))) ∧ w.grownBy (w2.setCell ⟨g, k, none⟩ (.string (markB (k + s)))) (some g)) := by
          intro w2 hb
          have ho2 := ownS_below hown.out hb
          refine ⟨?_, ho2.frozenAt k, ?_, ?_⟩
          · rw [ho2.cellAt k (by omega)]; simp [strRow, marksT_len s l k hk, hlt]
          · have := (ho2.stored k (.string (markB (k + s)))).1
            have e : (strRow (marksT s l k)).set k (.string (markB (k + s))) = strRow (marksT s l (k + 1)) := by rw [← hset]; simp [strRow, List.map_set]
            rw [e] at this; exact this
          · have a := hgr.out
            refine ⟨hb.os.trans a.os, hb.tape.trans a.tape, hb.output.trans a.output, ?_, ?_⟩
            · simpa [World.setCell] using Nat.le_trans a.size hb.size
            · intro q hq hne
              have hqg : g ≠ q := fun e => hne (by rw [e])
              rw [show (w2.setCell ⟨g, k, none⟩ (.string (markB (k + s)))).heap[q]? = w2.heap[q]? by simp [World.setCell, Array.getElem?_modify, hqg]]
              exact (hb.block q (Nat.lt_of_lt_of_le hq a.size)).trans (a.block q hq hne)
        rw [show ((k + s : Nat) : Int) = (k : Int) + s by omega] at hm
        generalize markB (k + s) = M at *
        generalize (marksT s l k)[k]'_ = M0 at *
        clear hset
        go_wp2_with fail
        refine hm.mono ?_
        rintro e w2 ⟨rfl, b2⟩
        obtain ⟨c2, f2, o2, g2⟩ := HS.out w2 b2
        have HO2 : Hid ((w2.setCell ⟨g, k, none⟩ (.string M)).ownsRow base 9 1 (.slice (some ⟨g, 0, none⟩) l.length cap) l.length (strRow (marksT s l (k + 1)))) := o2
        have HG2 : Hid (w.grownBy (w2.setCell ⟨g, k, none⟩ (.string M)) (some g)) := g2
        clear o2 g2
        go_wp2_with fail
        go_roundw
        case rel => exact ⟨k + 1, by omega, by go_num, by go_num, HO2, HG2⟩
        case measure => simp [intOf]; omega
      · obtain rfl : k = l.length := by omega
        have HO2 : Hid (wr.ownsRow base 9 1 (.slice (some ⟨g, 0, none⟩) l.length cap) l.length (strRow (marksN s l.length))) := by
          show World.ownsRow _ _ _ _ _ _ _
          rw [← marksT_all]; exact hown.out
        go_wp2
        go_ret
        exact ⟨rfl, HO2.out, hgr.out⟩

set_option maxHeartbeats 1000000 in
theorem heldG_any (s : Nat) (hs1 : 1 ≤ s) (p : Option Addr) (cap n : Nat) (w : World) (hp : TxtAt w p (marksN s n)) (hn : s + n ≤ 16777217) (hcap : n ≤ cap) :
    Calls Tryz.prog 76 #[.slice p n cap, .int .i64 (s : Int)] w fun e w' => e = .returned (.int .i64 ((n : Int) + s)) ∧ Below w.heap.size w w' := by
  have HP : Hid (TxtAt w p (marksN s n)) := hp
  have HL : Hid ((marksN s n).length = n) := by show _ = _; simp [marksN]
  clear hp
  go_enter Tryz.func76, Tryz.ntmps76
  go_wp2
  go_loopw [5, 1] (fun i x wr => ∃ k : Nat, k ≤ n ∧ i = .int .i64 k ∧ x = .int .i64 ((k : Int) + s) ∧ Hid (Below w.heap.size w wr)) (fun i _ _ => n - (intOf i).toNat)
  case atStart => exact ⟨0, Nat.zero_le _, rfl, by simp, Below.refl _ _⟩
  case round =>
    obtain ⟨k, hk, rfl, rfl, hB⟩ := hrel
    by_cases hlt : k < n
    · obtain ⟨b, off, rfl, hb, hck⟩ := HP.out k (by rw [HL.out]; exact hlt)
      have hc1 : wr.cell? ⟨b, off + k, none⟩ = some (.string (markB (k + s))) := by
        rw [hB.out.cell (p := ⟨b, off + k, none⟩) hb, hck]; simp [marksN]
      have hbw : b < wr.heap.size := Nat.lt_of_lt_of_le hb hB.out.size
      have HM : Hid (∀ w', Below wr.heap.size wr w' → Calls Tryz.prog 74 #[.int .i64 ((k : Int) + s)] w' fun e w'' => e = .returned (.string (markB (k + s))) ∧ Below w'.heap.size w' w'') := by
        intro w' _
        have := markText_any (k + s) w' (by omega) (by omega)
        rwa [show ((k + s : Nat) : Int) = (k : Int) + s by omega] at this
      clear hck
      generalize markB (k + s) = M at *
      have j5 : (k : Int) < n := by omega
      go_wp2_with fail
      go_region_with (go_at_call 74; refine (HM.out _ ((Below.refl _ _).drew)).mono ?_; rintro e w2 ⟨rfl, b2⟩; have b2 := chainB ((Below.refl _ _).drew) b2; have c2 := (b2.cell (p := ⟨b, off + k, none⟩) hbw).trans hc1)
      all_goals
        have HB2 : Hid (Below w.heap.size w w2) := chainB hB.out b2
        go_wp2_with fail
        go_roundw
        case rel => exact ⟨k + 1, by omega, by go_num, by go_num, HB2⟩
        case measure => simp [intOf]; omega
    · obtain rfl : k = n := by omega
      go_wp2
      go_ret
      exact ⟨rfl, hB.out⟩
end Go.Proofs.YtamdgdkpcoeknaaGreatDoor
/-
  What the laws' own helpers do that mark fields: markFieldS, heldFieldS, from any number on.
  Conditions: the slice owns its row, of at most 2^20 fields.
-/
namespace Go.Proofs.YtamdgdkpcoeknaaGreatDoor
open Go.RowKit Go.Lib
set_option linter.unusedVariables false
set_option maxRecDepth 20000

def mkF (s j : Nat) : Fld := ⟨markB (s + 5 * j), markB (s + 5 * j + 1), markB (s + 5 * j + 2), markB (s + 5 * j + 3), decide ((s + 5 * j + 4) % 3 = 0)⟩
def mfN (s n : Nat) : List Fld := (List.range n).map (mkF s)
def mfT (s : Nat) (l : List Fld) (k : Nat) : List Fld := mfN s k ++ l.drop k
theorem mfT_len (s : Nat) (l : List Fld) (k : Nat) (h : k ≤ l.length) : (mfT s l k).length = l.length := by simp [mfT, mfN]; omega
theorem mfT_set (s : Nat) (l : List Fld) (k : Nat) (h : k < l.length) : (mfT s l k).set k (mkF s k) = mfT s l (k + 1) := by
  unfold mfT mfN
  have hl : ((List.range k).map (mkF s)).length = k := by simp
  rw [List.set_append_right _ _ (by omega), hl, Nat.sub_self, List.drop_eq_getElem_cons h, List.set_cons_zero, List.range_succ, List.map_append, List.append_assoc]; rfl
theorem mfT_all (s : Nat) (l : List Fld) : mfT s l l.length = mfN s l.length := by unfold mfT; simp
theorem mfN_len (s n : Nat) : (mfN s n).length = n := by simp [mfN]
theorem markText_int (z : Int) (k : Nat) (hz : z = (k : Int)) (w : World) (h1 : 1 ≤ k) (h2 : k ≤ 16777217) :
    Calls Tryz.prog 74 #[.int .i64 z] w fun e w' => e = .returned (.string (markB k)) ∧ Below w.heap.size w w' := by
  subst hz; exact markText_any k w h1 h2
/-- A step of the marking: a row of its own, and what is told of the world since. -/
structure MfS (w : World) (base g n cap : Nat) (row : List Value) (x : World) : Prop where
  own : x.ownsRow base 112 5 (.slice (some ⟨g, 0, none⟩) n cap) n row
  gr : w.grownBy x (some g)
theorem MfS.cell {w : World} {base g n cap : Nat} {row : List Value} {x y : World} (h : MfS w base g n cap row x) (hb : Below x.heap.size x y) (i : Nat) (hi : i < n * 5) : (∃ v, y.cell? ⟨g, i, none⟩ = some v) ∧ y.frozen? ⟨g, i, none⟩ = false := by
  have ho := ownS_below h.own hb
  refine ⟨?_, ho.frozenAt _⟩
  rw [ho.cellAt i hi]
  have hl : row.length = n * 5 := h.own.1
  exact ⟨row[i]'(by omega), List.getElem?_eq_getElem (by omega)⟩
theorem MfS.step {w : World} {base g n cap : Nat} {row : List Value} {x y : World} (h : MfS w base g n cap row x) (hb : Below x.heap.size x y) (i : Nat) (v : Value) : MfS w base g n cap (row.set i v) (y.setCell ⟨g, i, none⟩ v) := by
  have ho := ownS_below h.own hb
  have hst := ho.stored i v
  refine ⟨hst.1, ?_⟩
  have a := h.gr
  have a2 := hst.2
  refine ⟨(a2.os.trans hb.os).trans a.os, (a2.tape.trans hb.tape).trans a.tape, (a2.output.trans hb.output).trans a.output, by have := a.size; have := hb.size; have := a2.size; omega, fun q hq hne => ?_⟩
  have l1 := Nat.lt_of_lt_of_le hq a.size
  have l3 := Nat.lt_of_lt_of_le l1 hb.size
  exact (a2.block q l3 hne).trans ((hb.block q l1).trans (a.block q hq hne))
theorem mod3 (z : Int) (k : Nat) (hz : z = (k : Int)) : (z % 3 == 0) = decide (k % 3 = 0) := by
  subst hz
  rw [Bool.eq_iff_iff, beq_iff_eq, decide_eq_true_iff]; omega

set_option maxHeartbeats 4000000 in
theorem markF_any (s : Nat) (hs1 : 1 ≤ s) (base : Nat) (v : Value) (l : List Fld) (w : World) (h : w.ownsRow base 112 5 v l.length (fldRow l)) (hl : s + 5 * l.length ≤ 16777210) :
    Calls Tryz.prog 75 #[v, .int .i64 (s : Int)] w fun e w' => e = .returned (.int .i64 (5 * (l.length : Int) + s)) ∧ w'.ownsRow base 112 5 v l.length (fldRow (mfN s l.length)) ∧ w.grownBy w' v.ownBlock := by
  rcases h.2 with ⟨rfl, h0⟩ | ⟨g, cap, cur, rfl, hg1, hg2, hg3, hg4, hg5, hg6⟩
  · have hl0 : l = [] := List.length_eq_zero_iff.1 h0
    subst hl0
    clear h h0
    go_enter Tryz.func75, Tryz.ntmps75
    go_wp2_with fail
    go_loop [5, 1] (fun i x => i = .int .i64 0 ∧ x = .int .i64 (s : Int)) (fun _ _ => 0)
    case atStart => exact ⟨rfl, rfl⟩
    case round =>
      obtain ⟨rfl, rfl⟩ := hrel
      go_wp2_with fail
      go_ret
      exact ⟨by simp, World.ownsRow_nil _ _ _ _, World.grownBy.refl _ _⟩
  · have HO : Hid (MfS w base g l.length cap (fldRow (mfT s l 0)) w) := by
      refine ⟨?_, World.grownBy.refl _ _⟩
      rw [show mfT s l 0 = l by simp [mfT, mfN]]; exact h
    clear h hg2 hg5 hg6
    go_enter Tryz.func75, Tryz.ntmps75
    go_wp2_with fail
    go_loopw [5, 1] (fun i x wr => ∃ k : Nat, k ≤ l.length ∧ i = .int .i64 k ∧ x = .int .i64 (5 * (k : Int) + s) ∧ Hid (MfS w base g l.length cap (fldRow (mfT s l k)) wr)) (fun i _ _ => l.length - (intOf i).toNat)
    case atStart => exact ⟨0, Nat.zero_le _, rfl, by simp, HO⟩
    case round =>
      clear HO
      obtain ⟨k, hk, rfl, rfl, hM⟩ := hrel
      by_cases hlt : k < l.length
      · have i1 : (k : Int) < l.length := by omega
        have HE : Hid ((((((fldRow (mfT s l k)).set (k * 5) (.string (markB (s + 5 * k)))).set (k * 5 + 1) (.string (markB (s + 5 * k + 1)))).set (k * 5 + 2) (.string (markB (s + 5 * k + 2)))).set (k * 5 + 3) (.string (markB (s + 5 * k + 3)))).set (k * 5 + 4) (.bool (decide ((s + 5 * k + 4) % 3 = 0))) = fldRow (mfT s l (k + 1))) := by
          show _ = _
          rw [← mfT_set s l k hlt, ← fldRow_set]; rfl
        generalize fldRow (mfT s l k) = row0 at *
        have A1 : Hid (∀ z : Int, ∀ w, z = 5 * (k : Int) + s → Calls Tryz.prog 74 #[.int .i64 z] w fun e w' => e = .returned (.string (markB (s + 5 * k))) ∧ Below w.heap.size w w') := fun z w hz => markText_int z _ (by omega) w (by omega) (by omega)
        have A2 : Hid (∀ z : Int, ∀ w, z = 5 * (k : Int) + s + 1 → Calls Tryz.prog 74 #[.int .i64 z] w fun e w' => e = .returned (.string (markB (s + 5 * k + 1))) ∧ Below w.heap.size w w') := fun z w hz => markText_int z _ (by omega) w (by omega) (by omega)
        have A3 : Hid (∀ z : Int, ∀ w, z = 5 * (k : Int) + s + 2 → Calls Tryz.prog 74 #[.int .i64 z] w fun e w' => e = .returned (.string (markB (s + 5 * k + 2))) ∧ Below w.heap.size w w') := fun z w hz => markText_int z _ (by omega) w (by omega) (by omega)
        have A4 : Hid (∀ z : Int, ∀ w, z = 5 * (k : Int) + s + 3 → Calls Tryz.prog 74 #[.int .i64 z] w fun e w' => e = .returned (.string (markB (s + 5 * k + 3))) ∧ Below w.heap.size w w') := fun z w hz => markText_int z _ (by omega) w (by omega) (by omega)
        generalize markB (s + 5 * k) = M1 at *
        generalize markB (s + 5 * k + 1) = M2 at *
        generalize markB (s + 5 * k + 2) = M3 at *
        generalize markB (s + 5 * k + 3) = M4 at *
        go_wp2_with fail
        refine (A1.out _ _ (by omega)).mono ?_
        rintro e y ⟨rfl, b⟩
        obtain ⟨⟨x, c1⟩, f1⟩ := hM.out.cell b (k * 5) (by omega)
        obtain ⟨Y1, hY1⟩ : ∃ Y, Y = y.setCell ⟨g, k * 5, none⟩ (.string M1) := ⟨_, rfl⟩
        have HY1 : Hid (Y1 = y.setCell ⟨g, k * 5, none⟩ (.string M1)) := hY1
        have HM1 : Hid (MfS w base g l.length cap (row0.set (k * 5) (.string M1)) Y1) := by rw [hY1]; exact hM.out.step b _ _
        clear hM b hY1 A1
        go_wp2_with fail
        rw [← HY1.out]
        refine (A2.out _ _ (by omega)).mono ?_
        clear HY1 c1 f1
        rintro e y ⟨rfl, b⟩
        obtain ⟨⟨x, c1⟩, f1⟩ := HM1.out.cell b (k * 5 + 1) (by omega)
        obtain ⟨Y2, hY2⟩ : ∃ Y, Y = y.setCell ⟨g, k * 5 + 1, none⟩ (.string M2) := ⟨_, rfl⟩
        have HY2 : Hid (Y2 = y.setCell ⟨g, k * 5 + 1, none⟩ (.string M2)) := hY2
        have HM2 : Hid (MfS w base g l.length cap ((row0.set (k * 5) (.string M1)).set (k * 5 + 1) (.string M2)) Y2) := by rw [hY2]; exact HM1.out.step b _ _
        clear HM1 b hY2 A2
        go_wp2_with fail
        rw [← HY2.out]
        refine (A3.out _ _ (by omega)).mono ?_
        clear HY2 c1 f1
        rintro e y ⟨rfl, b⟩
        obtain ⟨⟨x, c1⟩, f1⟩ := HM2.out.cell b (k * 5 + 2) (by omega)
        obtain ⟨Y3, hY3⟩ : ∃ Y, Y = y.setCell ⟨g, k * 5 + 2, none⟩ (.string M3) := ⟨_, rfl⟩
        have HY3 : Hid (Y3 = y.setCell ⟨g, k * 5 + 2, none⟩ (.string M3)) := hY3
        have HM3 : Hid (MfS w base g l.length cap (((row0.set (k * 5) (.string M1)).set (k * 5 + 1) (.string M2)).set (k * 5 + 2) (.string M3)) Y3) := by rw [hY3]; exact HM2.out.step b _ _
        clear HM2 b hY3 A3
        go_wp2_with fail
        rw [← HY3.out]
        refine (A4.out _ _ (by omega)).mono ?_
        clear HY3 c1 f1
        rintro e y ⟨rfl, b⟩
        obtain ⟨⟨x, c1⟩, f1⟩ := HM3.out.cell b (k * 5 + 3) (by omega)
        obtain ⟨Y4, hY4⟩ : ∃ Y, Y = y.setCell ⟨g, k * 5 + 3, none⟩ (.string M4) := ⟨_, rfl⟩
        have HY4 : Hid (Y4 = y.setCell ⟨g, k * 5 + 3, none⟩ (.string M4)) := hY4
        have HM4 : Hid (MfS w base g l.length cap ((((row0.set (k * 5) (.string M1)).set (k * 5 + 1) (.string M2)).set (k * 5 + 2) (.string M3)).set (k * 5 + 3) (.string M4)) Y4) := by rw [hY4]; exact HM3.out.step b _ _
        obtain ⟨⟨x5, c5⟩, f5⟩ := HM4.out.cell (Below.refl _ _) (k * 5 + 4) (by omega)
        rw [hY4] at c5 f5
        clear HM3 b hY4 A4
        go_wp2_with fail
        rw [← HY4.out]
        go_roundw
        case rel =>
          have h5 := HM4.out.step (Below.refl _ _) (k * 5 + 4) (.bool (decide ((s + 5 * k + 4) % 3 = 0)))
          rw [HE.out] at h5
          refine ⟨k + 1, by omega, by go_num, by go_num, ?_⟩
          rw [mod3 (5 * (k : Int) + s + 1 + 1 + 1 + 1) (s + 5 * k + 4) (by omega)]
          exact h5
        case measure => simp [intOf]; omega
      · obtain rfl : k = l.length := by omega
        have HO2 : Hid (MfS w base g l.length cap (fldRow (mfN s l.length)) wr) := by
          rw [← mfT_all]; exact hM.out
        go_wp2_with fail
        go_ret
        exact ⟨rfl, HO2.out.own, HO2.out.gr⟩

end Go.Proofs.YtamdgdkpcoeknaaGreatDoor
