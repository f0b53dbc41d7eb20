/-
  Parts of one proof, laid as one text: All2, LeafNode; what each says stands at its head.
-/
import Derived.Test.YtonleickhincgaaGreatDoorRows
import Derived.Test.YtonleickhincgaaGreatDoorBytesDigMath
import Derived.Test.YtonleickhincgaaGreatDoorShwKOwnBPadIMacMathSgnBDigITurn2
import Derived.Test.YtonleickhincgaaGreatDoorBlock2
import Derived.Handy
import Derived.WalkSpells
import Derived.Deep.AppendLies
import Derived.Test.YtonleickhincgaaGreatDoorTreeMathSlABxKSlBOwnS
import Derived.Test.YtonleickhincgaaGreatDoorTimeBPutMathPutNumJoinedPutTextFldMath
/-
  The specification's l02All: the digest of a text, 'digB', in new memory.
  Conditions: the text is at most 2^40 bytes long.
-/
namespace Go.Proofs.YtonleickhincgaaGreatDoor
open Go.RowKit Go.Lib
set_option linter.unusedVariables false

theorem infoU8a : (Tryz.prog.info? 5).map (fun i => (i.zero, i.size, i.bytes)) = some (some (.int .u8 0), 1, 1) := by kernel_rfl
theorem conv_str_b (w : World) (t : ByteArray) (ht : t.size ≤ maxLen) : ∃ C W0, (convert 9 22 (.string t)).run Tryz.prog w = .ok (.slice (some ⟨w.heap.size, 0, none⟩) t.size C) W0 ∧
    OwnB W0 w.heap.size w.heap.size C (bytesN t) ∧ Below w.heap.size w W0 :=
  ⟨_, _, run_bytes_of_string (P := Tryz.prog) w 9 22 5 t Tryz.underlying9 Tryz.underlying22 Tryz.underlying5, ownB_of_string w t _ ht, ((Below.refl _ _).drew).alloc (Nat.le_refl _) _⟩
theorem app_b (w : World) (base g cap : Nat) (xs : List Int) (n : Nat) (hn : xs.length = n) (h : OwnB w base g cap xs) (x : Int) (hlen : n < 70368744177664) (hB : base ≤ w.heap.size) (w0 : World) (hb : Below base w0 w) :
    ∃ g' cap' w', (Builtin.append_ #[22, 22] 22 #[.slice (some ⟨g, 0, none⟩) n cap, .slice (some ⟨w.heap.size, 0, none⟩) 1 1]).run Tryz.prog (w.alloc (.cells #[.int .u8 x] 5)) = .ok (.slice (some ⟨g', 0, none⟩) (n + 1) cap') w' ∧
      OwnB w' base g' cap' (xs ++ [x]) ∧ Below base w0 w' := by
  subst hn
  obtain ⟨i0, hi, hz0, hz1, hz2⟩ := info_parts infoU8a
  obtain ⟨g', cap', w', h1, h2, h3⟩ := append_b (P := Tryz.prog) (w.alloc (.cells #[.int .u8 x] 5)) 22 22 5 i0 Tryz.underlying22 hi hz0 hz1 hz2 base g cap xs (h.alloc _) ⟨w.heap.size, 0, none⟩ 1 x (World.cell?_alloc_mark _ _ _ _ _) hlen (by rw [size_alloc]; omega)
  exact ⟨g', cap', w', h1, h2, h3 w0 (hb.alloc hB _)⟩
theorem four4_eq {y : Int} (h0 : 0 ≤ y) (h1 : y ≤ 4294967295) : four4 y = [y / 16777216, y / 65536 % 256, y / 256 % 256, y % 256] := by unfold four4; rw [show y / 16777216 % 256 = y / 16777216 by omega]
def lenV : Value → Nat
  | .slice _ n _ => n
  | _ => 0

set_option maxHeartbeats 2000000 in
set_option maxRecDepth 20000 in
theorem specAll_any (t : ByteArray) (w : World) (ht : t.size ≤ 1099511627776) :
    Calls Tryz.prog 52 #[.string t] w fun e w' => e = .returned (.string (digB t)) ∧ Below w.heap.size w w' := by
  obtain ⟨C, W0, hcv, hO, hb0⟩ := conv_str_b w t (by unfold maxLen; omega)
  have hs0 := hb0.size
  obtain ⟨g1, cap1, w1, hr1, ho1, hb1⟩ := app_b W0 w.heap.size w.heap.size C (bytesN t) t.size (bytesN_len t) hO 128 (by omega) hs0 w hb0
  go_enter Tryz.func52, Tryz.ntmps52
  go_wp2_with (at_builtin; refine wpList_append_run rfl _ _ _ rfl _ _ _ _ rfl rfl hr1 ?_)
  go_loopw [3] (fun v wr => ∃ k g cap n, k ≤ zN t.size ∧ Hid (n = t.size + 1 + k) ∧ v = .slice (some ⟨g, 0, none⟩) n cap ∧ OwnB wr w.heap.size g cap (bytesN t ++ [128] ++ List.replicate k 0) ∧ Below w.heap.size w wr) (fun v _ => t.size + 1 + zN t.size - lenV v)
  case atStart => exact ⟨0, g1, cap1, t.size + 1, by omega, rfl, rfl, by simpa using ho1, hb1⟩
  case round =>
    clear hr1 ho1 hb1 hcv hO hb0 hs0
    obtain ⟨k, g, cap, n, hk, hn, rfl, hown, hnx⟩ := hrel
    have hz := zN_lt t.size
    have hsz := hnx.size
    have hcap := hown.fit
    have HL : Hid ((bytesN t ++ [128] ++ List.replicate k 0).length = n) := by show _ = _; have := hn.out; simp [bytesN_len]; omega
    rw [HL.out] at hcap
    have hn40 : (n : Int) ≤ 1099511627900 := by have := hn.out; omega
    by_cases hlt : k < zN t.size
    · have hrem : (n : Int) % 64 ≠ 56 := by have := hn.out; unfold zN at hlt; omega
      obtain ⟨g2, cap2, w2, hr2, ho2, hb2⟩ := app_b wr w.heap.size g cap _ n HL.out hown 0 (by omega) hsz w hnx
      go_wp2_with (at_builtin; refine wpList_append_run rfl _ _ _ rfl _ _ _ _ rfl rfl hr2 ?_)
      go_roundw
      case rel => exact ⟨k + 1, g2, cap2, n + 1, by omega, by have := hn.out; show _ = _; omega, rfl, by rw [List.replicate_succ', ← List.append_assoc]; exact ho2, hb2⟩
      case measure => have := hn.out; simp [lenV]; omega
    · have hkz : k = zN t.size := by omega
      subst hkz
      have hrem : (n : Int) % 64 = 56 := by have := hn.out; unfold zN at this; omega
      have HN : Hid (n + 8 = 64 * nB t) := by show _ = _; have := hn.out; unfold nB zN; unfold zN at this; omega
      have HP : Hid (padN t = (bytesN t ++ [128] ++ List.replicate (zN t.size) 0) ++ be8To (8 * (t.size : Int)) 8) := rfl
      generalize bytesN t ++ [128] ++ List.replicate (zN t.size) 0 = P0 at *
      clear hk hlt hn hz
      go_wp2
      clear hrem
      go_loopw [5, 3] (fun x v wr => ∃ (j g cap : Nat), j ≤ 8 ∧ x = .int .i64 (56 - 8 * (j : Int)) ∧ v = .slice (some ⟨g, 0, none⟩) (n + j) cap ∧ OwnB wr w.heap.size g cap (P0 ++ be8To (8 * (t.size : Int)) j) ∧ Below w.heap.size w wr) (fun x _ _ => (Go.RowKit.intOf x + 8).toNat)
      case atStart => exact ⟨0, g, cap, by omega, rfl, rfl, by simpa [be8To] using hown, hnx⟩
      case round =>
        clear hnx hown hsz hcap
        obtain ⟨j, g, cap, hj, rfl, rfl, hown, hnx⟩ := hrel
        have hsz := hnx.size
        by_cases hlt : j < 8
        · have h0 : (0 : Int) ≤ 56 - 8 * (j : Int) := by omega
          have h1 : ((56 : Int) - 8 * (j : Int)).toNat = 56 - 8 * j := by omega
          obtain ⟨g2, cap2, w2, hr2, ho2, hb2⟩ := app_b wr w.heap.size g cap _ (n + j) (by rw [List.length_append, HL.out, be8To_len]) hown (8 * (t.size : Int) / 2 ^ (56 - 8 * j) % 256) (by omega) hsz w hnx
          go_wp2_with (at_builtin; refine wpList_append_run rfl _ _ _ rfl _ _ _ _ rfl rfl hr2 ?_)
          go_roundw
          case rel => exact ⟨j + 1, g2, cap2, by omega, by go_num, rfl, by rw [be8To_succ, ← List.append_assoc]; exact ho2, hb2⟩
          case measure => simp [Go.RowKit.intOf]; omega
        · have hj8 : j = 8 := by omega
          subst hj8
          rw [← HP.out] at hown
          clear HP
          have HL2 : Hid ((padN t).length = 64 * nB t) := padN_len t
          have hcap := hown.fit
          rw [HL2.out] at hcap
          rw [HN.out]
          have hnb : nB t ≤ 17179869200 := by have := HN.out; omega
          clear HN HL hn40 hlt hj
          go_wp2_with (go_at_call 99; refine (specStart_any _).mono ?_; rintro e w' ⟨rfl, rfl⟩)
          have hlt0 := hown.hi
          obtain ⟨W1, hW1⟩ : ∃ W1, W1 = wr.alloc (.cells (startN.map (Value.int .i64)).toArray 2) := ⟨_, rfl⟩
          have HO1 : OwnB W1 w.heap.size g cap (padN t) := hW1 ▸ hown.alloc _
          have HB1 : Below w.heap.size w W1 := hW1 ▸ hnx.alloc hsz _
          have HC1 : Hid (∀ i (h : i < startN.length), W1.cell? ⟨wr.heap.size, 0 + i, none⟩ = some (.int .i64 startN[i])) := by
            show ∀ i (h : i < startN.length), W1.cell? ⟨wr.heap.size, 0 + i, none⟩ = some (.int .i64 startN[i])
            intro i hi
            rw [hW1, Nat.zero_add, World.cell?_alloc_mark]
            simp [hi]
          have HS1 : wr.heap.size < W1.heap.size := by rw [hW1, size_alloc]; omega
          rw [← hW1]
          clear hW1 hown hnx hlt0
          rename World => W0'
          go_loopw [7, 6] (fun x v wr => ∃ (k gs caps : Nat), k ≤ nB t ∧ x = .int .i64 (64 * (k : Int)) ∧ v = .slice (some ⟨gs, 0, none⟩) 8 caps ∧ gs < wr.heap.size ∧ Hid (∀ i (h : i < (stN (padN t) k).length), wr.cell? ⟨gs, 0 + i, none⟩ = some (.int .i64 (stN (padN t) k)[i])) ∧ OwnB wr w.heap.size g cap (padN t) ∧ Below w.heap.size w wr) (fun x _ _ => nB t * 64 - (Go.RowKit.intOf x).toNat)
          case atStart => exact ⟨0, _, 8, by omega, rfl, rfl, HS1, HC1, HO1, HB1⟩
          case round =>
            clear HS1 HC1 HO1 HB1 hsz
            obtain ⟨k, gs, caps, hk, rfl, rfl, hgs, HC, hown, hnx⟩ := hrel
            by_cases hlt : k < nB t
            · have hcv := conv_b hown (64 * k) 64 (cap - 64 * k) (by rw [HL2.out]; omega)
              have hbs := specBlock_any wr gs caps (stN (padN t) k) (strOfNums ((padN t).drop (64 * k) |>.take 64)) (by rw [strOfNums_size]; simp [HL2.out]; omega) (stN_len _ _) hgs HC.out
              have HE : Hid (blockN (stN (padN t) k) (strOfNums ((padN t).drop (64 * k) |>.take 64)) = stN (padN t) (k + 1)) := rfl
              generalize strOfNums ((padN t).drop (64 * k) |>.take 64) = blk at *
              rw [HE.out] at hbs
              have q1 : (64 : Int) * k + 64 ≤ cap := by omega
              have q2 : ((64 : Int) * k).toNat = 64 * k := by omega
              have q3 : ((64 : Int) * k + 64).toNat = 64 * k + 64 := by omega
              have q4 : ¬ cap = 64 * k := by omega
              have q5 : (64 : Int) * k < 64 * nB t := by omega
              go_wp2_with (go_at_call 100; refine hbs.mono ?_; rintro e w2 ⟨g2, cap2, rfl, hg2, hc2, hb2⟩)
              go_roundw
              case rel => exact ⟨k + 1, g2, cap2, by omega, by go_num, rfl, hg2, hc2, hown.below hb2, hnx.trans (hb2.mono hnx.size)⟩
              case measure => simp [Go.RowKit.intOf]; omega
            · have hkk : k = nB t := by omega
              subst hkk
              have HD : Hid (digB t = strOfNums (outN (stN (padN t) (nB t)) 8)) := rfl
              have hin := stN_in (padN t) (nB t)
              have hl8 := stN_len (padN t) (nB t)
              generalize stN (padN t) (nB t) = st at *
              have HI : Hid (∀ i, i < 8 → 0 ≤ st.getD i 0 ∧ st.getD i 0 ≤ 4294967295) := hin
              have HL8 : Hid (st.length = 8) := hl8
              clear hin hl8 hown hk hlt
              rename World => W3
              obtain ⟨i0, hi, hz0, hz1, hz2⟩ := info_parts infoU8a
              go_wp2
              go_loopw [9, 8] (fun x v wr => ∃ (k g cap : Nat), k ≤ 8 ∧ x = .int .i64 k ∧ v = .slice (some ⟨g, 0, none⟩) (4 * k) cap ∧ wr.ownsRow W3.heap.size 5 1 (.slice (some ⟨g, 0, none⟩) (4 * k) cap) (4 * k) ((outN st k).map (Value.int .u8)) ∧ Below W3.heap.size W3 wr) (fun x _ _ => 8 - (Go.RowKit.intOf x).toNat)
              case atStart => exact ⟨0, W3.heap.size, 0, by omega, rfl, rfl, World.ownsRow_made W3 #[] 0 (Nat.le_refl _) (by unfold maxLen; omega) rfl, (Below.refl _ _).alloc (Nat.le_refl _) _⟩
              case round =>
                obtain ⟨k, g, cap, hk, rfl, rfl, hown, hnx4⟩ := hrel
                have hsz := hnx4.size
                by_cases hlt : k < 8
                · have c1 : wr.cell? ⟨gs, k, none⟩ = some (.int .i64 (st.getD k 0)) := by
                    have h1 := HC.out k (by rw [HL8.out]; exact hlt)
                    rw [Nat.zero_add] at h1
                    rw [hnx4.cell (p := ⟨gs, k, none⟩) hgs, h1, List.getD_eq_getElem?_getD, List.getElem?_eq_getElem (by rw [HL8.out]; exact hlt)]; rfl
                  obtain ⟨y0, y1⟩ := HI.out k hlt
                  have HT : Hid (outN st (k + 1) = outN st k ++ four4 (st.getD k 0)) := rfl
                  generalize st.getD k 0 = y at *
                  have j5 : (k : Int) < 8 := by omega
                  go_wp2_with (at_builtin; refine wpList_append_lies _ rfl _ _ 22 rfl W3.heap.size 5 i0 (.int .u8 0) 1 1 Tryz.underlying22 hi hz0 hz1 hz2 rfl (by omega) _ (4 * k) _ rfl (hown.alloc _) ⟨wr.heap.size, 0, none⟩ 4 4 [.int .u8 (y / 16777216), .int .u8 (y / 65536 % 256), .int .u8 (y / 256 % 256), .int .u8 (y % 256)] rfl rfl (World.news_of_block (cs := #[.int .u8 (y / 16777216), .int .u8 (y / 65536 % 256), .int .u8 (y / 256 % 256), .int .u8 (y % 256)]) (t := 5) (fr := (0, 0)) (heap_alloc_new wr _)) (by simp [Value.oneCell']) (by omega) (by unfold maxLen; omega) (by omega) (by simp; omega) (wr.heap.size + 1) (by simp) ?_; intro g2 cap2 w2 hown2 hgrow hat hltg)
                  have hb2 : Below W3.heap.size W3 w2 := (hnx4.alloc hsz _).grown hgrow (by rw [size_alloc]; omega) (fun j hj => (hown.lt j hj).1)
                  have ho2 : w2.ownsRow W3.heap.size 5 1 (.slice (some ⟨g2, 0, none⟩) (4 * (k + 1)) cap2) (4 * (k + 1)) ((outN st (k + 1)).map (Value.int .u8)) := by rw [HT.out, four4_eq y0 y1, List.map_append]; exact hown2
                  go_roundw
                  case rel => exact ⟨k + 1, g2, cap2, by omega, by go_num, rfl, ho2, hb2⟩
                  case measure => simp [Go.RowKit.intOf]; omega
                · have hk8 : k = 8 := by omega
                  subst hk8
                  have hconv := conv_b (ownB_of_row hown (outN_len st 8)) 0 32 cap (by rw [outN_len]; omega)
                  rw [List.drop_zero, List.take_of_length_le (by rw [outN_len]; omega)] at hconv
                  rw [← HD.out] at hconv
                  go_wp2
                  go_ret
                  exact ⟨rfl, hnx.trans (hnx4.mono hnx.size)⟩
end Go.Proofs.YtonleickhincgaaGreatDoor
/-
  What LeafHash and NodeHash answer, in the program and in the specification: 'leafA', 'nodeA'; the specification's l03Leaf and l03Node.
  Conditions: for the program's half the two tables lie as the program's text lays them.
-/
namespace Go.Proofs.YtonleickhincgaaGreatDoor
open Go.RowKit Go.Lib
set_option linter.unusedVariables false
set_option maxRecDepth 20000


theorem joined_three (a b c : ByteArray) (w : World) (h : a.size + b.size + c.size ≤ 70368744177664) :
    Calls Tryz.prog 37 #[.slice (some ⟨w.heap.size, 0, none⟩) 3 3] (w.alloc (.cells #[.string a, .string b, .string c] 9))
      fun e w' => e = .returned (.string (a ++ b ++ c)) ∧ Below w.heap.size w w' := by
  have e : cat [a, b, c] = a ++ b ++ c := by apply ByteArray.ext; simp [cat]
  have := joined_new [a, b, c] w (by simp) (by rw [e]; simpa using h)
  rw [e] at this
  exact this

set_option maxHeartbeats 400000 in
theorem specL03Leaf_any (t : ByteArray) (w : World) (ht : t.size ≤ 1048576) :
    Calls Tryz.prog 51 #[.string t] w fun e w' => e = .returned (.string (leafB t)) ∧ Below w.heap.size w w' := by
  have hc := fun w => specAll_any (m0 ++ t) w (by rw [ByteArray.size_append, show m0.size = 1 from rfl]; omega)
  rw [show digB (m0 ++ t) = leafB t from rfl] at hc
  have HM : Hid ((⟨#[0]⟩ : ByteArray) ++ t = m0 ++ t) := rfl
  generalize leafB t = L at *
  go_enter Tryz.func51, Tryz.ntmps51
  go_wp2_with (go_at_call 52; rw [HM.out]; refine (hc _).mono ?_; rintro e w1 ⟨rfl, hb⟩)
  go_ret
  exact ⟨rfl, hb⟩
set_option maxHeartbeats 400000 in
theorem specL03Node_any (l r : ByteArray) (w : World) (hl : l.size ≤ 1048576) (hr : r.size ≤ 1048576) :
    Calls Tryz.prog 85 #[.string l, .string r] w fun e w' => e = .returned (.string (nodeB l r)) ∧ Below w.heap.size w w' := by
  have hc := fun w => specAll_any (m1 ++ l ++ r) w (by rw [ByteArray.size_append, ByteArray.size_append, show m1.size = 1 from rfl]; omega)
  rw [show digB (m1 ++ l ++ r) = nodeB l r from rfl] at hc
  have HM : Hid ((⟨#[1]⟩ : ByteArray) ++ l ++ r = m1 ++ l ++ r) := rfl
  generalize nodeB l r = L at *
  go_enter Tryz.func85, Tryz.ntmps85
  go_wp2_with (go_at_call 52; rw [HM.out]; refine (hc _).mono ?_; rintro e w1 ⟨rfl, hb⟩)
  go_ret
  exact ⟨rfl, hb⟩

set_option maxHeartbeats 400000 in
theorem implLeaf_any (t : ByteArray) (w : World) (hT : Tabs w) (ht : t.size ≤ maxLen) :
    Calls Tryz.prog 132 #[.string t] w fun e w' => e = .returned (.string (leafA t)) ∧ Below w.heap.size w w' := by
  have HT : Hid (Tabs w) := hT
  clear hT
  unfold maxLen at ht
  by_cases h : t.size ≤ 100
  · have H : Hid (leafA t = digB (m0 ++ t)) := if_pos h
    go_enter Tryz.func132, Tryz.ntmps132
    go_wp2_with fail
    refine (joined_two m0 t _ (by rw [show m0.size = 1 from rfl]; omega)).mono ?_
    rintro e w1 ⟨rfl, b1⟩
    go_wp2_with fail
    refine (digI_any (m0 ++ t) _ (by rw [ByteArray.size_append, show m0.size = 1 from rfl]; omega) (HT.out.below b1 HT.out.1)).mono ?_
    rintro e w2 ⟨rfl, b2⟩
    go_wp2_with fail
    go_ret
    exact ⟨ret_str H.out.symm, chainB b1 b2⟩
  · have H : Hid (leafA t = ByteArray.empty) := if_neg h
    go_enter Tryz.func132, Tryz.ntmps132
    go_wp2
    go_ret
    exact ⟨ret_str H.out.symm, Below.refl _ _⟩
theorem two_texts (w : World) (a b : ByteArray) (t : TypeId) : TxtAt (w.alloc (.cells #[.string a, .string b] t)) (some ⟨w.heap.size, 0, none⟩) [a, b] :=
  fun i h => ⟨_, _, rfl, by simp, new_texts w [a, b] t i h⟩
set_option maxHeartbeats 400000 in
theorem implNode_any (l r : ByteArray) (w : World) (hT : Tabs w) (hl : l.size ≤ maxLen) (hr : r.size ≤ maxLen) :
    Calls Tryz.prog 200 #[.string l, .string r] w fun e w' => e = .returned (.string (nodeA l r)) ∧ Below w.heap.size w w' := by
  have HT : Hid (Tabs w) := hT
  clear hT
  unfold maxLen at hl hr
  have B0 : Hid (Below w.heap.size w (w.alloc (.cells #[.string l, .string r] 9))) := (Below.refl _ _).alloc (Nat.le_refl _) _
  by_cases h : l.size = 32 ∧ r.size = 32
  · obtain ⟨h1, h2⟩ := h
    have H : Hid (nodeA l r = digB (m1 ++ l ++ r)) := if_pos ⟨h1, h2⟩
    have HJ : Hid (Calls Tryz.prog 37 #[.slice (some ⟨w.heap.size + 1, 0, none⟩) 3 3] ((w.alloc (.cells #[.string l, .string r] 9)).alloc (.cells #[.string m1, .string l, .string r] 9))
        fun e w' => e = .returned (.string (m1 ++ l ++ r)) ∧ Below (w.alloc (.cells #[.string l, .string r] 9)).heap.size (w.alloc (.cells #[.string l, .string r] 9)) w') := by
      have := joined_three m1 l r (w.alloc (.cells #[.string l, .string r] 9)) (by rw [show m1.size = 1 from rfl]; omega)
      rw [show (w.alloc (.cells #[.string l, .string r] 9)).heap.size = w.heap.size + 1 by simp] at this ⊢
      exact this
    have HW : Hid (wideB [l, r] = true) := by show _ = _; simp [wideB, h1, h2]
    go_enter Tryz.func200, Tryz.ntmps200
    go_wp2_with fail
    refine (areD_any _ 2 [l, r] _ (two_texts w l r _) (by simp) (by simp)).mono ?_
    rintro e w1 ⟨he, rfl⟩
    rw [HW.out] at he
    subst he
    go_wp2_with fail
    refine (HJ.out).mono ?_
    rintro e w1 ⟨rfl, b1⟩
    have b1 := chainB B0.out b1
    go_wp2_with fail
    refine (digI_any (m1 ++ l ++ r) _ (by rw [ByteArray.size_append, ByteArray.size_append, show m1.size = 1 from rfl]; omega) (HT.out.below b1 HT.out.1)).mono ?_
    rintro e w2 ⟨rfl, b2⟩
    go_wp2_with fail
    go_ret
    exact ⟨ret_str H.out.symm, chainB b1 b2⟩
  · have H : Hid (nodeA l r = ByteArray.empty) := if_neg h
    have HW : Hid (wideB [l, r] = false) := by show _ = _; simp only [wideB, List.all_cons, List.all_nil, Bool.and_true]; simpa [Bool.and_eq_false_iff] using fun a b => h ⟨a, b⟩
    clear h
    go_enter Tryz.func200, Tryz.ntmps200
    go_wp2_with fail
    refine (areD_any _ 2 [l, r] _ (two_texts w l r _) (by simp) (by simp)).mono ?_
    rintro e w1 ⟨he, rfl⟩
    rw [HW.out] at he
    subst he
    go_wp2_with fail
    go_ret
    exact ⟨ret_str H.out.symm, B0.out⟩
end Go.Proofs.YtonleickhincgaaGreatDoor
