/-
  What l05Keep draws: at most 13 numbers, in a row of its own.
-/
import Derived.Test.YthiokdiodgdamabRows
import Derived.Test.YthiokdiodgdamabBytes
import Derived.Test.YthiokdiodgdamabSlA
import Derived.Test.YthiokdiodgdamabSlB
import Derived.Test.YthiokdiodgdamabOwnS
import Derived.Test.YthiokdiodgdamabSrc
import Derived.Test.YthiokdiodgdamabDraws
import Derived.Test.YthiokdiodgdamabDrawKit
import Derived.Test.YthiokdiodgdamabSome
import Derived.Test.YthiokdiodgdamabDskK
import Derived.Test.YthiokdiodgdamabLawI
import Derived.Handy
import Derived.WalkSpells
import Derived.OwnWalk
import Derived.Deep.AppendLies
namespace Go.Proofs.Ythiokdiodgdamab
open Go.RowKit Go.Lib
set_option linter.unusedVariables false
set_option maxRecDepth 20000

theorem ownI_form {w : World} {base : Nat} {v : Value} {l : List Int} (h : w.ownsRow base 2 1 v l.length (intRow l)) : ∃ p cap, v = .slice p l.length cap ∧ l.length ≤ cap ∧ IntAt w p l := by
  rcases h.2 with ⟨rfl, h0⟩ | ⟨g, cap, cur, rfl, h2, h3, h4, h5, h6, h7⟩
  · have hl : l = [] := List.length_eq_zero_iff.1 h0
    subst hl
    exact ⟨none, 0, rfl, Nat.le_refl _, IntAt.nil _ _⟩
  · refine ⟨some ⟨g, 0, none⟩, cap, rfl, h4, fun i hi => ⟨g, 0, rfl, lt_of_block h3, ?_⟩⟩
    have h8 : (cur.toList.take (l.length * 1))[i]? = some (.int .i64 l[i]) := by rw [h7]; simp [intRow, hi]
    rw [List.getElem?_take_of_lt (by omega)] at h8
    rw [Nat.zero_add]
    simpa [World.cell?, h3] using h8
set_option maxHeartbeats 4000000 in
theorem keep_any (B p : Nat) (a : Option Addr) (len cap : Nat) (w : World) (hs : Src 70 B p a len cap w) :
    Calls Try.prog 30 #[.pointer (some ⟨p, 0, none⟩)] w fun e w' =>
      (∃ (v : Value) (L : List Int), e = .returned v ∧ w'.ownsRow w.heap.size 2 1 v L.length (intRow L) ∧ L.length ≤ 13) ∧ Src 70 B p a len cap w' ∧ w.grownBy w' (some p) := by
  have hp := hs.lt
  obtain ⟨i0, hi, hy0, hy1, hy2⟩ := info_parts infoI64k
  have HS : Hid (Src 70 B p a len cap (w.alloc (.cells #[] 2))) := hs.below ((Below.refl _ _).alloc (Nat.le_refl _) _)
  clear hs
  go_enter Try.func30, Try.ntmps30
  go_wp2_with fail
  refine (n_any B p a len cap 14 _ HS.out (by omega)).mono ?_
  rintro e w1 ⟨⟨r, rfl, hr0, hr1, hr2⟩, hs1, hg1⟩
  have hr : r ≤ 13 := by
    have := hr1 (by omega)
    omega
  have HS1 : Hid (Src 70 B p a len cap w1) := hs1
  have hg0 := hg1
  have hg1 := touch_trans (World.grownBy_alloc w (.cells #[] 2) (some p)) hg1
  have hsz1 := hg1.size
  have ho0 : (w.alloc (.cells #[] 2)).ownsRow w.heap.size 2 1 (.slice (some ⟨w.heap.size, 0, none⟩) 0 0) ([] : List Int).length (intRow []) := World.ownsRow_made w #[] 0 (Nat.le_refl _) (by unfold maxLen; omega) rfl
  have ho1 : w1.ownsRow w.heap.size 2 1 (.slice (some ⟨w.heap.size, 0, none⟩) 0 0) ([] : List Int).length (intRow []) := ho0.kept hg0 (.inr (by show some w.heap.size ≠ some p; simp; omega))
  obtain ⟨k1, rfl⟩ := Int.eq_ofNat_of_zero_le hr0
  clear hs1 HS hr1 hr2 hg0 ho0
  go_wp2_with fail
  go_loopw [3, 4] (fun v i wr => ∃ (k : Nat) (L : List Int) (v0 : Value), v0 = v ∧ i = .int .i64 k ∧ L.length + k ≤ 13 ∧ Hid (wr.ownsRow w.heap.size 2 1 v L.length (intRow L)) ∧ Hid (Src 70 B p a len cap wr) ∧ Hid (w.grownBy wr (some p))) (fun _ i _ => (intOf i).toNat)
  case atStart => exact ⟨k1, [], _, rfl, rfl, by simp; omega, ho1, HS1, hg1⟩
  case round =>
    clear ho1 HS1 hg1 hsz1
    obtain ⟨k, L, v, rfl, rfl, hk, HO, HS, HG⟩ := hrel
    have hsz := HG.out.size
    obtain ⟨q, cq, rfl, hcq, _⟩ := ownI_form HO.out
    by_cases hlt : 0 < (k : Int)
    · go_wp2_with fail
      refine (n_any B p a len cap 2 _ HS.out (by omega)).mono ?_
      rintro e w4 ⟨⟨r, rfl, r0, r1, _⟩, hs4, hg4⟩
      have hgw := touch_trans HG.out hg4
      have HO4 := HO.out.kept hg4 (.inr (fun e => by have := (HO.out.lt p e).1; omega))
      have hsz4 := hgw.size
      have HGW : Hid (w.grownBy w4 (some p)) := hgw
      have HS4 : Hid (Src 70 B p a len cap w4) := hs4
      clear hs4 hg4 hgw r0 r1
      go_wp2_with (at_builtin; refine wpList_append_lies _ rfl _ _ 32 rfl w.heap.size 2 i0 (.int .i64 0) 1 8 Try.underlying32 hi hy0 hy1 hy2 rfl (by omega) _ L.length (intRow L) rfl (HO4.alloc _) ⟨w4.heap.size, 0, none⟩ 1 1 [.int .i64 r] rfl rfl (World.news_of_block (cs := #[.int .i64 r]) (t := 2) (fr := (0, 0)) (MapKept.heap_alloc w4 _).1) (by simp [Value.oneCell']) (by omega) (by unfold maxLen; omega) (by omega) (by simp; omega) (w4.heap.size + 1) (by simp) ?_; intro g2 cap2 w5 hown2 hgrow hat hltg)
      obtain ⟨hs5, hg6⟩ := app_leaves HO4 HS4.out hp HGW.out hgrow
      have e1 : (L ++ [r]).length = L.length + 1 := by simp
      have e2 : intRow (L ++ [r]) = intRow L ++ [.int .i64 r] := by simp [intRow]
      go_roundw
      case rel => exact ⟨k - 1, L ++ [r], _, rfl, by go_num, by simp; omega, by show World.ownsRow _ _ _ _ _ _ _; rw [e1, e2]; exact hown2, hs5, hg6⟩
      case measure => simp [intOf]; omega
    · go_wp2_with fail
      go_ret
      exact ⟨⟨_, rfl, L, HO.out, by omega⟩, HS.out, HG.out⟩
end Go.Proofs.Ythiokdiodgdamab
