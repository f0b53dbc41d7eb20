/-
  What the laws' own helpers answer for slices of rules: szRuleS, toRuleS (a copy in new memory), eqRuleS (of two that are alike).
  Conditions: the slices' cells hold the rules.
-/
import Derived.Test.YteehhpmmnpajmaaRows
import Derived.Test.YteehhpmmnpajmaaBytes
import Derived.Test.YteehhpmmnpajmaaSlA
import Derived.Test.YteehhpmmnpajmaaSlB
import Derived.Test.YteehhpmmnpajmaaOwnS
import Derived.Test.YteehhpmmnpajmaaBxK
import Derived.Test.YteehhpmmnpajmaaRulMath
import Derived.Test.YteehhpmmnpajmaaRulBlk
import Derived.Handy
import Derived.WalkSpells
import Derived.OwnWalk
import Derived.Deep.RegionLaw
import Derived.Deep.RegionWith
namespace Go.Proofs.Yteehhpmmnpajmaa
open Go.RowKit Go.Lib
set_option linter.unusedVariables false
set_option maxRecDepth 20000

set_option maxHeartbeats 1000000 in
theorem szRul_any (k f : ByteArray) (l m : Int) (n : Int) (w : World) (l0 : 0 ≤ n) (l1 : n ≤ 1048576) (h1 : k.size ≤ 9223372036854775807) (h2 : f.size ≤ 9223372036854775807) :
    Calls Try.prog 27 #[.agg #[.string k, .string f, .int .i64 l, .int .i64 m], .int .i64 n] w fun e w' => (∃ r : Int, e = .returned (.int .i64 r) ∧ (r = -1 ∨ (0 ≤ r ∧ r ≤ n))) ∧ Below w.heap.size w w' := by
  have B1 : Below w.heap.size w (w.alloc (.cells #[.string k, .string f, .int .i64 l, .int .i64 m] 50)) := (Below.refl _ _).alloc (Nat.le_refl _) _
  by_cases k1 : (k.size : Int) ≤ n
  · by_cases k2 : (k.size : Int) + f.size ≤ n
    · go_enter Try.func27, Try.ntmps27
      go_wp2
      go_ret
      exact ⟨⟨_, rfl, .inr ⟨by omega, by omega⟩⟩, B1⟩
    · go_enter Try.func27, Try.ntmps27
      go_wp2
      go_ret
      exact ⟨⟨_, rfl, .inl rfl⟩, B1⟩
  · go_enter Try.func27, Try.ntmps27
    go_wp2
    go_ret
    exact ⟨⟨_, rfl, .inl rfl⟩, B1⟩

def RulsBig (rs : List Rul) : Prop := ∀ r ∈ rs, r.k.size ≤ 9223372036854775807 ∧ r.f.size ≤ 9223372036854775807
set_option maxHeartbeats 1000000 in
theorem szU_any (l0 : Int) (l00 : 0 ≤ l0) (l01 : l0 ≤ 1048576) (p : Option Addr) (cap : Nat) (fs : List Rul) (w : World) (hp : RulAt w p fs) (hn : fs.length ≤ 9223372036854775807) (hcap : fs.length ≤ cap) (hs : RulsBig fs) :
    Calls Try.prog 57 #[.slice p fs.length cap, .int .i64 l0] w fun e w' => (∃ r : Int, e = .returned (.int .i64 r) ∧ (r = -1 ∨ (0 ≤ r ∧ r ≤ l0 ∧ fs.length ≤ 1048576))) ∧ Below w.heap.size w w' := by
  have HP : Hid (RulAt w p fs) := hp
  have HS : Hid (RulsBig fs) := hs
  clear hp hs
  by_cases hl : (fs.length : Int) ≤ l0
  · go_enter Try.func57, Try.ntmps57
    go_wp2_with fail
    go_loopw [5, 1] (fun i x wr => ∃ (k : Nat) (l : Int), k ≤ fs.length ∧ i = .int .i64 k ∧ x = .int .i64 l ∧ 0 ≤ l ∧ l ≤ l0 ∧ Hid (Below w.heap.size w wr)) (fun i _ _ => fs.length - (intOf i).toNat)
    case atStart => exact ⟨0, _, Nat.zero_le _, rfl, rfl, by omega, by omega, Below.refl _ _⟩
    case round =>
      obtain ⟨k, l, hk, rfl, rfl, hl0, hl1, HB⟩ := hrel
      by_cases hlt : k < fs.length
      · obtain ⟨b, off, rfl, hb, hc1, hc2, hc3, hc4⟩ := (HP.out.below HB.out) k hlt
        have hsz := HS.out fs[k] (List.getElem_mem hlt)
        have j5 : (k : Int) < fs.length := by omega
        generalize fs[k] = f at *
        obtain ⟨n, c, s, v⟩ := f
        have hc1 : wr.cell? ⟨b, off + k * 4, none⟩ = some (.string n) := hc1
        have hc2 : wr.cell? ⟨b, off + k * 4 + 1, none⟩ = some (.string c) := hc2
        have hc3 : wr.cell? ⟨b, off + k * 4 + 2, none⟩ = some (.int .i64 s) := hc3
        have hc4 : wr.cell? ⟨b, off + k * 4 + 3, none⟩ = some (.int .i64 v) := hc4
        have hS := szRul_any n c s v l wr hl0 (by omega) hsz.1 hsz.2
        clear hsz
        go_wp2_with fail
        refine hS.mono ?_
        rintro e w1 ⟨⟨r, rfl, hr⟩, b1⟩
        have HB1 : Hid (Below w.heap.size w w1) := chainB HB.out b1
        clear b1 HB hS hc1 hc2 hc3 hc4
        rcases hr with rfl | ⟨r0, r1⟩
        · go_wp2_with fail
          go_ret
          exact ⟨⟨_, rfl, .inl rfl⟩, HB1.out⟩
        · have dl : decide (r < 0) = false := decide_eq_false (by omega)
          go_wp2_with fail
          go_roundw
          case rel => exact ⟨k + 1, r, by omega, by go_num, rfl, by omega, by omega, HB1⟩
          case measure => simp [intOf]; omega
      · go_wp2_with fail
        go_ret
        exact ⟨⟨_, rfl, .inr ⟨hl0, by omega, by omega⟩⟩, HB.out⟩
  · go_enter Try.func57, Try.ntmps57
    go_wp2_with fail
    go_ret
    exact ⟨⟨_, rfl, .inl rfl⟩, Below.refl _ _⟩

theorem toRul_any (k f : ByteArray) (l m : Int) (w : World) :
    Calls Try.prog 28 #[.agg #[.string k, .string f, .int .i64 l, .int .i64 m]] w fun e w' => e = .returned (.agg #[.string k, .string f, .int .i64 l, .int .i64 m]) ∧ Below w.heap.size w w' := by
  have B1 : Below w.heap.size w (((w.alloc (.cells #[.string k, .string f, .int .i64 l, .int .i64 m] 50)).alloc (.cells #[.string k, .string f, .int .i64 l, .int .i64 m] 28)).alloc (.cells #[.string k, .string f, .int .i64 l, .int .i64 m] 28)) := alB (alB (alB (Below.refl _ _) _) _) _
  go_enter Try.func28, Try.ntmps28
  go_wp2_with fail
  refine bodyPost_ret (v := .agg #[.string k, .string f, .int .i64 l, .int .i64 m]) (by simp [results, Try.results28, go_sem]) rfl ?_
  exact ⟨rfl, B1⟩

def cutU (fs : List Rul) (k : Nat) : List Rul := fs.take k ++ List.replicate (fs.length - k) rulE
theorem cutU_len (fs : List Rul) (k : Nat) (h : k ≤ fs.length) : (cutU fs k).length = fs.length := by simp [cutU]; omega
theorem cutU_set (fs : List Rul) (k : Nat) (h : k < fs.length) : (cutU fs k).set k fs[k] = cutU fs (k + 1) := by
  unfold cutU
  rw [show fs.length - k = (fs.length - (k + 1)) + 1 by omega, List.replicate_succ]
  have hl : (fs.take k).length = k := by simp; omega
  rw [List.set_append_right _ _ (by omega), hl, Nat.sub_self, List.set_cons_zero, List.take_succ_eq_append_getElem h, List.append_assoc]; rfl

set_option maxHeartbeats 2000000 in
theorem toU_any (p : Option Addr) (cap : Nat) (fs : List Rul) (w : World) (hp : RulAt w p fs) (hn : fs.length ≤ 1048576) (hcap : fs.length ≤ cap) :
    Calls Try.prog 59 #[.slice p fs.length cap] w fun e w' => e = .returned (.slice (some ⟨w.heap.size, 0, none⟩) fs.length fs.length) ∧ BlkU w' w.heap.size fs ∧ Below w.heap.size w w' := by
  have HP : Hid (RulAt w p fs) := hp
  clear hp
  obtain ⟨W1, hW1⟩ : ∃ W1, W1 = w.alloc (.cells (rulRow (List.replicate fs.length rulE)).toArray 28) := ⟨_, rfl⟩
  have hmk := run_make_rul fs.length hn w
  rw [← hW1] at hmk
  have H0 : Hid (BlkU W1 w.heap.size (cutU fs 0)) := by
    have : BlkU W1 w.heap.size (List.replicate fs.length rulE) := by rw [hW1]; exact alloc_rul _ _
    show BlkU _ _ _
    unfold cutU; simpa using this
  have B0 : Hid (Below w.heap.size w W1) := by rw [hW1]; exact (Below.refl _ _).alloc (Nat.le_refl _) _
  clear hW1
  go_enter Try.func59, Try.ntmps59
  go_wp2_with fail
  go_loopw [4] (fun i wr => ∃ k : Nat, k ≤ fs.length ∧ i = .int .i64 k ∧ Hid (BlkU wr w.heap.size (cutU fs k)) ∧ Hid (Below w.heap.size w wr)) (fun i _ => fs.length - (intOf i).toNat)
  case atStart => exact ⟨0, Nat.zero_le _, rfl, H0, B0⟩
  case round =>
    clear H0 hmk B0
    obtain ⟨k, hk, rfl, hrow, hnx⟩ := hrel
    have hsz := Bxs.lt hrow.out
    by_cases hlt : k < fs.length
    · have i1 : (k : Int) < fs.length := by omega
      obtain ⟨b, off, rfl, hb, hc1, hc2, hc3, hc4⟩ := HP.out k hlt
      have hc1 := (hnx.out.cell (p := ⟨b, off + k * 4, none⟩) hb).trans hc1
      have hc2 := (hnx.out.cell (p := ⟨b, off + k * 4 + 1, none⟩) hb).trans hc2
      have hc3 := (hnx.out.cell (p := ⟨b, off + k * 4 + 2, none⟩) hb).trans hc3
      have hc4 := (hnx.out.cell (p := ⟨b, off + k * 4 + 3, none⟩) hb).trans hc4
      have hlen := cutU_len fs k hk
      have hset := cutU_set fs k hlt
      have HS : Hid (∀ y, Below wr.heap.size wr y → (∃ x1 x2 x3 x4, y.cell? ⟨w.heap.size, k * 4, none⟩ = some x1 ∧ y.cell? ⟨w.heap.size, k * 4 + 1, none⟩ = some x2 ∧ y.cell? ⟨w.heap.size, k * 4 + 2, none⟩ = some x3 ∧ y.cell? ⟨w.heap.size, k * 4 + 3, none⟩ = some x4) ∧ (y.frozen? ⟨w.heap.size, k * 4, none⟩ = false ∧ y.frozen? ⟨w.heap.size, k * 4 + 1, none⟩ = false ∧ y.frozen? ⟨w.heap.size, k * 4 + 2, none⟩ = false ∧ y.frozen? ⟨w.heap.size, k * 4 + 3, none⟩ = false) ∧ Hid (∀ f, fs[k] = f → BlkU (set4u y w.heap.size (k * 4) f) w.heap.size (cutU fs (k + 1)) ∧ Below w.heap.size w (set4u y w.heap.size (k * 4) f))) := fun y hb => by
        have h := hrow.out.below hb
        obtain ⟨g1, g3⟩ := h.cells k (by omega)
        refine ⟨⟨_, _, _, _, g1⟩, g3, fun f he => ?_⟩
        rw [← hset, he]
        exact ⟨h.set4u k f, set4u_below (chainB hnx.out hb) (Nat.le_refl _) _ _⟩
      clear hset hrow
      generalize fs[k] = f at *
      obtain ⟨n, c, s, v⟩ := f
      have hc1 : wr.cell? ⟨b, off + k * 4, none⟩ = some (.string n) := hc1
      have hc2 : wr.cell? ⟨b, off + k * 4 + 1, none⟩ = some (.string c) := hc2
      have hc3 : wr.cell? ⟨b, off + k * 4 + 2, none⟩ = some (.int .i64 s) := hc3
      have hc4 : wr.cell? ⟨b, off + k * 4 + 3, none⟩ = some (.int .i64 v) := hc4
      go_wp2_with fail
      refine (toRul_any n c s v wr).mono ?_
      rintro e y ⟨rfl, b1⟩
      obtain ⟨⟨x1, x2, x3, x4, g1, g2, g3, g4⟩, ⟨f1, f2, f3, f4⟩, HE⟩ := HS.out y b1
      obtain ⟨W5, hW5⟩ : ∃ W5, W5 = set4u y w.heap.size (k * 4) ⟨n, c, s, v⟩ := ⟨_, rfl⟩
      have HE2 : Hid (BlkU W5 w.heap.size (cutU fs (k + 1))) := by rw [hW5]; exact (HE.out _ rfl).1
      have HE3 : Hid (Below w.heap.size w W5) := by rw [hW5]; exact (HE.out _ rfl).2
      have HW5 : Hid (W5 = set4u y w.heap.size (k * 4) ⟨n, c, s, v⟩) := hW5
      clear HS HE b1 hc1 hc2 hc3 hc4 hW5
      go_wp2_with fail
      go_roundw
      case rel =>
        have e5 := HW5.out
        unfold set4u at e5
        rw [← e5]
        exact ⟨k + 1, by omega, by go_num, HE2, HE3⟩
      case measure => simp [intOf]; omega
    · have hkk : k = fs.length := by omega
      subst hkk
      have HR : Hid (BlkU wr w.heap.size fs) := by
        have := hrow.out; unfold cutU at this; show BlkU _ _ _; simpa using this
      go_wp2_with fail
      go_ret
      exact ⟨rfl, HR.out, hnx.out⟩

theorem eqRul_any (k f : ByteArray) (l m : Int) (w : World) :
    Calls Try.prog 83 #[.agg #[.string k, .string f, .int .i64 l, .int .i64 m], .agg #[.string k, .string f, .int .i64 l, .int .i64 m]] w fun e w' => e = .returned (.bool true) ∧ Below w.heap.size w w' := by
  have B1 : Below w.heap.size w ((w.alloc (.cells #[.string k, .string f, .int .i64 l, .int .i64 m] 28)).alloc (.cells #[.string k, .string f, .int .i64 l, .int .i64 m] 28)) := alB (alB (Below.refl _ _) _) _
  go_enter Try.func83, Try.ntmps83
  go_wp2_with fail
  go_ret
  exact ⟨rfl, B1⟩

set_option maxHeartbeats 1000000 in
theorem eqU_any (p q : Option Addr) (cap cap2 : Nat) (fs : List Rul) (w : World) (hp : RulAt w p fs) (hq : RulAt w q fs) (hn : fs.length ≤ 1048576) (hcap : fs.length ≤ cap) (hcap2 : fs.length ≤ cap2) :
    Calls Try.prog 61 #[.slice p fs.length cap, .slice q fs.length cap2] w fun e w' => e = .returned (.bool true) ∧ Below w.heap.size w w' := by
  have HP : Hid (RulAt w p fs) := hp
  have HQ : Hid (RulAt w q fs) := hq
  clear hp hq
  go_enter Try.func61, Try.ntmps61
  go_wp2_with fail
  go_loopw [5] (fun i wr => ∃ k : Nat, k ≤ fs.length ∧ i = .int .i64 k ∧ Hid (Below w.heap.size w wr)) (fun i _ => fs.length - (intOf i).toNat)
  case atStart => exact ⟨0, Nat.zero_le _, rfl, Below.refl _ _⟩
  case round =>
    obtain ⟨k, hk, rfl, HB⟩ := hrel
    by_cases hlt : k < fs.length
    · obtain ⟨b, off, rfl, hb, hc1, hc2, hc3, hc4⟩ := (HP.out.below HB.out) k hlt
      obtain ⟨b2, off2, rfl, hb2, hd1, hd2, hd3, hd4⟩ := (HQ.out.below HB.out) k hlt
      have j5 : (k : Int) < fs.length := by omega
      generalize fs[k] = f at *
      obtain ⟨n, c, s, v⟩ := f
      have hc1 : wr.cell? ⟨b, off + k * 4, none⟩ = some (.string n) := hc1
      have hc2 : wr.cell? ⟨b, off + k * 4 + 1, none⟩ = some (.string c) := hc2
      have hc3 : wr.cell? ⟨b, off + k * 4 + 2, none⟩ = some (.int .i64 s) := hc3
      have hc4 : wr.cell? ⟨b, off + k * 4 + 3, none⟩ = some (.int .i64 v) := hc4
      have hd1 : wr.cell? ⟨b2, off2 + k * 4, none⟩ = some (.string n) := hd1
      have hd2 : wr.cell? ⟨b2, off2 + k * 4 + 1, none⟩ = some (.string c) := hd2
      have hd3 : wr.cell? ⟨b2, off2 + k * 4 + 2, none⟩ = some (.int .i64 s) := hd3
      have hd4 : wr.cell? ⟨b2, off2 + k * 4 + 3, none⟩ = some (.int .i64 v) := hd4
      go_wp2_with fail
      go_region_with (first | (go_at_call 83; refine (eqRul_any n c s v _).mono ?_; rintro e y1 ⟨rfl, z1⟩; have z1 : Below w.heap.size w y1 := chainB (by first | exact HB.out | exact HB.out.drew) z1))
      all_goals
        have HB1 : Hid (Below w.heap.size w y1) := z1
        clear z1
        go_wp2_with fail
        go_roundw
        case rel => exact ⟨k + 1, by omega, by go_num, HB1⟩
        case measure => simp [intOf]; omega
    · go_wp2_with fail
      go_ret
      exact ⟨rfl, HB.out⟩
end Go.Proofs.Yteehhpmmnpajmaa
