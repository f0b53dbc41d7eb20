/-
  Parts of one proof, laid as one text: LawRl, LawI, LawOG, LawIm; what each says stands at its head.
-/
import Derived.Test.YtifomfimfdgjjaaGreatDoorRows
import Derived.Test.YtifomfimfdgjjaaGreatDoorBytesDigMath
import Derived.Test.YtifomfimfdgjjaaGreatDoorSlASlBBxKTakesOwnS
import Derived.Test.YtifomfimfdgjjaaGreatDoorOpFOpLgBlNotRulMathIntKPolMath
import Derived.Test.YtifomfimfdgjjaaGreatDoorOpPAppSRulBlk
import Derived.Handy
import Derived.WalkSpells
import Derived.OwnWalk
import Derived.Deep.RegionLaw
import Derived.Deep.RegionWith
import Derived.Deep.QuietTactic
import Derived.BigQuiet
/-
  What the laws' own helpers answer for slices of rules: szRuleS, toRuleS (a copy in new memory), eqRuleS (of two that are alike).
  Conditions: the slices' cells hold the rules.
-/
namespace Go.Proofs.YtifomfimfdgjjaaGreatDoor
open Go.RowKit Go.Lib
set_option linter.unusedVariables false
set_option maxRecDepth 20000

set_option maxHeartbeats 1000000 in
theorem szRul_any (k f : ByteArray) (l m : Int) (n : Int) (w : World) (l0 : 0 ≤ n) (l1 : n ≤ 1048576) (h1 : k.size ≤ 9223372036854775807) (h2 : f.size ≤ 9223372036854775807) :
    Calls Tryz.prog 81 #[.agg #[.string k, .string f, .int .i64 l, .int .i64 m], .int .i64 n] w fun e w' => (∃ r : Int, e = .returned (.int .i64 r) ∧ (r = -1 ∨ (0 ≤ r ∧ r ≤ n))) ∧ Below w.heap.size w w' := by
  have B1 : Below w.heap.size w (w.alloc (.cells #[.string k, .string f, .int .i64 l, .int .i64 m] 124)) := (Below.refl _ _).alloc (Nat.le_refl _) _
  by_cases k1 : (k.size : Int) ≤ n
  · by_cases k2 : (k.size : Int) + f.size ≤ n
    · go_enter Tryz.func81, Tryz.ntmps81
      go_wp2
      go_ret
      exact ⟨⟨_, rfl, .inr ⟨by omega, by omega⟩⟩, B1⟩
    · go_enter Tryz.func81, Tryz.ntmps81
      go_wp2
      go_ret
      exact ⟨⟨_, rfl, .inl rfl⟩, B1⟩
  · go_enter Tryz.func81, Tryz.ntmps81
    go_wp2
    go_ret
    exact ⟨⟨_, rfl, .inl rfl⟩, B1⟩

def RulsBig (rs : List Rul) : Prop := ∀ r ∈ rs, r.k.size ≤ 9223372036854775807 ∧ r.f.size ≤ 9223372036854775807
set_option maxHeartbeats 1000000 in
theorem szU_any (l0 : Int) (l00 : 0 ≤ l0) (l01 : l0 ≤ 1048576) (p : Option Addr) (cap : Nat) (fs : List Rul) (w : World) (hp : RulAt w p fs) (hn : fs.length ≤ 9223372036854775807) (hcap : fs.length ≤ cap) (hs : RulsBig fs) :
    Calls Tryz.prog 41 #[.slice p fs.length cap, .int .i64 l0] w fun e w' => (∃ r : Int, e = .returned (.int .i64 r) ∧ (r = -1 ∨ (0 ≤ r ∧ r ≤ l0 ∧ fs.length ≤ 1048576))) ∧ Below w.heap.size w w' := by
  have HP : Hid (RulAt w p fs) := hp
  have HS : Hid (RulsBig fs) := hs
  clear hp hs
  by_cases hl : (fs.length : Int) ≤ l0
  · go_enter Tryz.func41, Tryz.ntmps41
    go_wp2_with fail
    go_loopw [5, 1] (fun i x wr => ∃ (k : Nat) (l : Int), k ≤ fs.length ∧ i = .int .i64 k ∧ x = .int .i64 l ∧ 0 ≤ l ∧ l ≤ l0 ∧ Hid (Below w.heap.size w wr)) (fun i _ _ => fs.length - (intOf i).toNat)
    case atStart => exact ⟨0, _, Nat.zero_le _, rfl, rfl, by omega, by omega, Below.refl _ _⟩
    case round =>
      obtain ⟨k, l, hk, rfl, rfl, hl0, hl1, HB⟩ := hrel
      by_cases hlt : k < fs.length
      · obtain ⟨b, off, rfl, hb, hc1, hc2, hc3, hc4⟩ := (HP.out.below HB.out) k hlt
        have hsz := HS.out fs[k] (List.getElem_mem hlt)
        have j5 : (k : Int) < fs.length := by omega
        generalize fs[k] = f at *
        obtain ⟨n, c, s, v⟩ := f
        have hc1 : wr.cell? ⟨b, off + k * 4, none⟩ = some (.string n) := hc1
        have hc2 : wr.cell? ⟨b, off + k * 4 + 1, none⟩ = some (.string c) := hc2
        have hc3 : wr.cell? ⟨b, off + k * 4 + 2, none⟩ = some (.int .i64 s) := hc3
        have hc4 : wr.cell? ⟨b, off + k * 4 + 3, none⟩ = some (.int .i64 v) := hc4
        have hS := szRul_any n c s v l wr hl0 (by omega) hsz.1 hsz.2
        clear hsz
        go_wp2_with fail
        refine hS.mono ?_
        rintro e w1 ⟨⟨r, rfl, hr⟩, b1⟩
        have HB1 : Hid (Below w.heap.size w w1) := chainB HB.out b1
        clear b1 HB hS hc1 hc2 hc3 hc4
        rcases hr with rfl | ⟨r0, r1⟩
        · go_wp2_with fail
          go_ret
          exact ⟨⟨_, rfl, .inl rfl⟩, HB1.out⟩
        · have dl : decide (r < 0) = false := decide_eq_false (by omega)
          go_wp2_with fail
          go_roundw
          case rel => exact ⟨k + 1, r, by omega, by go_num, rfl, by omega, by omega, HB1⟩
          case measure => simp [intOf]; omega
      · go_wp2_with fail
        go_ret
        exact ⟨⟨_, rfl, .inr ⟨hl0, by omega, by omega⟩⟩, HB.out⟩
  · go_enter Tryz.func41, Tryz.ntmps41
    go_wp2_with fail
    go_ret
    exact ⟨⟨_, rfl, .inl rfl⟩, Below.refl _ _⟩

theorem toRul_any (k f : ByteArray) (l m : Int) (w : World) :
    Calls Tryz.prog 92 #[.agg #[.string k, .string f, .int .i64 l, .int .i64 m]] w fun e w' => e = .returned (.agg #[.string k, .string f, .int .i64 l, .int .i64 m]) ∧ Below w.heap.size w w' := by
  have B1 : Below w.heap.size w (((w.alloc (.cells #[.string k, .string f, .int .i64 l, .int .i64 m] 124)).alloc (.cells #[.string k, .string f, .int .i64 l, .int .i64 m] 71)).alloc (.cells #[.string k, .string f, .int .i64 l, .int .i64 m] 71)) := alB (alB (alB (Below.refl _ _) _) _) _
  go_enter Tryz.func92, Tryz.ntmps92
  go_wp2_with fail
  refine bodyPost_ret (v := .agg #[.string k, .string f, .int .i64 l, .int .i64 m]) (by simp [results, Tryz.results92, go_sem]) rfl ?_
  exact ⟨rfl, B1⟩

def cutU (fs : List Rul) (k : Nat) : List Rul := fs.take k ++ List.replicate (fs.length - k) rulE
theorem cutU_len (fs : List Rul) (k : Nat) (h : k ≤ fs.length) : (cutU fs k).length = fs.length := by simp [cutU]; omega
theorem cutU_set (fs : List Rul) (k : Nat) (h : k < fs.length) : (cutU fs k).set k fs[k] = cutU fs (k + 1) := by
  unfold cutU
  rw [show fs.length - k = (fs.length - (k + 1)) + 1 by omega, List.replicate_succ]
  have hl : (fs.take k).length = k := by simp; omega
  rw [List.set_append_right _ _ (by omega), hl, Nat.sub_self, List.set_cons_zero, List.take_succ_eq_append_getElem h, List.append_assoc]; rfl

set_option maxHeartbeats 2000000 in
theorem toU_any (p : Option Addr) (cap : Nat) (fs : List Rul) (w : World) (hp : RulAt w p fs) (hn : fs.length ≤ 1048576) (hcap : fs.length ≤ cap) :
    Calls Tryz.prog 48 #[.slice p fs.length cap] w fun e w' => e = .returned (.slice (some ⟨w.heap.size, 0, none⟩) fs.length fs.length) ∧ BlkU w' w.heap.size fs ∧ Below w.heap.size w w' := by
  have HP : Hid (RulAt w p fs) := hp
  clear hp
  obtain ⟨W1, hW1⟩ : ∃ W1, W1 = w.alloc (.cells (rulRow (List.replicate fs.length rulE)).toArray 71) := ⟨_, rfl⟩
  have hmk := run_make_rul fs.length hn w
  rw [← hW1] at hmk
  have H0 : Hid (BlkU W1 w.heap.size (cutU fs 0)) := by
    have : BlkU W1 w.heap.size (List.replicate fs.length rulE) := by rw [hW1]; exact alloc_rul _ _
    show BlkU _ _ _
    unfold cutU; simpa using this
  have B0 : Hid (Below w.heap.size w W1) := by rw [hW1]; exact (Below.refl _ _).alloc (Nat.le_refl _) _
  clear hW1
  go_enter Tryz.func48, Tryz.ntmps48
  go_wp2_with fail
  go_loopw [4] (fun i wr => ∃ k : Nat, k ≤ fs.length ∧ i = .int .i64 k ∧ Hid (BlkU wr w.heap.size (cutU fs k)) ∧ Hid (Below w.heap.size w wr)) (fun i _ => fs.length - (intOf i).toNat)
  case atStart => exact ⟨0, Nat.zero_le _, rfl, H0, B0⟩
  case round =>
    clear H0 hmk B0
    obtain ⟨k, hk, rfl, hrow, hnx⟩ := hrel
    have hsz := Bxs.lt hrow.out
    by_cases hlt : k < fs.length
    · have i1 : (k : Int) < fs.length := by omega
      obtain ⟨b, off, rfl, hb, hc1, hc2, hc3, hc4⟩ := HP.out k hlt
      have hc1 := (hnx.out.cell (p := ⟨b, off + k * 4, none⟩) hb).trans hc1
      have hc2 := (hnx.out.cell (p := ⟨b, off + k * 4 + 1, none⟩) hb).trans hc2
      have hc3 := (hnx.out.cell (p := ⟨b, off + k * 4 + 2, none⟩) hb).trans hc3
      have hc4 := (hnx.out.cell (p := ⟨b, off + k * 4 + 3, none⟩) hb).trans hc4
      have hlen := cutU_len fs k hk
      have hset := cutU_set fs k hlt
      have HS : Hid (∀ y, Below wr.heap.size wr y → (∃ x1 x2 x3 x4, y.cell? ⟨w.heap.size, k * 4, none⟩ = some x1 ∧ y.cell? ⟨w.heap.size, k * 4 + 1, none⟩ = some x2 ∧ y.cell? ⟨w.heap.size, k * 4 + 2, none⟩ = some x3 ∧ y.cell? ⟨w.heap.size, k * 4 + 3, none⟩ = some x4) ∧ (y.frozen? ⟨w.heap.size, k * 4, none⟩ = false ∧ y.frozen? ⟨w.heap.size, k * 4 + 1, none⟩ = false ∧ y.frozen? ⟨w.heap.size, k * 4 + 2, none⟩ = false ∧ y.frozen? ⟨w.heap.size, k * 4 + 3, none⟩ = false) ∧ Hid (∀ f, fs[k] = f → BlkU (set4u y w.heap.size (k * 4) f) w.heap.size (cutU fs (k + 1)) ∧ Below w.heap.size w (set4u y w.heap.size (k * 4) f))) := fun y hb => by
        have h := hrow.out.below hb
        obtain ⟨g1, g3⟩ := h.cells k (by omega)
        refine ⟨⟨_, _, _, _, g1⟩, g3, fun f he => ?_⟩
        rw [← hset, he]
        exact ⟨h.set4u k f, set4u_below (chainB hnx.out hb) (Nat.le_refl _) _ _⟩
      clear hset hrow
      generalize fs[k] = f at *
      obtain ⟨n, c, s, v⟩ := f
      have hc1 : wr.cell? ⟨b, off + k * 4, none⟩ = some (.string n) := hc1
      have hc2 : wr.cell? ⟨b, off + k * 4 + 1, none⟩ = some (.string c) := hc2
      have hc3 : wr.cell? ⟨b, off + k * 4 + 2, none⟩ = some (.int .i64 s) := hc3
      have hc4 : wr.cell? ⟨b, off + k * 4 + 3, none⟩ = some (.int .i64 v) := hc4
      go_wp2_with fail
      refine (toRul_any n c s v wr).mono ?_
      rintro e y ⟨rfl, b1⟩
      obtain ⟨⟨x1, x2, x3, x4, g1, g2, g3, g4⟩, ⟨f1, f2, f3, f4⟩, HE⟩ := HS.out y b1
      obtain ⟨W5, hW5⟩ : ∃ W5, W5 = set4u y w.heap.size (k * 4) ⟨n, c, s, v⟩ := ⟨_, rfl⟩
      have HE2 : Hid (BlkU W5 w.heap.size (cutU fs (k + 1))) := by rw [hW5]; exact (HE.out _ rfl).1
      have HE3 : Hid (Below w.heap.size w W5) := by rw [hW5]; exact (HE.out _ rfl).2
      have HW5 : Hid (W5 = set4u y w.heap.size (k * 4) ⟨n, c, s, v⟩) := hW5
      clear HS HE b1 hc1 hc2 hc3 hc4 hW5
      go_wp2_with fail
      go_roundw
      case rel =>
        have e5 := HW5.out
        unfold set4u at e5
        rw [← e5]
        exact ⟨k + 1, by omega, by go_num, HE2, HE3⟩
      case measure => simp [intOf]; omega
    · have hkk : k = fs.length := by omega
      subst hkk
      have HR : Hid (BlkU wr w.heap.size fs) := by
        have := hrow.out; unfold cutU at this; show BlkU _ _ _; simpa using this
      go_wp2_with fail
      go_ret
      exact ⟨rfl, HR.out, hnx.out⟩

theorem eqRul_any (k f : ByteArray) (l m : Int) (w : World) :
    Calls Tryz.prog 101 #[.agg #[.string k, .string f, .int .i64 l, .int .i64 m], .agg #[.string k, .string f, .int .i64 l, .int .i64 m]] w fun e w' => e = .returned (.bool true) ∧ Below w.heap.size w w' := by
  have B1 : Below w.heap.size w ((w.alloc (.cells #[.string k, .string f, .int .i64 l, .int .i64 m] 71)).alloc (.cells #[.string k, .string f, .int .i64 l, .int .i64 m] 71)) := alB (alB (Below.refl _ _) _) _
  go_enter Tryz.func101, Tryz.ntmps101
  go_wp2_with fail
  go_ret
  exact ⟨rfl, B1⟩

set_option maxHeartbeats 1000000 in
theorem eqU_any (p q : Option Addr) (cap cap2 : Nat) (fs : List Rul) (w : World) (hp : RulAt w p fs) (hq : RulAt w q fs) (hn : fs.length ≤ 1048576) (hcap : fs.length ≤ cap) (hcap2 : fs.length ≤ cap2) :
    Calls Tryz.prog 58 #[.slice p fs.length cap, .slice q fs.length cap2] w fun e w' => e = .returned (.bool true) ∧ Below w.heap.size w w' := by
  have HP : Hid (RulAt w p fs) := hp
  have HQ : Hid (RulAt w q fs) := hq
  clear hp hq
  go_enter Tryz.func58, Tryz.ntmps58
  go_wp2_with fail
  go_loopw [5] (fun i wr => ∃ k : Nat, k ≤ fs.length ∧ i = .int .i64 k ∧ Hid (Below w.heap.size w wr)) (fun i _ => fs.length - (intOf i).toNat)
  case atStart => exact ⟨0, Nat.zero_le _, rfl, Below.refl _ _⟩
  case round =>
    obtain ⟨k, hk, rfl, HB⟩ := hrel
    by_cases hlt : k < fs.length
    · obtain ⟨b, off, rfl, hb, hc1, hc2, hc3, hc4⟩ := (HP.out.below HB.out) k hlt
      obtain ⟨b2, off2, rfl, hb2, hd1, hd2, hd3, hd4⟩ := (HQ.out.below HB.out) k hlt
      have j5 : (k : Int) < fs.length := by omega
      generalize fs[k] = f at *
      obtain ⟨n, c, s, v⟩ := f
      have hc1 : wr.cell? ⟨b, off + k * 4, none⟩ = some (.string n) := hc1
      have hc2 : wr.cell? ⟨b, off + k * 4 + 1, none⟩ = some (.string c) := hc2
      have hc3 : wr.cell? ⟨b, off + k * 4 + 2, none⟩ = some (.int .i64 s) := hc3
      have hc4 : wr.cell? ⟨b, off + k * 4 + 3, none⟩ = some (.int .i64 v) := hc4
      have hd1 : wr.cell? ⟨b2, off2 + k * 4, none⟩ = some (.string n) := hd1
      have hd2 : wr.cell? ⟨b2, off2 + k * 4 + 1, none⟩ = some (.string c) := hd2
      have hd3 : wr.cell? ⟨b2, off2 + k * 4 + 2, none⟩ = some (.int .i64 s) := hd3
      have hd4 : wr.cell? ⟨b2, off2 + k * 4 + 3, none⟩ = some (.int .i64 v) := hd4
      go_wp2_with fail
      go_region_with (first | (go_at_call 101; refine (eqRul_any n c s v _).mono ?_; rintro e y1 ⟨rfl, z1⟩; have z1 : Below w.heap.size w y1 := chainB (by first | exact HB.out | exact HB.out.drew) z1))
      all_goals
        have HB1 : Hid (Below w.heap.size w y1) := z1
        clear z1
        go_wp2_with fail
        go_roundw
        case rel => exact ⟨k + 1, by omega, by go_num, HB1⟩
        case measure => simp [intOf]; omega
    · go_wp2_with fail
      go_ret
      exact ⟨rfl, HB.out⟩
end Go.Proofs.YtifomfimfdgjjaaGreatDoor
/-
  What the laws' own helpers answer for slices of numbers: toInt64S (a copy in new memory), eqInt64S (of two that are alike), markInt64S.
  Conditions: the slices' cells hold the numbers.
-/
namespace Go.Proofs.YtifomfimfdgjjaaGreatDoor
open Go.RowKit Go.Lib
set_option linter.unusedVariables false
set_option maxRecDepth 20000

theorem belowDi {B : Nat} {a w : World} (h : Below B a w) (n : Nat) : Below B a (w.drewN n) := ⟨h.os, h.tape, h.output, h.size, h.block⟩
def intRow (ks : List Int) : List Value := ks.map (Value.int .i64)
/-- A block that holds these numbers and no more. -/
def BlkI (w : World) (g : Nat) (ks : List Int) : Prop := w.heap[g]? = some (.cells (intRow ks).toArray 2 (0, 0))
theorem BlkI.lt {w : World} {g : Nat} {ks : List Int} (h : BlkI w g ks) : g < w.heap.size := lt_of_block h
theorem BlkI.below {w w' : World} {g : Nat} {ks : List Int} (h : BlkI w g ks) {B : Nat} (hb : Below B w w') (hg : g < B) : BlkI w' g ks := (hb.block g hg).trans h
theorem BlkI.cell {w : World} {g : Nat} {ks : List Int} (h : BlkI w g ks) (i : Nat) (hi : i < ks.length) : w.cell? ⟨g, i, none⟩ = some (.int .i64 ks[i]) ∧ w.frozen? ⟨g, i, none⟩ = false := by
  unfold BlkI at h
  constructor
  · simp [World.cell?, h, intRow, hi]
  · simp [World.frozen?, h]
theorem BlkI.int {w : World} {g : Nat} {ks : List Int} (h : BlkI w g ks) : IntAt w (some ⟨g, 0, none⟩) ks := fun i hi => ⟨g, 0, rfl, h.lt, by rw [Nat.zero_add]; exact (h.cell i hi).1⟩
theorem BlkI.set {w : World} {g : Nat} {ks : List Int} (h : BlkI w g ks) (k : Nat) (s : Int) : BlkI (w.setCell ⟨g, k, none⟩ (.int .i64 s)) g (ks.set k s) := by
  unfold BlkI at h ⊢
  simp [World.setCell, Array.getElem?_modify, h, intRow, List.map_set]
def cutI (ks : List Int) (k : Nat) : List Int := ks.take k ++ List.replicate (ks.length - k) 0
theorem cutI_len (ks : List Int) (k : Nat) (h : k ≤ ks.length) : (cutI ks k).length = ks.length := by simp [cutI]; omega
theorem cutI_set (ks : List Int) (k : Nat) (h : k < ks.length) : (cutI ks k).set k ks[k] = cutI ks (k + 1) := by
  unfold cutI
  rw [show ks.length - k = (ks.length - (k + 1)) + 1 by omega, List.replicate_succ]
  have hl : (ks.take k).length = k := by simp; omega
  rw [List.set_append_right _ _ (by omega), hl, Nat.sub_self, List.set_cons_zero, List.take_succ_eq_append_getElem h, List.append_assoc]; rfl
theorem infoI64k : (Tryz.prog.info? 2).map (fun i => (i.zero, i.size, i.bytes)) = some (some (.int .i64 0), 1, 8) := by kernel_rfl
theorem made_i64 (n : Nat) : madeCells #[.int .i64 0] n = (intRow (List.replicate n 0)).toArray := by
  unfold madeCells intRow
  apply Array.ext
  · simp
  · intro i h1 h2; simp [Nat.mod_one]
theorem run_make_i64 (n : Nat) (hn : n ≤ 1048576) (w : World) :
    (Instr.makeSlice 27 (.int .i64 (n : Int)) (.int .i64 (n : Int))).run Tryz.prog w = .ok (.slice (some ⟨w.heap.size, 0, none⟩) n n) (w.alloc (.cells (intRow (List.replicate n 0)).toArray 2)) := by
  obtain ⟨i0, hi, hz0, hz1, hz2⟩ := info_parts infoI64k
  have := run_make (P := Tryz.prog) w 27 2 i0 _ Tryz.underlying27 hi hz0 .i64 .i64 (n : Int) (n : Int) (by omega) (by omega) (by rw [hz2]; omega) (by omega)
  rw [this, hz1]
  simp only [Int.toNat_natCast, Nat.mul_one]
  rw [← made_i64]; rfl

set_option maxHeartbeats 1000000 in
theorem toI_any (p : Option Addr) (cap : Nat) (ks : List Int) (w : World) (hp : IntAt w p ks) (hn : ks.length ≤ 1048576) (hcap : ks.length ≤ cap) :
    Calls Tryz.prog 49 #[.slice p ks.length cap] w fun e w' => e = .returned (.slice (some ⟨w.heap.size, 0, none⟩) ks.length ks.length) ∧ BlkI w' w.heap.size ks ∧ Below w.heap.size w w' := by
  have HP : Hid (IntAt w p ks) := hp
  clear hp
  obtain ⟨W1, hW1⟩ : ∃ W1, W1 = w.alloc (.cells (intRow (List.replicate ks.length 0)).toArray 2) := ⟨_, rfl⟩
  have hmk := run_make_i64 ks.length hn w
  rw [← hW1] at hmk
  have H0 : Hid (BlkI W1 w.heap.size (cutI ks 0)) := by
    have : BlkI W1 w.heap.size (List.replicate ks.length 0) := by rw [hW1]; exact (MapKept.heap_alloc w _).1
    show BlkI _ _ _
    unfold cutI; simpa using this
  have B0 : Hid (Below w.heap.size w W1) := by rw [hW1]; exact (Below.refl _ _).alloc (Nat.le_refl _) _
  clear hW1
  go_enter Tryz.func49, Tryz.ntmps49
  go_wp2_with fail
  go_loopw [4] (fun i wr => ∃ k : Nat, k ≤ ks.length ∧ i = .int .i64 k ∧ Hid (BlkI wr w.heap.size (cutI ks k)) ∧ Hid (Below w.heap.size w wr)) (fun i _ => ks.length - (intOf i).toNat)
  case atStart => exact ⟨0, Nat.zero_le _, rfl, H0, B0⟩
  case round =>
    clear H0 hmk B0
    obtain ⟨k, hk, rfl, hrow, hnx⟩ := hrel
    by_cases hlt : k < ks.length
    · obtain ⟨b, off, rfl, hb, hck⟩ := HP.out k hlt
      have hc1 : wr.cell? ⟨b, off + k, none⟩ = some (.int .i64 ks[k]) := (hnx.out.cell (p := ⟨b, off + k, none⟩) hb).trans hck
      obtain ⟨hc2, hf2⟩ := hrow.out.cell k (by rw [cutI_len _ _ (by omega)]; exact hlt)
      have HR : Hid (BlkI (wr.setCell ⟨w.heap.size, k, none⟩ (.int .i64 ks[k])) w.heap.size (cutI ks (k + 1))) := by
        show BlkI _ _ _
        rw [← cutI_set ks k hlt]; exact hrow.out.set k _
      have HB : Hid (Below w.heap.size w (wr.setCell ⟨w.heap.size, k, none⟩ (.int .i64 ks[k]))) := hnx.out.setCell (Nat.le_refl _) _
      have i1 : (k : Int) < ks.length := by omega
      clear hck
      generalize ks[k] = q at *
      generalize (cutI ks k)[k]'_ = q2 at *
      go_wp2_with fail
      go_roundw
      case rel => exact ⟨k + 1, by omega, by go_num, HR, HB⟩
      case measure => simp [intOf]; omega
    · have hkk : k = ks.length := by omega
      subst hkk
      have HR : Hid (BlkI wr w.heap.size ks) := by
        have := hrow.out; unfold cutI at this; show BlkI _ _ _; simpa using this
      go_wp2_with fail
      go_ret
      exact ⟨rfl, HR.out, hnx.out⟩

set_option maxHeartbeats 1000000 in
theorem eqI_any (p q : Option Addr) (cap cap2 : Nat) (ks : List Int) (w : World) (hp : IntAt w p ks) (hq : IntAt w q ks) (hn : ks.length ≤ 1048576) (hcap : ks.length ≤ cap) (hcap2 : ks.length ≤ cap2) :
    Calls Tryz.prog 59 #[.slice p ks.length cap, .slice q ks.length cap2] w fun e w' => e = .returned (.bool true) ∧ Below w.heap.size w w' := by
  have HP : Hid (IntAt w p ks) := hp
  have HQ : Hid (IntAt w q ks) := hq
  clear hp hq
  go_enter Tryz.func59, Tryz.ntmps59
  go_wp2_with fail
  go_loopw [5] (fun i wr => ∃ k : Nat, k ≤ ks.length ∧ i = .int .i64 k ∧ Hid (Below w.heap.size w wr)) (fun i _ => ks.length - (intOf i).toNat)
  case atStart => exact ⟨0, Nat.zero_le _, rfl, Below.refl _ _⟩
  case round =>
    obtain ⟨k, hk, rfl, HB⟩ := hrel
    by_cases hlt : k < ks.length
    · obtain ⟨b, off, rfl, hb, hc1⟩ := (HP.out.below HB.out) k hlt
      obtain ⟨b2, off2, rfl, hb2, hd1⟩ := (HQ.out.below HB.out) k hlt
      have j5 : (k : Int) < ks.length := by omega
      generalize ks[k] = K at *
      go_wp2_with fail
      go_quiet (fail)
      go_wp2_with fail
      go_roundw
      case rel => exact ⟨k + 1, by omega, by go_num, belowDi HB.out _⟩
      case measure => simp [intOf]; omega
    · go_wp2_with fail
      go_ret
      exact ⟨rfl, HB.out⟩

set_option maxHeartbeats 1000000 in
theorem markI_any (s : Nat) (hs : s ≤ 16777216) (g n : Nat) (ks : List Int) (w : World) (hn : ks.length = n) (hl : n ≤ 1048576) (h : BlkI w g ks) :
    Calls Tryz.prog 63 #[.slice (some ⟨g, 0, none⟩) n n, .int .i64 (s : Int)] w fun e w' => e = .returned (.int .i64 ((n : Int) + s)) ∧ w.grownBy w' (some g) := by
  have H0 : Hid (∃ ls, ls.length = n ∧ BlkI w g ls) := ⟨ks, hn, h⟩
  clear h hn
  go_enter Tryz.func63, Tryz.ntmps63
  go_wp2_with fail
  go_loopw [5, 1] (fun i x wr => ∃ k : Nat, k ≤ n ∧ i = .int .i64 k ∧ x = .int .i64 ((k : Int) + s) ∧ Hid (∃ ls, ls.length = n ∧ BlkI wr g ls) ∧ Hid (w.grownBy wr (some g))) (fun i _ _ => n - (intOf i).toNat)
  case atStart => exact ⟨0, Nat.zero_le _, rfl, by simp, H0, World.grownBy.refl _ _⟩
  case round =>
    clear H0
    obtain ⟨k, hk, rfl, rfl, hrow, hgr⟩ := hrel
    by_cases hlt : k < n
    · obtain ⟨ls, hls, hb⟩ := hrow.out
      obtain ⟨c1, f1⟩ := hb.cell k (by omega)
      have i1 : (k : Int) < n := by omega
      have HR : Hid (∃ ls, ls.length = n ∧ BlkI (wr.setCell ⟨g, k, none⟩ (.int .i64 ((k : Int) + s))) g ls) := ⟨ls.set k ((k : Int) + s), by simpa using hls, hb.set k _⟩
      have HG : Hid (w.grownBy (wr.setCell ⟨g, k, none⟩ (.int .i64 ((k : Int) + s))) (some g)) := by
        have a := hgr.out
        refine ⟨a.os, a.tape, a.output, by simpa [World.setCell] using a.size, fun q hq hne => ?_⟩
        have hqg : g ≠ q := fun e => hne (by rw [e])
        rw [show (wr.setCell ⟨g, k, none⟩ (.int .i64 ((k : Int) + s))).heap[q]? = wr.heap[q]? by simp [World.setCell, Array.getElem?_modify, hqg]]
        exact a.block q hq hne
      generalize ls[k]'_ = K at *
      clear hb hrow hgr hls
      go_wp2_with fail
      go_roundw
      case rel => exact ⟨k + 1, by omega, by go_num, by go_num, HR, HG⟩
      case measure => simp [intOf]; omega
    · obtain rfl : k = n := by omega
      go_wp2_with fail
      go_ret
      exact ⟨rfl, hgr.out⟩
end Go.Proofs.YtifomfimfdgjjaaGreatDoor
/-
  A row of its own that is written cell by cell, while nothing else that was there changes.
-/
namespace Go.Proofs.YtifomfimfdgjjaaGreatDoor
open Go.RowKit Go.Lib
set_option linter.unusedVariables false

/-- The row of block g, n elements of z cells, holds xs, and is the call's own; but for it all that lay in w is as it was. -/
def OG (w : World) (base : Nat) (T : TypeId) (z g n cap : Nat) (wr : World) (xs : List Value) : Prop :=
  wr.ownsRow base T z (.slice (some ⟨g, 0, none⟩) n cap) n xs ∧ w.grownBy wr (some g)
theorem OG.below {w : World} {base : Nat} {T : TypeId} {z g n cap : Nat} {wr : World} {xs : List Value} (h : OG w base T z g n cap wr xs) {y : World} (hb : Below wr.heap.size wr y) : OG w base T z g n cap y xs := by
  obtain ⟨h1, a⟩ := h
  exact ⟨ownS_below h1 hb, hb.os.trans a.os, hb.tape.trans a.tape, hb.output.trans a.output, Nat.le_trans a.size hb.size, fun q hq hne => (hb.block q (Nat.lt_of_lt_of_le hq a.size)).trans (a.block q hq hne)⟩
theorem OG.set {w : World} {base : Nat} {T : TypeId} {z g n cap : Nat} {wr : World} {xs : List Value} (h : OG w base T z g n cap wr xs) (j : Nat) (v : Value) : OG w base T z g n cap (wr.setCell ⟨g, j, none⟩ v) (xs.set j v) := by
  obtain ⟨h1, a⟩ := h
  refine ⟨(h1.stored j v).1, a.os, a.tape, a.output, ?_, ?_⟩
  · simpa [World.setCell] using a.size
  · intro q hq hne
    have hqg : g ≠ q := fun e => hne (by rw [e])
    rw [show (wr.setCell ⟨g, j, none⟩ v).heap[q]? = wr.heap[q]? by simp [World.setCell, Array.getElem?_modify, hqg]]
    exact a.block q hq hne
theorem OG.cell {w : World} {base : Nat} {T : TypeId} {z g n cap : Nat} {wr : World} {xs : List Value} (h : OG w base T z g n cap wr xs) (j : Nat) (hj : j < n * z) : ∃ x, wr.cell? ⟨g, j, none⟩ = some x ∧ wr.frozen? ⟨g, j, none⟩ = false := by
  have hl : xs.length = n * z := h.1.1
  exact ⟨xs[j]'(by omega), by rw [h.1.cellAt j hj, List.getElem?_eq_getElem (by omega)], h.1.frozenAt j⟩
theorem OG.start {w : World} {base : Nat} {T : TypeId} {z g n cap : Nat} {xs : List Value} (h : w.ownsRow base T z (.slice (some ⟨g, 0, none⟩) n cap) n xs) : OG w base T z g n cap w xs := ⟨h, World.grownBy.refl _ _⟩
end Go.Proofs.YtifomfimfdgjjaaGreatDoor
/-
  What the laws' own helpers do that mark numbers: markInt64S, heldInt64S; szInt64S.
-/
namespace Go.Proofs.YtifomfimfdgjjaaGreatDoor
open Go.RowKit Go.Lib
set_option linter.unusedVariables false
set_option maxRecDepth 20000

theorem szI_any (l0 : Int) (l00 : 0 ≤ l0) (l01 : l0 ≤ 1048576) (p : Option Addr) (cap : Nat) (ks : List Int) (w : World) (hn : ks.length ≤ 9223372036854775807) :
    Calls Tryz.prog 42 #[.slice p ks.length cap, .int .i64 l0] w fun e w' => (∃ r : Int, e = .returned (.int .i64 r) ∧ (r = -1 ∨ (0 ≤ r ∧ r ≤ l0 ∧ ks.length ≤ 1048576))) ∧ w' = w := by
  by_cases hl : (ks.length : Int) ≤ l0
  · go_enter Tryz.func42, Tryz.ntmps42
    go_wp2_with fail
    go_ret
    exact ⟨⟨_, rfl, .inr ⟨by omega, by omega, by omega⟩⟩, rfl⟩
  · go_enter Tryz.func42, Tryz.ntmps42
    go_wp2_with fail
    go_ret
    exact ⟨⟨_, rfl, .inl rfl⟩, rfl⟩
def miN (s n : Nat) : List Int := (List.range n).map (fun j => ((s + j : Nat) : Int))
def miT (s : Nat) (l : List Int) (k : Nat) : List Int := miN s k ++ l.drop k
theorem miN_len (s n : Nat) : (miN s n).length = n := by simp [miN]
theorem miT_len (s : Nat) (l : List Int) (k : Nat) (h : k ≤ l.length) : (miT s l k).length = l.length := by simp [miT, miN]; omega
theorem miT_set (s : Nat) (l : List Int) (k : Nat) (h : k < l.length) : (miT s l k).set k ((k : Int) + s) = miT s l (k + 1) := by
  unfold miT miN
  have hl : ((List.range k).map (fun j => ((s + j : Nat) : Int))).length = k := by simp
  rw [List.set_append_right _ _ (by omega), hl, Nat.sub_self, List.drop_eq_getElem_cons h, List.set_cons_zero, List.range_succ, List.map_append, List.append_assoc]
  show _ = _ ++ (((s + k : Nat) : Int) :: l.drop (k + 1))
  rw [show ((s + k : Nat) : Int) = (k : Int) + s by omega]
theorem miT_all (s : Nat) (l : List Int) : miT s l l.length = miN s l.length := by unfold miT; simp
theorem intRow_set (l : List Int) (k : Nat) (x : Int) : (intRow l).set k (.int .i64 x) = intRow (l.set k x) := by simp [intRow, List.map_set]
set_option maxHeartbeats 2000000 in
theorem markIO_any (s : Nat) (base : Nat) (v : Value) (l : List Int) (w : World) (h : w.ownsRow base 2 1 v l.length (intRow l)) (hl : s + l.length ≤ 16777217) :
    Calls Tryz.prog 63 #[v, .int .i64 (s : Int)] w fun e w' => e = .returned (.int .i64 ((l.length : Int) + s)) ∧ w'.ownsRow base 2 1 v l.length (intRow (miN s l.length)) ∧ w.grownBy w' v.ownBlock := by
  rcases h.2 with ⟨rfl, h0⟩ | ⟨g, cap, cur, rfl, hg1, hg2, hg3, hg4, hg5, hg6⟩
  · have hl0 : l = [] := List.length_eq_zero_iff.1 h0
    subst hl0
    clear h h0
    go_enter Tryz.func63, Tryz.ntmps63
    go_wp2_with fail
    go_loop [5, 1] (fun i x => i = .int .i64 0 ∧ x = .int .i64 (s : Int)) (fun _ _ => 0)
    case atStart => exact ⟨rfl, rfl⟩
    case round =>
      obtain ⟨rfl, rfl⟩ := hrel
      go_wp2_with fail
      go_ret
      exact ⟨by simp, World.ownsRow_nil _ _ _ _, World.grownBy.refl _ _⟩
  · have HO : Hid (OG w base 2 1 g l.length cap w (intRow (miT s l 0))) := by
      show OG _ _ _ _ _ _ _ _ _
      rw [show miT s l 0 = l by simp [miT, miN]]; exact OG.start h
    clear h hg2 hg5 hg6
    go_enter Tryz.func63, Tryz.ntmps63
    go_wp2_with fail
    go_loopw [5, 1] (fun i x wr => ∃ k : Nat, k ≤ l.length ∧ i = .int .i64 k ∧ x = .int .i64 ((k : Int) + s) ∧ Hid (OG w base 2 1 g l.length cap wr (intRow (miT s l k)))) (fun i _ _ => l.length - (intOf i).toNat)
    case atStart => exact ⟨0, Nat.zero_le _, rfl, by simp, HO⟩
    case round =>
      clear HO
      obtain ⟨k, hk, rfl, rfl, hown⟩ := hrel
      by_cases hlt : k < l.length
      · have i1 : (k : Int) < l.length := by omega
        obtain ⟨x1, c1, f1⟩ := hown.out.cell k (by omega)
        have HS : Hid (OG w base 2 1 g l.length cap (wr.setCell ⟨g, k, none⟩ (.int .i64 ((k : Int) + s))) (intRow (miT s l (k + 1)))) := by
          show OG _ _ _ _ _ _ _ _ _
          rw [← miT_set s l k hlt, ← intRow_set]; exact hown.out.set k _
        clear hown
        go_wp2_with fail
        go_roundw
        case rel => exact ⟨k + 1, by omega, by go_num, by go_num, HS⟩
        case measure => simp [intOf]; omega
      · obtain rfl : k = l.length := by omega
        have HO2 : Hid (OG w base 2 1 g l.length cap wr (intRow (miN s l.length))) := by
          show OG _ _ _ _ _ _ _ _ _
          rw [← miT_all]; exact hown.out
        clear hown
        go_wp2_with fail
        go_ret
        exact ⟨rfl, HO2.out.1, HO2.out.2⟩
end Go.Proofs.YtifomfimfdgjjaaGreatDoor
