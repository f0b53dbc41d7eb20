/-
  What the laws' own helpers answer for slices of fields: szFieldS, toFieldS (a copy in new memory), eqFieldS (of two that are alike).
  Conditions: the slices' cells hold the fields.
-/
import Derived.Test.YtpijadhfdpihkaaGreatDoorRows
import Derived.Test.YtpijadhfdpihkaaGreatDoorBytesDigMath
import Derived.Test.YtpijadhfdpihkaaGreatDoorSlASlBBxKOwnS
import Derived.Test.YtpijadhfdpihkaaGreatDoorJoinedPutTextFldMath
import Derived.Test.YtpijadhfdpihkaaGreatDoorFldRiseScanMath
import Derived.Test.YtpijadhfdpihkaaGreatDoorLgAtKShwKOneKFldGFldBlk
import Derived.Handy
import Derived.WalkSpells
import Derived.OwnWalk
import Derived.Deep.RegionLaw
import Derived.Deep.RegionWith
namespace Go.Proofs.YtpijadhfdpihkaaGreatDoor
open Go.RowKit Go.Lib
set_option linter.unusedVariables false
set_option maxRecDepth 20000

set_option maxHeartbeats 1000000 in
theorem szFld_any (f : Fld) (l : Int) (w : World) (l0 : 0 ≤ l) (l1 : l ≤ 1048576) (h1 : f.n.size ≤ 9223372036854775807) (h2 : f.c.size ≤ 9223372036854775807) (h3 : f.s.size ≤ 9223372036854775807) (h4 : f.v.size ≤ 9223372036854775807) :
    Calls Tryz.prog 76 #[.agg #[.string f.n, .string f.c, .string f.s, .string f.v, .bool f.g], .int .i64 l] w fun e w' => (∃ r : Int, e = .returned (.int .i64 r) ∧ (r = -1 ∨ (0 ≤ r ∧ r ≤ l))) ∧ Below w.heap.size w w' := by
  obtain ⟨n, c, s, v, g⟩ := f
  show Calls Tryz.prog 76 #[.agg #[.string n, .string c, .string s, .string v, .bool g], .int .i64 l] w _
  have h1 : n.size ≤ 9223372036854775807 := h1
  have h2 : c.size ≤ 9223372036854775807 := h2
  have h3 : s.size ≤ 9223372036854775807 := h3
  have h4 : v.size ≤ 9223372036854775807 := h4
  have B1 : Below w.heap.size w (w.alloc (.cells #[.string n, .string c, .string s, .string v, .bool g] 128)) := (Below.refl _ _).alloc (Nat.le_refl _) _
  by_cases k1 : (n.size : Int) ≤ l
  · by_cases k2 : (n.size : Int) + c.size ≤ l
    · by_cases k3 : (n.size : Int) + c.size + s.size ≤ l
      · by_cases k4 : (n.size : Int) + c.size + s.size + v.size ≤ l
        · go_enter Tryz.func76, Tryz.ntmps76
          go_wp2
          go_ret
          exact ⟨⟨_, rfl, .inr ⟨by omega, by omega⟩⟩, B1⟩
        · go_enter Tryz.func76, Tryz.ntmps76
          go_wp2
          go_ret
          exact ⟨⟨_, rfl, .inl rfl⟩, B1⟩
      · go_enter Tryz.func76, Tryz.ntmps76
        go_wp2
        go_ret
        exact ⟨⟨_, rfl, .inl rfl⟩, B1⟩
    · go_enter Tryz.func76, Tryz.ntmps76
      go_wp2
      go_ret
      exact ⟨⟨_, rfl, .inl rfl⟩, B1⟩
  · go_enter Tryz.func76, Tryz.ntmps76
    go_wp2
    go_ret
    exact ⟨⟨_, rfl, .inl rfl⟩, B1⟩

def FldsBig (fs : List Fld) : Prop := ∀ f ∈ fs, f.n.size ≤ 9223372036854775807 ∧ f.c.size ≤ 9223372036854775807 ∧ f.s.size ≤ 9223372036854775807 ∧ f.v.size ≤ 9223372036854775807
set_option maxHeartbeats 1000000 in
theorem szF_any (l0 : Int) (l00 : 0 ≤ l0) (l01 : l0 ≤ 1048576) (p : Option Addr) (cap : Nat) (fs : List Fld) (w : World) (hp : FldAt w p fs) (hn : fs.length ≤ 9223372036854775807) (hcap : fs.length ≤ cap) (hs : FldsBig fs) :
    Calls Tryz.prog 59 #[.slice p fs.length cap, .int .i64 l0] w fun e w' => (∃ r : Int, e = .returned (.int .i64 r) ∧ (r = -1 ∨ (0 ≤ r ∧ r ≤ l0 ∧ fs.length ≤ 1048576))) ∧ Below w.heap.size w w' := by
  have HP : Hid (FldAt w p fs) := hp
  have HS : Hid (FldsBig fs) := hs
  clear hp hs
  by_cases hl : (fs.length : Int) ≤ l0
  · go_enter Tryz.func59, Tryz.ntmps59
    go_wp2_with fail
    go_loopw [5, 1] (fun i x wr => ∃ (k : Nat) (l : Int), k ≤ fs.length ∧ i = .int .i64 k ∧ x = .int .i64 l ∧ 0 ≤ l ∧ l ≤ l0 ∧ Hid (Below w.heap.size w wr)) (fun i _ _ => fs.length - (intOf i).toNat)
    case atStart => exact ⟨0, _, Nat.zero_le _, rfl, rfl, by omega, by omega, Below.refl _ _⟩
    case round =>
      obtain ⟨k, l, hk, rfl, rfl, hl0, hl1, HB⟩ := hrel
      by_cases hlt : k < fs.length
      · obtain ⟨b, off, rfl, hb, hc1, hc2, hc3, hc4, hc5⟩ := (HP.out.below HB.out) k hlt
        have hsz := HS.out fs[k] (List.getElem_mem hlt)
        have j5 : (k : Int) < fs.length := by omega
        generalize fs[k] = f at *
        obtain ⟨n, c, s, v, g⟩ := f
        have hc1 : wr.cell? ⟨b, off + k * 5, none⟩ = some (.string n) := hc1
        have hc2 : wr.cell? ⟨b, off + k * 5 + 1, none⟩ = some (.string c) := hc2
        have hc3 : wr.cell? ⟨b, off + k * 5 + 2, none⟩ = some (.string s) := hc3
        have hc4 : wr.cell? ⟨b, off + k * 5 + 3, none⟩ = some (.string v) := hc4
        have hc5 : wr.cell? ⟨b, off + k * 5 + 4, none⟩ = some (.bool g) := hc5
        have hS := szFld_any ⟨n, c, s, v, g⟩ l wr hl0 (by omega) hsz.1 hsz.2.1 hsz.2.2.1 hsz.2.2.2
        clear hsz
        go_wp2_with fail
        refine hS.mono ?_
        rintro e w1 ⟨⟨r, rfl, hr⟩, b1⟩
        have HB1 : Hid (Below w.heap.size w w1) := chainB HB.out b1
        clear b1 HB hS hc1 hc2 hc3 hc4 hc5
        rcases hr with rfl | ⟨r0, r1⟩
        · go_wp2_with fail
          go_ret
          exact ⟨⟨_, rfl, .inl rfl⟩, HB1.out⟩
        · have dl : decide (r < 0) = false := decide_eq_false (by omega)
          go_wp2_with fail
          go_roundw
          case rel => exact ⟨k + 1, r, by omega, by go_num, rfl, by omega, by omega, HB1⟩
          case measure => simp [intOf]; omega
      · go_wp2_with fail
        go_ret
        exact ⟨⟨_, rfl, .inr ⟨hl0, by omega, by omega⟩⟩, HB.out⟩
  · go_enter Tryz.func59, Tryz.ntmps59
    go_wp2_with fail
    go_ret
    exact ⟨⟨_, rfl, .inl rfl⟩, Below.refl _ _⟩

theorem toFld_any (f : Fld) (w : World) :
    Calls Tryz.prog 84 #[.agg #[.string f.n, .string f.c, .string f.s, .string f.v, .bool f.g]] w fun e w' => e = .returned (.agg #[.string f.n, .string f.c, .string f.s, .string f.v, .bool f.g]) ∧ Below w.heap.size w w' := by
  obtain ⟨n, c, s, v, g⟩ := f
  show Calls Tryz.prog 84 #[.agg #[.string n, .string c, .string s, .string v, .bool g]] w fun e w' => e = .returned (.agg #[.string n, .string c, .string s, .string v, .bool g]) ∧ _
  have B1 : Below w.heap.size w (((w.alloc (.cells #[.string n, .string c, .string s, .string v, .bool g] 128)).alloc (.cells #[.string n, .string c, .string s, .string v, .bool g] 63)).alloc (.cells #[.string n, .string c, .string s, .string v, .bool g] 63)) := alB (alB (alB (Below.refl _ _) _) _) _
  go_enter Tryz.func84, Tryz.ntmps84
  go_wp2_with fail
  refine bodyPost_ret (v := .agg #[.string n, .string c, .string s, .string v, .bool g]) (by simp [results, Tryz.results84, go_sem]) rfl ?_
  exact ⟨rfl, B1⟩

def cutF (fs : List Fld) (k : Nat) : List Fld := fs.take k ++ List.replicate (fs.length - k) fldE5
theorem cutF_len (fs : List Fld) (k : Nat) (h : k ≤ fs.length) : (cutF fs k).length = fs.length := by simp [cutF]; omega
theorem cutF_set (fs : List Fld) (k : Nat) (h : k < fs.length) : (cutF fs k).set k fs[k] = cutF fs (k + 1) := by
  unfold cutF
  rw [show fs.length - k = (fs.length - (k + 1)) + 1 by omega, List.replicate_succ]
  have hl : (fs.take k).length = k := by simp; omega
  rw [List.set_append_right _ _ (by omega), hl, Nat.sub_self, List.set_cons_zero, List.take_succ_eq_append_getElem h, List.append_assoc]; rfl
theorem BlkF.own {w : World} {g : Nat} {l : List Fld} (h : BlkF w g l) (base : Nat) (hb : base ≤ g) (hm : l.length ≤ maxLen) : w.ownsRow base 63 5 (.slice (some ⟨g, 0, none⟩) l.length l.length) l.length (fldRow l) :=
  ⟨fldRow_len l, .inr ⟨g, l.length, (fldRow l).toArray, rfl, hb, h, Nat.le_refl _, hm, by rw [List.size_toArray, fldRow_len], List.take_of_length_le (by rw [fldRow_len]; exact Nat.le_refl _)⟩⟩

set_option maxHeartbeats 2000000 in
theorem toF_any (p : Option Addr) (cap : Nat) (fs : List Fld) (w : World) (hp : FldAt w p fs) (hn : fs.length ≤ 1048576) (hcap : fs.length ≤ cap) :
    Calls Tryz.prog 66 #[.slice p fs.length cap] w fun e w' => e = .returned (.slice (some ⟨w.heap.size, 0, none⟩) fs.length fs.length) ∧ BlkF w' w.heap.size fs ∧ Below w.heap.size w w' := by
  have HP : Hid (FldAt w p fs) := hp
  clear hp
  obtain ⟨W1, hW1⟩ : ∃ W1, W1 = w.alloc (.cells (fldRow (List.replicate fs.length fldE5)).toArray 63) := ⟨_, rfl⟩
  have hmk := run_make_fld fs.length hn w
  rw [← hW1] at hmk
  have H0 : Hid (BlkF W1 w.heap.size (cutF fs 0)) := by
    have : BlkF W1 w.heap.size (List.replicate fs.length fldE5) := by rw [hW1]; exact alloc_fld _ _
    show BlkF _ _ _
    unfold cutF; simpa using this
  have B0 : Hid (Below w.heap.size w W1) := by rw [hW1]; exact (Below.refl _ _).alloc (Nat.le_refl _) _
  clear hW1
  go_enter Tryz.func66, Tryz.ntmps66
  go_wp2_with fail
  go_loopw [4] (fun i wr => ∃ k : Nat, k ≤ fs.length ∧ i = .int .i64 k ∧ Hid (BlkF wr w.heap.size (cutF fs k)) ∧ Hid (Below w.heap.size w wr)) (fun i _ => fs.length - (intOf i).toNat)
  case atStart => exact ⟨0, Nat.zero_le _, rfl, H0, B0⟩
  case round =>
    clear H0 hmk B0
    obtain ⟨k, hk, rfl, hrow, hnx⟩ := hrel
    have hsz := Bxs.lt hrow.out
    by_cases hlt : k < fs.length
    · have i1 : (k : Int) < fs.length := by omega
      obtain ⟨b, off, rfl, hb, hc1, hc2, hc3, hc4, hc5⟩ := HP.out k hlt
      have hc1 := (hnx.out.cell (p := ⟨b, off + k * 5, none⟩) hb).trans hc1
      have hc2 := (hnx.out.cell (p := ⟨b, off + k * 5 + 1, none⟩) hb).trans hc2
      have hc3 := (hnx.out.cell (p := ⟨b, off + k * 5 + 2, none⟩) hb).trans hc3
      have hc4 := (hnx.out.cell (p := ⟨b, off + k * 5 + 3, none⟩) hb).trans hc4
      have hc5 := (hnx.out.cell (p := ⟨b, off + k * 5 + 4, none⟩) hb).trans hc5
      have hlen := cutF_len fs k hk
      have hset := cutF_set fs k hlt
      have HS : Hid (∀ y, Below wr.heap.size wr y → (∃ x1 x2 x3 x4 x5, y.cell? ⟨w.heap.size, k * 5, none⟩ = some x1 ∧ y.cell? ⟨w.heap.size, k * 5 + 1, none⟩ = some x2 ∧ y.cell? ⟨w.heap.size, k * 5 + 2, none⟩ = some x3 ∧ y.cell? ⟨w.heap.size, k * 5 + 3, none⟩ = some x4 ∧ y.cell? ⟨w.heap.size, k * 5 + 4, none⟩ = some x5) ∧ (y.frozen? ⟨w.heap.size, k * 5, none⟩ = false ∧ y.frozen? ⟨w.heap.size, k * 5 + 1, none⟩ = false ∧ y.frozen? ⟨w.heap.size, k * 5 + 2, none⟩ = false ∧ y.frozen? ⟨w.heap.size, k * 5 + 3, none⟩ = false ∧ y.frozen? ⟨w.heap.size, k * 5 + 4, none⟩ = false) ∧ Hid (∀ f, fs[k] = f → BlkF (set5 y w.heap.size (k * 5) f) w.heap.size (cutF fs (k + 1)) ∧ Below w.heap.size w (set5 y w.heap.size (k * 5) f))) := fun y hb => by
        have h := hrow.out.below hb
        obtain ⟨g1, g3⟩ := h.cells k (by omega)
        refine ⟨⟨_, _, _, _, _, g1⟩, g3, fun f he => ?_⟩
        rw [← hset, he]
        exact ⟨h.set5 k f, set5_below (chainB hnx.out hb) (Nat.le_refl _) _ _⟩
      clear hset hrow
      generalize fs[k] = f at *
      obtain ⟨n, c, s, v, g⟩ := f
      have hc1 : wr.cell? ⟨b, off + k * 5, none⟩ = some (.string n) := hc1
      have hc2 : wr.cell? ⟨b, off + k * 5 + 1, none⟩ = some (.string c) := hc2
      have hc3 : wr.cell? ⟨b, off + k * 5 + 2, none⟩ = some (.string s) := hc3
      have hc4 : wr.cell? ⟨b, off + k * 5 + 3, none⟩ = some (.string v) := hc4
      have hc5 : wr.cell? ⟨b, off + k * 5 + 4, none⟩ = some (.bool g) := hc5
      go_wp2_with fail
      refine (toFld_any ⟨n, c, s, v, g⟩ wr).mono ?_
      rintro e y ⟨rfl, b1⟩
      obtain ⟨⟨x1, x2, x3, x4, x5, g1, g2, g3, g4, g5⟩, ⟨f1, f2, f3, f4, f5⟩, HE⟩ := HS.out y b1
      obtain ⟨W5, hW5⟩ : ∃ W5, W5 = set5 y w.heap.size (k * 5) ⟨n, c, s, v, g⟩ := ⟨_, rfl⟩
      have HE2 : Hid (BlkF W5 w.heap.size (cutF fs (k + 1))) := by rw [hW5]; exact (HE.out _ rfl).1
      have HE3 : Hid (Below w.heap.size w W5) := by rw [hW5]; exact (HE.out _ rfl).2
      have HW5 : Hid (W5 = set5 y w.heap.size (k * 5) ⟨n, c, s, v, g⟩) := hW5
      clear HS HE b1 hc1 hc2 hc3 hc4 hc5 hW5
      go_wp2_with fail
      go_roundw
      case rel =>
        have e5 := HW5.out
        unfold set5 at e5
        rw [← e5]
        exact ⟨k + 1, by omega, by go_num, HE2, HE3⟩
      case measure => simp [intOf]; omega
    · have hkk : k = fs.length := by omega
      subst hkk
      have HR : Hid (BlkF wr w.heap.size fs) := by
        have := hrow.out; unfold cutF at this; show BlkF _ _ _; simpa using this
      go_wp2_with fail
      go_ret
      exact ⟨rfl, HR.out, hnx.out⟩

theorem eqFld_any (f : Fld) (w : World) :
    Calls Tryz.prog 93 #[.agg #[.string f.n, .string f.c, .string f.s, .string f.v, .bool f.g], .agg #[.string f.n, .string f.c, .string f.s, .string f.v, .bool f.g]] w fun e w' => e = .returned (.bool true) ∧ Below w.heap.size w w' := by
  obtain ⟨n, c, s, v, g⟩ := f
  show Calls Tryz.prog 93 #[.agg #[.string n, .string c, .string s, .string v, .bool g], .agg #[.string n, .string c, .string s, .string v, .bool g]] w _
  have B1 : Below w.heap.size w ((w.alloc (.cells #[.string n, .string c, .string s, .string v, .bool g] 63)).alloc (.cells #[.string n, .string c, .string s, .string v, .bool g] 63)) := alB (alB (Below.refl _ _) _) _
  go_enter Tryz.func93, Tryz.ntmps93
  go_wp2_with fail
  go_ret
  exact ⟨rfl, B1⟩

set_option maxHeartbeats 1000000 in
theorem eqF_any (p q : Option Addr) (cap cap2 : Nat) (fs : List Fld) (w : World) (hp : FldAt w p fs) (hq : FldAt w q fs) (hn : fs.length ≤ 1048576) (hcap : fs.length ≤ cap) (hcap2 : fs.length ≤ cap2) :
    Calls Tryz.prog 75 #[.slice p fs.length cap, .slice q fs.length cap2] w fun e w' => e = .returned (.bool true) ∧ Below w.heap.size w w' := by
  have HP : Hid (FldAt w p fs) := hp
  have HQ : Hid (FldAt w q fs) := hq
  clear hp hq
  go_enter Tryz.func75, Tryz.ntmps75
  go_wp2_with fail
  go_loopw [5] (fun i wr => ∃ k : Nat, k ≤ fs.length ∧ i = .int .i64 k ∧ Hid (Below w.heap.size w wr)) (fun i _ => fs.length - (intOf i).toNat)
  case atStart => exact ⟨0, Nat.zero_le _, rfl, Below.refl _ _⟩
  case round =>
    obtain ⟨k, hk, rfl, HB⟩ := hrel
    by_cases hlt : k < fs.length
    · obtain ⟨b, off, rfl, hb, hc1, hc2, hc3, hc4, hc5⟩ := (HP.out.below HB.out) k hlt
      obtain ⟨b2, off2, rfl, hb2, hd1, hd2, hd3, hd4, hd5⟩ := (HQ.out.below HB.out) k hlt
      have j5 : (k : Int) < fs.length := by omega
      generalize fs[k] = f at *
      obtain ⟨n, c, s, v, g⟩ := f
      have hc1 : wr.cell? ⟨b, off + k * 5, none⟩ = some (.string n) := hc1
      have hc2 : wr.cell? ⟨b, off + k * 5 + 1, none⟩ = some (.string c) := hc2
      have hc3 : wr.cell? ⟨b, off + k * 5 + 2, none⟩ = some (.string s) := hc3
      have hc4 : wr.cell? ⟨b, off + k * 5 + 3, none⟩ = some (.string v) := hc4
      have hc5 : wr.cell? ⟨b, off + k * 5 + 4, none⟩ = some (.bool g) := hc5
      have hd1 : wr.cell? ⟨b2, off2 + k * 5, none⟩ = some (.string n) := hd1
      have hd2 : wr.cell? ⟨b2, off2 + k * 5 + 1, none⟩ = some (.string c) := hd2
      have hd3 : wr.cell? ⟨b2, off2 + k * 5 + 2, none⟩ = some (.string s) := hd3
      have hd4 : wr.cell? ⟨b2, off2 + k * 5 + 3, none⟩ = some (.string v) := hd4
      have hd5 : wr.cell? ⟨b2, off2 + k * 5 + 4, none⟩ = some (.bool g) := hd5
      go_wp2_with fail
      go_region_with (first | (go_at_call 93; refine (eqFld_any ⟨n, c, s, v, g⟩ _).mono ?_; rintro e y1 ⟨rfl, z1⟩; have z1 : Below w.heap.size w y1 := chainB (by first | exact HB.out | exact HB.out.drew) z1))
      all_goals
        have HB1 : Hid (Below w.heap.size w y1) := z1
        clear z1
        go_wp2_with fail
        go_roundw
        case rel => exact ⟨k + 1, by omega, by go_num, HB1⟩
        case measure => simp [intOf]; omega
    · go_wp2_with fail
      go_ret
      exact ⟨rfl, HB.out⟩
end Go.Proofs.YtpijadhfdpihkaaGreatDoor
