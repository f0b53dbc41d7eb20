/-
  Parts of one proof, laid as one text: RulBlk, LawRl, LawPo, LawS, LawM; what each says stands at its head.
-/
import Derived.Test.YtokkeadbkeehgaaGreatDoorRows
import Derived.Test.YtokkeadbkeehgaaGreatDoorBytesDigMathTreeMathSlASlBBxKOwnSTakesLTillTwo
import Derived.Test.YtokkeadbkeehgaaGreatDoorLgAtKShwKOneKFldGFldBlkRwBlkIntKLawILawOGLawImBlNotRulMathAppS
import Derived.Handy
import Derived.OwnWalk
import Derived.WalkSpells
import Derived.Deep.RegionLaw
import Derived.Deep.RegionWith
import Derived.Deep.QuietTactic
import Derived.BigQuiet
import Derived.Laws.OwnMore
import Derived.Deep.AppendLies
/-
  A block of rules that was made, and is written rule by rule.
-/
namespace Go.Proofs.YtokkeadbkeehgaaGreatDoor
open Go.RowKit Go.Lib
set_option linter.unusedVariables false

def rulCells (r : Rul) : List Value := [.string r.k, .string r.f, .int .i64 r.l, .int .i64 r.m]
def rulRow (rs : List Rul) : List Value := rs.flatMap rulCells
theorem rulRow_len (rs : List Rul) : (rulRow rs).length = rs.length * 4 := by
  induction rs with
  | nil => rfl
  | cons r rs ih => unfold rulRow at *; rw [List.flatMap_cons, List.length_append, ih]; simp [rulCells]; omega
theorem rulRow_append (rs ss : List Rul) : rulRow (rs ++ ss) = rulRow rs ++ rulRow ss := by simp [rulRow]
theorem rulRow_at (rs : List Rul) : ∀ (i : Nat) (h : i < rs.length), (rulRow rs)[i * 4]? = some (.string rs[i].k) ∧ (rulRow rs)[i * 4 + 1]? = some (.string rs[i].f) ∧ (rulRow rs)[i * 4 + 2]? = some (.int .i64 rs[i].l) ∧ (rulRow rs)[i * 4 + 3]? = some (.int .i64 rs[i].m) := by
  induction rs with
  | nil => intro i h; simp at h
  | cons r rs ih =>
    intro i h
    match i with
    | 0 => exact ⟨rfl, rfl, rfl, rfl⟩
    | i + 1 =>
      have := ih i (by simpa using h)
      rw [show (i + 1) * 4 = i * 4 + 4 by omega]
      exact this
theorem rulRow_set : ∀ (rs : List Rul) (i : Nat) (r : Rul), ((((rulRow rs).set (i * 4) (.string r.k)).set (i * 4 + 1) (.string r.f)).set (i * 4 + 2) (.int .i64 r.l)).set (i * 4 + 3) (.int .i64 r.m) = rulRow (rs.set i r)
  | [], i, r => by simp [rulRow]
  | f :: fs, 0, r => by simp [rulRow, rulCells]
  | f :: fs, i + 1, r => by
    have ih := rulRow_set fs i r
    have e0 : (i + 1) * 4 = i * 4 + 4 := by omega
    have e4 : rulRow (f :: fs) = .string f.k :: .string f.f :: .int .i64 f.l :: .int .i64 f.m :: rulRow fs := rfl
    rw [e0, e4]
    have e1 : i * 4 + 4 + 1 = i * 4 + 1 + 4 := by omega
    have e2 : i * 4 + 4 + 2 = i * 4 + 2 + 4 := by omega
    have e3 : i * 4 + 4 + 3 = i * 4 + 3 + 4 := by omega
    rw [e1, e2, e3]
    simp only [List.set_cons_succ]
    rw [ih]; rfl
def set4u (w : World) (g o : Nat) (r : Rul) : World := (((w.setCell ⟨g, o, none⟩ (.string r.k)).setCell ⟨g, o + 1, none⟩ (.string r.f)).setCell ⟨g, o + 2, none⟩ (.int .i64 r.l)).setCell ⟨g, o + 3, none⟩ (.int .i64 r.m)
theorem set4u_below {B : Nat} {a w : World} (h : Below B a w) {g : Nat} (hg : B ≤ g) (o : Nat) (r : Rul) : Below B a (set4u w g o r) := (((h.setCell hg _).setCell hg _).setCell hg _).setCell hg _
theorem set4u_other {w : World} {g b o : Nat} {T : TypeId} {cs : Array Value} (h : Bxs w g T cs) (hne : b ≠ g) (r : Rul) : Bxs (set4u w b o r) g T cs := (((h.other b _ hne _).other b _ hne _).other b _ hne _).other b _ hne _
def rulE : Rul := ⟨ByteArray.empty, ByteArray.empty, 0, 0⟩
/-- A block that holds these rules, and nothing else. -/
def BlkU (w : World) (g : Nat) (l : List Rul) : Prop := Bxs w g 101 (rulRow l).toArray
theorem BlkU.below {w w' : World} {g : Nat} {l : List Rul} (h : BlkU w g l) (hb : Below w.heap.size w w') : BlkU w' g l := Bxs.below h hb
theorem BlkU.cells {w : World} {g : Nat} {l : List Rul} (h : BlkU w g l) (i : Nat) (hi : i < l.length) : (w.cell? ⟨g, i * 4, none⟩ = some (.string l[i].k) ∧ w.cell? ⟨g, i * 4 + 1, none⟩ = some (.string l[i].f) ∧ w.cell? ⟨g, i * 4 + 2, none⟩ = some (.int .i64 l[i].l) ∧ w.cell? ⟨g, i * 4 + 3, none⟩ = some (.int .i64 l[i].m)) ∧ w.frozen? ⟨g, i * 4, none⟩ = false ∧ w.frozen? ⟨g, i * 4 + 1, none⟩ = false ∧ w.frozen? ⟨g, i * 4 + 2, none⟩ = false ∧ w.frozen? ⟨g, i * 4 + 3, none⟩ = false := by
  have hr := rulRow_at l i hi
  have hc : ∀ j, w.cell? ⟨g, j, none⟩ = (rulRow l)[j]? := fun j => by rw [Bxs.cell h j]; simp
  rw [← hc, ← hc, ← hc, ← hc] at hr
  exact ⟨hr, Bxs.fr h _, Bxs.fr h _, Bxs.fr h _, Bxs.fr h _⟩
theorem BlkU.at {w : World} {g : Nat} {l : List Rul} (h : BlkU w g l) : RulAt w (some ⟨g, 0, none⟩) l := fun i hi => ⟨g, 0, rfl, Bxs.lt h, by rw [Nat.zero_add]; exact (h.cells i hi).1⟩
theorem BlkU.set1 {w : World} {g : Nat} {l : List Value} (h : Bxs w g 101 l.toArray) (j : Nat) (v : Value) : Bxs (w.setCell ⟨g, j, none⟩ v) g 101 (l.set j v).toArray := by
  have h1 := h.set j v
  rwa [List.setIfInBounds_toArray] at h1
theorem BlkU.set4u {w : World} {g : Nat} {l : List Rul} (h : BlkU w g l) (i : Nat) (r : Rul) : BlkU (set4u w g (i * 4) r) g (l.set i r) := by
  unfold BlkU
  rw [← rulRow_set]
  exact BlkU.set1 (BlkU.set1 (BlkU.set1 (BlkU.set1 h _ _) _ _) _ _) _ _
theorem BlkU.own {w : World} {g : Nat} {l : List Rul} (h : BlkU w g l) (base : Nat) (hb : base ≤ g) (hm : l.length ≤ maxLen) : w.ownsRow base 101 4 (.slice (some ⟨g, 0, none⟩) l.length l.length) l.length (rulRow l) :=
  ⟨rulRow_len l, .inr ⟨g, l.length, (rulRow l).toArray, rfl, hb, h, Nat.le_refl _, hm, by rw [List.size_toArray, rulRow_len], List.take_of_length_le (by rw [rulRow_len]; exact Nat.le_refl _)⟩⟩
theorem infoRul : (Tryz.prog.info? 101).map (fun i => (i.zero, i.size, i.bytes)) = some (some (.agg #[.string ByteArray.empty, .string ByteArray.empty, .int .i64 0, .int .i64 0]), 4, 48) := by kernel_rfl
theorem made_rul (n : Nat) : madeCells #[.string ByteArray.empty, .string ByteArray.empty, .int .i64 0, .int .i64 0] (n * 4) = (rulRow (List.replicate n rulE)).toArray := by
  unfold madeCells
  apply Array.ext
  · simp [rulRow_len]
  · intro i h0 h2
    have h1 : i < n * 4 := by simpa using h0
    have hr := rulRow_at (List.replicate n rulE) (i / 4) (by rw [List.length_replicate]; omega)
    simp only [List.getElem_replicate] at hr
    have hm : i % 4 < 4 := Nat.mod_lt _ (by omega)
    have hd : i = i / 4 * 4 + i % 4 := by omega
    have hl : i < (rulRow (List.replicate n rulE)).length := by simpa using h2
    have hg : ∀ v, (rulRow (List.replicate n rulE))[i]? = some v → (rulRow (List.replicate n rulE)).toArray[i] = v := fun v hv => by
      rw [List.getElem?_eq_getElem hl] at hv
      have := Option.some.inj hv
      simpa using this
    simp only [Array.getElem_map, Array.getElem_range]
    match hq : i % 4, hm with
    | 0, _ => rw [hq] at hd; rw [hg _ (by rw [hd]; exact hr.1)]; simp [rulE]
    | 1, _ => rw [hq] at hd; rw [hg _ (by rw [hd]; exact hr.2.1)]; simp [rulE]
    | 2, _ => rw [hq] at hd; rw [hg _ (by rw [hd]; exact hr.2.2.1)]; simp [rulE]
    | 3, _ => rw [hq] at hd; rw [hg _ (by rw [hd]; exact hr.2.2.2)]; simp [rulE]
theorem run_make_rul (n : Nat) (hn : n ≤ 1048576) (w : World) :
    (Instr.makeSlice 38 (.int .i64 (n : Int)) (.int .i64 (n : Int))).run Tryz.prog w = .ok (.slice (some ⟨w.heap.size, 0, none⟩) n n) (w.alloc (.cells (rulRow (List.replicate n rulE)).toArray 101)) := by
  obtain ⟨i0, hi, hz0, hz1, hz2⟩ := info_parts infoRul
  have := run_make (P := Tryz.prog) w 38 101 i0 _ Tryz.underlying38 hi hz0 .i64 .i64 (n : Int) (n : Int) (by omega) (by omega) (by rw [hz2]; omega) (by omega)
  rw [this, hz1]
  simp only [Int.toNat_natCast]
  rw [← made_rul]; rfl
theorem alloc_rul (w : World) (l : List Rul) : BlkU (w.alloc (.cells (rulRow l).toArray 101)) w.heap.size l := (MapKept.heap_alloc w _).1
end Go.Proofs.YtokkeadbkeehgaaGreatDoor
/-
  What the laws' own helpers answer for slices of rules: szRuleS, toRuleS (a copy in new memory), eqRuleS (of two that are alike).
  Conditions: the slices' cells hold the rules.
-/
namespace Go.Proofs.YtokkeadbkeehgaaGreatDoor
open Go.RowKit Go.Lib
set_option linter.unusedVariables false
set_option maxRecDepth 20000

set_option maxHeartbeats 1000000 in
theorem szRul_any (k f : ByteArray) (l m : Int) (n : Int) (w : World) (l0 : 0 ≤ n) (l1 : n ≤ 1048576) (h1 : k.size ≤ 9223372036854775807) (h2 : f.size ≤ 9223372036854775807) :
    Calls Tryz.prog 59 #[.agg #[.string k, .string f, .int .i64 l, .int .i64 m], .int .i64 n] w fun e w' => (∃ r : Int, e = .returned (.int .i64 r) ∧ (r = -1 ∨ (0 ≤ r ∧ r ≤ n))) ∧ Below w.heap.size w w' := by
  have B1 : Below w.heap.size w (w.alloc (.cells #[.string k, .string f, .int .i64 l, .int .i64 m] 91)) := (Below.refl _ _).alloc (Nat.le_refl _) _
  by_cases k1 : (k.size : Int) ≤ n
  · by_cases k2 : (k.size : Int) + f.size ≤ n
    · go_enter Tryz.func59, Tryz.ntmps59
      go_wp2
      go_ret
      exact ⟨⟨_, rfl, .inr ⟨by omega, by omega⟩⟩, B1⟩
    · go_enter Tryz.func59, Tryz.ntmps59
      go_wp2
      go_ret
      exact ⟨⟨_, rfl, .inl rfl⟩, B1⟩
  · go_enter Tryz.func59, Tryz.ntmps59
    go_wp2
    go_ret
    exact ⟨⟨_, rfl, .inl rfl⟩, B1⟩

def RulsBig (rs : List Rul) : Prop := ∀ r ∈ rs, r.k.size ≤ 9223372036854775807 ∧ r.f.size ≤ 9223372036854775807
set_option maxHeartbeats 1000000 in
theorem szU_any (l0 : Int) (l00 : 0 ≤ l0) (l01 : l0 ≤ 1048576) (p : Option Addr) (cap : Nat) (fs : List Rul) (w : World) (hp : RulAt w p fs) (hn : fs.length ≤ 9223372036854775807) (hcap : fs.length ≤ cap) (hs : RulsBig fs) :
    Calls Tryz.prog 28 #[.slice p fs.length cap, .int .i64 l0] w fun e w' => (∃ r : Int, e = .returned (.int .i64 r) ∧ (r = -1 ∨ (0 ≤ r ∧ r ≤ l0 ∧ fs.length ≤ 1048576))) ∧ Below w.heap.size w w' := by
  have HP : Hid (RulAt w p fs) := hp
  have HS : Hid (RulsBig fs) := hs
  clear hp hs
  by_cases hl : (fs.length : Int) ≤ l0
  · go_enter Tryz.func28, Tryz.ntmps28
    go_wp2_with fail
    go_loopw [5, 1] (fun i x wr => ∃ (k : Nat) (l : Int), k ≤ fs.length ∧ i = .int .i64 k ∧ x = .int .i64 l ∧ 0 ≤ l ∧ l ≤ l0 ∧ Hid (Below w.heap.size w wr)) (fun i _ _ => fs.length - (intOf i).toNat)
    case atStart => exact ⟨0, _, Nat.zero_le _, rfl, rfl, by omega, by omega, Below.refl _ _⟩
    case round =>
      obtain ⟨k, l, hk, rfl, rfl, hl0, hl1, HB⟩ := hrel
      by_cases hlt : k < fs.length
      · obtain ⟨b, off, rfl, hb, hc1, hc2, hc3, hc4⟩ := (HP.out.below HB.out) k hlt
        have hsz := HS.out fs[k] (List.getElem_mem hlt)
        have j5 : (k : Int) < fs.length := by omega
        generalize fs[k] = f at *
        obtain ⟨n, c, s, v⟩ := f
        have hc1 : wr.cell? ⟨b, off + k * 4, none⟩ = some (.string n) := hc1
        have hc2 : wr.cell? ⟨b, off + k * 4 + 1, none⟩ = some (.string c) := hc2
        have hc3 : wr.cell? ⟨b, off + k * 4 + 2, none⟩ = some (.int .i64 s) := hc3
        have hc4 : wr.cell? ⟨b, off + k * 4 + 3, none⟩ = some (.int .i64 v) := hc4
        have hS := szRul_any n c s v l wr hl0 (by omega) hsz.1 hsz.2
        clear hsz
        go_wp2_with fail
        refine hS.mono ?_
        rintro e w1 ⟨⟨r, rfl, hr⟩, b1⟩
        have HB1 : Hid (Below w.heap.size w w1) := chainB HB.out b1
        clear b1 HB hS hc1 hc2 hc3 hc4
        rcases hr with rfl | ⟨r0, r1⟩
        · go_wp2_with fail
          go_ret
          exact ⟨⟨_, rfl, .inl rfl⟩, HB1.out⟩
        · have dl : decide (r < 0) = false := decide_eq_false (by omega)
          go_wp2_with fail
          go_roundw
          case rel => exact ⟨k + 1, r, by omega, by go_num, rfl, by omega, by omega, HB1⟩
          case measure => simp [intOf]; omega
      · go_wp2_with fail
        go_ret
        exact ⟨⟨_, rfl, .inr ⟨hl0, by omega, by omega⟩⟩, HB.out⟩
  · go_enter Tryz.func28, Tryz.ntmps28
    go_wp2_with fail
    go_ret
    exact ⟨⟨_, rfl, .inl rfl⟩, Below.refl _ _⟩

theorem toRul_any (k f : ByteArray) (l m : Int) (w : World) :
    Calls Tryz.prog 70 #[.agg #[.string k, .string f, .int .i64 l, .int .i64 m]] w fun e w' => e = .returned (.agg #[.string k, .string f, .int .i64 l, .int .i64 m]) ∧ Below w.heap.size w w' := by
  have B1 : Below w.heap.size w (((w.alloc (.cells #[.string k, .string f, .int .i64 l, .int .i64 m] 91)).alloc (.cells #[.string k, .string f, .int .i64 l, .int .i64 m] 101)).alloc (.cells #[.string k, .string f, .int .i64 l, .int .i64 m] 101)) := alB (alB (alB (Below.refl _ _) _) _) _
  go_enter Tryz.func70, Tryz.ntmps70
  go_wp2_with fail
  refine bodyPost_ret (v := .agg #[.string k, .string f, .int .i64 l, .int .i64 m]) (by simp [results, Tryz.results70, go_sem]) rfl ?_
  exact ⟨rfl, B1⟩

def cutU (fs : List Rul) (k : Nat) : List Rul := fs.take k ++ List.replicate (fs.length - k) rulE
theorem cutU_len (fs : List Rul) (k : Nat) (h : k ≤ fs.length) : (cutU fs k).length = fs.length := by simp [cutU]; omega
theorem cutU_set (fs : List Rul) (k : Nat) (h : k < fs.length) : (cutU fs k).set k fs[k] = cutU fs (k + 1) := by
  unfold cutU
  rw [show fs.length - k = (fs.length - (k + 1)) + 1 by omega, List.replicate_succ]
  have hl : (fs.take k).length = k := by simp; omega
  rw [List.set_append_right _ _ (by omega), hl, Nat.sub_self, List.set_cons_zero, List.take_succ_eq_append_getElem h, List.append_assoc]; rfl

set_option maxHeartbeats 2000000 in
theorem toU_any (p : Option Addr) (cap : Nat) (fs : List Rul) (w : World) (hp : RulAt w p fs) (hn : fs.length ≤ 1048576) (hcap : fs.length ≤ cap) :
    Calls Tryz.prog 35 #[.slice p fs.length cap] w fun e w' => e = .returned (.slice (some ⟨w.heap.size, 0, none⟩) fs.length fs.length) ∧ BlkU w' w.heap.size fs ∧ Below w.heap.size w w' := by
  have HP : Hid (RulAt w p fs) := hp
  clear hp
  obtain ⟨W1, hW1⟩ : ∃ W1, W1 = w.alloc (.cells (rulRow (List.replicate fs.length rulE)).toArray 101) := ⟨_, rfl⟩
  have hmk := run_make_rul fs.length hn w
  rw [← hW1] at hmk
  have H0 : Hid (BlkU W1 w.heap.size (cutU fs 0)) := by
    have : BlkU W1 w.heap.size (List.replicate fs.length rulE) := by rw [hW1]; exact alloc_rul _ _
    show BlkU _ _ _
    unfold cutU; simpa using this
  have B0 : Hid (Below w.heap.size w W1) := by rw [hW1]; exact (Below.refl _ _).alloc (Nat.le_refl _) _
  clear hW1
  go_enter Tryz.func35, Tryz.ntmps35
  go_wp2_with fail
  go_loopw [4] (fun i wr => ∃ k : Nat, k ≤ fs.length ∧ i = .int .i64 k ∧ Hid (BlkU wr w.heap.size (cutU fs k)) ∧ Hid (Below w.heap.size w wr)) (fun i _ => fs.length - (intOf i).toNat)
  case atStart => exact ⟨0, Nat.zero_le _, rfl, H0, B0⟩
  case round =>
    clear H0 hmk B0
    obtain ⟨k, hk, rfl, hrow, hnx⟩ := hrel
    have hsz := Bxs.lt hrow.out
    by_cases hlt : k < fs.length
    · have i1 : (k : Int) < fs.length := by omega
      obtain ⟨b, off, rfl, hb, hc1, hc2, hc3, hc4⟩ := HP.out k hlt
      have hc1 := (hnx.out.cell (p := ⟨b, off + k * 4, none⟩) hb).trans hc1
      have hc2 := (hnx.out.cell (p := ⟨b, off + k * 4 + 1, none⟩) hb).trans hc2
      have hc3 := (hnx.out.cell (p := ⟨b, off + k * 4 + 2, none⟩) hb).trans hc3
      have hc4 := (hnx.out.cell (p := ⟨b, off + k * 4 + 3, none⟩) hb).trans hc4
      have hlen := cutU_len fs k hk
      have hset := cutU_set fs k hlt
      have HS : Hid (∀ y, Below wr.heap.size wr y → (∃ x1 x2 x3 x4, y.cell? ⟨w.heap.size, k * 4, none⟩ = some x1 ∧ y.cell? ⟨w.heap.size, k * 4 + 1, none⟩ = some x2 ∧ y.cell? ⟨w.heap.size, k * 4 + 2, none⟩ = some x3 ∧ y.cell? ⟨w.heap.size, k * 4 + 3, none⟩ = some x4) ∧ (y.frozen? ⟨w.heap.size, k * 4, none⟩ = false ∧ y.frozen? ⟨w.heap.size, k * 4 + 1, none⟩ = false ∧ y.frozen? ⟨w.heap.size, k * 4 + 2, none⟩ = false ∧ y.frozen? ⟨w.heap.size, k * 4 + 3, none⟩ = false) ∧ Hid (∀ f, fs[k] = f → BlkU (set4u y w.heap.size (k * 4) f) w.heap.size (cutU fs (k + 1)) ∧ Below w.heap.size w (set4u y w.heap.size (k * 4) f))) := fun y hb => by
        have h := hrow.out.below hb
        obtain ⟨g1, g3⟩ := h.cells k (by omega)
        refine ⟨⟨_, _, _, _, g1⟩, g3, fun f he => ?_⟩
        rw [← hset, he]
        exact ⟨h.set4u k f, set4u_below (chainB hnx.out hb) (Nat.le_refl _) _ _⟩
      clear hset hrow
      generalize fs[k] = f at *
      obtain ⟨n, c, s, v⟩ := f
      have hc1 : wr.cell? ⟨b, off + k * 4, none⟩ = some (.string n) := hc1
      have hc2 : wr.cell? ⟨b, off + k * 4 + 1, none⟩ = some (.string c) := hc2
      have hc3 : wr.cell? ⟨b, off + k * 4 + 2, none⟩ = some (.int .i64 s) := hc3
      have hc4 : wr.cell? ⟨b, off + k * 4 + 3, none⟩ = some (.int .i64 v) := hc4
      go_wp2_with fail
      refine (toRul_any n c s v wr).mono ?_
      rintro e y ⟨rfl, b1⟩
      obtain ⟨⟨x1, x2, x3, x4, g1, g2, g3, g4⟩, ⟨f1, f2, f3, f4⟩, HE⟩ := HS.out y b1
      obtain ⟨W5, hW5⟩ : ∃ W5, W5 = set4u y w.heap.size (k * 4) ⟨n, c, s, v⟩ := ⟨_, rfl⟩
      have HE2 : Hid (BlkU W5 w.heap.size (cutU fs (k + 1))) := by rw [hW5]; exact (HE.out _ rfl).1
      have HE3 : Hid (Below w.heap.size w W5) := by rw [hW5]; exact (HE.out _ rfl).2
      have HW5 : Hid (W5 = set4u y w.heap.size (k * 4) ⟨n, c, s, v⟩) := hW5
      clear HS HE b1 hc1 hc2 hc3 hc4 hW5
      go_wp2_with fail
      go_roundw
      case rel =>
        have e5 := HW5.out
        unfold set4u at e5
        rw [← e5]
        exact ⟨k + 1, by omega, by go_num, HE2, HE3⟩
      case measure => simp [intOf]; omega
    · have hkk : k = fs.length := by omega
      subst hkk
      have HR : Hid (BlkU wr w.heap.size fs) := by
        have := hrow.out; unfold cutU at this; show BlkU _ _ _; simpa using this
      go_wp2_with fail
      go_ret
      exact ⟨rfl, HR.out, hnx.out⟩

theorem eqRul_any (k f : ByteArray) (l m : Int) (w : World) :
    Calls Tryz.prog 82 #[.agg #[.string k, .string f, .int .i64 l, .int .i64 m], .agg #[.string k, .string f, .int .i64 l, .int .i64 m]] w fun e w' => e = .returned (.bool true) ∧ Below w.heap.size w w' := by
  have B1 : Below w.heap.size w ((w.alloc (.cells #[.string k, .string f, .int .i64 l, .int .i64 m] 101)).alloc (.cells #[.string k, .string f, .int .i64 l, .int .i64 m] 101)) := alB (alB (Below.refl _ _) _) _
  go_enter Tryz.func82, Tryz.ntmps82
  go_wp2_with fail
  go_ret
  exact ⟨rfl, B1⟩

set_option maxHeartbeats 1000000 in
theorem eqU_any (p q : Option Addr) (cap cap2 : Nat) (fs : List Rul) (w : World) (hp : RulAt w p fs) (hq : RulAt w q fs) (hn : fs.length ≤ 1048576) (hcap : fs.length ≤ cap) (hcap2 : fs.length ≤ cap2) :
    Calls Tryz.prog 45 #[.slice p fs.length cap, .slice q fs.length cap2] w fun e w' => e = .returned (.bool true) ∧ Below w.heap.size w w' := by
  have HP : Hid (RulAt w p fs) := hp
  have HQ : Hid (RulAt w q fs) := hq
  clear hp hq
  go_enter Tryz.func45, Tryz.ntmps45
  go_wp2_with fail
  go_loopw [5] (fun i wr => ∃ k : Nat, k ≤ fs.length ∧ i = .int .i64 k ∧ Hid (Below w.heap.size w wr)) (fun i _ => fs.length - (intOf i).toNat)
  case atStart => exact ⟨0, Nat.zero_le _, rfl, Below.refl _ _⟩
  case round =>
    obtain ⟨k, hk, rfl, HB⟩ := hrel
    by_cases hlt : k < fs.length
    · obtain ⟨b, off, rfl, hb, hc1, hc2, hc3, hc4⟩ := (HP.out.below HB.out) k hlt
      obtain ⟨b2, off2, rfl, hb2, hd1, hd2, hd3, hd4⟩ := (HQ.out.below HB.out) k hlt
      have j5 : (k : Int) < fs.length := by omega
      generalize fs[k] = f at *
      obtain ⟨n, c, s, v⟩ := f
      have hc1 : wr.cell? ⟨b, off + k * 4, none⟩ = some (.string n) := hc1
      have hc2 : wr.cell? ⟨b, off + k * 4 + 1, none⟩ = some (.string c) := hc2
      have hc3 : wr.cell? ⟨b, off + k * 4 + 2, none⟩ = some (.int .i64 s) := hc3
      have hc4 : wr.cell? ⟨b, off + k * 4 + 3, none⟩ = some (.int .i64 v) := hc4
      have hd1 : wr.cell? ⟨b2, off2 + k * 4, none⟩ = some (.string n) := hd1
      have hd2 : wr.cell? ⟨b2, off2 + k * 4 + 1, none⟩ = some (.string c) := hd2
      have hd3 : wr.cell? ⟨b2, off2 + k * 4 + 2, none⟩ = some (.int .i64 s) := hd3
      have hd4 : wr.cell? ⟨b2, off2 + k * 4 + 3, none⟩ = some (.int .i64 v) := hd4
      go_wp2_with fail
      go_region_with (first | (go_at_call 82; refine (eqRul_any n c s v _).mono ?_; rintro e y1 ⟨rfl, z1⟩; have z1 : Below w.heap.size w y1 := chainB (by first | exact HB.out | exact HB.out.drew) z1))
      all_goals
        have HB1 : Hid (Below w.heap.size w y1) := z1
        clear z1
        go_wp2_with fail
        go_roundw
        case rel => exact ⟨k + 1, by omega, by go_num, HB1⟩
        case measure => simp [intOf]; omega
    · go_wp2_with fail
      go_ret
      exact ⟨rfl, HB.out⟩
end Go.Proofs.YtokkeadbkeehgaaGreatDoor
/-
  What the laws' own helpers answer for policies: szPolicy, toPolicy, eqPolicy, eqPolicyOut (of two that are alike).
  Conditions: the slices' cells hold the rules and the numbers.
-/
namespace Go.Proofs.YtokkeadbkeehgaaGreatDoor
open Go.RowKit Go.Lib
set_option linter.unusedVariables false
set_option maxRecDepth 20000

theorem BlkU.setOther {w : World} {g : Nat} {l : List Rul} (h : BlkU w g l) (g' k : Nat) (hne : g' ≠ g) (v : Value) : BlkU (w.setCell ⟨g', k, none⟩ v) g l := Bxs.other h g' k hne v
theorem BlkI.setOther {w : World} {g : Nat} {ks : List Int} (h : BlkI w g ks) (g' k : Nat) (hne : g' ≠ g) (v : Value) : BlkI (w.setCell ⟨g', k, none⟩ v) g ks := Bxs.other h g' k hne v
set_option maxHeartbeats 1000000 in
theorem szPolicy_any (l0 : Int) (l00 : 0 ≤ l0) (l01 : l0 ≤ 1048576) (p1 p2 : Option Addr) (c1 c2 : Nat) (ss : List Rul) (ps : List Int) (w : World) (h1 : RulAt w p1 ss) (n1 : ss.length ≤ 9223372036854775807) (n2 : ps.length ≤ 9223372036854775807) (m1 : ss.length ≤ c1) (s1 : RulsBig ss) :
    Calls Tryz.prog 7 #[.agg #[.slice p1 ss.length c1, .slice p2 ps.length c2], .int .i64 l0] w fun e w' => (∃ r : Int, e = .returned (.int .i64 r) ∧ (r = -1 ∨ (0 ≤ r ∧ r ≤ l0 ∧ ss.length ≤ 1048576 ∧ ps.length ≤ 1048576))) ∧ Below w.heap.size w w' := by
  obtain ⟨W1, hW1⟩ : ∃ W1, W1 = w.alloc (.cells #[.slice p1 ss.length c1, .slice p2 ps.length c2] 29) := ⟨_, rfl⟩
  have HW1 : Hid (W1 = w.alloc (.cells #[.slice p1 ss.length c1, .slice p2 ps.length c2] 29)) := hW1
  have B1 : Hid (Below w.heap.size w W1) := by rw [hW1]; exact (Below.refl _ _).alloc (Nat.le_refl _) _
  have X1 : Hid (Bxs W1 w.heap.size 29 #[.slice p1 ss.length c1, .slice p2 ps.length c2]) := by rw [hW1]; exact Bxs.new _ _ _
  have H1 := szU_any l0 l00 l01 p1 c1 ss W1 (h1.below B1.out) n1 m1 s1
  clear hW1 h1 s1
  go_enter Tryz.func7, Tryz.ntmps7
  go_wp2_with fail
  rw [← HW1.out]
  refine H1.mono ?_
  rintro e w1 ⟨⟨r, rfl, hr⟩, b1⟩
  have t1 : w1.cell? ⟨w.heap.size, 1, none⟩ = some (.slice p2 ps.length c2) := (X1.out.below b1).cell 1
  have b1 := chainB B1.out b1
  rcases hr with rfl | ⟨r0, r1, r2⟩
  · go_wp2_with fail
    go_ret
    exact ⟨⟨_, rfl, .inl rfl⟩, b1⟩
  · have H3 := szI_any r r0 (by omega) p2 c2 ps w1 n2
    have dr : decide (r < 0) = false := decide_eq_false (by omega)
    go_wp2_with fail
    refine H3.mono ?_
    rintro e w2 ⟨⟨r', rfl, hr'⟩, rfl⟩
    rcases hr' with rfl | ⟨r4, r5, r6⟩
    · go_wp2_with fail
      go_ret
      exact ⟨⟨_, rfl, .inl rfl⟩, b1⟩
    · have dr : decide (r' < 0) = false := decide_eq_false (by omega)
      go_wp2_with fail
      go_ret
      exact ⟨⟨_, rfl, .inr ⟨r4, by omega, r2, r6⟩⟩, b1⟩

set_option maxHeartbeats 2000000 in
theorem toPolicy_any (p1 p2 : Option Addr) (c1 c2 : Nat) (ss : List Rul) (ps : List Int) (w : World) (h1 : RulAt w p1 ss) (h2 : IntAt w p2 ps) (n1 : ss.length ≤ 1048576) (n2 : ps.length ≤ 1048576) (m1 : ss.length ≤ c1) (m2 : ps.length ≤ c2) :
    Calls Tryz.prog 10 #[.agg #[.slice p1 ss.length c1, .slice p2 ps.length c2]] w fun e w' => ∃ g1 g2, w.heap.size ≤ g1 ∧ g1 < g2 ∧ e = .returned (.agg #[.slice (some ⟨g1, 0, none⟩) ss.length ss.length, .slice (some ⟨g2, 0, none⟩) ps.length ps.length]) ∧ BlkU w' g1 ss ∧ BlkI w' g2 ps ∧ Below w.heap.size w w' := by
  obtain ⟨W1, hW1⟩ : ∃ W1, W1 = w.alloc (.cells #[.slice p1 ss.length c1, .slice p2 ps.length c2] 29) := ⟨_, rfl⟩
  obtain ⟨W2, hW2⟩ : ∃ W2, W2 = W1.alloc (.cells #[.slice none 0 0, .slice none 0 0] 40) := ⟨_, rfl⟩
  obtain ⟨W3, hW3⟩ : ∃ W3, W3 = W2.alloc (.cells #[.slice none 0 0, .slice none 0 0] 40) := ⟨_, rfl⟩
  have z1 : W1.heap.size = w.heap.size + 1 := by rw [hW1]; simp
  have z2 : W2.heap.size = w.heap.size + 1 + 1 := by rw [hW2]; simp [z1]
  have z3 : W3.heap.size = w.heap.size + 3 := by rw [hW3]; simp [z2]
  have b1 : Below w.heap.size w W1 := by rw [hW1]; exact (Below.refl _ _).alloc (Nat.le_refl _) _
  have b2 : Below w.heap.size w W2 := by rw [hW2]; exact alB b1 _
  have B0 : Hid (Below w.heap.size w W3) := by rw [hW3]; exact alB b2 _
  have XA : Hid (Bxs W3 w.heap.size 29 #[.slice p1 ss.length c1, .slice p2 ps.length c2]) := by rw [hW3, hW2, hW1]; exact ((Bxs.new _ _ _).alloc _).alloc _
  have XR : Hid (Bxs W3 (w.heap.size + 1) 40 #[.slice none 0 0, .slice none 0 0]) := by rw [hW3]; refine Bxs.alloc ?_ _; rw [hW2, ← z1]; exact Bxs.new _ _ _
  have XO : Hid (Bxs W3 (w.heap.size + 1 + 1) 40 #[.slice none 0 0, .slice none 0 0]) := by rw [hW3, ← z2]; exact Bxs.new _ _ _
  have HW3 : Hid (W3 = ((w.alloc (.cells #[.slice p1 ss.length c1, .slice p2 ps.length c2] 29)).alloc (.cells #[.slice none 0 0, .slice none 0 0] 40)).alloc (.cells #[.slice none 0 0, .slice none 0 0] 40)) := by rw [hW3, hW2, hW1]; exact rfl
  have HC := toU_any p1 c1 ss W3 (h1.below B0.out) n1 m1
  have HT2 : Hid (IntAt w p2 ps) := h2
  have HZ3 : Hid (W3.heap.size = w.heap.size + 3) := z3
  clear hW1 hW2 hW3 z1 z2 z3 b1 b2 h1 h2
  go_enter Tryz.func10, Tryz.ntmps10
  go_wp2_with fail
  rw [← HW3.out]
  refine HC.mono ?_
  rintro e w4 ⟨rfl, hB4, b4⟩
  rw [HZ3.out] at hB4 ⊢
  have hz4 := b4.size
  have xo := XO.out.below b4
  have o0 : w4.cell? ⟨w.heap.size + 1 + 1, 0, none⟩ = some (.slice none 0 0) := xo.cell 0
  have fo := xo.fr 0
  obtain ⟨W5, hW5⟩ : ∃ W5, W5 = w4.setCell ⟨w.heap.size + 1 + 1, 0, none⟩ (.slice (some ⟨w.heap.size + 3, 0, none⟩) ss.length ss.length) := ⟨_, rfl⟩
  have HW5 : Hid (W5 = w4.setCell ⟨w.heap.size + 1 + 1, 0, none⟩ (.slice (some ⟨w.heap.size + 3, 0, none⟩) ss.length ss.length)) := hW5
  have z5 : W5.heap.size = w4.heap.size := by rw [hW5]; simp [World.setCell]
  have bb5 := (chainB B0.out b4).setCell (p := ⟨w.heap.size + 1 + 1, 0, none⟩) (by show w.heap.size ≤ w.heap.size + 1 + 1; omega) (.slice (some ⟨w.heap.size + 3, 0, none⟩) ss.length ss.length)
  rw [← hW5] at bb5
  have HB5 : Hid (Below w.heap.size w W5) := bb5
  have XA5 : Hid (Bxs W5 w.heap.size 29 #[.slice p1 ss.length c1, .slice p2 ps.length c2]) := by rw [hW5]; exact (XA.out.below b4).other _ _ (by omega) _
  have XR5 : Hid (Bxs W5 (w.heap.size + 1) 40 #[.slice none 0 0, .slice none 0 0]) := by rw [hW5]; exact (XR.out.below b4).other _ _ (by omega) _
  have XO5 : Hid (Bxs W5 (w.heap.size + 1 + 1) 40 #[.slice (some ⟨w.heap.size + 3, 0, none⟩) ss.length ss.length, .slice none 0 0]) := by rw [hW5]; exact xo.set 0 _
  have HK5 : Hid (BlkU W5 (w.heap.size + 3) ss) := by rw [hW5]; exact hB4.setOther _ _ (by omega) _
  have HC2 := toI_any p2 c2 ps W5 (HT2.out.below HB5.out) n2 m2
  rw [z5] at HC2
  have a1 : W5.cell? ⟨w.heap.size, 1, none⟩ = some (.slice p2 ps.length c2) := XA5.out.cell 1
  rw [hW5] at a1
  have hlt : w.heap.size + 3 < w4.heap.size := Bxs.lt hB4
  clear hW5 bb5 hB4 b4 xo XA XR XO HT2 HC
  go_wp2_with fail
  rw [← HW5.out]
  refine HC2.mono ?_
  rintro e w6 ⟨rfl, hB6, b6⟩
  have b6 : Below W5.heap.size W5 w6 := by rw [z5]; exact b6
  have xo := XO5.out.below b6
  have xr := XR5.out.below b6
  have g0 : w6.cell? ⟨w.heap.size + 1 + 1, 0, none⟩ = some (.slice (some ⟨w.heap.size + 3, 0, none⟩) ss.length ss.length) := xo.cell 0
  have g1 : w6.cell? ⟨w.heap.size + 1 + 1, 1, none⟩ = some (.slice none 0 0) := xo.cell 1
  have fg := xo.fr 1
  have r0 : w6.cell? ⟨w.heap.size + 1, 0, none⟩ = some (.slice none 0 0) := xr.cell 0
  have r1 : w6.cell? ⟨w.heap.size + 1, 1, none⟩ = some (.slice none 0 0) := xr.cell 1
  have e0 := xr.fr 0
  have e1 := xr.fr 1
  have HEnd : Hid (∀ v0 v1 v2 : Value, BlkU (((w6.setCell ⟨w.heap.size + 1 + 1, 1, none⟩ v0).setCell ⟨w.heap.size + 1, 0, none⟩ v1).setCell ⟨w.heap.size + 1, 1, none⟩ v2) (w.heap.size + 3) ss ∧ BlkI (((w6.setCell ⟨w.heap.size + 1 + 1, 1, none⟩ v0).setCell ⟨w.heap.size + 1, 0, none⟩ v1).setCell ⟨w.heap.size + 1, 1, none⟩ v2) w4.heap.size ps ∧ Below w.heap.size w (((w6.setCell ⟨w.heap.size + 1 + 1, 1, none⟩ v0).setCell ⟨w.heap.size + 1, 0, none⟩ v1).setCell ⟨w.heap.size + 1, 1, none⟩ v2)) := by
    intro v0 v1 v2
    have k1 := HK5.out.below b6
    have hb := chainB HB5.out b6
    exact ⟨((k1.setOther _ _ (by omega) _).setOther _ _ (by omega) _).setOther _ _ (by omega) _, ((hB6.setOther _ _ (by omega) _).setOther _ _ (by omega) _).setOther _ _ (by omega) _, ((hb.setCell (by show w.heap.size ≤ w.heap.size + 1 + 1; omega) _).setCell (by show w.heap.size ≤ w.heap.size + 1; omega) _).setCell (by show w.heap.size ≤ w.heap.size + 1; omega) _⟩
  clear hB6 b6 xo xr z5 HC2 XA5 XR5 XO5 HK5 HB5 HW5 a1 o0 fo
  go_wp2_with fail
  refine bodyPost_ret (v := .agg #[.slice (some ⟨w.heap.size + 3, 0, none⟩) ss.length ss.length, .slice (some ⟨w4.heap.size, 0, none⟩) ps.length ps.length]) (by simp [results, Tryz.results10, go_sem, r0, r1]) rfl ?_
  exact ⟨w.heap.size + 3, w4.heap.size, by omega, hlt, rfl, HEnd.out _ _ _⟩

set_option maxHeartbeats 1000000 in
theorem eqPolicy_any (p1 p2 q1 q2 : Option Addr) (c1 c2 d1 d2 : Nat) (ss : List Rul) (ps : List Int) (w : World) (h1 : RulAt w p1 ss) (h2 : IntAt w p2 ps) (g1 : RulAt w q1 ss) (g2 : IntAt w q2 ps) (n1 : ss.length ≤ 1048576) (n2 : ps.length ≤ 1048576) (m1 : ss.length ≤ c1) (m2 : ps.length ≤ c2) (m3 : ss.length ≤ d1) (m4 : ps.length ≤ d2) :
    Calls Tryz.prog 14 #[.agg #[.slice p1 ss.length c1, .slice p2 ps.length c2], .agg #[.slice q1 ss.length d1, .slice q2 ps.length d2]] w fun e w' => e = .returned (.bool true) ∧ Below w.heap.size w w' := by
  obtain ⟨W0, hW0⟩ : ∃ W0, W0 = w.alloc (.cells #[.slice p1 ss.length c1, .slice p2 ps.length c2] 40) := ⟨_, rfl⟩
  have hz : W0.heap.size = w.heap.size + 1 := by rw [hW0]; simp
  obtain ⟨W1, hW1⟩ : ∃ W1, W1 = W0.alloc (.cells #[.slice q1 ss.length d1, .slice q2 ps.length d2] 40) := ⟨_, rfl⟩
  have HW1 : Hid (W1 = (w.alloc (.cells #[.slice p1 ss.length c1, .slice p2 ps.length c2] 40)).alloc (.cells #[.slice q1 ss.length d1, .slice q2 ps.length d2] 40)) := by rw [hW1, hW0]; exact rfl
  have hB0 : Below w.heap.size w W0 := by rw [hW0]; exact (Below.refl _ _).alloc (Nat.le_refl _) _
  have B1 : Hid (Below w.heap.size w W1) := by rw [hW1]; exact alB hB0 _
  have X1 : Hid (Bxs W1 w.heap.size 40 #[.slice p1 ss.length c1, .slice p2 ps.length c2]) := by rw [hW1]; refine Bxs.alloc ?_ _; rw [hW0]; exact Bxs.new _ _ _
  have X2 : Hid (Bxs W1 (w.heap.size + 1) 40 #[.slice q1 ss.length d1, .slice q2 ps.length d2]) := by rw [hW1, ← hz]; exact Bxs.new _ _ _
  have hE := eqU_any p1 q1 c1 d1 ss W1 (h1.below B1.out) (g1.below B1.out) n1 m1 m3
  have T2 : Hid (IntAt W1 p2 ps ∧ IntAt W1 q2 ps) := ⟨h2.below B1.out, g2.below B1.out⟩
  clear hW1 hW0 h1 h2 g1 g2 hB0 hz
  go_enter Tryz.func14, Tryz.ntmps14
  go_wp2_with fail
  rw [← HW1.out]
  refine hE.mono ?_
  rintro e w1 ⟨rfl, b1⟩
  have x1 : w1.cell? ⟨w.heap.size, 1, none⟩ = some (.slice p2 ps.length c2) := (X1.out.below b1).cell 1
  have x2 : w1.cell? ⟨w.heap.size + 1, 1, none⟩ = some (.slice q2 ps.length d2) := (X2.out.below b1).cell 1
  have hF := eqI_any p2 q2 c2 d2 ps w1 (T2.out.1.below b1) (T2.out.2.below b1) n2 m2 m4
  have b1 := chainB B1.out b1
  clear hE T2
  go_wp2_with fail
  refine hF.mono ?_
  rintro e w2 ⟨rfl, b2⟩
  have b2 := chainB b1 b2
  clear hF x1 x2
  go_wp2_with fail
  go_ret
  exact ⟨rfl, b2⟩

end Go.Proofs.YtokkeadbkeehgaaGreatDoor
/-
  What the laws' own helpers answer for slices of texts: szStringS (of few and small ones, a number that is not below 0, else -1), toStringS (a copy in new memory), eqStringS (are they alike).
  Conditions: the slices' cells hold those texts.
-/
namespace Go.Proofs.YtokkeadbkeehgaaGreatDoor
open Go.RowKit Go.Lib
set_option linter.unusedVariables false

def cutS (ss : List ByteArray) (k : Nat) : List ByteArray := ss.take k ++ List.replicate (ss.length - k) ByteArray.empty
theorem cutS_len (ss : List ByteArray) (k : Nat) (h : k ≤ ss.length) : (cutS ss k).length = ss.length := by simp [cutS]; omega
theorem cutS_set (ss : List ByteArray) (k : Nat) (h : k < ss.length) : (cutS ss k).set k ss[k] = cutS ss (k + 1) := by
  unfold cutS
  rw [show ss.length - k = (ss.length - (k + 1)) + 1 by omega, List.replicate_succ]
  have hl : (ss.take k).length = k := by simp; omega
  rw [List.set_append_right _ _ (by omega), hl, Nat.sub_self, List.set_cons_zero, List.take_succ_eq_append_getElem h, List.append_assoc]; rfl

def SzEnd (r : Int) (ss : List ByteArray) : Prop := r = -1 ∨ (0 ≤ r ∧ ss.length ≤ 1048576 ∧ ∀ x ∈ ss, x.size ≤ 1048576)
set_option maxHeartbeats 400000 in
theorem sz_any (p : Option Addr) (cap : Nat) (ss : List ByteArray) (w : World) (hp : TxtAt w p ss) (hn : ss.length ≤ 9223372036854775807) (hcap : ss.length ≤ cap) (hs : ∀ x ∈ ss, x.size ≤ 9223372036854775807) :
    Calls Tryz.prog 27 #[.slice p ss.length cap, .int .i64 1048576] w fun e w' => (∃ r : Int, e = .returned (.int .i64 r) ∧ SzEnd r ss) ∧ w' = w := by
  have HP : Hid (TxtAt w p ss) := hp
  have HS : Hid (∀ x ∈ ss, x.size ≤ 9223372036854775807) := hs
  clear hp hs
  by_cases hl : ss.length ≤ 1048576
  · go_enter Tryz.func27, Tryz.ntmps27
    go_wp2
    go_loop [5, 1] (fun i x => ∃ (k : Nat) (l : Int), k ≤ ss.length ∧ i = .int .i64 k ∧ x = .int .i64 l ∧ 0 ≤ l ∧ l ≤ 1048576 ∧ Hid (∀ j (h : j < ss.length), j < k → ss[j].size ≤ 1048576)) (fun i _ => ss.length - (intOf i).toNat)
    case atStart => exact ⟨0, _, Nat.zero_le _, rfl, rfl, by omega, by omega, fun j h hk => by omega⟩
    case round =>
      obtain ⟨k, l, hk, rfl, rfl, hl0, hl1, HK⟩ := hrel
      by_cases hlt : k < ss.length
      · obtain ⟨b, off, rfl, hb, hck⟩ := HP.out k hlt
        have hsz := HS.out ss[k] (List.getElem_mem hlt)
        by_cases h32 : (ss[k].size : Int) ≤ l
        · have HK2 : Hid (∀ j (h : j < ss.length), j < k + 1 → ss[j].size ≤ 1048576) := fun j h hj => if he : j = k then by subst he; omega else HK.out j h (by omega)
          generalize ss[k] = q at *
          go_wp2
          go_round
          case rel => exact ⟨k + 1, l - q.size, by omega, by go_num, by go_num, by omega, by omega, HK2⟩
          case measure => simp [intOf]; omega
        · generalize ss[k] = q at *
          go_wp2
          go_ret
          exact ⟨⟨_, rfl, .inl rfl⟩, rfl⟩
      · have HF : Hid (∀ x ∈ ss, x.size ≤ 1048576) := fun x hx => by
          obtain ⟨j, hj, rfl⟩ := List.getElem_of_mem hx
          exact HK.out j hj (by omega)
        go_wp2
        go_ret
        exact ⟨⟨_, rfl, .inr ⟨hl0, hl, HF.out⟩⟩, rfl⟩
  · go_enter Tryz.func27, Tryz.ntmps27
    go_wp2
    go_ret
    exact ⟨⟨_, rfl, .inl rfl⟩, rfl⟩

set_option maxHeartbeats 400000 in
theorem to_any (p : Option Addr) (cap : Nat) (ss : List ByteArray) (w : World) (hp : TxtAt w p ss) (hn : ss.length ≤ 1048576) (hcap : ss.length ≤ cap) :
    Calls Tryz.prog 34 #[.slice p ss.length cap] w fun e w' => e = .returned (.slice (some ⟨w.heap.size, 0, none⟩) ss.length ss.length) ∧ BlkS w' w.heap.size ss ∧ Below w.heap.size w w' := by
  have HP : Hid (TxtAt w p ss) := hp
  clear hp
  have hmk := run_make_str ss.length hn
  have H0 : Hid (BlkS (w.alloc (.cells (strRow (List.replicate ss.length ByteArray.empty)).toArray 9)) w.heap.size (cutS ss 0)) := by
    have := alloc_str w (List.replicate ss.length ByteArray.empty)
    show BlkS _ _ _
    unfold cutS; simpa using this
  go_enter Tryz.func34, Tryz.ntmps34
  go_wp2
  go_loopw [4] (fun i wr => ∃ k : Nat, k ≤ ss.length ∧ i = .int .i64 k ∧ Hid (BlkS wr w.heap.size (cutS ss k)) ∧ Hid (Below w.heap.size w wr)) (fun i _ => ss.length - (intOf i).toNat)
  case atStart => exact ⟨0, Nat.zero_le _, rfl, H0, (Below.refl _ _).alloc (Nat.le_refl _) _⟩
  case round =>
    clear H0 hmk
    obtain ⟨k, hk, rfl, hrow, hnx⟩ := hrel
    have hsz := hrow.out.lt
    by_cases hlt : k < ss.length
    · obtain ⟨b, off, rfl, hb, hck⟩ := HP.out k hlt
      have hc1 : wr.cell? ⟨b, off + k, none⟩ = some (.string ss[k]) := (hnx.out.cell (p := ⟨b, off + k, none⟩) hb).trans hck
      obtain ⟨hc2, hf2⟩ := hrow.out.cell k (by rw [cutS_len _ _ (by omega)]; exact hlt)
      have HR : Hid (BlkS (wr.setCell ⟨w.heap.size, k, none⟩ (.string ss[k])) w.heap.size (cutS ss (k + 1))) := by
        show BlkS _ _ _
        rw [← cutS_set ss k hlt]; exact hrow.out.set k _
      have HB : Hid (Below w.heap.size w (wr.setCell ⟨w.heap.size, k, none⟩ (.string ss[k]))) := hnx.out.setCell (Nat.le_refl _) _
      clear hck
      generalize ss[k] = q at *
      generalize (cutS ss k)[k]'_ = q2 at *
      go_wp2
      go_roundw
      case rel => exact ⟨k + 1, by omega, by go_num, HR, HB⟩
      case measure => simp [intOf]; omega
    · have hkk : k = ss.length := by omega
      subst hkk
      have HR : Hid (BlkS wr w.heap.size ss) := by
        have := hrow.out; unfold cutS at this; show BlkS _ _ _; simpa using this
      go_wp2
      go_ret
      exact ⟨rfl, HR.out, hnx.out⟩

set_option maxHeartbeats 400000 in
theorem eq_any (p q : Option Addr) (cap cap2 : Nat) (ss ts : List ByteArray) (w : World) (hp : TxtAt w p ss) (hq : TxtAt w q ts) (hn : ss.length ≤ 140737488355328) (hn2 : ts.length ≤ 140737488355328) (hcap : ss.length ≤ cap) (hcap2 : ts.length ≤ cap2) :
    Calls Tryz.prog 44 #[.slice p ss.length cap, .slice q ts.length cap2] w fun e w' => e = .returned (.bool (decide (ss = ts))) ∧ Below w.heap.size w w' := by
  have HP : Hid (TxtAt w p ss) := hp
  have HQ : Hid (TxtAt w q ts) := hq
  clear hp hq
  by_cases hl : ss.length = ts.length
  · rw [← hl]
    have hl2 : Hid (ss.length = ts.length) := hl
    clear hl
    rw [← hl2.out] at hcap2
    go_enter Tryz.func44, Tryz.ntmps44
    go_wp2
    go_loopw [5] (fun i wr => ∃ k m : Nat, k ≤ ss.length ∧ i = .int .i64 k ∧ wr = w.drewN m ∧ Hid (∀ j (h : j < ss.length) (h2 : j < ts.length), j < k → ss[j] = ts[j])) (fun i _ => ss.length - (intOf i).toNat)
    case atStart => exact ⟨0, 0, Nat.zero_le _, rfl, rfl, fun j h h2 hk => by omega⟩
    case round =>
      obtain ⟨k, m, hk, rfl, rfl, HK⟩ := hrel
      by_cases hlt : k < ss.length
      · have hlt2 : k < ts.length := by have := hl2.out; omega
        obtain ⟨b, off, rfl, hb, hck⟩ := HP.out k hlt
        obtain ⟨b2, off2, rfl, hb2, hck2⟩ := HQ.out k hlt2
        have j5 : (k : Int) < ss.length := by omega
        by_cases he : ss[k] = ts[k]
        · have HK2 : Hid (∀ j (h : j < ss.length) (h2 : j < ts.length), j < k + 1 → ss[j] = ts[j]) := fun j h h2 hj => if hjk : j = k then by subst hjk; exact he else HK.out j h h2 (by omega)
          rw [← he] at hck2
          clear he
          generalize ss[k] = x at *
          go_wp2
          go_quiet (fail)
          go_wp2
          go_roundw
          case rel => exact ⟨k + 1, _, by omega, by go_num, rfl, HK2⟩
          case measure => simp [intOf]; omega
        · have HF : Hid (decide (ss = ts) = false) := decide_eq_false (fun h => he (by subst h; rfl))
          generalize ss[k] = x at *
          generalize ts[k] = y at *
          have hne : (x.toList == y.toList) = false := by
            rw [beq_eq_false_iff_ne]
            exact fun h => he (toList_inj h)
          clear he
          go_wp2
          go_quiet (fail)
          go_wp2
          go_ret
          exact ⟨ret_bool HF.out.symm, ⟨rfl, rfl, rfl, Nat.le_refl _, fun _ _ => rfl⟩⟩
      · have HF : Hid (decide (ss = ts) = true) := decide_eq_true (List.ext_getElem hl2.out fun j h h2 => HK.out j h h2 (by omega))
        go_wp2
        go_ret
        exact ⟨ret_bool HF.out.symm, ⟨rfl, rfl, rfl, Nat.le_refl _, fun _ _ => rfl⟩⟩
  · have HF : Hid (decide (ss = ts) = false) := decide_eq_false (fun h => hl (by rw [h]))
    have hl2 : ¬ (ss.length : Int) = ts.length := by omega
    go_enter Tryz.func44, Tryz.ntmps44
    go_wp2
    go_ret
    exact ⟨ret_bool HF.out.symm, Below.refl _ _⟩
end Go.Proofs.YtokkeadbkeehgaaGreatDoor
/-
  What the laws' own helpers do that mark texts: markText (the mark of a number), markStringS (each text of a slice becomes its mark), heldStringS (are all still marked).
  Conditions: the slice owns its row, of at most 2^20 texts.
-/
namespace Go.Proofs.YtokkeadbkeehgaaGreatDoor
open Go.RowKit Go.Lib
set_option linter.unusedVariables false
set_option maxRecDepth 20000

def digs (k : Nat) (acc : ByteArray) : ByteArray := if h : k = 0 then acc else digs (k / 10) (strOfNums [48 + (k : Int) % 10] ++ acc)
termination_by k
decreasing_by omega
theorem digs_zero (acc : ByteArray) : digs 0 acc = acc := by rw [digs]; simp
theorem digs_pos {k : Nat} (h : k ≠ 0) (acc : ByteArray) : digs k acc = digs (k / 10) (strOfNums [48 + (k : Int) % 10] ++ acc) := by rw [digs]; simp [h]
def mk109 : ByteArray := ⟨#[109]⟩
def markB (k : Nat) : ByteArray := mk109 ++ digs k ByteArray.empty
def marksTo (l : List ByteArray) (k : Nat) : List ByteArray := (List.range k).map (fun j => markB (j + 1)) ++ l.drop k
def marksL (n : Nat) : List ByteArray := (List.range n).map (fun j => markB (j + 1))
theorem marksTo_len (l : List ByteArray) (k : Nat) (h : k ≤ l.length) : (marksTo l k).length = l.length := by simp [marksTo]; omega
theorem marksTo_set (l : List ByteArray) (k : Nat) (h : k < l.length) : (marksTo l k).set k (markB (k + 1)) = marksTo l (k + 1) := by
  unfold marksTo
  have hl : ((List.range k).map (fun j => markB (j + 1))).length = k := by simp
  rw [List.set_append_right _ _ (by omega), hl, Nat.sub_self, List.drop_eq_getElem_cons h, List.set_cons_zero, List.range_succ, List.map_append, List.append_assoc]; rfl
theorem marksTo_all (l : List ByteArray) : marksTo l l.length = marksL l.length := by unfold marksTo marksL; simp

theorem conv_one (w : World) (x : Int) : (convert 167 9 (.slice (some ⟨w.heap.size, 0, none⟩) 1 1)).run Tryz.prog (w.alloc (.cells #[.int .u8 x] 5)) = .ok (.string (strOfNums [x])) (w.alloc (.cells #[.int .u8 x] 5)) :=
  run_convert_bytes_arg (P := Tryz.prog) _ 167 5 Tryz.underlying167 Tryz.underlying5 w.heap.size 0 1 1 [x] rfl (fun i hi => by
    have : i = 0 := by simpa using hi
    subst this
    rw [World.cell?_alloc_mark]; rfl) 9 Tryz.underlying9

set_option maxHeartbeats 1000000 in
theorem markText_any (k : Nat) (w : World) (h1 : 1 ≤ k) (h2 : k ≤ 16777217) :
    Calls Tryz.prog 83 #[.int .i64 (k : Int)] w fun e w' => e = .returned (.string (markB k)) ∧ Below w.heap.size w w' := by
  have HB : Hid (markB k = mk109 ++ digs k ByteArray.empty) := rfl
  generalize markB k = M at *
  go_enter Tryz.func83, Tryz.ntmps83
  go_wp2
  go_loopw [0, 3] (fun x v wr => ∃ (j : Nat) (acc : ByteArray), x = .int .i64 j ∧ v = .string acc ∧ acc.size + j ≤ k ∧ Hid (M = mk109 ++ digs j acc) ∧ Hid (Below w.heap.size w wr)) (fun x _ _ => (intOf x).toNat)
  case atStart => exact ⟨k, ByteArray.empty, rfl, rfl, by simp, HB, Below.refl _ _⟩
  case round =>
    clear HB
    obtain ⟨j, acc, rfl, rfl, hs, hM, hB⟩ := hrel
    by_cases hj : 0 < j
    · have hcv := conv_one wr (48 + (j : Int) % 10)
      have hz : (strOfNums [48 + (j : Int) % 10]).size = 1 := by rw [strOfNums_size]; rfl
      have HM2 : Hid (M = mk109 ++ digs (j / 10) (strOfNums [48 + (j : Int) % 10] ++ acc)) := by show _ = _; rw [hM.out, digs_pos (by omega)]
      have HB2 : Hid (Below w.heap.size w (wr.alloc (.cells #[.int .u8 (48 + (j : Int) % 10)] 5))) := hB.out.alloc hB.out.size _
      generalize strOfNums [48 + (j : Int) % 10] = D at *
      go_wp2
      go_roundw
      case rel => exact ⟨j / 10, D ++ acc, by go_num, rfl, by rw [ByteArray.size_append, hz]; omega, HM2, HB2⟩
      case measure => simp [intOf]; omega
    · obtain rfl : j = 0 := by omega
      have HM2 : Hid (M = mk109 ++ acc) := by show _ = _; rw [hM.out, digs_zero]
      go_wp2
      go_ret
      exact ⟨ret_str HM2.out.symm, hB.out⟩

set_option maxHeartbeats 1000000 in
theorem mark_any (base : Nat) (v : Value) (l : List ByteArray) (w : World) (h : w.ownsRow base 9 1 v l.length (strRow l)) (hl : l.length ≤ 1048576) :
    Calls Tryz.prog 48 #[v, .int .i64 1] w fun e w' => e = .returned (.int .i64 ((l.length : Int) + 1)) ∧ w'.ownsRow base 9 1 v l.length (strRow (marksL l.length)) ∧ w.grownBy w' v.ownBlock := by
  rcases h.2 with ⟨rfl, h0⟩ | ⟨g, cap, cur, rfl, hg1, hg2, hg3, hg4, hg5, hg6⟩
  · have hl0 : l = [] := List.length_eq_zero_iff.1 h0
    subst hl0
    clear h h0
    go_enter Tryz.func48, Tryz.ntmps48
    go_wp2
    go_loop [5, 1] (fun i x => i = .int .i64 0 ∧ x = .int .i64 1) (fun _ _ => 0)
    case atStart => exact ⟨rfl, rfl⟩
    case round =>
      obtain ⟨rfl, rfl⟩ := hrel
      go_wp2
      go_ret
      exact ⟨rfl, World.ownsRow_nil _ _ _ _, World.grownBy.refl _ _⟩
  · have HO : Hid (w.ownsRow base 9 1 (.slice (some ⟨g, 0, none⟩) l.length cap) l.length (strRow (marksTo l 0))) := by
      show World.ownsRow _ _ _ _ _ _ _
      rw [show marksTo l 0 = l by simp [marksTo]]; exact h
    have HL : Hid (∀ k, k ≤ l.length → (strRow (marksTo l k)).length = l.length) := fun k hk => by simp [strRow, marksTo_len l k hk]
    clear h hg2 hg5 hg6
    go_enter Tryz.func48, Tryz.ntmps48
    go_wp2
    go_loopw [5, 1] (fun i x wr => ∃ k : Nat, k ≤ l.length ∧ i = .int .i64 k ∧ x = .int .i64 ((k : Int) + 1) ∧ Hid (wr.ownsRow base 9 1 (.slice (some ⟨g, 0, none⟩) l.length cap) l.length (strRow (marksTo l k))) ∧ Hid (w.grownBy wr (some g))) (fun i _ _ => l.length - (intOf i).toNat)
    case atStart => exact ⟨0, Nat.zero_le _, rfl, rfl, HO, World.grownBy.refl _ _⟩
    case round =>
      clear HO
      obtain ⟨k, hk, rfl, rfl, hown, hgr⟩ := hrel
      by_cases hlt : k < l.length
      · have hm := markText_any (k + 1) wr (by omega) (by omega)
        have hset := marksTo_set l k hlt
        have HS : Hid (∀ w2, Below wr.heap.size wr w2 → w2.cell? ⟨g, k, none⟩ = some (.string ((marksTo l k)[k]'(by rw [marksTo_len l k hk]; exact hlt))) ∧ w2.frozen? ⟨g, k, none⟩ = false ∧ (w2.setCell ⟨g, k, none⟩ (.string (markB (k + 1)))).ownsRow base 9 1 (.slice (some ⟨g, 0, none⟩) l.length cap) l.length (strRow (marksTo l (k + 1))) ∧ w.grownBy (w2.setCell ⟨g, k, none⟩ (.string (markB (k + 1)))) (some g)) := by
          intro w2 hb
          have ho2 := ownS_below hown.out hb
          refine ⟨?_, ho2.frozenAt k, ?_, ?_⟩
          · rw [ho2.cellAt k (by omega)]; simp [strRow, marksTo_len l k hk, hlt]
          · have := (ho2.stored k (.string (markB (k + 1)))).1
            have e : (strRow (marksTo l k)).set k (.string (markB (k + 1))) = strRow (marksTo l (k + 1)) := by rw [← hset]; simp [strRow, List.map_set]
            rw [e] at this; exact this
          · have a := hgr.out
            refine ⟨hb.os.trans a.os, hb.tape.trans a.tape, hb.output.trans a.output, ?_, ?_⟩
            · simpa [World.setCell] using Nat.le_trans a.size hb.size
            · intro q hq hne
              have hqg : g ≠ q := fun e => hne (by rw [e])
              rw [show (w2.setCell ⟨g, k, none⟩ (.string (markB (k + 1)))).heap[q]? = w2.heap[q]? by simp [World.setCell, Array.getElem?_modify, hqg]]
              exact (hb.block q (Nat.lt_of_lt_of_le hq a.size)).trans (a.block q hq hne)
        rw [show ((k + 1 : Nat) : Int) = (k : Int) + 1 by omega] at hm
        generalize markB (k + 1) = M at *
        generalize (marksTo l k)[k]'_ = M0 at *
        clear hset
        go_wp2_with fail
        refine hm.mono ?_
        rintro e w2 ⟨rfl, b2⟩
        obtain ⟨c2, f2, o2, g2⟩ := HS.out w2 b2
        have HO2 : Hid ((w2.setCell ⟨g, k, none⟩ (.string M)).ownsRow base 9 1 (.slice (some ⟨g, 0, none⟩) l.length cap) l.length (strRow (marksTo l (k + 1)))) := o2
        have HG2 : Hid (w.grownBy (w2.setCell ⟨g, k, none⟩ (.string M)) (some g)) := g2
        clear o2 g2
        go_wp2_with fail
        go_roundw
        case rel => exact ⟨k + 1, by omega, by go_num, by go_num, HO2, HG2⟩
        case measure => simp [intOf]; omega
      · obtain rfl : k = l.length := by omega
        have HO2 : Hid (wr.ownsRow base 9 1 (.slice (some ⟨g, 0, none⟩) l.length cap) l.length (strRow (marksL l.length))) := by
          show World.ownsRow _ _ _ _ _ _ _
          rw [← marksTo_all]; exact hown.out
        go_wp2
        go_ret
        exact ⟨rfl, HO2.out, hgr.out⟩

set_option maxHeartbeats 1000000 in
theorem held_any (p : Option Addr) (cap n : Nat) (w : World) (hp : TxtAt w p (marksL n)) (hn : n ≤ 1048576) (hcap : n ≤ cap) :
    Calls Tryz.prog 93 #[.slice p n cap, .int .i64 1] w fun e w' => e = .returned (.int .i64 ((n : Int) + 1)) ∧ Below w.heap.size w w' := by
  have HP : Hid (TxtAt w p (marksL n)) := hp
  have HL : Hid ((marksL n).length = n) := by show _ = _; simp [marksL]
  clear hp
  go_enter Tryz.func93, Tryz.ntmps93
  go_wp2
  go_loopw [5, 1] (fun i x wr => ∃ k : Nat, k ≤ n ∧ i = .int .i64 k ∧ x = .int .i64 ((k : Int) + 1) ∧ Hid (Below w.heap.size w wr)) (fun i _ _ => n - (intOf i).toNat)
  case atStart => exact ⟨0, Nat.zero_le _, rfl, rfl, Below.refl _ _⟩
  case round =>
    obtain ⟨k, hk, rfl, rfl, hB⟩ := hrel
    by_cases hlt : k < n
    · obtain ⟨b, off, rfl, hb, hck⟩ := HP.out k (by rw [HL.out]; exact hlt)
      have hc1 : wr.cell? ⟨b, off + k, none⟩ = some (.string (markB (k + 1))) := by
        rw [hB.out.cell (p := ⟨b, off + k, none⟩) hb, hck]; simp [marksL]
      have hbw : b < wr.heap.size := Nat.lt_of_lt_of_le hb hB.out.size
      have HM : Hid (∀ w', Below wr.heap.size wr w' → Calls Tryz.prog 83 #[.int .i64 ((k : Int) + 1)] w' fun e w'' => e = .returned (.string (markB (k + 1))) ∧ Below w'.heap.size w' w'') := by
        intro w' _
        have := markText_any (k + 1) w' (by omega) (by omega)
        rwa [show ((k + 1 : Nat) : Int) = (k : Int) + 1 by omega] at this
      clear hck
      generalize markB (k + 1) = M at *
      have j5 : (k : Int) < n := by omega
      go_wp2_with fail
      go_region_with (go_at_call 83; refine (HM.out _ ((Below.refl _ _).drew)).mono ?_; rintro e w2 ⟨rfl, b2⟩; have b2 := chainB ((Below.refl _ _).drew) b2; have c2 := (b2.cell (p := ⟨b, off + k, none⟩) hbw).trans hc1)
      all_goals
        have HB2 : Hid (Below w.heap.size w w2) := chainB hB.out b2
        go_wp2_with fail
        go_roundw
        case rel => exact ⟨k + 1, by omega, by go_num, by go_num, HB2⟩
        case measure => simp [intOf]; omega
    · obtain rfl : k = n := by omega
      go_wp2
      go_ret
      exact ⟨rfl, hB.out⟩
end Go.Proofs.YtokkeadbkeehgaaGreatDoor
