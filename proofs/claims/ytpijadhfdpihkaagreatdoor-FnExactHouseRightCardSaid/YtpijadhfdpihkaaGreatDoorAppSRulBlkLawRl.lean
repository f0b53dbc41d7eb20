/-
  Parts of one proof, laid as one text: AppS, RulBlk, LawRl; what each says stands at its head.
-/
import Derived.Test.YtpijadhfdpihkaaGreatDoorRows
import Derived.Test.YtpijadhfdpihkaaGreatDoorBytesDigMath
import Derived.Test.YtpijadhfdpihkaaGreatDoorSlASlBBxKOwnS
import Derived.Handy
import Derived.OwnWalk
import Derived.Deep.AppendLies
import Derived.Test.YtpijadhfdpihkaaGreatDoorRwBlkBlNotRulMathIntKPolMathTakes
import Derived.WalkSpells
import Derived.Deep.RegionLaw
import Derived.Deep.RegionWith
/-
  append of a slice of texts onto one that the call owns: what it owns then.
-/
namespace Go.Proofs.YtpijadhfdpihkaaGreatDoor
open Go.RowKit Go.Lib
set_option linter.unusedVariables false

theorem run_append_len0 {P : Program} (w : World) (base : Nat) (t ty e : TypeId) (i : TypeInfo) (size : Nat) (ht : P.underlying t = some (.slice e)) (hi : P.info? e = some i)
    (v : Value) (n : Nat) (xs : List Value) (hown : w.ownsRow base e size v n xs) (p : Option Addr) (cap : Nat) :
    (Builtin.append_ #[t, t] ty #[v, .slice p 0 cap]).run P w = .ok v w := by
  rcases hown.2 with ⟨rfl, rfl⟩ | ⟨g, cap', cur, rfl, _, _, hnc, _⟩
  · cases p <;> simp [Builtin.append_, run_underlying ht, sizeOf, typeInfo, hi, Builtin.lenOf, Builtin.firstCells, loadCells, loadCellsFrom]
  · cases p <;> simp [Builtin.append_, run_underlying ht, sizeOf, typeInfo, hi, Builtin.lenOf, Builtin.firstCells, hnc, storeCells, loadCells, loadCellsFrom]
theorem app_texts (w : World) (base : Nat) (v : Value) (l : List ByteArray) (own : w.ownsRow base 9 1 v l.length (strRow l)) (p : Option Addr) (cap : Nat) (ss : List ByteArray) (hp : TxtAt w p ss) (hl : l.length + ss.length ≤ 1048576) (hbase : base ≤ w.heap.size) :
    ∃ v' w', (Builtin.append_ #[23, 23] 23 #[v, .slice p ss.length cap]).run Tryz.prog w = .ok v' w' ∧ w'.ownsRow base 9 1 v' (l ++ ss).length (strRow (l ++ ss)) ∧ w.grownBy w' v.ownBlock := by
  obtain ⟨i0, hi, hz0, hz1, hz2⟩ := info_parts infoStr
  by_cases h0 : ss.length = 0
  · obtain rfl : ss = [] := List.length_eq_zero_iff.1 h0
    refine ⟨v, w, run_append_len0 w base _ _ _ i0 1 Tryz.underlying23 hi v l.length (strRow l) own p cap, by simpa using own, World.grownBy.refl _ _⟩
  · obtain ⟨b, off, rfl, hb, _⟩ := hp 0 (by omega)
    obtain ⟨g, cap', w', h1, h2, h3, _⟩ := run_append_lies (P := Tryz.prog) w 23 23 base 9 i0 (.string ByteArray.empty) 1 16 Tryz.underlying23 hi hz0 hz1 hz2 rfl (by omega) v l.length (strRow l) own ⟨b, off, none⟩ ss.length cap (strRow ss) (by simp [strRow]) (fun j u hu => by
      have hj : j < ss.length := by
        rcases Nat.lt_or_ge j ss.length with q | q
        · exact q
        · rw [List.getElem?_eq_none (by simpa [strRow] using q)] at hu; cases hu
      have hadd : (⟨b, off, none⟩ : Addr).add j = ⟨b, off + j, none⟩ := by unfold Addr.add; split <;> simp_all
      rw [hadd, hp.at j hj]
      simp [strRow, hj] at hu
      rw [hu]) (fun u hu => by
      obtain ⟨x, _, rfl⟩ := List.mem_map.1 hu
      rfl) (by omega) (by unfold maxLen; omega) (by omega) hbase _ rfl
    refine ⟨_, w', h1, ?_, h3⟩
    have e1 : (l ++ ss).length = l.length + ss.length := by simp
    have e2 : strRow (l ++ ss) = strRow l ++ strRow ss := by simp [strRow]
    rw [e1, e2]; exact h2
end Go.Proofs.YtpijadhfdpihkaaGreatDoor
/-
  A block of rules that was made, and is written rule by rule.
-/
namespace Go.Proofs.YtpijadhfdpihkaaGreatDoor
open Go.RowKit Go.Lib
set_option linter.unusedVariables false

def rulCells (r : Rul) : List Value := [.string r.k, .string r.f, .int .i64 r.l, .int .i64 r.m]
def rulRow (rs : List Rul) : List Value := rs.flatMap rulCells
theorem rulRow_len (rs : List Rul) : (rulRow rs).length = rs.length * 4 := by
  induction rs with
  | nil => rfl
  | cons r rs ih => unfold rulRow at *; rw [List.flatMap_cons, List.length_append, ih]; simp [rulCells]; omega
theorem rulRow_append (rs ss : List Rul) : rulRow (rs ++ ss) = rulRow rs ++ rulRow ss := by simp [rulRow]
theorem rulRow_at (rs : List Rul) : ∀ (i : Nat) (h : i < rs.length), (rulRow rs)[i * 4]? = some (.string rs[i].k) ∧ (rulRow rs)[i * 4 + 1]? = some (.string rs[i].f) ∧ (rulRow rs)[i * 4 + 2]? = some (.int .i64 rs[i].l) ∧ (rulRow rs)[i * 4 + 3]? = some (.int .i64 rs[i].m) := by
  induction rs with
  | nil => intro i h; simp at h
  | cons r rs ih =>
    intro i h
    match i with
    | 0 => exact ⟨rfl, rfl, rfl, rfl⟩
    | i + 1 =>
      have := ih i (by simpa using h)
      rw [show (i + 1) * 4 = i * 4 + 4 by omega]
      exact this
theorem rulRow_set : ∀ (rs : List Rul) (i : Nat) (r : Rul), ((((rulRow rs).set (i * 4) (.string r.k)).set (i * 4 + 1) (.string r.f)).set (i * 4 + 2) (.int .i64 r.l)).set (i * 4 + 3) (.int .i64 r.m) = rulRow (rs.set i r)
  | [], i, r => by simp [rulRow]
  | f :: fs, 0, r => by simp [rulRow, rulCells]
  | f :: fs, i + 1, r => by
    have ih := rulRow_set fs i r
    have e0 : (i + 1) * 4 = i * 4 + 4 := by omega
    have e4 : rulRow (f :: fs) = .string f.k :: .string f.f :: .int .i64 f.l :: .int .i64 f.m :: rulRow fs := rfl
    rw [e0, e4]
    have e1 : i * 4 + 4 + 1 = i * 4 + 1 + 4 := by omega
    have e2 : i * 4 + 4 + 2 = i * 4 + 2 + 4 := by omega
    have e3 : i * 4 + 4 + 3 = i * 4 + 3 + 4 := by omega
    rw [e1, e2, e3]
    simp only [List.set_cons_succ]
    rw [ih]; rfl
def set4u (w : World) (g o : Nat) (r : Rul) : World := (((w.setCell ⟨g, o, none⟩ (.string r.k)).setCell ⟨g, o + 1, none⟩ (.string r.f)).setCell ⟨g, o + 2, none⟩ (.int .i64 r.l)).setCell ⟨g, o + 3, none⟩ (.int .i64 r.m)
theorem set4u_below {B : Nat} {a w : World} (h : Below B a w) {g : Nat} (hg : B ≤ g) (o : Nat) (r : Rul) : Below B a (set4u w g o r) := (((h.setCell hg _).setCell hg _).setCell hg _).setCell hg _
theorem set4u_other {w : World} {g b o : Nat} {T : TypeId} {cs : Array Value} (h : Bxs w g T cs) (hne : b ≠ g) (r : Rul) : Bxs (set4u w b o r) g T cs := (((h.other b _ hne _).other b _ hne _).other b _ hne _).other b _ hne _
def rulE : Rul := ⟨ByteArray.empty, ByteArray.empty, 0, 0⟩
/-- A block that holds these rules, and nothing else. -/
def BlkU (w : World) (g : Nat) (l : List Rul) : Prop := Bxs w g 67 (rulRow l).toArray
theorem BlkU.below {w w' : World} {g : Nat} {l : List Rul} (h : BlkU w g l) (hb : Below w.heap.size w w') : BlkU w' g l := Bxs.below h hb
theorem BlkU.cells {w : World} {g : Nat} {l : List Rul} (h : BlkU w g l) (i : Nat) (hi : i < l.length) : (w.cell? ⟨g, i * 4, none⟩ = some (.string l[i].k) ∧ w.cell? ⟨g, i * 4 + 1, none⟩ = some (.string l[i].f) ∧ w.cell? ⟨g, i * 4 + 2, none⟩ = some (.int .i64 l[i].l) ∧ w.cell? ⟨g, i * 4 + 3, none⟩ = some (.int .i64 l[i].m)) ∧ w.frozen? ⟨g, i * 4, none⟩ = false ∧ w.frozen? ⟨g, i * 4 + 1, none⟩ = false ∧ w.frozen? ⟨g, i * 4 + 2, none⟩ = false ∧ w.frozen? ⟨g, i * 4 + 3, none⟩ = false := by
  have hr := rulRow_at l i hi
  have hc : ∀ j, w.cell? ⟨g, j, none⟩ = (rulRow l)[j]? := fun j => by rw [Bxs.cell h j]; simp
  rw [← hc, ← hc, ← hc, ← hc] at hr
  exact ⟨hr, Bxs.fr h _, Bxs.fr h _, Bxs.fr h _, Bxs.fr h _⟩
theorem BlkU.at {w : World} {g : Nat} {l : List Rul} (h : BlkU w g l) : RulAt w (some ⟨g, 0, none⟩) l := fun i hi => ⟨g, 0, rfl, Bxs.lt h, by rw [Nat.zero_add]; exact (h.cells i hi).1⟩
theorem BlkU.set1 {w : World} {g : Nat} {l : List Value} (h : Bxs w g 67 l.toArray) (j : Nat) (v : Value) : Bxs (w.setCell ⟨g, j, none⟩ v) g 67 (l.set j v).toArray := by
  have h1 := h.set j v
  rwa [List.setIfInBounds_toArray] at h1
theorem BlkU.set4u {w : World} {g : Nat} {l : List Rul} (h : BlkU w g l) (i : Nat) (r : Rul) : BlkU (set4u w g (i * 4) r) g (l.set i r) := by
  unfold BlkU
  rw [← rulRow_set]
  exact BlkU.set1 (BlkU.set1 (BlkU.set1 (BlkU.set1 h _ _) _ _) _ _) _ _
theorem BlkU.own {w : World} {g : Nat} {l : List Rul} (h : BlkU w g l) (base : Nat) (hb : base ≤ g) (hm : l.length ≤ maxLen) : w.ownsRow base 67 4 (.slice (some ⟨g, 0, none⟩) l.length l.length) l.length (rulRow l) :=
  ⟨rulRow_len l, .inr ⟨g, l.length, (rulRow l).toArray, rfl, hb, h, Nat.le_refl _, hm, by rw [List.size_toArray, rulRow_len], List.take_of_length_le (by rw [rulRow_len]; exact Nat.le_refl _)⟩⟩
theorem infoRul : (Tryz.prog.info? 67).map (fun i => (i.zero, i.size, i.bytes)) = some (some (.agg #[.string ByteArray.empty, .string ByteArray.empty, .int .i64 0, .int .i64 0]), 4, 48) := by kernel_rfl
theorem made_rul (n : Nat) : madeCells #[.string ByteArray.empty, .string ByteArray.empty, .int .i64 0, .int .i64 0] (n * 4) = (rulRow (List.replicate n rulE)).toArray := by
  unfold madeCells
  apply Array.ext
  · simp [rulRow_len]
  · intro i h0 h2
    have h1 : i < n * 4 := by simpa using h0
    have hr := rulRow_at (List.replicate n rulE) (i / 4) (by rw [List.length_replicate]; omega)
    simp only [List.getElem_replicate] at hr
    have hm : i % 4 < 4 := Nat.mod_lt _ (by omega)
    have hd : i = i / 4 * 4 + i % 4 := by omega
    have hl : i < (rulRow (List.replicate n rulE)).length := by simpa using h2
    have hg : ∀ v, (rulRow (List.replicate n rulE))[i]? = some v → (rulRow (List.replicate n rulE)).toArray[i] = v := fun v hv => by
      rw [List.getElem?_eq_getElem hl] at hv
      have := Option.some.inj hv
      simpa using this
    simp only [Array.getElem_map, Array.getElem_range]
    match hq : i % 4, hm with
    | 0, _ => rw [hq] at hd; rw [hg _ (by rw [hd]; exact hr.1)]; simp [rulE]
    | 1, _ => rw [hq] at hd; rw [hg _ (by rw [hd]; exact hr.2.1)]; simp [rulE]
    | 2, _ => rw [hq] at hd; rw [hg _ (by rw [hd]; exact hr.2.2.1)]; simp [rulE]
    | 3, _ => rw [hq] at hd; rw [hg _ (by rw [hd]; exact hr.2.2.2)]; simp [rulE]
theorem run_make_rul (n : Nat) (hn : n ≤ 1048576) (w : World) :
    (Instr.makeSlice 37 (.int .i64 (n : Int)) (.int .i64 (n : Int))).run Tryz.prog w = .ok (.slice (some ⟨w.heap.size, 0, none⟩) n n) (w.alloc (.cells (rulRow (List.replicate n rulE)).toArray 67)) := by
  obtain ⟨i0, hi, hz0, hz1, hz2⟩ := info_parts infoRul
  have := run_make (P := Tryz.prog) w 37 67 i0 _ Tryz.underlying37 hi hz0 .i64 .i64 (n : Int) (n : Int) (by omega) (by omega) (by rw [hz2]; omega) (by omega)
  rw [this, hz1]
  simp only [Int.toNat_natCast]
  rw [← made_rul]; rfl
theorem alloc_rul (w : World) (l : List Rul) : BlkU (w.alloc (.cells (rulRow l).toArray 67)) w.heap.size l := (MapKept.heap_alloc w _).1
end Go.Proofs.YtpijadhfdpihkaaGreatDoor
/-
  What the laws' own helpers answer for slices of rules: szRuleS, toRuleS (a copy in new memory), eqRuleS (of two that are alike).
  Conditions: the slices' cells hold the rules.
-/
namespace Go.Proofs.YtpijadhfdpihkaaGreatDoor
open Go.RowKit Go.Lib
set_option linter.unusedVariables false
set_option maxRecDepth 20000

set_option maxHeartbeats 1000000 in
theorem szRul_any (k f : ByteArray) (l m : Int) (n : Int) (w : World) (l0 : 0 ≤ n) (l1 : n ≤ 1048576) (h1 : k.size ≤ 9223372036854775807) (h2 : f.size ≤ 9223372036854775807) :
    Calls Tryz.prog 43 #[.agg #[.string k, .string f, .int .i64 l, .int .i64 m], .int .i64 n] w fun e w' => (∃ r : Int, e = .returned (.int .i64 r) ∧ (r = -1 ∨ (0 ≤ r ∧ r ≤ n))) ∧ Below w.heap.size w w' := by
  have B1 : Below w.heap.size w (w.alloc (.cells #[.string k, .string f, .int .i64 l, .int .i64 m] 90)) := (Below.refl _ _).alloc (Nat.le_refl _) _
  by_cases k1 : (k.size : Int) ≤ n
  · by_cases k2 : (k.size : Int) + f.size ≤ n
    · go_enter Tryz.func43, Tryz.ntmps43
      go_wp2
      go_ret
      exact ⟨⟨_, rfl, .inr ⟨by omega, by omega⟩⟩, B1⟩
    · go_enter Tryz.func43, Tryz.ntmps43
      go_wp2
      go_ret
      exact ⟨⟨_, rfl, .inl rfl⟩, B1⟩
  · go_enter Tryz.func43, Tryz.ntmps43
    go_wp2
    go_ret
    exact ⟨⟨_, rfl, .inl rfl⟩, B1⟩

def RulsBig (rs : List Rul) : Prop := ∀ r ∈ rs, r.k.size ≤ 9223372036854775807 ∧ r.f.size ≤ 9223372036854775807
set_option maxHeartbeats 1000000 in
theorem szU_any (l0 : Int) (l00 : 0 ≤ l0) (l01 : l0 ≤ 1048576) (p : Option Addr) (cap : Nat) (fs : List Rul) (w : World) (hp : RulAt w p fs) (hn : fs.length ≤ 9223372036854775807) (hcap : fs.length ≤ cap) (hs : RulsBig fs) :
    Calls Tryz.prog 21 #[.slice p fs.length cap, .int .i64 l0] w fun e w' => (∃ r : Int, e = .returned (.int .i64 r) ∧ (r = -1 ∨ (0 ≤ r ∧ r ≤ l0 ∧ fs.length ≤ 1048576))) ∧ Below w.heap.size w w' := by
  have HP : Hid (RulAt w p fs) := hp
  have HS : Hid (RulsBig fs) := hs
  clear hp hs
  by_cases hl : (fs.length : Int) ≤ l0
  · go_enter Tryz.func21, Tryz.ntmps21
    go_wp2_with fail
    go_loopw [5, 1] (fun i x wr => ∃ (k : Nat) (l : Int), k ≤ fs.length ∧ i = .int .i64 k ∧ x = .int .i64 l ∧ 0 ≤ l ∧ l ≤ l0 ∧ Hid (Below w.heap.size w wr)) (fun i _ _ => fs.length - (intOf i).toNat)
    case atStart => exact ⟨0, _, Nat.zero_le _, rfl, rfl, by omega, by omega, Below.refl _ _⟩
    case round =>
      obtain ⟨k, l, hk, rfl, rfl, hl0, hl1, HB⟩ := hrel
      by_cases hlt : k < fs.length
      · obtain ⟨b, off, rfl, hb, hc1, hc2, hc3, hc4⟩ := (HP.out.below HB.out) k hlt
        have hsz := HS.out fs[k] (List.getElem_mem hlt)
        have j5 : (k : Int) < fs.length := by omega
        generalize fs[k] = f at *
        obtain ⟨n, c, s, v⟩ := f
        have hc1 : wr.cell? ⟨b, off + k * 4, none⟩ = some (.string n) := hc1
        have hc2 : wr.cell? ⟨b, off + k * 4 + 1, none⟩ = some (.string c) := hc2
        have hc3 : wr.cell? ⟨b, off + k * 4 + 2, none⟩ = some (.int .i64 s) := hc3
        have hc4 : wr.cell? ⟨b, off + k * 4 + 3, none⟩ = some (.int .i64 v) := hc4
        have hS := szRul_any n c s v l wr hl0 (by omega) hsz.1 hsz.2
        clear hsz
        go_wp2_with fail
        refine hS.mono ?_
        rintro e w1 ⟨⟨r, rfl, hr⟩, b1⟩
        have HB1 : Hid (Below w.heap.size w w1) := chainB HB.out b1
        clear b1 HB hS hc1 hc2 hc3 hc4
        rcases hr with rfl | ⟨r0, r1⟩
        · go_wp2_with fail
          go_ret
          exact ⟨⟨_, rfl, .inl rfl⟩, HB1.out⟩
        · have dl : decide (r < 0) = false := decide_eq_false (by omega)
          go_wp2_with fail
          go_roundw
          case rel => exact ⟨k + 1, r, by omega, by go_num, rfl, by omega, by omega, HB1⟩
          case measure => simp [intOf]; omega
      · go_wp2_with fail
        go_ret
        exact ⟨⟨_, rfl, .inr ⟨hl0, by omega, by omega⟩⟩, HB.out⟩
  · go_enter Tryz.func21, Tryz.ntmps21
    go_wp2_with fail
    go_ret
    exact ⟨⟨_, rfl, .inl rfl⟩, Below.refl _ _⟩

theorem toRul_any (k f : ByteArray) (l m : Int) (w : World) :
    Calls Tryz.prog 50 #[.agg #[.string k, .string f, .int .i64 l, .int .i64 m]] w fun e w' => e = .returned (.agg #[.string k, .string f, .int .i64 l, .int .i64 m]) ∧ Below w.heap.size w w' := by
  have B1 : Below w.heap.size w (((w.alloc (.cells #[.string k, .string f, .int .i64 l, .int .i64 m] 90)).alloc (.cells #[.string k, .string f, .int .i64 l, .int .i64 m] 67)).alloc (.cells #[.string k, .string f, .int .i64 l, .int .i64 m] 67)) := alB (alB (alB (Below.refl _ _) _) _) _
  go_enter Tryz.func50, Tryz.ntmps50
  go_wp2_with fail
  refine bodyPost_ret (v := .agg #[.string k, .string f, .int .i64 l, .int .i64 m]) (by simp [results, Tryz.results50, go_sem]) rfl ?_
  exact ⟨rfl, B1⟩

def cutU (fs : List Rul) (k : Nat) : List Rul := fs.take k ++ List.replicate (fs.length - k) rulE
theorem cutU_len (fs : List Rul) (k : Nat) (h : k ≤ fs.length) : (cutU fs k).length = fs.length := by simp [cutU]; omega
theorem cutU_set (fs : List Rul) (k : Nat) (h : k < fs.length) : (cutU fs k).set k fs[k] = cutU fs (k + 1) := by
  unfold cutU
  rw [show fs.length - k = (fs.length - (k + 1)) + 1 by omega, List.replicate_succ]
  have hl : (fs.take k).length = k := by simp; omega
  rw [List.set_append_right _ _ (by omega), hl, Nat.sub_self, List.set_cons_zero, List.take_succ_eq_append_getElem h, List.append_assoc]; rfl

set_option maxHeartbeats 2000000 in
theorem toU_any (p : Option Addr) (cap : Nat) (fs : List Rul) (w : World) (hp : RulAt w p fs) (hn : fs.length ≤ 1048576) (hcap : fs.length ≤ cap) :
    Calls Tryz.prog 32 #[.slice p fs.length cap] w fun e w' => e = .returned (.slice (some ⟨w.heap.size, 0, none⟩) fs.length fs.length) ∧ BlkU w' w.heap.size fs ∧ Below w.heap.size w w' := by
  have HP : Hid (RulAt w p fs) := hp
  clear hp
  obtain ⟨W1, hW1⟩ : ∃ W1, W1 = w.alloc (.cells (rulRow (List.replicate fs.length rulE)).toArray 67) := ⟨_, rfl⟩
  have hmk := run_make_rul fs.length hn w
  rw [← hW1] at hmk
  have H0 : Hid (BlkU W1 w.heap.size (cutU fs 0)) := by
    have : BlkU W1 w.heap.size (List.replicate fs.length rulE) := by rw [hW1]; exact alloc_rul _ _
    show BlkU _ _ _
    unfold cutU; simpa using this
  have B0 : Hid (Below w.heap.size w W1) := by rw [hW1]; exact (Below.refl _ _).alloc (Nat.le_refl _) _
  clear hW1
  go_enter Tryz.func32, Tryz.ntmps32
  go_wp2_with fail
  go_loopw [4] (fun i wr => ∃ k : Nat, k ≤ fs.length ∧ i = .int .i64 k ∧ Hid (BlkU wr w.heap.size (cutU fs k)) ∧ Hid (Below w.heap.size w wr)) (fun i _ => fs.length - (intOf i).toNat)
  case atStart => exact ⟨0, Nat.zero_le _, rfl, H0, B0⟩
  case round =>
    clear H0 hmk B0
    obtain ⟨k, hk, rfl, hrow, hnx⟩ := hrel
    have hsz := Bxs.lt hrow.out
    by_cases hlt : k < fs.length
    · have i1 : (k : Int) < fs.length := by omega
      obtain ⟨b, off, rfl, hb, hc1, hc2, hc3, hc4⟩ := HP.out k hlt
      have hc1 := (hnx.out.cell (p := ⟨b, off + k * 4, none⟩) hb).trans hc1
      have hc2 := (hnx.out.cell (p := ⟨b, off + k * 4 + 1, none⟩) hb).trans hc2
      have hc3 := (hnx.out.cell (p := ⟨b, off + k * 4 + 2, none⟩) hb).trans hc3
      have hc4 := (hnx.out.cell (p := ⟨b, off + k * 4 + 3, none⟩) hb).trans hc4
      have hlen := cutU_len fs k hk
      have hset := cutU_set fs k hlt
      have HS : Hid (∀ y, Below wr.heap.size wr y → (∃ x1 x2 x3 x4, y.cell? ⟨w.heap.size, k * 4, none⟩ = some x1 ∧ y.cell? ⟨w.heap.size, k * 4 + 1, none⟩ = some x2 ∧ y.cell? ⟨w.heap.size, k * 4 + 2, none⟩ = some x3 ∧ y.cell? ⟨w.heap.size, k * 4 + 3, none⟩ = some x4) ∧ (y.frozen? ⟨w.heap.size, k * 4, none⟩ = false ∧ y.frozen? ⟨w.heap.size, k * 4 + 1, none⟩ = false ∧ y.frozen? ⟨w.heap.size, k * 4 + 2, none⟩ = false ∧ y.frozen? ⟨w.heap.size, k * 4 + 3, none⟩ = false) ∧ Hid (∀ f, fs[k] = f → BlkU (set4u y w.heap.size (k * 4) f) w.heap.size (cutU fs (k + 1)) ∧ Below w.heap.size w (set4u y w.heap.size (k * 4) f))) := fun y hb => by
        have h := hrow.out.below hb
        obtain ⟨g1, g3⟩ := h.cells k (by omega)
        refine ⟨⟨_, _, _, _, g1⟩, g3, fun f he => ?_⟩
        rw [← hset, he]
        exact ⟨h.set4u k f, set4u_below (chainB hnx.out hb) (Nat.le_refl _) _ _⟩
      clear hset hrow
      generalize fs[k] = f at *
      obtain ⟨n, c, s, v⟩ := f
      have hc1 : wr.cell? ⟨b, off + k * 4, none⟩ = some (.string n) := hc1
      have hc2 : wr.cell? ⟨b, off + k * 4 + 1, none⟩ = some (.string c) := hc2
      have hc3 : wr.cell? ⟨b, off + k * 4 + 2, none⟩ = some (.int .i64 s) := hc3
      have hc4 : wr.cell? ⟨b, off + k * 4 + 3, none⟩ = some (.int .i64 v) := hc4
      go_wp2_with fail
      refine (toRul_any n c s v wr).mono ?_
      rintro e y ⟨rfl, b1⟩
      obtain ⟨⟨x1, x2, x3, x4, g1, g2, g3, g4⟩, ⟨f1, f2, f3, f4⟩, HE⟩ := HS.out y b1
      obtain ⟨W5, hW5⟩ : ∃ W5, W5 = set4u y w.heap.size (k * 4) ⟨n, c, s, v⟩ := ⟨_, rfl⟩
      have HE2 : Hid (BlkU W5 w.heap.size (cutU fs (k + 1))) := by rw [hW5]; exact (HE.out _ rfl).1
      have HE3 : Hid (Below w.heap.size w W5) := by rw [hW5]; exact (HE.out _ rfl).2
      have HW5 : Hid (W5 = set4u y w.heap.size (k * 4) ⟨n, c, s, v⟩) := hW5
      clear HS HE b1 hc1 hc2 hc3 hc4 hW5
      go_wp2_with fail
      go_roundw
      case rel =>
        have e5 := HW5.out
        unfold set4u at e5
        rw [← e5]
        exact ⟨k + 1, by omega, by go_num, HE2, HE3⟩
      case measure => simp [intOf]; omega
    · have hkk : k = fs.length := by omega
      subst hkk
      have HR : Hid (BlkU wr w.heap.size fs) := by
        have := hrow.out; unfold cutU at this; show BlkU _ _ _; simpa using this
      go_wp2_with fail
      go_ret
      exact ⟨rfl, HR.out, hnx.out⟩

theorem eqRul_any (k f : ByteArray) (l m : Int) (w : World) :
    Calls Tryz.prog 58 #[.agg #[.string k, .string f, .int .i64 l, .int .i64 m], .agg #[.string k, .string f, .int .i64 l, .int .i64 m]] w fun e w' => e = .returned (.bool true) ∧ Below w.heap.size w w' := by
  have B1 : Below w.heap.size w ((w.alloc (.cells #[.string k, .string f, .int .i64 l, .int .i64 m] 67)).alloc (.cells #[.string k, .string f, .int .i64 l, .int .i64 m] 67)) := alB (alB (Below.refl _ _) _) _
  go_enter Tryz.func58, Tryz.ntmps58
  go_wp2_with fail
  go_ret
  exact ⟨rfl, B1⟩

set_option maxHeartbeats 1000000 in
theorem eqU_any (p q : Option Addr) (cap cap2 : Nat) (fs : List Rul) (w : World) (hp : RulAt w p fs) (hq : RulAt w q fs) (hn : fs.length ≤ 1048576) (hcap : fs.length ≤ cap) (hcap2 : fs.length ≤ cap2) :
    Calls Tryz.prog 40 #[.slice p fs.length cap, .slice q fs.length cap2] w fun e w' => e = .returned (.bool true) ∧ Below w.heap.size w w' := by
  have HP : Hid (RulAt w p fs) := hp
  have HQ : Hid (RulAt w q fs) := hq
  clear hp hq
  go_enter Tryz.func40, Tryz.ntmps40
  go_wp2_with fail
  go_loopw [5] (fun i wr => ∃ k : Nat, k ≤ fs.length ∧ i = .int .i64 k ∧ Hid (Below w.heap.size w wr)) (fun i _ => fs.length - (intOf i).toNat)
  case atStart => exact ⟨0, Nat.zero_le _, rfl, Below.refl _ _⟩
  case round =>
    obtain ⟨k, hk, rfl, HB⟩ := hrel
    by_cases hlt : k < fs.length
    · obtain ⟨b, off, rfl, hb, hc1, hc2, hc3, hc4⟩ := (HP.out.below HB.out) k hlt
      obtain ⟨b2, off2, rfl, hb2, hd1, hd2, hd3, hd4⟩ := (HQ.out.below HB.out) k hlt
      have j5 : (k : Int) < fs.length := by omega
      generalize fs[k] = f at *
      obtain ⟨n, c, s, v⟩ := f
      have hc1 : wr.cell? ⟨b, off + k * 4, none⟩ = some (.string n) := hc1
      have hc2 : wr.cell? ⟨b, off + k * 4 + 1, none⟩ = some (.string c) := hc2
      have hc3 : wr.cell? ⟨b, off + k * 4 + 2, none⟩ = some (.int .i64 s) := hc3
      have hc4 : wr.cell? ⟨b, off + k * 4 + 3, none⟩ = some (.int .i64 v) := hc4
      have hd1 : wr.cell? ⟨b2, off2 + k * 4, none⟩ = some (.string n) := hd1
      have hd2 : wr.cell? ⟨b2, off2 + k * 4 + 1, none⟩ = some (.string c) := hd2
      have hd3 : wr.cell? ⟨b2, off2 + k * 4 + 2, none⟩ = some (.int .i64 s) := hd3
      have hd4 : wr.cell? ⟨b2, off2 + k * 4 + 3, none⟩ = some (.int .i64 v) := hd4
      go_wp2_with fail
      go_region_with (first | (go_at_call 58; refine (eqRul_any n c s v _).mono ?_; rintro e y1 ⟨rfl, z1⟩; have z1 : Below w.heap.size w y1 := chainB (by first | exact HB.out | exact HB.out.drew) z1))
      all_goals
        have HB1 : Hid (Below w.heap.size w y1) := z1
        clear z1
        go_wp2_with fail
        go_roundw
        case rel => exact ⟨k + 1, by omega, by go_num, HB1⟩
        case measure => simp [intOf]; omega
    · go_wp2_with fail
      go_ret
      exact ⟨rfl, HB.out⟩
end Go.Proofs.YtpijadhfdpihkaaGreatDoor
