/-
  Parts of one proof, laid as one text: LgMath, LgAtK, RwBlk, LawF; what each says stands at its head.
-/
import Derived.Test.YthfecjjahoflcaaGreatDoorRows
import Derived.Test.YthfecjjahoflcaaGreatDoorBytesDigMathTreeMath
import Derived.Test.YthfecjjahoflcaaGreatDoorSlASlBBxKOwnSTakesLTillTwo
import Derived.Test.YthfecjjahoflcaaGreatDoorJoinedPutTextFldMathFldGShwK
import Derived.Test.YthfecjjahoflcaaGreatDoorOneKFldBlkFldRiseScanMathGetValGetTxtNumMathFldRdNumFromTmbMath
import Derived.Handy
import Derived.OwnWalk
import Derived.WalkSpells
import Derived.Deep.RegionLaw
import Derived.Deep.RegionWith
/-
  A log in plain mathematics: its rows and leaves as cells, when it is right (as the specification goes: each tomb is the first of its field), and that the program's way (marks of what was noted, held against what is gone) comes to the same.
-/
namespace Go.Proofs.YthfecjjahoflcaaGreatDoor
open Go.RowKit Go.Lib
set_option linter.unusedVariables false

/-- A row. -/
structure Rw where
  k : ByteArray
  a : Int
  fs : List Fld
/-- The cells that a slice of rows leads to hold these (of none nothing is asked). -/
def RwAt (w : World) (p : Option Addr) (rs : List Rw) : Prop :=
  ∀ i (h : i < rs.length), ∃ b off q c, p = some ⟨b, off, none⟩ ∧ b < w.heap.size ∧ w.cell? ⟨b, off + i * 3, none⟩ = some (.string rs[i].k) ∧ w.cell? ⟨b, off + i * 3 + 1, none⟩ = some (.int .i64 rs[i].a) ∧ w.cell? ⟨b, off + i * 3 + 2, none⟩ = some (.slice q rs[i].fs.length c) ∧ rs[i].fs.length ≤ c ∧ FldAt w q rs[i].fs
theorem RwAt.below {w w' : World} {p : Option Addr} {rs : List Rw} (h : RwAt w p rs) (hb : Below w.heap.size w w') : RwAt w' p rs := by
  intro i hi
  obtain ⟨b, off, q, c, rfl, h1, h2, h3, h4, h5, h6⟩ := h i hi
  exact ⟨b, off, q, c, rfl, Nat.lt_of_lt_of_le h1 hb.size, (hb.cell (p := ⟨b, off + i * 3, none⟩) h1).trans h2, (hb.cell (p := ⟨b, off + i * 3 + 1, none⟩) h1).trans h3, (hb.cell (p := ⟨b, off + i * 3 + 2, none⟩) h1).trans h4, h5, h6.below hb⟩
theorem RwAt.nil (w : World) (p : Option Addr) : RwAt w p [] := fun i h => by simp at h
theorem RwAt.some_of {w : World} {p : Option Addr} {rs : List Rw} (h : RwAt w p rs) (h0 : 0 < rs.length) : ∃ b off, p = some ⟨b, off, none⟩ ∧ b < w.heap.size := by
  obtain ⟨b, off, q, c, rfl, hb, -⟩ := h 0 h0
  exact ⟨b, off, rfl, hb⟩
theorem RwAt.at {w : World} {b off : Nat} {rs : List Rw} (h : RwAt w (some ⟨b, off, none⟩) rs) (i : Nat) (hi : i < rs.length) : ∃ q c, w.cell? ⟨b, off + i * 3, none⟩ = some (.string rs[i].k) ∧ w.cell? ⟨b, off + i * 3 + 1, none⟩ = some (.int .i64 rs[i].a) ∧ w.cell? ⟨b, off + i * 3 + 2, none⟩ = some (.slice q rs[i].fs.length c) ∧ rs[i].fs.length ≤ c ∧ FldAt w q rs[i].fs := by
  obtain ⟨b', off', q, c, h0, h1, h2⟩ := h i hi
  cases h0; exact ⟨q, c, h2⟩
/-- The texts of rows are no greater than the reach. -/
def RwsLe (rs : List Rw) : Prop := ∀ r ∈ rs, r.fs.length ≤ 1048576 ∧ r.k.size ≤ maxLen ∧ FldsLe r.fs
def TxtsLe (ss : List ByteArray) : Prop := ∀ s ∈ ss, s.size ≤ maxLen

/-! ### Right logs, as the specification goes -/
def fldZ : Fld := ⟨ByteArray.empty, ByteArray.empty, ByteArray.empty, ByteArray.empty, false⟩
def rwZ : Rw := ⟨ByteArray.empty, 0, []⟩
def rlB (r : Rw) : ByteArray := one101 ++ digB (lfT r.k r.a r.fs)
def rB (r : Rw) : Bool := rwB r.k r.a r.fs
/-- The leaf is the note of this field. -/
def tmHit (r f : Int) (t : ByteArray) : Bool := decide (trC t = 0) && (decide ((trO t).r = r) && decide ((trO t).f = f))
def tbFrom (r f : Int) : Nat → List ByteArray → Int
  | _, [] => -1
  | i, t :: ts => if tmHit r f t = true then (i : Int) else tbFrom r f (i + 1) ts
def tbAt (lv : List ByteArray) (r f : Int) : Int := tbFrom r f 0 lv
def fldOf (rs : List Rw) (r f : Int) : Fld := (rs.getD r.toNat rwZ).fs.getD f.toNat fldZ
def goneAt (rs : List Rw) (r f : Int) : Bool := decide (0 ≤ r ∧ r ≤ (rs.length : Int) - 1) && (decide (0 ≤ f ∧ f ≤ ((rs.getD r.toNat rwZ).fs.length : Int) - 1) && (fldOf rs r f).g)
def tbOk (rs : List Rw) (now : Int) (all : List ByteArray) (i n : Nat) (t : ByteArray) : Bool :=
  decide (trC t = 0) && (decide ((trO t).r < (n : Int)) && (goneAt rs (trO t).r (trO t).f && (decide ((trO t).a ≤ now) && decide (tbAt all (trO t).r (trO t).f = (i : Int)))))
def isNx (rs : List Rw) (n : Nat) (t : ByteArray) : Bool := decide (n < rs.length) && decide (t = rlB (rs.getD n rwZ))
def lvGo (rs : List Rw) (now : Int) (all : List ByteArray) : Nat → Nat → List ByteArray → Bool
  | _, n, [] => decide (n = rs.length)
  | i, n, t :: ts => if isNx rs n t = true then lvGo rs now all (i + 1) (n + 1) ts else if tbOk rs now all i n t = true then lvGo rs now all (i + 1) n ts else false
def rsB (rs : List Rw) (now : Int) : Bool := rs.all fun r => rB r && decide (r.a ≤ now)
def alB7 (lv : List ByteArray) (i : Nat) (fs : List Fld) : Bool := (List.range fs.length).all fun k => !(fs.getD k fldZ).g || decide (0 ≤ tbAt lv (i : Int) (k : Int))
def allB (rs : List Rw) (lv : List ByteArray) : Bool := (List.range rs.length).all fun i => alB7 lv i (rs.getD i rwZ).fs
def lgB (rs : List Rw) (lv : List ByteArray) (now : Int) : Bool :=
  decide (rs.length ≤ 6) && (decide (lv.length ≤ 64) && (timeB now && (rsB rs now && (lvGo rs now lv 0 0 lv && allB rs lv))))

/-! ### The program's way -/
def hitIn (pre : List ByteArray) (r f : Int) : Bool := pre.any (tmHit r f)
def mrkOf (pre : List ByteArray) : List Bool := (List.range 18).map fun j => hitIn pre ((j / 3 : Nat) : Int) ((j % 3 : Nat) : Int)
def goneM (rs : List Rw) : List Bool := (List.range 18).map fun j => (fldOf rs ((j / 3 : Nat) : Int) ((j % 3 : Nat) : Int)).g
def okT (now : Int) (pre : List ByteArray) (n : Nat) (t : ByteArray) : Bool :=
  decide (trC t = 0) && (decide ((trO t).r < (n : Int)) && (decide ((trO t).a ≤ now) && !hitIn pre (trO t).r (trO t).f))
def cGo (rs : List Rw) (now : Int) : List ByteArray → Nat → List ByteArray → Option Nat
  | _, n, [] => some n
  | pre, n, t :: ts => if isNx rs n t = true then cGo rs now (pre ++ [t]) (n + 1) ts else if okT now pre n t = true then cGo rs now (pre ++ [t]) n ts else none
def imB (rs : List Rw) (lv : List ByteArray) (now : Int) : Bool :=
  timeB now && ((decide (rs.length ≤ 6) && rsB rs now) && (match cGo rs now [] 0 lv with | some n => decide (n = rs.length) && decide (mrkOf lv = goneM rs) | none => false))

/-! ### Both come to the same -/
theorem lg_one (D : ByteArray) (h : D.size = 32) : isRl (one101 ++ D) = true := by
  unfold isRl
  rw [Bool.and_eq_true, decide_eq_true_iff, decide_eq_true_iff]
  constructor
  · rw [ByteArray.size_append, h]; rfl
  · simp [one101, ByteArray.data_append]
theorem rl_isRl (r : Rw) : isRl (rlB r) = true := lg_one _ (digB_size _)
theorem rl_lf {r : Rw} (h : rB r = true) : lfB r.k r.a r.fs = rlB r := by unfold rB at h; unfold lfB rlB; rw [if_pos h]
theorem tr_not_rl {t : ByteArray} (h : trC t = 0) : isRl t = false := by
  obtain ⟨-, hB, hR, -⟩ := tr_sound h
  have := lk_raw hB
  rw [hR] at this
  unfold lkB at this
  cases e : isRl t with
  | false => rfl
  | true => rw [e, if_pos rfl] at this; cases this
theorem lk_iff2 (t : ByteArray) : lkB t = 2 ↔ trC t = 0 := by
  constructor
  · intro h
    unfold lkB at h
    split at h
    · cases h
    · split at h
      · assumption
      · cases h
  · intro h
    unfold lkB
    rw [tr_not_rl h, if_neg Bool.false_ne_true, if_pos h]
theorem lk_iff1 (t : ByteArray) : lkB t = 1 ↔ isRl t = true := by
  constructor
  · intro h
    unfold lkB at h
    split at h
    · assumption
    · split at h <;> cases h
  · intro h; unfold lkB; rw [if_pos h]
theorem rl_tr (r : Rw) : ¬ trC (rlB r) = 0 := fun h => by have := rl_isRl r; rw [tr_not_rl h] at this; cases this
theorem tmHit_iff (r f : Int) (t : ByteArray) : tmHit r f t = true ↔ trC t = 0 ∧ (trO t).r = r ∧ (trO t).f = f := by unfold tmHit; simp
theorem hit_iff (pre : List ByteArray) (r f : Int) : hitIn pre r f = true ↔ ∃ t ∈ pre, tmHit r f t = true := by unfold hitIn; simp
theorem hit_snoc (pre : List ByteArray) (t : ByteArray) (r f : Int) : hitIn (pre ++ [t]) r f = (hitIn pre r f || tmHit r f t) := by unfold hitIn; simp
theorem tb_nonneg (r f : Int) : ∀ (i : Nat) (lv : List ByteArray), 0 ≤ tbFrom r f i lv ↔ hitIn lv r f = true
  | i, [] => by simp [tbFrom, hitIn]
  | i, t :: ts => by
    rw [tbFrom]
    split
    · rename_i h; simp [hitIn, h]
    · rename_i h
      rw [tb_nonneg r f (i + 1) ts]
      simp [hitIn, h]
theorem tb_ge (r f : Int) : ∀ (i : Nat) (lv : List ByteArray), tbFrom r f i lv = -1 ∨ (i : Int) ≤ tbFrom r f i lv
  | i, [] => .inl rfl
  | i, t :: ts => by
    rw [tbFrom]
    split
    · exact .inr (Int.le_refl _)
    · rcases tb_ge r f (i + 1) ts with h | h
      · exact .inl h
      · exact .inr (by omega)
theorem tb_here (r f : Int) (t : ByteArray) (ts : List ByteArray) (ht : tmHit r f t = true) : ∀ (i : Nat) (pre : List ByteArray), tbFrom r f i (pre ++ t :: ts) = ((i + pre.length : Nat) : Int) ↔ hitIn pre r f = false
  | i, [] => by simp [tbFrom, ht, hitIn]
  | i, p :: pre => by
    rw [List.cons_append, tbFrom]
    split
    · rename_i h
      simp only [hitIn, List.any_cons, h, Bool.true_or, List.length_cons]
      constructor
      · intro e; omega
      · intro e; cases e
    · rename_i h
      have := tb_here r f t ts ht (i + 1) pre
      rw [show i + 1 + pre.length = i + (pre.length + 1) by omega] at this
      rw [List.length_cons, this]
      simp [hitIn, h]
theorem tbAt_here {pre ts : List ByteArray} {t : ByteArray} {r f : Int} (ht : tmHit r f t = true) : tbAt (pre ++ t :: ts) r f = (pre.length : Int) ↔ hitIn pre r f = false := by
  have := tb_here r f t ts ht 0 pre
  rwa [Nat.zero_add] at this
theorem hit_self {t : ByteArray} (h : trC t = 0) : tmHit (trO t).r (trO t).f t = true := (tmHit_iff _ _ _).2 ⟨h, rfl, rfl⟩
theorem nx_iff (rs : List Rw) (n : Nat) (t : ByteArray) : isNx rs n t = true ↔ n < rs.length ∧ t = rlB (rs.getD n rwZ) := by unfold isNx; simp
theorem nx_tr {rs : List Rw} {n : Nat} {t : ByteArray} (h : isNx rs n t = true) : ¬ trC t = 0 := by
  rw [((nx_iff _ _ _).1 h).2]; exact rl_tr _
theorem tbOk_iff (rs : List Rw) (now : Int) (pre ts : List ByteArray) (n : Nat) (t : ByteArray) : tbOk rs now (pre ++ t :: ts) pre.length n t = true ↔ okT now pre n t = true ∧ (trC t = 0 → goneAt rs (trO t).r (trO t).f = true) := by
  unfold tbOk okT
  simp only [Bool.and_eq_true, decide_eq_true_iff, Bool.not_eq_true']
  constructor
  · rintro ⟨h1, h2, h3, h4, h5⟩
    exact ⟨⟨h1, h2, h4, (tbAt_here (hit_self h1)).1 h5⟩, fun _ => h3⟩
  · rintro ⟨⟨h1, h2, h3, h4⟩, h5⟩
    exact ⟨h1, h2, h5 h1, h3, (tbAt_here (hit_self h1)).2 h4⟩
theorem go_iff (rs : List Rw) (now : Int) (all : List ByteArray) : ∀ (suf pre : List ByteArray) (n : Nat), all = pre ++ suf → (lvGo rs now all pre.length n suf = true ↔ cGo rs now pre n suf = some rs.length ∧ ∀ t ∈ suf, trC t = 0 → goneAt rs (trO t).r (trO t).f = true)
  | [], pre, n, _ => by simp [lvGo, cGo]
  | t :: ts, pre, n, e => by
    rw [lvGo, cGo]
    have ih := go_iff rs now all ts (pre ++ [t])
    simp only [List.length_append, List.length_cons, List.length_nil, Nat.zero_add] at ih
    by_cases h : isNx rs n t = true
    · rw [if_pos h, if_pos h, ih (n + 1) (by rw [e]; simp)]
      constructor
      · rintro ⟨h1, h2⟩
        refine ⟨h1, fun x hx hc => ?_⟩
        rcases List.mem_cons.1 hx with rfl | hx
        · exact absurd hc (nx_tr h)
        · exact h2 x hx hc
      · rintro ⟨h1, h2⟩
        exact ⟨h1, fun x hx hc => h2 x (List.mem_cons_of_mem _ hx) hc⟩
    · rw [if_neg h, if_neg h, e, ]
      have hk := tbOk_iff rs now pre ts n t
      by_cases h2 : okT now pre n t = true
      · rw [if_pos h2]
        by_cases h3 : trC t = 0 → goneAt rs (trO t).r (trO t).f = true
        · rw [if_pos (hk.2 ⟨h2, h3⟩), ← e, ih n (by rw [e]; simp)]
          constructor
          · rintro ⟨g1, g2⟩
            refine ⟨g1, fun x hx hc => ?_⟩
            rcases List.mem_cons.1 hx with rfl | hx
            · exact h3 hc
            · exact g2 x hx hc
          · rintro ⟨g1, g2⟩
            exact ⟨g1, fun x hx hc => g2 x (List.mem_cons_of_mem _ hx) hc⟩
        · rw [if_neg (fun q => h3 (hk.1 q).2)]
          constructor
          · intro q; cases q
          · rintro ⟨-, g⟩
            exact absurd (g t (by simp)) h3
      · rw [if_neg h2, if_neg (fun q => h2 (hk.1 q).1)]
        simp
theorem cGo_parts (rs : List Rw) (now : Int) : ∀ (suf pre : List ByteArray) (n n' : Nat), cGo rs now pre n suf = some n' → n ≤ n' ∧ (n ≤ rs.length → n' ≤ rs.length) ∧ ∀ t ∈ suf, trC t = 0 → (trO t).r < (n' : Int)
  | [], pre, n, n', h => by
    simp only [cGo, Option.some.injEq] at h
    subst h
    exact ⟨Nat.le_refl _, id, fun t h => by cases h⟩
  | t :: ts, pre, n, n', h => by
    rw [cGo] at h
    split at h
    · rename_i hn
      obtain ⟨h1, h2, h3⟩ := cGo_parts rs now ts _ _ _ h
      have hl := ((nx_iff _ _ _).1 hn).1
      refine ⟨by omega, fun _ => h2 (by omega), fun x hx hc => ?_⟩
      rcases List.mem_cons.1 hx with rfl | hx
      · exact absurd hc (nx_tr hn)
      · exact h3 x hx hc
    · split at h
      · rename_i hn ho
        obtain ⟨h1, h2, h3⟩ := cGo_parts rs now ts _ _ _ h
        refine ⟨h1, h2, fun x hx hc => ?_⟩
        rcases List.mem_cons.1 hx with rfl | hx
        · unfold okT at ho
          simp only [Bool.and_eq_true, decide_eq_true_iff] at ho
          have := ho.2.1
          omega
        · exact h3 x hx hc
      · cases h
theorem mrk_len (pre : List ByteArray) : (mrkOf pre).length = 18 := by simp [mrkOf]
theorem goneM_len (rs : List Rw) : (goneM rs).length = 18 := by simp [goneM]
theorem mrk_get (pre : List ByteArray) (j : Nat) (h : j < (mrkOf pre).length) : (mrkOf pre)[j] = hitIn pre ((j / 3 : Nat) : Int) ((j % 3 : Nat) : Int) := by simp [mrkOf]
theorem gone_get (rs : List Rw) (j : Nat) (h : j < (goneM rs).length) : (goneM rs)[j] = (fldOf rs ((j / 3 : Nat) : Int) ((j % 3 : Nat) : Int)).g := by simp [goneM]
theorem tr_range {t : ByteArray} (h : trC t = 0) : (0 ≤ (trO t).r ∧ (trO t).r ≤ 63) ∧ (0 ≤ (trO t).f ∧ (trO t).f ≤ 2) := by
  obtain ⟨-, hB, -, ho⟩ := tr_sound h
  have := (tmB_iff _).1 hB
  rw [ho]; exact ⟨this.1, this.2.1⟩
theorem mrk_no {pre : List ByteArray} {t : ByteArray} (h : ¬ trC t = 0) : mrkOf (pre ++ [t]) = mrkOf pre := by
  unfold mrkOf
  apply List.map_congr_left
  intro j _
  rw [hit_snoc]
  have : tmHit ((j / 3 : Nat) : Int) ((j % 3 : Nat) : Int) t = false := by unfold tmHit; rw [decide_eq_false h]; rfl
  rw [this, Bool.or_false]
def mkAt (t : ByteArray) : Nat := (trO t).r.toNat * 3 + (trO t).f.toNat
theorem mrk_yes {pre : List ByteArray} {t : ByteArray} (h : trC t = 0) : mrkOf (pre ++ [t]) = (mrkOf pre).set (mkAt t) true := by
  obtain ⟨⟨r0, r1⟩, f0, f1⟩ := tr_range h
  apply List.ext_getElem
  · simp [mrk_len]
  · intro j h1 h2
    rw [mrk_get, List.getElem_set, hit_snoc]
    have hj : j < 18 := by rw [mrk_len] at h1; exact h1
    by_cases e : mkAt t = j
    · rw [if_pos e]
      have : tmHit ((j / 3 : Nat) : Int) ((j % 3 : Nat) : Int) t = true := by
        rw [tmHit_iff]
        unfold mkAt at e
        exact ⟨h, by omega, by omega⟩
      rw [this, Bool.or_true]
    · rw [if_neg e, mrk_get]
      have : tmHit ((j / 3 : Nat) : Int) ((j % 3 : Nat) : Int) t = false := by
        cases q : tmHit ((j / 3 : Nat) : Int) ((j % 3 : Nat) : Int) t with
        | false => rfl
        | true =>
          obtain ⟨-, q1, q2⟩ := (tmHit_iff _ _ _).1 q
          exfalso; apply e; unfold mkAt; omega
      rw [this, Bool.or_false]
theorem mrk_at {pre : List ByteArray} {t : ByteArray} (h : trC t = 0) (h6 : (trO t).r < 6) : (mrkOf pre)[mkAt t]? = some (hitIn pre (trO t).r (trO t).f) := by
  obtain ⟨⟨r0, r1⟩, f0, f1⟩ := tr_range h
  have hj : mkAt t < (mrkOf pre).length := by rw [mrk_len]; unfold mkAt; omega
  rw [List.getElem?_eq_getElem hj, mrk_get]
  have e1 : ((mkAt t / 3 : Nat) : Int) = (trO t).r := by unfold mkAt; omega
  have e2 : ((mkAt t % 3 : Nat) : Int) = (trO t).f := by unfold mkAt; omega
  rw [e1, e2]
theorem cGo_len (rs : List Rw) (now : Int) (h6 : rs.length ≤ 6) : ∀ (suf pre : List ByteArray) (n n' : Nat), n ≤ rs.length → cGo rs now pre n suf = some n' → suf.length + n + (mrkOf pre).count true = n' + (mrkOf (pre ++ suf)).count true
  | [], pre, n, n', _, h => by
    simp only [cGo, Option.some.injEq] at h
    subst h
    simp
  | t :: ts, pre, n, n', hn, h => by
    rw [cGo] at h
    split at h
    · rename_i hx
      have := cGo_len rs now h6 ts (pre ++ [t]) (n + 1) n' (by have := ((nx_iff _ _ _).1 hx).1; omega) h
      rw [mrk_no (nx_tr hx), List.append_assoc] at this
      simp only [List.cons_append, List.nil_append] at this
      rw [← this]; simp; omega
    · split at h
      · rename_i hx ho
        have := cGo_len rs now h6 ts (pre ++ [t]) n n' hn h
        unfold okT at ho
        simp only [Bool.and_eq_true, decide_eq_true_iff, Bool.not_eq_true'] at ho
        obtain ⟨hc, hr, -, hh⟩ := ho
        have hm := mrk_at (pre := pre) hc (by omega)
        rw [hh] at hm
        have hl : mkAt t < (mrkOf pre).length := by
          rcases Nat.lt_or_ge (mkAt t) (mrkOf pre).length with q | q
          · exact q
          · rw [List.getElem?_eq_none q] at hm; cases hm
        rw [List.getElem?_eq_getElem hl] at hm
        have hg : (mrkOf pre)[mkAt t] = false := Option.some.inj hm
        rw [mrk_yes hc, List.append_assoc, List.count_set hl, hg] at this
        simp only [List.cons_append, List.nil_append] at this
        simp at this
        rw [← this]; simp; omega
      · cases h
theorem fld_of_gone {rs : List Rw} {r f : Int} (h0 : 0 ≤ r) (h1 : 0 ≤ f) : goneAt rs r f = true ↔ (fldOf rs r f).g = true := by
  unfold goneAt
  simp only [Bool.and_eq_true, decide_eq_true_iff]
  constructor
  · exact fun h => h.2.2
  · intro h
    have h2 : r.toNat < rs.length := by
      rcases Nat.lt_or_ge r.toNat rs.length with q | q
      · exact q
      · exfalso
        unfold fldOf at h
        rw [List.getD_eq_getElem?_getD, List.getD_eq_getElem?_getD, List.getElem?_eq_none q] at h
        simp [rwZ, fldZ] at h
    have h3 : f.toNat < (rs.getD r.toNat rwZ).fs.length := by
      rcases Nat.lt_or_ge f.toNat (rs.getD r.toNat rwZ).fs.length with q | q
      · exact q
      · exfalso
        unfold fldOf at h
        rw [List.getD_eq_getElem?_getD (l := (rs.getD r.toNat rwZ).fs), List.getElem?_eq_none q] at h
        simp [fldZ] at h
    exact ⟨⟨h0, by omega⟩, ⟨h1, by omega⟩, h⟩
theorem allB_iff (rs : List Rw) (lv : List ByteArray) : allB rs lv = true ↔ ∀ r f : Nat, (fldOf rs (r : Int) (f : Int)).g = true → hitIn lv (r : Int) (f : Int) = true := by
  unfold allB alB7
  simp only [List.all_eq_true, List.mem_range, Bool.or_eq_true, Bool.not_eq_true', decide_eq_true_iff]
  constructor
  · intro h r f hg
    obtain ⟨g1, g2, -⟩ := by
      have := (fld_of_gone (rs := rs) (r := (r : Int)) (f := (f : Int)) (by omega) (by omega)).2 hg
      unfold goneAt at this
      simpa only [Bool.and_eq_true, decide_eq_true_iff] using this
    simp only [Int.toNat_natCast] at g2
    rcases h r (by omega) f (by omega) with q | q
    · unfold fldOf at hg
      simp only [Int.toNat_natCast] at hg
      rw [hg] at q; cases q
    · exact (tb_nonneg _ _ 0 lv).1 q
  · intro h i hi k hk
    cases hg : ((rs.getD i rwZ).fs.getD k fldZ).g with
    | false => exact .inl rfl
    | true =>
      right
      refine (tb_nonneg _ _ 0 lv).2 (h i k ?_)
      unfold fldOf
      simpa only [Int.toNat_natCast] using hg
theorem lg_eq (rs : List Rw) (lv : List ByteArray) (now : Int) : lgB rs lv now = imB rs lv now := by
  rw [Bool.eq_iff_iff]
  unfold lgB imB
  simp only [Bool.and_eq_true, decide_eq_true_iff]
  have gi := go_iff rs now lv lv [] 0 (by simp)
  simp only [List.length_nil] at gi
  constructor
  · rintro ⟨h6, -, ht, hr, hl, ha⟩
    obtain ⟨g1, g2⟩ := gi.1 hl
    refine ⟨ht, ⟨h6, hr⟩, ?_⟩
    rw [g1]
    simp only [Bool.and_eq_true, decide_eq_true_iff, true_and]
    apply List.ext_getElem
    · rw [mrk_len, goneM_len]
    · intro j h1 h2
      rw [mrk_get, gone_get, Bool.eq_iff_iff]
      constructor
      · intro h
        obtain ⟨t, ht1, ht2⟩ := (hit_iff _ _ _).1 h
        obtain ⟨e0, e1, e2⟩ := (tmHit_iff _ _ _).1 ht2
        have := g2 t ht1 e0
        rw [e1, e2] at this
        exact (fld_of_gone (by omega) (by omega)).1 this
      · exact fun h => (allB_iff rs lv).1 ha _ _ h
  · rintro ⟨ht, ⟨h6, hr⟩, hm⟩
    cases hc : cGo rs now [] 0 lv with
    | none => rw [hc] at hm; cases hm
    | some n =>
      rw [hc] at hm
      simp only [Bool.and_eq_true, decide_eq_true_iff] at hm
      obtain ⟨rfl, hm⟩ := hm
      obtain ⟨-, -, hlt⟩ := cGo_parts rs now lv [] 0 _ hc
      have hlen := cGo_len rs now h6 lv [] 0 _ (Nat.zero_le _) hc
      have hc18 : (mrkOf ([] ++ lv)).count true ≤ 18 := Nat.le_trans List.count_le_length (by rw [mrk_len]; exact Nat.le_refl _)
      have key : ∀ r f : Nat, r < 6 → f < 3 → hitIn lv (r : Int) (f : Int) = (fldOf rs (r : Int) (f : Int)).g := fun r f h1 h2 => by
        have e : (mrkOf lv)[r * 3 + f]? = (goneM rs)[r * 3 + f]? := by rw [hm]
        rw [List.getElem?_eq_getElem (by rw [mrk_len]; omega), List.getElem?_eq_getElem (by rw [goneM_len]; omega), mrk_get, gone_get] at e
        have e1 : (r * 3 + f) / 3 = r := by omega
        have e2 : (r * 3 + f) % 3 = f := by omega
        rw [e1, e2] at e
        exact Option.some.inj e
      refine ⟨h6, by omega, ht, hr, gi.2 ⟨hc, fun t ht hz => ?_⟩, ?_⟩
      · obtain ⟨⟨r0, -⟩, f0, f1⟩ := tr_range hz
        have hr6 := hlt t ht hz
        have := key (trO t).r.toNat (trO t).f.toNat (by omega) (by omega)
        rw [Int.toNat_of_nonneg r0, Int.toNat_of_nonneg f0] at this
        rw [fld_of_gone r0 f0, ← this]
        exact (hit_iff _ _ _).2 ⟨t, ht, hit_self hz⟩
      · rw [allB_iff]
        intro r f hg
        have hb := (fld_of_gone (rs := rs) (r := (r : Int)) (f := (f : Int)) (by omega) (by omega)).2 hg
        unfold goneAt at hb
        simp only [Bool.and_eq_true, decide_eq_true_iff] at hb
        obtain ⟨b1, b2, -⟩ := hb
        simp only [Int.toNat_natCast] at b2
        have hrl : r < rs.length := by omega
        have hf3 : (rs.getD r rwZ).fs.length ≤ 3 := by
          unfold rsB at hr
          rw [List.all_eq_true] at hr
          have := hr (rs.getD r rwZ) (by rw [List.getD_eq_getElem?_getD, List.getElem?_eq_getElem hrl]; exact List.getElem_mem hrl)
          rw [Bool.and_eq_true] at this
          exact (rwB_parts this.1).2.2.1.2
        rw [key r f (by omega) (by omega)]
        exact hg
end Go.Proofs.YthfecjjahoflcaaGreatDoor
/-
  What holds of a log that lies in memory: its rows and leaves as cells, within the reach.
-/
namespace Go.Proofs.YthfecjjahoflcaaGreatDoor
open Go.RowKit Go.Lib
set_option linter.unusedVariables false

/-- What holds of a log that lies in memory. -/
structure LgAt (p : Option Addr) (lv : List ByteArray) (cp : Nat) (q : Option Addr) (rs : List Rw) (cq : Nat) (w : World) : Prop where
  tx : TxtAt w p lv
  lc : lv.length ≤ cp
  ln : lv.length ≤ 1048576
  lz : TxtsLe lv
  rw : RwAt w q rs
  rc : rs.length ≤ cq
  rn : rs.length ≤ 1048576
  rz : RwsLe rs
theorem LgAt.below {p : Option Addr} {lv : List ByteArray} {cp : Nat} {q : Option Addr} {rs : List Rw} {cq : Nat} {w x : World} (h : LgAt p lv cp q rs cq w) (hb : Below w.heap.size w x) : LgAt p lv cp q rs cq x :=
  ⟨h.tx.below hb, h.lc, h.ln, h.lz, h.rw.below hb, h.rc, h.rn, h.rz⟩
end Go.Proofs.YthfecjjahoflcaaGreatDoor
/-
  Blocks of rows: their cells, a row stored, a new one of rows that say nothing; rows with blocks of fields of their own.
-/
namespace Go.Proofs.YthfecjjahoflcaaGreatDoor
open Go.RowKit Go.Lib
set_option linter.unusedVariables false
set_option maxRecDepth 20000

/-- A row as its three cells. -/
structure Rc where
  k : ByteArray
  a : Int
  v : Value
def rcCells (x : Rc) : List Value := [.string x.k, .int .i64 x.a, x.v]
def rcRow (l : List Rc) : List Value := l.flatMap rcCells
def rcE : Rc := ⟨⟨#[]⟩, 0, .slice none 0 0⟩
theorem rcRow_len (l : List Rc) : (rcRow l).length = l.length * 3 := by
  induction l with
  | nil => rfl
  | cons f l ih => unfold rcRow at *; rw [List.flatMap_cons, List.length_append, ih]; simp [rcCells]; omega
theorem rcRow_append (l m : List Rc) : rcRow (l ++ m) = rcRow l ++ rcRow m := by simp [rcRow]
theorem rcRow_at (l : List Rc) : ∀ (i : Nat) (h : i < l.length), (rcRow l)[i * 3]? = some (.string l[i].k) ∧ (rcRow l)[i * 3 + 1]? = some (.int .i64 l[i].a) ∧ (rcRow l)[i * 3 + 2]? = some l[i].v := by
  induction l with
  | nil => intro i h; simp at h
  | cons f l ih =>
    intro i h
    match i with
    | 0 => exact ⟨rfl, rfl, rfl⟩
    | i + 1 =>
      have := ih i (by simpa using h)
      rw [show (i + 1) * 3 = i * 3 + 3 by omega]
      exact this
theorem rcRow_set : ∀ (l : List Rc) (i : Nat) (x : Rc), (((rcRow l).set (i * 3) (.string x.k)).set (i * 3 + 1) (.int .i64 x.a)).set (i * 3 + 2) x.v = rcRow (l.set i x)
  | [], i, x => by simp [rcRow]
  | f :: l, 0, x => rfl
  | f :: l, i + 1, x => by
    have ih := rcRow_set l i x
    have e : rcRow (f :: l) = .string f.k :: .int .i64 f.a :: f.v :: rcRow l := rfl
    have e2 : rcRow ((f :: l).set (i + 1) x) = .string f.k :: .int .i64 f.a :: f.v :: rcRow (l.set i x) := rfl
    rw [e, e2, ← ih, show (i + 1) * 3 = i * 3 + 3 by omega]
    rfl
def BlkR (w : World) (g : Nat) (l : List Rc) : Prop := Bxs w g 40 (rcRow l).toArray
theorem BlkR.cells {w : World} {g : Nat} {l : List Rc} (h : BlkR w g l) (i : Nat) (hi : i < l.length) : (w.cell? ⟨g, i * 3, none⟩ = some (.string l[i].k) ∧ w.cell? ⟨g, i * 3 + 1, none⟩ = some (.int .i64 l[i].a) ∧ w.cell? ⟨g, i * 3 + 2, none⟩ = some l[i].v) ∧ w.frozen? ⟨g, i * 3, none⟩ = false ∧ w.frozen? ⟨g, i * 3 + 1, none⟩ = false ∧ w.frozen? ⟨g, i * 3 + 2, none⟩ = false := by
  have hr := rcRow_at l i hi
  have hc : ∀ j, w.cell? ⟨g, j, none⟩ = (rcRow l)[j]? := fun j => by rw [Bxs.cell h j]; simp
  rw [← hc, ← hc, ← hc] at hr
  exact ⟨hr, Bxs.fr h _, Bxs.fr h _, Bxs.fr h _⟩
def set3 (w : World) (g o : Nat) (x : Rc) : World := ((w.setCell ⟨g, o, none⟩ (.string x.k)).setCell ⟨g, o + 1, none⟩ (.int .i64 x.a)).setCell ⟨g, o + 2, none⟩ x.v
theorem bxs_set1 {w : World} {g : Nat} {T : TypeId} {l : List Value} (h : Bxs w g T l.toArray) (j : Nat) (v : Value) : Bxs (w.setCell ⟨g, j, none⟩ v) g T (l.set j v).toArray := by
  have h1 := h.set j v
  rwa [List.setIfInBounds_toArray] at h1
theorem BlkR.set3 {w : World} {g : Nat} {l : List Rc} (h : BlkR w g l) (i : Nat) (x : Rc) : BlkR (set3 w g (i * 3) x) g (l.set i x) := by
  unfold BlkR
  rw [← rcRow_set]
  exact bxs_set1 (bxs_set1 (bxs_set1 h _ _) _ _) _ _
theorem set3_other {w : World} {g b o : Nat} {T : TypeId} {cs : Array Value} (h : Bxs w g T cs) (hne : b ≠ g) (x : Rc) : Bxs (set3 w b o x) g T cs := ((h.other b _ hne _).other b _ hne _).other b _ hne _
theorem set3_below {B : Nat} {a w : World} (h : Below B a w) {g : Nat} (hg : B ≤ g) (o : Nat) (x : Rc) : Below B a (set3 w g o x) := ((h.setCell hg _).setCell hg _).setCell hg _
theorem infoRow : (Tryz.prog.info? 40).map (fun i => (i.zero, i.size, i.bytes)) = some (some (.agg #[.string ByteArray.empty, .int .i64 0, .slice none 0 0]), 3, 48) := by kernel_rfl
theorem made_rc (n : Nat) : madeCells #[.string ByteArray.empty, .int .i64 0, .slice none 0 0] (n * 3) = (rcRow (List.replicate n rcE)).toArray := by
  unfold madeCells
  apply Array.ext
  · simp [rcRow_len]
  · intro i h0 h2
    have h1 : i < n * 3 := by simpa using h0
    have hr := rcRow_at (List.replicate n rcE) (i / 3) (by rw [List.length_replicate]; omega)
    simp only [List.getElem_replicate] at hr
    have hm : i % 3 < 3 := Nat.mod_lt _ (by omega)
    have hd : i = i / 3 * 3 + i % 3 := by omega
    have hl : i < (rcRow (List.replicate n rcE)).length := by simpa using h2
    have hg : ∀ v, (rcRow (List.replicate n rcE))[i]? = some v → (rcRow (List.replicate n rcE)).toArray[i] = v := fun v hv => by
      rw [List.getElem?_eq_getElem hl] at hv
      have := Option.some.inj hv
      simpa using this
    simp only [Array.getElem_map, Array.getElem_range]
    match hq : i % 3, hm with
    | 0, _ => rw [hq] at hd; rw [hg _ (by rw [hd]; exact hr.1)]; simp [rcE]; rfl
    | 1, _ => rw [hq] at hd; rw [hg _ (by rw [hd]; exact hr.2.1)]; simp [rcE]
    | 2, _ => rw [hq] at hd; rw [hg _ (by rw [hd]; exact hr.2.2)]; simp [rcE]
theorem run_make_rc (n : Nat) (hn : n ≤ 1048576) (w : World) :
    (Instr.makeSlice 31 (.int .i64 (n : Int)) (.int .i64 (n : Int))).run Tryz.prog w = .ok (.slice (some ⟨w.heap.size, 0, none⟩) n n) (w.alloc (.cells (rcRow (List.replicate n rcE)).toArray 40)) := by
  obtain ⟨i0, hi, hz0, hz1, hz2⟩ := info_parts infoRow
  have := run_make (P := Tryz.prog) w 31 40 i0 _ Tryz.underlying31 hi hz0 .i64 .i64 (n : Int) (n : Int) (by omega) (by omega) (by rw [hz2]; omega) (by omega)
  rw [this, hz1]
  simp only [Int.toNat_natCast]
  rw [← made_rc]; rfl
theorem alloc_rc (w : World) (l : List Rc) : BlkR (w.alloc (.cells (rcRow l).toArray 40)) w.heap.size l := (MapKept.heap_alloc w _).1
/-! ### Rows with blocks of fields of their own -/
def rcOf (x : Rw × Nat) : Rc := ⟨x.1.k, x.1.a, .slice (some ⟨x.2, 0, none⟩) x.1.fs.length x.1.fs.length⟩
/-- The block g holds rows, the fields of each lie in a block of their own behind it. -/
structure RwsB (w : World) (g : Nat) (xs : List (Rw × Nat)) : Prop where
  blk : BlkR w g (xs.map rcOf)
  fld : ∀ x ∈ xs, BlkF w x.2 x.1.fs
  up : ∀ x ∈ xs, g < x.2
  apart : xs.Pairwise (fun x y => x.2 < y.2)
theorem RwsB.below {w w' : World} {g : Nat} {xs : List (Rw × Nat)} (h : RwsB w g xs) (hb : Below w.heap.size w w') : RwsB w' g xs := ⟨Bxs.below h.blk hb, fun x hx => (h.fld x hx).below hb, h.up, h.apart⟩
theorem RwsB.lt {w : World} {g : Nat} {xs : List (Rw × Nat)} (h : RwsB w g xs) : g < w.heap.size := Bxs.lt h.blk
theorem RwsB.at {w : World} {g : Nat} {xs : List (Rw × Nat)} (h : RwsB w g xs) : RwAt w (some ⟨g, 0, none⟩) (xs.map (·.1)) := by
  intro i hi
  have hi2 : i < xs.length := by simpa using hi
  obtain ⟨⟨c0, c1, c2⟩, -⟩ := h.blk.cells i (by simpa using hi2)
  rw [List.getElem_map] at c0 c1 c2
  have e : (xs.map (·.1))[i] = xs[i].1 := by simp
  refine ⟨g, 0, some ⟨xs[i].2, 0, none⟩, xs[i].1.fs.length, rfl, h.lt, ?_, ?_, ?_, ?_, ?_⟩
  · rw [Nat.zero_add, e]; exact c0
  · rw [Nat.zero_add, e]; exact c1
  · rw [Nat.zero_add, e]; exact c2
  · rw [e]; exact Nat.le_refl _
  · rw [e]; exact (h.fld _ (List.getElem_mem hi2)).at
end Go.Proofs.YthfecjjahoflcaaGreatDoor
/-
  What the laws' own helpers answer for slices of fields: szFieldS, toFieldS (a copy in new memory), eqFieldS (of two that are alike).
  Conditions: the slices' cells hold the fields.
-/
namespace Go.Proofs.YthfecjjahoflcaaGreatDoor
open Go.RowKit Go.Lib
set_option linter.unusedVariables false
set_option maxRecDepth 20000

set_option maxHeartbeats 1000000 in
theorem szFld_any (f : Fld) (l : Int) (w : World) (l0 : 0 ≤ l) (l1 : l ≤ 1048576) (h1 : f.n.size ≤ 9223372036854775807) (h2 : f.c.size ≤ 9223372036854775807) (h3 : f.s.size ≤ 9223372036854775807) (h4 : f.v.size ≤ 9223372036854775807) :
    Calls Tryz.prog 54 #[.agg #[.string f.n, .string f.c, .string f.s, .string f.v, .bool f.g], .int .i64 l] w fun e w' => (∃ r : Int, e = .returned (.int .i64 r) ∧ (r = -1 ∨ (0 ≤ r ∧ r ≤ l))) ∧ Below w.heap.size w w' := by
  obtain ⟨n, c, s, v, g⟩ := f
  show Calls Tryz.prog 54 #[.agg #[.string n, .string c, .string s, .string v, .bool g], .int .i64 l] w _
  have h1 : n.size ≤ 9223372036854775807 := h1
  have h2 : c.size ≤ 9223372036854775807 := h2
  have h3 : s.size ≤ 9223372036854775807 := h3
  have h4 : v.size ≤ 9223372036854775807 := h4
  have B1 : Below w.heap.size w (w.alloc (.cells #[.string n, .string c, .string s, .string v, .bool g] 86)) := (Below.refl _ _).alloc (Nat.le_refl _) _
  by_cases k1 : (n.size : Int) ≤ l
  · by_cases k2 : (n.size : Int) + c.size ≤ l
    · by_cases k3 : (n.size : Int) + c.size + s.size ≤ l
      · by_cases k4 : (n.size : Int) + c.size + s.size + v.size ≤ l
        · go_enter Tryz.func54, Tryz.ntmps54
          go_wp2
          go_ret
          exact ⟨⟨_, rfl, .inr ⟨by omega, by omega⟩⟩, B1⟩
        · go_enter Tryz.func54, Tryz.ntmps54
          go_wp2
          go_ret
          exact ⟨⟨_, rfl, .inl rfl⟩, B1⟩
      · go_enter Tryz.func54, Tryz.ntmps54
        go_wp2
        go_ret
        exact ⟨⟨_, rfl, .inl rfl⟩, B1⟩
    · go_enter Tryz.func54, Tryz.ntmps54
      go_wp2
      go_ret
      exact ⟨⟨_, rfl, .inl rfl⟩, B1⟩
  · go_enter Tryz.func54, Tryz.ntmps54
    go_wp2
    go_ret
    exact ⟨⟨_, rfl, .inl rfl⟩, B1⟩

def FldsBig (fs : List Fld) : Prop := ∀ f ∈ fs, f.n.size ≤ 9223372036854775807 ∧ f.c.size ≤ 9223372036854775807 ∧ f.s.size ≤ 9223372036854775807 ∧ f.v.size ≤ 9223372036854775807
set_option maxHeartbeats 1000000 in
theorem szF_any (l0 : Int) (l00 : 0 ≤ l0) (l01 : l0 ≤ 1048576) (p : Option Addr) (cap : Nat) (fs : List Fld) (w : World) (hp : FldAt w p fs) (hn : fs.length ≤ 9223372036854775807) (hcap : fs.length ≤ cap) (hs : FldsBig fs) :
    Calls Tryz.prog 22 #[.slice p fs.length cap, .int .i64 l0] w fun e w' => (∃ r : Int, e = .returned (.int .i64 r) ∧ (r = -1 ∨ (0 ≤ r ∧ r ≤ l0 ∧ fs.length ≤ 1048576))) ∧ Below w.heap.size w w' := by
  have HP : Hid (FldAt w p fs) := hp
  have HS : Hid (FldsBig fs) := hs
  clear hp hs
  by_cases hl : (fs.length : Int) ≤ l0
  · go_enter Tryz.func22, Tryz.ntmps22
    go_wp2_with fail
    go_loopw [5, 1] (fun i x wr => ∃ (k : Nat) (l : Int), k ≤ fs.length ∧ i = .int .i64 k ∧ x = .int .i64 l ∧ 0 ≤ l ∧ l ≤ l0 ∧ Hid (Below w.heap.size w wr)) (fun i _ _ => fs.length - (intOf i).toNat)
    case atStart => exact ⟨0, _, Nat.zero_le _, rfl, rfl, by omega, by omega, Below.refl _ _⟩
    case round =>
      obtain ⟨k, l, hk, rfl, rfl, hl0, hl1, HB⟩ := hrel
      by_cases hlt : k < fs.length
      · obtain ⟨b, off, rfl, hb, hc1, hc2, hc3, hc4, hc5⟩ := (HP.out.below HB.out) k hlt
        have hsz := HS.out fs[k] (List.getElem_mem hlt)
        have j5 : (k : Int) < fs.length := by omega
        generalize fs[k] = f at *
        obtain ⟨n, c, s, v, g⟩ := f
        have hc1 : wr.cell? ⟨b, off + k * 5, none⟩ = some (.string n) := hc1
        have hc2 : wr.cell? ⟨b, off + k * 5 + 1, none⟩ = some (.string c) := hc2
        have hc3 : wr.cell? ⟨b, off + k * 5 + 2, none⟩ = some (.string s) := hc3
        have hc4 : wr.cell? ⟨b, off + k * 5 + 3, none⟩ = some (.string v) := hc4
        have hc5 : wr.cell? ⟨b, off + k * 5 + 4, none⟩ = some (.bool g) := hc5
        have hS := szFld_any ⟨n, c, s, v, g⟩ l wr hl0 (by omega) hsz.1 hsz.2.1 hsz.2.2.1 hsz.2.2.2
        clear hsz
        go_wp2_with fail
        refine hS.mono ?_
        rintro e w1 ⟨⟨r, rfl, hr⟩, b1⟩
        have HB1 : Hid (Below w.heap.size w w1) := chainB HB.out b1
        clear b1 HB hS hc1 hc2 hc3 hc4 hc5
        rcases hr with rfl | ⟨r0, r1⟩
        · go_wp2_with fail
          go_ret
          exact ⟨⟨_, rfl, .inl rfl⟩, HB1.out⟩
        · have dl : decide (r < 0) = false := decide_eq_false (by omega)
          go_wp2_with fail
          go_roundw
          case rel => exact ⟨k + 1, r, by omega, by go_num, rfl, by omega, by omega, HB1⟩
          case measure => simp [intOf]; omega
      · go_wp2_with fail
        go_ret
        exact ⟨⟨_, rfl, .inr ⟨hl0, by omega, by omega⟩⟩, HB.out⟩
  · go_enter Tryz.func22, Tryz.ntmps22
    go_wp2_with fail
    go_ret
    exact ⟨⟨_, rfl, .inl rfl⟩, Below.refl _ _⟩

theorem toFld_any (f : Fld) (w : World) :
    Calls Tryz.prog 63 #[.agg #[.string f.n, .string f.c, .string f.s, .string f.v, .bool f.g]] w fun e w' => e = .returned (.agg #[.string f.n, .string f.c, .string f.s, .string f.v, .bool f.g]) ∧ Below w.heap.size w w' := by
  obtain ⟨n, c, s, v, g⟩ := f
  show Calls Tryz.prog 63 #[.agg #[.string n, .string c, .string s, .string v, .bool g]] w fun e w' => e = .returned (.agg #[.string n, .string c, .string s, .string v, .bool g]) ∧ _
  have B1 : Below w.heap.size w (((w.alloc (.cells #[.string n, .string c, .string s, .string v, .bool g] 86)).alloc (.cells #[.string n, .string c, .string s, .string v, .bool g] 87)).alloc (.cells #[.string n, .string c, .string s, .string v, .bool g] 87)) := alB (alB (alB (Below.refl _ _) _) _) _
  go_enter Tryz.func63, Tryz.ntmps63
  go_wp2_with fail
  refine bodyPost_ret (v := .agg #[.string n, .string c, .string s, .string v, .bool g]) (by simp [results, Tryz.results63, go_sem]) rfl ?_
  exact ⟨rfl, B1⟩

def cutF (fs : List Fld) (k : Nat) : List Fld := fs.take k ++ List.replicate (fs.length - k) fldE5
theorem cutF_len (fs : List Fld) (k : Nat) (h : k ≤ fs.length) : (cutF fs k).length = fs.length := by simp [cutF]; omega
theorem cutF_set (fs : List Fld) (k : Nat) (h : k < fs.length) : (cutF fs k).set k fs[k] = cutF fs (k + 1) := by
  unfold cutF
  rw [show fs.length - k = (fs.length - (k + 1)) + 1 by omega, List.replicate_succ]
  have hl : (fs.take k).length = k := by simp; omega
  rw [List.set_append_right _ _ (by omega), hl, Nat.sub_self, List.set_cons_zero, List.take_succ_eq_append_getElem h, List.append_assoc]; rfl
theorem BlkF.own {w : World} {g : Nat} {l : List Fld} (h : BlkF w g l) (base : Nat) (hb : base ≤ g) (hm : l.length ≤ maxLen) : w.ownsRow base 87 5 (.slice (some ⟨g, 0, none⟩) l.length l.length) l.length (fldRow l) :=
  ⟨fldRow_len l, .inr ⟨g, l.length, (fldRow l).toArray, rfl, hb, h, Nat.le_refl _, hm, by rw [List.size_toArray, fldRow_len], List.take_of_length_le (by rw [fldRow_len]; exact Nat.le_refl _)⟩⟩

set_option maxHeartbeats 2000000 in
theorem toF_any (p : Option Addr) (cap : Nat) (fs : List Fld) (w : World) (hp : FldAt w p fs) (hn : fs.length ≤ 1048576) (hcap : fs.length ≤ cap) :
    Calls Tryz.prog 32 #[.slice p fs.length cap] w fun e w' => e = .returned (.slice (some ⟨w.heap.size, 0, none⟩) fs.length fs.length) ∧ BlkF w' w.heap.size fs ∧ Below w.heap.size w w' := by
  have HP : Hid (FldAt w p fs) := hp
  clear hp
  obtain ⟨W1, hW1⟩ : ∃ W1, W1 = w.alloc (.cells (fldRow (List.replicate fs.length fldE5)).toArray 87) := ⟨_, rfl⟩
  have hmk := run_make_fld fs.length hn w
  rw [← hW1] at hmk
  have H0 : Hid (BlkF W1 w.heap.size (cutF fs 0)) := by
    have : BlkF W1 w.heap.size (List.replicate fs.length fldE5) := by rw [hW1]; exact alloc_fld _ _
    show BlkF _ _ _
    unfold cutF; simpa using this
  have B0 : Hid (Below w.heap.size w W1) := by rw [hW1]; exact (Below.refl _ _).alloc (Nat.le_refl _) _
  clear hW1
  go_enter Tryz.func32, Tryz.ntmps32
  go_wp2_with fail
  go_loopw [4] (fun i wr => ∃ k : Nat, k ≤ fs.length ∧ i = .int .i64 k ∧ Hid (BlkF wr w.heap.size (cutF fs k)) ∧ Hid (Below w.heap.size w wr)) (fun i _ => fs.length - (intOf i).toNat)
  case atStart => exact ⟨0, Nat.zero_le _, rfl, H0, B0⟩
  case round =>
    clear H0 hmk B0
    obtain ⟨k, hk, rfl, hrow, hnx⟩ := hrel
    have hsz := Bxs.lt hrow.out
    by_cases hlt : k < fs.length
    · have i1 : (k : Int) < fs.length := by omega
      obtain ⟨b, off, rfl, hb, hc1, hc2, hc3, hc4, hc5⟩ := HP.out k hlt
      have hc1 := (hnx.out.cell (p := ⟨b, off + k * 5, none⟩) hb).trans hc1
      have hc2 := (hnx.out.cell (p := ⟨b, off + k * 5 + 1, none⟩) hb).trans hc2
      have hc3 := (hnx.out.cell (p := ⟨b, off + k * 5 + 2, none⟩) hb).trans hc3
      have hc4 := (hnx.out.cell (p := ⟨b, off + k * 5 + 3, none⟩) hb).trans hc4
      have hc5 := (hnx.out.cell (p := ⟨b, off + k * 5 + 4, none⟩) hb).trans hc5
      have hlen := cutF_len fs k hk
      have hset := cutF_set fs k hlt
      have HS : Hid (∀ y, Below wr.heap.size wr y → (∃ x1 x2 x3 x4 x5, y.cell? ⟨w.heap.size, k * 5, none⟩ = some x1 ∧ y.cell? ⟨w.heap.size, k * 5 + 1, none⟩ = some x2 ∧ y.cell? ⟨w.heap.size, k * 5 + 2, none⟩ = some x3 ∧ y.cell? ⟨w.heap.size, k * 5 + 3, none⟩ = some x4 ∧ y.cell? ⟨w.heap.size, k * 5 + 4, none⟩ = some x5) ∧ (y.frozen? ⟨w.heap.size, k * 5, none⟩ = false ∧ y.frozen? ⟨w.heap.size, k * 5 + 1, none⟩ = false ∧ y.frozen? ⟨w.heap.size, k * 5 + 2, none⟩ = false ∧ y.frozen? ⟨w.heap.size, k * 5 + 3, none⟩ = false ∧ y.frozen? ⟨w.heap.size, k * 5 + 4, none⟩ = false) ∧ Hid (∀ f, fs[k] = f → BlkF (set5 y w.heap.size (k * 5) f) w.heap.size (cutF fs (k + 1)) ∧ Below w.heap.size w (set5 y w.heap.size (k * 5) f))) := fun y hb => by
        have h := hrow.out.below hb
        obtain ⟨g1, g3⟩ := h.cells k (by omega)
        refine ⟨⟨_, _, _, _, _, g1⟩, g3, fun f he => ?_⟩
        rw [← hset, he]
        exact ⟨h.set5 k f, set5_below (chainB hnx.out hb) (Nat.le_refl _) _ _⟩
      clear hset hrow
      generalize fs[k] = f at *
      obtain ⟨n, c, s, v, g⟩ := f
      have hc1 : wr.cell? ⟨b, off + k * 5, none⟩ = some (.string n) := hc1
      have hc2 : wr.cell? ⟨b, off + k * 5 + 1, none⟩ = some (.string c) := hc2
      have hc3 : wr.cell? ⟨b, off + k * 5 + 2, none⟩ = some (.string s) := hc3
      have hc4 : wr.cell? ⟨b, off + k * 5 + 3, none⟩ = some (.string v) := hc4
      have hc5 : wr.cell? ⟨b, off + k * 5 + 4, none⟩ = some (.bool g) := hc5
      go_wp2_with fail
      refine (toFld_any ⟨n, c, s, v, g⟩ wr).mono ?_
      rintro e y ⟨rfl, b1⟩
      obtain ⟨⟨x1, x2, x3, x4, x5, g1, g2, g3, g4, g5⟩, ⟨f1, f2, f3, f4, f5⟩, HE⟩ := HS.out y b1
      obtain ⟨W5, hW5⟩ : ∃ W5, W5 = set5 y w.heap.size (k * 5) ⟨n, c, s, v, g⟩ := ⟨_, rfl⟩
      have HE2 : Hid (BlkF W5 w.heap.size (cutF fs (k + 1))) := by rw [hW5]; exact (HE.out _ rfl).1
      have HE3 : Hid (Below w.heap.size w W5) := by rw [hW5]; exact (HE.out _ rfl).2
      have HW5 : Hid (W5 = set5 y w.heap.size (k * 5) ⟨n, c, s, v, g⟩) := hW5
      clear HS HE b1 hc1 hc2 hc3 hc4 hc5 hW5
      go_wp2_with fail
      go_roundw
      case rel =>
        have e5 := HW5.out
        unfold set5 at e5
        rw [← e5]
        exact ⟨k + 1, by omega, by go_num, HE2, HE3⟩
      case measure => simp [intOf]; omega
    · have hkk : k = fs.length := by omega
      subst hkk
      have HR : Hid (BlkF wr w.heap.size fs) := by
        have := hrow.out; unfold cutF at this; show BlkF _ _ _; simpa using this
      go_wp2_with fail
      go_ret
      exact ⟨rfl, HR.out, hnx.out⟩

theorem eqFld_any (f : Fld) (w : World) :
    Calls Tryz.prog 71 #[.agg #[.string f.n, .string f.c, .string f.s, .string f.v, .bool f.g], .agg #[.string f.n, .string f.c, .string f.s, .string f.v, .bool f.g]] w fun e w' => e = .returned (.bool true) ∧ Below w.heap.size w w' := by
  obtain ⟨n, c, s, v, g⟩ := f
  show Calls Tryz.prog 71 #[.agg #[.string n, .string c, .string s, .string v, .bool g], .agg #[.string n, .string c, .string s, .string v, .bool g]] w _
  have B1 : Below w.heap.size w ((w.alloc (.cells #[.string n, .string c, .string s, .string v, .bool g] 87)).alloc (.cells #[.string n, .string c, .string s, .string v, .bool g] 87)) := alB (alB (Below.refl _ _) _) _
  go_enter Tryz.func71, Tryz.ntmps71
  go_wp2_with fail
  go_ret
  exact ⟨rfl, B1⟩

set_option maxHeartbeats 1000000 in
theorem eqF_any (p q : Option Addr) (cap cap2 : Nat) (fs : List Fld) (w : World) (hp : FldAt w p fs) (hq : FldAt w q fs) (hn : fs.length ≤ 1048576) (hcap : fs.length ≤ cap) (hcap2 : fs.length ≤ cap2) :
    Calls Tryz.prog 41 #[.slice p fs.length cap, .slice q fs.length cap2] w fun e w' => e = .returned (.bool true) ∧ Below w.heap.size w w' := by
  have HP : Hid (FldAt w p fs) := hp
  have HQ : Hid (FldAt w q fs) := hq
  clear hp hq
  go_enter Tryz.func41, Tryz.ntmps41
  go_wp2_with fail
  go_loopw [5] (fun i wr => ∃ k : Nat, k ≤ fs.length ∧ i = .int .i64 k ∧ Hid (Below w.heap.size w wr)) (fun i _ => fs.length - (intOf i).toNat)
  case atStart => exact ⟨0, Nat.zero_le _, rfl, Below.refl _ _⟩
  case round =>
    obtain ⟨k, hk, rfl, HB⟩ := hrel
    by_cases hlt : k < fs.length
    · obtain ⟨b, off, rfl, hb, hc1, hc2, hc3, hc4, hc5⟩ := (HP.out.below HB.out) k hlt
      obtain ⟨b2, off2, rfl, hb2, hd1, hd2, hd3, hd4, hd5⟩ := (HQ.out.below HB.out) k hlt
      have j5 : (k : Int) < fs.length := by omega
      generalize fs[k] = f at *
      obtain ⟨n, c, s, v, g⟩ := f
      have hc1 : wr.cell? ⟨b, off + k * 5, none⟩ = some (.string n) := hc1
      have hc2 : wr.cell? ⟨b, off + k * 5 + 1, none⟩ = some (.string c) := hc2
      have hc3 : wr.cell? ⟨b, off + k * 5 + 2, none⟩ = some (.string s) := hc3
      have hc4 : wr.cell? ⟨b, off + k * 5 + 3, none⟩ = some (.string v) := hc4
      have hc5 : wr.cell? ⟨b, off + k * 5 + 4, none⟩ = some (.bool g) := hc5
      have hd1 : wr.cell? ⟨b2, off2 + k * 5, none⟩ = some (.string n) := hd1
      have hd2 : wr.cell? ⟨b2, off2 + k * 5 + 1, none⟩ = some (.string c) := hd2
      have hd3 : wr.cell? ⟨b2, off2 + k * 5 + 2, none⟩ = some (.string s) := hd3
      have hd4 : wr.cell? ⟨b2, off2 + k * 5 + 3, none⟩ = some (.string v) := hd4
      have hd5 : wr.cell? ⟨b2, off2 + k * 5 + 4, none⟩ = some (.bool g) := hd5
      go_wp2_with fail
      go_region_with (first | (go_at_call 71; refine (eqFld_any ⟨n, c, s, v, g⟩ _).mono ?_; rintro e y1 ⟨rfl, z1⟩; have z1 : Below w.heap.size w y1 := chainB (by first | exact HB.out | exact HB.out.drew) z1))
      all_goals
        have HB1 : Hid (Below w.heap.size w y1) := z1
        clear z1
        go_wp2_with fail
        go_roundw
        case rel => exact ⟨k + 1, by omega, by go_num, HB1⟩
        case measure => simp [intOf]; omega
    · go_wp2_with fail
      go_ret
      exact ⟨rfl, HB.out⟩
end Go.Proofs.YthfecjjahoflcaaGreatDoor
