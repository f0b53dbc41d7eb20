/-
  Parts of one proof, laid as one text: LgMath, LgAtK, OneK, FldBlk, RwBlk, Takes; what each says stands at its head.
-/
import Derived.Test.YtamdgdkpcoeknaaGreatDoorRows
import Derived.Test.YtamdgdkpcoeknaaGreatDoorBytesDigMath
import Derived.Test.YtamdgdkpcoeknaaGreatDoorTreeMathSlASlBBxKOwnS
import Derived.Test.YtamdgdkpcoeknaaGreatDoorTimeBPutMathPutNumJoinedPutTextFldMath
import Derived.Test.YtamdgdkpcoeknaaGreatDoorFldGShwKFldHPathMathFldRiseScanMath
import Derived.Test.YtamdgdkpcoeknaaGreatDoorGetValGetTxtNumMathFldRdNumFromTmbMath
import Derived.Handy
import Derived.OwnWalk
import Derived.Deep.AppendLies
import Derived.Deep.RegionHeld3
/-
  A log in plain mathematics: its rows and leaves as cells, when it is right (as the specification goes: each tomb is the first of its field), and that the program's way (marks of what was noted, held against what is gone) comes to the same.
-/
namespace Go.Proofs.YtamdgdkpcoeknaaGreatDoor
open Go.RowKit Go.Lib
set_option linter.unusedVariables false

/-- A row. -/
structure Rw where
  k : ByteArray
  a : Int
  fs : List Fld
/-- The cells that a slice of rows leads to hold these (of none nothing is asked). -/
def RwAt (w : World) (p : Option Addr) (rs : List Rw) : Prop :=
  ∀ i (h : i < rs.length), ∃ b off q c, p = some ⟨b, off, none⟩ ∧ b < w.heap.size ∧ w.cell? ⟨b, off + i * 3, none⟩ = some (.string rs[i].k) ∧ w.cell? ⟨b, off + i * 3 + 1, none⟩ = some (.int .i64 rs[i].a) ∧ w.cell? ⟨b, off + i * 3 + 2, none⟩ = some (.slice q rs[i].fs.length c) ∧ rs[i].fs.length ≤ c ∧ FldAt w q rs[i].fs
theorem RwAt.below {w w' : World} {p : Option Addr} {rs : List Rw} (h : RwAt w p rs) (hb : Below w.heap.size w w') : RwAt w' p rs := by
  intro i hi
  obtain ⟨b, off, q, c, rfl, h1, h2, h3, h4, h5, h6⟩ := h i hi
  exact ⟨b, off, q, c, rfl, Nat.lt_of_lt_of_le h1 hb.size, (hb.cell (p := ⟨b, off + i * 3, none⟩) h1).trans h2, (hb.cell (p := ⟨b, off + i * 3 + 1, none⟩) h1).trans h3, (hb.cell (p := ⟨b, off + i * 3 + 2, none⟩) h1).trans h4, h5, h6.below hb⟩
theorem RwAt.nil (w : World) (p : Option Addr) : RwAt w p [] := fun i h => by simp at h
theorem RwAt.some_of {w : World} {p : Option Addr} {rs : List Rw} (h : RwAt w p rs) (h0 : 0 < rs.length) : ∃ b off, p = some ⟨b, off, none⟩ ∧ b < w.heap.size := by
  obtain ⟨b, off, q, c, rfl, hb, -⟩ := h 0 h0
  exact ⟨b, off, rfl, hb⟩
theorem RwAt.at {w : World} {b off : Nat} {rs : List Rw} (h : RwAt w (some ⟨b, off, none⟩) rs) (i : Nat) (hi : i < rs.length) : ∃ q c, w.cell? ⟨b, off + i * 3, none⟩ = some (.string rs[i].k) ∧ w.cell? ⟨b, off + i * 3 + 1, none⟩ = some (.int .i64 rs[i].a) ∧ w.cell? ⟨b, off + i * 3 + 2, none⟩ = some (.slice q rs[i].fs.length c) ∧ rs[i].fs.length ≤ c ∧ FldAt w q rs[i].fs := by
  obtain ⟨b', off', q, c, h0, h1, h2⟩ := h i hi
  cases h0; exact ⟨q, c, h2⟩
/-- The texts of rows are no greater than the reach. -/
def RwsLe (rs : List Rw) : Prop := ∀ r ∈ rs, r.fs.length ≤ 1048576 ∧ r.k.size ≤ maxLen ∧ FldsLe r.fs
def TxtsLe (ss : List ByteArray) : Prop := ∀ s ∈ ss, s.size ≤ maxLen

/-! ### Right logs, as the specification goes -/
def fldZ : Fld := ⟨ByteArray.empty, ByteArray.empty, ByteArray.empty, ByteArray.empty, false⟩
def rwZ : Rw := ⟨ByteArray.empty, 0, []⟩
def rlB (r : Rw) : ByteArray := one101 ++ digB (lfT r.k r.a r.fs)
def rB (r : Rw) : Bool := rwB r.k r.a r.fs
/-- The leaf is the note of this field. -/
def tmHit (r f : Int) (t : ByteArray) : Bool := decide (trC t = 0) && (decide ((trO t).r = r) && decide ((trO t).f = f))
def tbFrom (r f : Int) : Nat → List ByteArray → Int
  | _, [] => -1
  | i, t :: ts => if tmHit r f t = true then (i : Int) else tbFrom r f (i + 1) ts
def tbAt (lv : List ByteArray) (r f : Int) : Int := tbFrom r f 0 lv
def fldOf (rs : List Rw) (r f : Int) : Fld := (rs.getD r.toNat rwZ).fs.getD f.toNat fldZ
def goneAt (rs : List Rw) (r f : Int) : Bool := decide (0 ≤ r ∧ r ≤ (rs.length : Int) - 1) && (decide (0 ≤ f ∧ f ≤ ((rs.getD r.toNat rwZ).fs.length : Int) - 1) && (fldOf rs r f).g)
def tbOk (rs : List Rw) (now : Int) (all : List ByteArray) (i n : Nat) (t : ByteArray) : Bool :=
  decide (trC t = 0) && (decide ((trO t).r < (n : Int)) && (goneAt rs (trO t).r (trO t).f && (decide ((trO t).a ≤ now) && decide (tbAt all (trO t).r (trO t).f = (i : Int)))))
def isNx (rs : List Rw) (n : Nat) (t : ByteArray) : Bool := decide (n < rs.length) && decide (t = rlB (rs.getD n rwZ))
def lvGo (rs : List Rw) (now : Int) (all : List ByteArray) : Nat → Nat → List ByteArray → Bool
  | _, n, [] => decide (n = rs.length)
  | i, n, t :: ts => if isNx rs n t = true then lvGo rs now all (i + 1) (n + 1) ts else if tbOk rs now all i n t = true then lvGo rs now all (i + 1) n ts else false
def rsB (rs : List Rw) (now : Int) : Bool := rs.all fun r => rB r && decide (r.a ≤ now)
def alB7 (lv : List ByteArray) (i : Nat) (fs : List Fld) : Bool := (List.range fs.length).all fun k => !(fs.getD k fldZ).g || decide (0 ≤ tbAt lv (i : Int) (k : Int))
def allB (rs : List Rw) (lv : List ByteArray) : Bool := (List.range rs.length).all fun i => alB7 lv i (rs.getD i rwZ).fs
def lgB (rs : List Rw) (lv : List ByteArray) (now : Int) : Bool :=
  decide (rs.length ≤ 6) && (decide (lv.length ≤ 64) && (timeB now && (rsB rs now && (lvGo rs now lv 0 0 lv && allB rs lv))))

/-! ### The program's way -/
def hitIn (pre : List ByteArray) (r f : Int) : Bool := pre.any (tmHit r f)
def mrkOf (pre : List ByteArray) : List Bool := (List.range 18).map fun j => hitIn pre ((j / 3 : Nat) : Int) ((j % 3 : Nat) : Int)
def goneM (rs : List Rw) : List Bool := (List.range 18).map fun j => (fldOf rs ((j / 3 : Nat) : Int) ((j % 3 : Nat) : Int)).g
def okT (now : Int) (pre : List ByteArray) (n : Nat) (t : ByteArray) : Bool :=
  decide (trC t = 0) && (decide ((trO t).r < (n : Int)) && (decide ((trO t).a ≤ now) && !hitIn pre (trO t).r (trO t).f))
def cGo (rs : List Rw) (now : Int) : List ByteArray → Nat → List ByteArray → Option Nat
  | _, n, [] => some n
  | pre, n, t :: ts => if isNx rs n t = true then cGo rs now (pre ++ [t]) (n + 1) ts else if okT now pre n t = true then cGo rs now (pre ++ [t]) n ts else none
def imB (rs : List Rw) (lv : List ByteArray) (now : Int) : Bool :=
  timeB now && ((decide (rs.length ≤ 6) && rsB rs now) && (match cGo rs now [] 0 lv with | some n => decide (n = rs.length) && decide (mrkOf lv = goneM rs) | none => false))

/-! ### Both come to the same -/
theorem lg_one (D : ByteArray) (h : D.size = 32) : isRl (one101 ++ D) = true := by
  unfold isRl
  rw [Bool.and_eq_true, decide_eq_true_iff, decide_eq_true_iff]
  constructor
  · rw [ByteArray.size_append, h]; rfl
  · simp [one101, ByteArray.data_append]
theorem rl_isRl (r : Rw) : isRl (rlB r) = true := lg_one _ (digB_size _)
theorem rl_lf {r : Rw} (h : rB r = true) : lfB r.k r.a r.fs = rlB r := by unfold rB at h; unfold lfB rlB; rw [if_pos h]
theorem tr_not_rl {t : ByteArray} (h : trC t = 0) : isRl t = false := by
  obtain ⟨-, hB, hR, -⟩ := tr_sound h
  have := lk_raw hB
  rw [hR] at this
  unfold lkB at this
  cases e : isRl t with
  | false => rfl
  | true => rw [e, if_pos rfl] at this; cases this
theorem lk_iff2 (t : ByteArray) : lkB t = 2 ↔ trC t = 0 := by
  constructor
  · intro h
    unfold lkB at h
    split at h
    · cases h
    · split at h
      · assumption
      · cases h
  · intro h
    unfold lkB
    rw [tr_not_rl h, if_neg Bool.false_ne_true, if_pos h]
theorem lk_iff1 (t : ByteArray) : lkB t = 1 ↔ isRl t = true := by
  constructor
  · intro h
    unfold lkB at h
    split at h
    · assumption
    · split at h <;> cases h
  · intro h; unfold lkB; rw [if_pos h]
theorem rl_tr (r : Rw) : ¬ trC (rlB r) = 0 := fun h => by have := rl_isRl r; rw [tr_not_rl h] at this; cases this
theorem tmHit_iff (r f : Int) (t : ByteArray) : tmHit r f t = true ↔ trC t = 0 ∧ (trO t).r = r ∧ (trO t).f = f := by unfold tmHit; simp
theorem hit_iff (pre : List ByteArray) (r f : Int) : hitIn pre r f = true ↔ ∃ t ∈ pre, tmHit r f t = true := by unfold hitIn; simp
theorem hit_snoc (pre : List ByteArray) (t : ByteArray) (r f : Int) : hitIn (pre ++ [t]) r f = (hitIn pre r f || tmHit r f t) := by unfold hitIn; simp
theorem tb_nonneg (r f : Int) : ∀ (i : Nat) (lv : List ByteArray), 0 ≤ tbFrom r f i lv ↔ hitIn lv r f = true
  | i, [] => by simp [tbFrom, hitIn]
  | i, t :: ts => by
    rw [tbFrom]
    split
    · rename_i h; simp [hitIn, h]
    · rename_i h
      rw [tb_nonneg r f (i + 1) ts]
      simp [hitIn, h]
theorem tb_ge (r f : Int) : ∀ (i : Nat) (lv : List ByteArray), tbFrom r f i lv = -1 ∨ (i : Int) ≤ tbFrom r f i lv
  | i, [] => .inl rfl
  | i, t :: ts => by
    rw [tbFrom]
    split
    · exact .inr (Int.le_refl _)
    · rcases tb_ge r f (i + 1) ts with h | h
      · exact .inl h
      · exact .inr (by omega)
theorem tb_here (r f : Int) (t : ByteArray) (ts : List ByteArray) (ht : tmHit r f t = true) : ∀ (i : Nat) (pre : List ByteArray), tbFrom r f i (pre ++ t :: ts) = ((i + pre.length : Nat) : Int) ↔ hitIn pre r f = false
  | i, [] => by simp [tbFrom, ht, hitIn]
  | i, p :: pre => by
    rw [List.cons_append, tbFrom]
    split
    · rename_i h
      simp only [hitIn, List.any_cons, h, Bool.true_or, List.length_cons]
      constructor
      · intro e; omega
      · intro e; cases e
    · rename_i h
      have := tb_here r f t ts ht (i + 1) pre
      rw [show i + 1 + pre.length = i + (pre.length + 1) by omega] at this
      rw [List.length_cons, this]
      simp [hitIn, h]
theorem tbAt_here {pre ts : List ByteArray} {t : ByteArray} {r f : Int} (ht : tmHit r f t = true) : tbAt (pre ++ t :: ts) r f = (pre.length : Int) ↔ hitIn pre r f = false := by
  have := tb_here r f t ts ht 0 pre
  rwa [Nat.zero_add] at this
theorem hit_self {t : ByteArray} (h : trC t = 0) : tmHit (trO t).r (trO t).f t = true := (tmHit_iff _ _ _).2 ⟨h, rfl, rfl⟩
theorem nx_iff (rs : List Rw) (n : Nat) (t : ByteArray) : isNx rs n t = true ↔ n < rs.length ∧ t = rlB (rs.getD n rwZ) := by unfold isNx; simp
theorem nx_tr {rs : List Rw} {n : Nat} {t : ByteArray} (h : isNx rs n t = true) : ¬ trC t = 0 := by
  rw [((nx_iff _ _ _).1 h).2]; exact rl_tr _
theorem tbOk_iff (rs : List Rw) (now : Int) (pre ts : List ByteArray) (n : Nat) (t : ByteArray) : tbOk rs now (pre ++ t :: ts) pre.length n t = true ↔ okT now pre n t = true ∧ (trC t = 0 → goneAt rs (trO t).r (trO t).f = true) := by
  unfold tbOk okT
  simp only [Bool.and_eq_true, decide_eq_true_iff, Bool.not_eq_true']
  constructor
  · rintro ⟨h1, h2, h3, h4, h5⟩
    exact ⟨⟨h1, h2, h4, (tbAt_here (hit_self h1)).1 h5⟩, fun _ => h3⟩
  · rintro ⟨⟨h1, h2, h3, h4⟩, h5⟩
    exact ⟨h1, h2, h5 h1, h3, (tbAt_here (hit_self h1)).2 h4⟩
theorem go_iff (rs : List Rw) (now : Int) (all : List ByteArray) : ∀ (suf pre : List ByteArray) (n : Nat), all = pre ++ suf → (lvGo rs now all pre.length n suf = true ↔ cGo rs now pre n suf = some rs.length ∧ ∀ t ∈ suf, trC t = 0 → goneAt rs (trO t).r (trO t).f = true)
  | [], pre, n, _ => by simp [lvGo, cGo]
  | t :: ts, pre, n, e => by
    rw [lvGo, cGo]
    have ih := go_iff rs now all ts (pre ++ [t])
    simp only [List.length_append, List.length_cons, List.length_nil, Nat.zero_add] at ih
    by_cases h : isNx rs n t = true
    · rw [if_pos h, if_pos h, ih (n + 1) (by rw [e]; simp)]
      constructor
      · rintro ⟨h1, h2⟩
        refine ⟨h1, fun x hx hc => ?_⟩
        rcases List.mem_cons.1 hx with rfl | hx
        · exact absurd hc (nx_tr h)
        · exact h2 x hx hc
      · rintro ⟨h1, h2⟩
        exact ⟨h1, fun x hx hc => h2 x (List.mem_cons_of_mem _ hx) hc⟩
    · rw [if_neg h, if_neg h, e, ]
      have hk := tbOk_iff rs now pre ts n t
      by_cases h2 : okT now pre n t = true
      · rw [if_pos h2]
        by_cases h3 : trC t = 0 → goneAt rs (trO t).r (trO t).f = true
        · rw [if_pos (hk.2 ⟨h2, h3⟩), ← e, ih n (by rw [e]; simp)]
          constructor
          · rintro ⟨g1, g2⟩
            refine ⟨g1, fun x hx hc => ?_⟩
            rcases List.mem_cons.1 hx with rfl | hx
            · exact h3 hc
            · exact g2 x hx hc
          · rintro ⟨g1, g2⟩
            exact ⟨g1, fun x hx hc => g2 x (List.mem_cons_of_mem _ hx) hc⟩
        · rw [if_neg (fun q => h3 (hk.1 q).2)]
          constructor
          · intro q; cases q
          · rintro ⟨-, g⟩
            exact absurd (g t (by simp)) h3
      · rw [if_neg h2, if_neg (fun q => h2 (hk.1 q).1)]
        simp
theorem cGo_parts (rs : List Rw) (now : Int) : ∀ (suf pre : List ByteArray) (n n' : Nat), cGo rs now pre n suf = some n' → n ≤ n' ∧ (n ≤ rs.length → n' ≤ rs.length) ∧ ∀ t ∈ suf, trC t = 0 → (trO t).r < (n' : Int)
  | [], pre, n, n', h => by
    simp only [cGo, Option.some.injEq] at h
    subst h
    exact ⟨Nat.le_refl _, id, fun t h => by cases h⟩
  | t :: ts, pre, n, n', h => by
    rw [cGo] at h
    split at h
    · rename_i hn
      obtain ⟨h1, h2, h3⟩ := cGo_parts rs now ts _ _ _ h
      have hl := ((nx_iff _ _ _).1 hn).1
      refine ⟨by omega, fun _ => h2 (by omega), fun x hx hc => ?_⟩
      rcases List.mem_cons.1 hx with rfl | hx
      · exact absurd hc (nx_tr hn)
      · exact h3 x hx hc
    · split at h
      · rename_i hn ho
        obtain ⟨h1, h2, h3⟩ := cGo_parts rs now ts _ _ _ h
        refine ⟨h1, h2, fun x hx hc => ?_⟩
        rcases List.mem_cons.1 hx with rfl | hx
        · unfold okT at ho
          simp only [Bool.and_eq_true, decide_eq_true_iff] at ho
          have := ho.2.1
          omega
        · exact h3 x hx hc
      · cases h
theorem mrk_len (pre : List ByteArray) : (mrkOf pre).length = 18 := by simp [mrkOf]
theorem goneM_len (rs : List Rw) : (goneM rs).length = 18 := by simp [goneM]
theorem mrk_get (pre : List ByteArray) (j : Nat) (h : j < (mrkOf pre).length) : (mrkOf pre)[j] = hitIn pre ((j / 3 : Nat) : Int) ((j % 3 : Nat) : Int) := by simp [mrkOf]
theorem gone_get (rs : List Rw) (j : Nat) (h : j < (goneM rs).length) : (goneM rs)[j] = (fldOf rs ((j / 3 : Nat) : Int) ((j % 3 : Nat) : Int)).g := by simp [goneM]
theorem tr_range {t : ByteArray} (h : trC t = 0) : (0 ≤ (trO t).r ∧ (trO t).r ≤ 63) ∧ (0 ≤ (trO t).f ∧ (trO t).f ≤ 2) := by
  obtain ⟨-, hB, -, ho⟩ := tr_sound h
  have := (tmB_iff _).1 hB
  rw [ho]; exact ⟨this.1, this.2.1⟩
theorem mrk_no {pre : List ByteArray} {t : ByteArray} (h : ¬ trC t = 0) : mrkOf (pre ++ [t]) = mrkOf pre := by
  unfold mrkOf
  apply List.map_congr_left
  intro j _
  rw [hit_snoc]
  have : tmHit ((j / 3 : Nat) : Int) ((j % 3 : Nat) : Int) t = false := by unfold tmHit; rw [decide_eq_false h]; rfl
  rw [this, Bool.or_false]
def mkAt (t : ByteArray) : Nat := (trO t).r.toNat * 3 + (trO t).f.toNat
theorem mrk_yes {pre : List ByteArray} {t : ByteArray} (h : trC t = 0) : mrkOf (pre ++ [t]) = (mrkOf pre).set (mkAt t) true := by
  obtain ⟨⟨r0, r1⟩, f0, f1⟩ := tr_range h
  apply List.ext_getElem
  · simp [mrk_len]
  · intro j h1 h2
    rw [mrk_get, List.getElem_set, hit_snoc]
    have hj : j < 18 := by rw [mrk_len] at h1; exact h1
    by_cases e : mkAt t = j
    · rw [if_pos e]
      have : tmHit ((j / 3 : Nat) : Int) ((j % 3 : Nat) : Int) t = true := by
        rw [tmHit_iff]
        unfold mkAt at e
        exact ⟨h, by omega, by omega⟩
      rw [this, Bool.or_true]
    · rw [if_neg e, mrk_get]
      have : tmHit ((j / 3 : Nat) : Int) ((j % 3 : Nat) : Int) t = false := by
        cases q : tmHit ((j / 3 : Nat) : Int) ((j % 3 : Nat) : Int) t with
        | false => rfl
        | true =>
          obtain ⟨-, q1, q2⟩ := (tmHit_iff _ _ _).1 q
          exfalso; apply e; unfold mkAt; omega
      rw [this, Bool.or_false]
theorem mrk_at {pre : List ByteArray} {t : ByteArray} (h : trC t = 0) (h6 : (trO t).r < 6) : (mrkOf pre)[mkAt t]? = some (hitIn pre (trO t).r (trO t).f) := by
  obtain ⟨⟨r0, r1⟩, f0, f1⟩ := tr_range h
  have hj : mkAt t < (mrkOf pre).length := by rw [mrk_len]; unfold mkAt; omega
  rw [List.getElem?_eq_getElem hj, mrk_get]
  have e1 : ((mkAt t / 3 : Nat) : Int) = (trO t).r := by unfold mkAt; omega
  have e2 : ((mkAt t % 3 : Nat) : Int) = (trO t).f := by unfold mkAt; omega
  rw [e1, e2]
theorem cGo_len (rs : List Rw) (now : Int) (h6 : rs.length ≤ 6) : ∀ (suf pre : List ByteArray) (n n' : Nat), n ≤ rs.length → cGo rs now pre n suf = some n' → suf.length + n + (mrkOf pre).count true = n' + (mrkOf (pre ++ suf)).count true
  | [], pre, n, n', _, h => by
    simp only [cGo, Option.some.injEq] at h
    subst h
    simp
  | t :: ts, pre, n, n', hn, h => by
    rw [cGo] at h
    split at h
    · rename_i hx
      have := cGo_len rs now h6 ts (pre ++ [t]) (n + 1) n' (by have := ((nx_iff _ _ _).1 hx).1; omega) h
      rw [mrk_no (nx_tr hx), List.append_assoc] at this
      simp only [List.cons_append, List.nil_append] at this
      rw [← this]; simp; omega
    · split at h
      · rename_i hx ho
        have := cGo_len rs now h6 ts (pre ++ [t]) n n' hn h
        unfold okT at ho
        simp only [Bool.and_eq_true, decide_eq_true_iff, Bool.not_eq_true'] at ho
        obtain ⟨hc, hr, -, hh⟩ := ho
        have hm := mrk_at (pre := pre) hc (by omega)
        rw [hh] at hm
        have hl : mkAt t < (mrkOf pre).length := by
          rcases Nat.lt_or_ge (mkAt t) (mrkOf pre).length with q | q
          · exact q
          · rw [List.getElem?_eq_none q] at hm; cases hm
        rw [List.getElem?_eq_getElem hl] at hm
        have hg : (mrkOf pre)[mkAt t] = false := Option.some.inj hm
        rw [mrk_yes hc, List.append_assoc, List.count_set hl, hg] at this
        simp only [List.cons_append, List.nil_append] at this
        simp at this
        rw [← this]; simp; omega
      · cases h
theorem fld_of_gone {rs : List Rw} {r f : Int} (h0 : 0 ≤ r) (h1 : 0 ≤ f) : goneAt rs r f = true ↔ (fldOf rs r f).g = true := by
  unfold goneAt
  simp only [Bool.and_eq_true, decide_eq_true_iff]
  constructor
  · exact fun h => h.2.2
  · intro h
    have h2 : r.toNat < rs.length := by
      rcases Nat.lt_or_ge r.toNat rs.length with q | q
      · exact q
      · exfalso
        unfold fldOf at h
        rw [List.getD_eq_getElem?_getD, List.getD_eq_getElem?_getD, List.getElem?_eq_none q] at h
        simp [rwZ, fldZ] at h
    have h3 : f.toNat < (rs.getD r.toNat rwZ).fs.length := by
      rcases Nat.lt_or_ge f.toNat (rs.getD r.toNat rwZ).fs.length with q | q
      · exact q
      · exfalso
        unfold fldOf at h
        rw [List.getD_eq_getElem?_getD (l := (rs.getD r.toNat rwZ).fs), List.getElem?_eq_none q] at h
        simp [fldZ] at h
    exact ⟨⟨h0, by omega⟩, ⟨h1, by omega⟩, h⟩
theorem allB_iff (rs : List Rw) (lv : List ByteArray) : allB rs lv = true ↔ ∀ r f : Nat, (fldOf rs (r : Int) (f : Int)).g = true → hitIn lv (r : Int) (f : Int) = true := by
  unfold allB alB7
  simp only [List.all_eq_true, List.mem_range, Bool.or_eq_true, Bool.not_eq_true', decide_eq_true_iff]
  constructor
  · intro h r f hg
    obtain ⟨g1, g2, -⟩ := by
      have := (fld_of_gone (rs := rs) (r := (r : Int)) (f := (f : Int)) (by omega) (by omega)).2 hg
      unfold goneAt at this
      simpa only [Bool.and_eq_true, decide_eq_true_iff] using this
    simp only [Int.toNat_natCast] at g2
    rcases h r (by omega) f (by omega) with q | q
    · unfold fldOf at hg
      simp only [Int.toNat_natCast] at hg
      rw [hg] at q; cases q
    · exact (tb_nonneg _ _ 0 lv).1 q
  · intro h i hi k hk
    cases hg : ((rs.getD i rwZ).fs.getD k fldZ).g with
    | false => exact .inl rfl
    | true =>
      right
      refine (tb_nonneg _ _ 0 lv).2 (h i k ?_)
      unfold fldOf
      simpa only [Int.toNat_natCast] using hg
theorem lg_eq (rs : List Rw) (lv : List ByteArray) (now : Int) : lgB rs lv now = imB rs lv now := by
  rw [Bool.eq_iff_iff]
  unfold lgB imB
  simp only [Bool.and_eq_true, decide_eq_true_iff]
  have gi := go_iff rs now lv lv [] 0 (by simp)
  simp only [List.length_nil] at gi
  constructor
  · rintro ⟨h6, -, ht, hr, hl, ha⟩
    obtain ⟨g1, g2⟩ := gi.1 hl
    refine ⟨ht, ⟨h6, hr⟩, ?_⟩
    rw [g1]
    simp only [Bool.and_eq_true, decide_eq_true_iff, true_and]
    apply List.ext_getElem
    · rw [mrk_len, goneM_len]
    · intro j h1 h2
      rw [mrk_get, gone_get, Bool.eq_iff_iff]
      constructor
      · intro h
        obtain ⟨t, ht1, ht2⟩ := (hit_iff _ _ _).1 h
        obtain ⟨e0, e1, e2⟩ := (tmHit_iff _ _ _).1 ht2
        have := g2 t ht1 e0
        rw [e1, e2] at this
        exact (fld_of_gone (by omega) (by omega)).1 this
      · exact fun h => (allB_iff rs lv).1 ha _ _ h
  · rintro ⟨ht, ⟨h6, hr⟩, hm⟩
    cases hc : cGo rs now [] 0 lv with
    | none => rw [hc] at hm; cases hm
    | some n =>
      rw [hc] at hm
      simp only [Bool.and_eq_true, decide_eq_true_iff] at hm
      obtain ⟨rfl, hm⟩ := hm
      obtain ⟨-, -, hlt⟩ := cGo_parts rs now lv [] 0 _ hc
      have hlen := cGo_len rs now h6 lv [] 0 _ (Nat.zero_le _) hc
      have hc18 : (mrkOf ([] ++ lv)).count true ≤ 18 := Nat.le_trans List.count_le_length (by rw [mrk_len]; exact Nat.le_refl _)
      have key : ∀ r f : Nat, r < 6 → f < 3 → hitIn lv (r : Int) (f : Int) = (fldOf rs (r : Int) (f : Int)).g := fun r f h1 h2 => by
        have e : (mrkOf lv)[r * 3 + f]? = (goneM rs)[r * 3 + f]? := by rw [hm]
        rw [List.getElem?_eq_getElem (by rw [mrk_len]; omega), List.getElem?_eq_getElem (by rw [goneM_len]; omega), mrk_get, gone_get] at e
        have e1 : (r * 3 + f) / 3 = r := by omega
        have e2 : (r * 3 + f) % 3 = f := by omega
        rw [e1, e2] at e
        exact Option.some.inj e
      refine ⟨h6, by omega, ht, hr, gi.2 ⟨hc, fun t ht hz => ?_⟩, ?_⟩
      · obtain ⟨⟨r0, -⟩, f0, f1⟩ := tr_range hz
        have hr6 := hlt t ht hz
        have := key (trO t).r.toNat (trO t).f.toNat (by omega) (by omega)
        rw [Int.toNat_of_nonneg r0, Int.toNat_of_nonneg f0] at this
        rw [fld_of_gone r0 f0, ← this]
        exact (hit_iff _ _ _).2 ⟨t, ht, hit_self hz⟩
      · rw [allB_iff]
        intro r f hg
        have hb := (fld_of_gone (rs := rs) (r := (r : Int)) (f := (f : Int)) (by omega) (by omega)).2 hg
        unfold goneAt at hb
        simp only [Bool.and_eq_true, decide_eq_true_iff] at hb
        obtain ⟨b1, b2, -⟩ := hb
        simp only [Int.toNat_natCast] at b2
        have hrl : r < rs.length := by omega
        have hf3 : (rs.getD r rwZ).fs.length ≤ 3 := by
          unfold rsB at hr
          rw [List.all_eq_true] at hr
          have := hr (rs.getD r rwZ) (by rw [List.getD_eq_getElem?_getD, List.getElem?_eq_getElem hrl]; exact List.getElem_mem hrl)
          rw [Bool.and_eq_true] at this
          exact (rwB_parts this.1).2.2.1.2
        rw [key r f (by omega) (by omega)]
        exact hg
end Go.Proofs.YtamdgdkpcoeknaaGreatDoor
/-
  What holds of a log that lies in memory: its rows and leaves as cells, within the reach.
-/
namespace Go.Proofs.YtamdgdkpcoeknaaGreatDoor
open Go.RowKit Go.Lib
set_option linter.unusedVariables false

/-- What holds of a log that lies in memory. -/
structure LgAt (p : Option Addr) (lv : List ByteArray) (cp : Nat) (q : Option Addr) (rs : List Rw) (cq : Nat) (w : World) : Prop where
  tx : TxtAt w p lv
  lc : lv.length ≤ cp
  ln : lv.length ≤ 1048576
  lz : TxtsLe lv
  rw : RwAt w q rs
  rc : rs.length ≤ cq
  rn : rs.length ≤ 1048576
  rz : RwsLe rs
theorem LgAt.below {p : Option Addr} {lv : List ByteArray} {cp : Nat} {q : Option Addr} {rs : List Rw} {cq : Nat} {w x : World} (h : LgAt p lv cp q rs cq w) (hb : Below w.heap.size w x) : LgAt p lv cp q rs cq x :=
  ⟨h.tx.below hb, h.lc, h.ln, h.lz, h.rw.below hb, h.rc, h.rn, h.rz⟩
end Go.Proofs.YtamdgdkpcoeknaaGreatDoor
/-
  A field put behind a row of fields of one's own; a box with such a row.
-/
namespace Go.Proofs.YtamdgdkpcoeknaaGreatDoor
open Go.RowKit Go.Lib
set_option linter.unusedVariables false

theorem infoFld : (Tryz.prog.info? 112).map (fun i => (i.zero, i.size, i.bytes)) = some (some (.agg #[.string ByteArray.empty, .string ByteArray.empty, .string ByteArray.empty, .string ByteArray.empty, .bool false]), 5, 72) := by kernel_rfl
theorem app_fld (w : World) (base : Nat) (v : Value) (l : List Fld) (own : w.ownsRow base 112 5 v l.length (fldRow l)) (fn fc fs fv : ByteArray) (fg : Bool) (hl : l.length + 1 ≤ 1048576) (hbase : base ≤ w.heap.size) :
    ∃ g c w', (Builtin.append_ #[65, 65] 65 #[v, .slice (some ⟨w.heap.size, 0, none⟩) 1 1]).run Tryz.prog (w.alloc (.cells #[.string fn, .string fc, .string fs, .string fv, .bool fg] 112)) = .ok (.slice (some ⟨g, 0, none⟩) (l.length + 1) c) w' ∧
      w'.ownsRow base 112 5 (.slice (some ⟨g, 0, none⟩) (l.length + 1) c) (l ++ [(⟨fn, fc, fs, fv, fg⟩ : Fld)]).length (fldRow (l ++ [(⟨fn, fc, fs, fv, fg⟩ : Fld)])) ∧ (w.alloc (.cells #[.string fn, .string fc, .string fs, .string fv, .bool fg] 112)).grownBy w' v.ownBlock ∧ (v.ownBlock = some g ∨ g = w.heap.size + 1) := by
  obtain ⟨i0, hi, hz0, hz1, hz2⟩ := info_parts infoFld
  obtain ⟨g, c, w', h1, h2, h3, h4, _⟩ := run_append_lies (P := Tryz.prog) (w.alloc (.cells #[.string fn, .string fc, .string fs, .string fv, .bool fg] 112)) 65 65 base 112 i0 _ 5 72 Tryz.underlying65 hi hz0 hz1 hz2 rfl (by omega) v l.length (fldRow l) (own.alloc _) ⟨w.heap.size, 0, none⟩ 1 1 (fldRow [(⟨fn, fc, fs, fv, fg⟩ : Fld)]) rfl (fun j u hu => by
      have hj : j < 5 := by
        rcases Nat.lt_or_ge j 5 with q | q
        · exact q
        · rw [List.getElem?_eq_none (by rw [fldRow_len]; exact q)] at hu; cases hu
      have hadd : (⟨w.heap.size, 0, none⟩ : Addr).add j = ⟨w.heap.size, 0 + j, none⟩ := by unfold Addr.add; split <;> simp_all
      rw [hadd, Nat.zero_add, World.cell?_alloc_mark]
      match j, hj with
      | 0, _ => exact hu
      | 1, _ => exact hu
      | 2, _ => exact hu
      | 3, _ => exact hu
      | 4, _ => exact hu) (fun u hu => by
      simp [fldRow, fldCells] at hu
      rcases hu with rfl | rfl | rfl | rfl | rfl <;> rfl) (by omega) (by unfold maxLen; omega) (by omega) (by simp; omega) (w.heap.size + 1) (by simp)
  refine ⟨g, c, w', h1, ?_, h3, h4⟩
  have e1 : (l ++ [(⟨fn, fc, fs, fv, fg⟩ : Fld)]).length = l.length + 1 := by simp
  rw [e1, fldRow_append]; exact h2
/-- A box with one row of fields of its own. -/
structure One7 (W : World) (Z : Nat) (T : TypeId) (cs : Array Value) (v : Value) (l : List Fld) (x : World) : Prop where
  bel : Below W.heap.size W x
  hZ : W.heap.size ≤ Z
  hT : T ≠ 112
  box : Bxs x Z T cs
  own : x.ownsRow W.heap.size 112 5 v l.length (fldRow l)
theorem One7.below {W : World} {Z : Nat} {T : TypeId} {cs : Array Value} {v : Value} {l : List Fld} {x y : World} (h : One7 W Z T cs v l x) (hb : Below x.heap.size x y) : One7 W Z T cs v l y := ⟨chainB h.bel hb, h.hZ, h.hT, h.box.below hb, ownS_below h.own hb⟩
theorem One7.app2 {W : World} {Z : Nat} {T : TypeId} {cs : Array Value} {v : Value} {l : List Fld} {x : World} (h : One7 W Z T cs v l x) (j : Nat) (fn fc fs fv : ByteArray) (fg : Bool) (hj : cs[j]? = some v) (hl : l.length + 1 ≤ 1048576) :
    ∃ g c y, (Builtin.append_ #[65, 65] 65 #[v, .slice (some ⟨x.heap.size, 0, none⟩) 1 1]).run Tryz.prog (x.alloc (.cells #[.string fn, .string fc, .string fs, .string fv, .bool fg] 112)) = .ok (.slice (some ⟨g, 0, none⟩) (l.length + 1) c) y ∧
      One7 W Z T (cs.setIfInBounds j (.slice (some ⟨g, 0, none⟩) (l.length + 1) c)) (.slice (some ⟨g, 0, none⟩) (l.length + 1) c) (l ++ [⟨fn, fc, fs, fv, fg⟩]) (y.setCell ⟨Z, j, none⟩ (.slice (some ⟨g, 0, none⟩) (l.length + 1) c)) ∧ y.cell? ⟨Z, j, none⟩ = some v ∧ y.frozen? ⟨Z, j, none⟩ = false ∧ Below W.heap.size W y ∧ (x.alloc (.cells #[.string fn, .string fc, .string fs, .string fv, .bool fg] 112)).grownBy y v.ownBlock := by
  obtain ⟨g, c, y, h1, h2, h3, h4⟩ := app_fld x W.heap.size v l h.own fn fc fs fv fg hl h.bel.size
  have hb : Bxs y Z T cs := (h.box.alloc _).grown h3 (Ne.symm (ownR_ne h.own h.box h.hT))
  have hB : Below W.heap.size W y := (h.bel.alloc h.bel.size _).grown h3 (by have := h.bel.size; rw [szA]; omega) (fun j hj => (h.own.lt j hj).1)
  refine ⟨g, c, y, h1, ⟨hB.setCell h.hZ _, h.hZ, h.hT, hb.set j _, ownsRow_setCell_other h2 (ownR_ne h2 hb h.hT) _⟩, ?_, hb.fr j, hB, h3⟩
  rw [hb.cell j]; exact hj
theorem One7.app {W : World} {Z : Nat} {T : TypeId} {cs : Array Value} {v : Value} {l : List Fld} {x : World} (h : One7 W Z T cs v l x) (j : Nat) (fn fc fs fv : ByteArray) (fg : Bool) (hj : cs[j]? = some v) (hl : l.length + 1 ≤ 1048576) :
    ∃ g c y, (Builtin.append_ #[65, 65] 65 #[v, .slice (some ⟨x.heap.size, 0, none⟩) 1 1]).run Tryz.prog (x.alloc (.cells #[.string fn, .string fc, .string fs, .string fv, .bool fg] 112)) = .ok (.slice (some ⟨g, 0, none⟩) (l.length + 1) c) y ∧
      One7 W Z T (cs.setIfInBounds j (.slice (some ⟨g, 0, none⟩) (l.length + 1) c)) (.slice (some ⟨g, 0, none⟩) (l.length + 1) c) (l ++ [⟨fn, fc, fs, fv, fg⟩]) (y.setCell ⟨Z, j, none⟩ (.slice (some ⟨g, 0, none⟩) (l.length + 1) c)) ∧ y.cell? ⟨Z, j, none⟩ = some v ∧ y.frozen? ⟨Z, j, none⟩ = false ∧ Below W.heap.size W y := by
  obtain ⟨g, c, y, h1, h2, h3, h4, h5, -⟩ := h.app2 j fn fc fs fv fg hj hl
  exact ⟨g, c, y, h1, h2, h3, h4, h5⟩
theorem getD_at {l : List ByteArray} {i : Nat} (h : i < l.length) : l.getD i ByteArray.empty = l[i] := by rw [List.getD_eq_getElem?_getD, List.getElem?_eq_getElem h]; rfl
end Go.Proofs.YtamdgdkpcoeknaaGreatDoor
/-
  A block of fields that was made, and is written field by field.
-/
namespace Go.Proofs.YtamdgdkpcoeknaaGreatDoor
open Go.RowKit Go.Lib
set_option linter.unusedVariables false

def fldE5 : Fld := ⟨ByteArray.empty, ByteArray.empty, ByteArray.empty, ByteArray.empty, false⟩
/-- A block that holds these fields, and nothing else. -/
def BlkF (w : World) (g : Nat) (l : List Fld) : Prop := Bxs w g 112 (fldRow l).toArray
theorem BlkF.below {w w' : World} {g : Nat} {l : List Fld} (h : BlkF w g l) (hb : Below w.heap.size w w') : BlkF w' g l := Bxs.below h hb
theorem BlkF.cells {w : World} {g : Nat} {l : List Fld} (h : BlkF w g l) (i : Nat) (hi : i < l.length) : (w.cell? ⟨g, i * 5, none⟩ = some (.string l[i].n) ∧ w.cell? ⟨g, i * 5 + 1, none⟩ = some (.string l[i].c) ∧ w.cell? ⟨g, i * 5 + 2, none⟩ = some (.string l[i].s) ∧ w.cell? ⟨g, i * 5 + 3, none⟩ = some (.string l[i].v) ∧ w.cell? ⟨g, i * 5 + 4, none⟩ = some (.bool l[i].g)) ∧ w.frozen? ⟨g, i * 5, none⟩ = false ∧ w.frozen? ⟨g, i * 5 + 1, none⟩ = false ∧ w.frozen? ⟨g, i * 5 + 2, none⟩ = false ∧ w.frozen? ⟨g, i * 5 + 3, none⟩ = false ∧ w.frozen? ⟨g, i * 5 + 4, none⟩ = false := by
  have hr := fldRow_at l i hi
  have hc : ∀ j, w.cell? ⟨g, j, none⟩ = (fldRow l)[j]? := fun j => by rw [Bxs.cell h j]; simp
  rw [← hc, ← hc, ← hc, ← hc, ← hc] at hr
  exact ⟨hr, Bxs.fr h _, Bxs.fr h _, Bxs.fr h _, Bxs.fr h _, Bxs.fr h _⟩
theorem BlkF.at {w : World} {g : Nat} {l : List Fld} (h : BlkF w g l) : FldAt w (some ⟨g, 0, none⟩) l := fun i hi => ⟨g, 0, rfl, Bxs.lt h, by rw [Nat.zero_add]; exact (h.cells i hi).1⟩
theorem BlkF.set1 {w : World} {g : Nat} {l : List Value} (h : Bxs w g 112 l.toArray) (j : Nat) (v : Value) : Bxs (w.setCell ⟨g, j, none⟩ v) g 112 (l.set j v).toArray := by
  have h1 := h.set j v
  rwa [List.setIfInBounds_toArray] at h1
theorem BlkF.set5 {w : World} {g : Nat} {l : List Fld} (h : BlkF w g l) (i : Nat) (f : Fld) : BlkF (set5 w g (i * 5) f) g (l.set i f) := by
  unfold BlkF
  rw [← fldRow_set]
  exact BlkF.set1 (BlkF.set1 (BlkF.set1 (BlkF.set1 (BlkF.set1 h _ _) _ _) _ _) _ _) _ _
theorem fldRow_set3 : ∀ (fs : List Fld) (i : Nat) (h : i < fs.length) (s v : ByteArray) (g : Bool), ((((fldRow fs).set (i * 5 + 2) (.string s)).set (i * 5 + 3) (.string v)).set (i * 5 + 4) (.bool g)) = fldRow (fs.set i ⟨fs[i].n, fs[i].c, s, v, g⟩)
  | f :: fs, 0, _, s, v, g => by simp [fldRow, fldCells]
  | f :: fs, i + 1, h, s, v, g => by
    have ih := fldRow_set3 fs i (by simpa using h) s v g
    have e1 : (i + 1) * 5 + 2 = i * 5 + 2 + 5 := by omega
    have e2 : (i + 1) * 5 + 3 = i * 5 + 3 + 5 := by omega
    have e3 : (i + 1) * 5 + 4 = i * 5 + 4 + 5 := by omega
    have e4 : fldRow (f :: fs) = .string f.n :: .string f.c :: .string f.s :: .string f.v :: .bool f.g :: fldRow fs := rfl
    rw [e1, e2, e3, e4]
    simp only [List.set_cons_succ, List.getElem_cons_succ]
    rw [ih]; rfl
theorem BlkF.set3 {w : World} {g : Nat} {l : List Fld} (h : BlkF w g l) (i : Nat) (hi : i < l.length) (s v : ByteArray) (b : Bool) : BlkF (((w.setCell ⟨g, i * 5 + 2, none⟩ (.string s)).setCell ⟨g, i * 5 + 3, none⟩ (.string v)).setCell ⟨g, i * 5 + 4, none⟩ (.bool b)) g (l.set i ⟨l[i].n, l[i].c, s, v, b⟩) := by
  unfold BlkF
  rw [← fldRow_set3 l i hi]
  exact BlkF.set1 (BlkF.set1 (BlkF.set1 h _ _) _ _) _ _
theorem made_fld (n : Nat) : madeCells #[.string ByteArray.empty, .string ByteArray.empty, .string ByteArray.empty, .string ByteArray.empty, .bool false] (n * 5) = (fldRow (List.replicate n fldE5)).toArray := by
  unfold madeCells
  apply Array.ext
  · simp [fldRow_len]
  · intro i h0 h2
    have h1 : i < n * 5 := by simpa using h0
    have hr := fldRow_at (List.replicate n fldE5) (i / 5) (by rw [List.length_replicate]; omega)
    simp only [List.getElem_replicate] at hr
    have hm : i % 5 < 5 := Nat.mod_lt _ (by omega)
    have hd : i = i / 5 * 5 + i % 5 := by omega
    have hl : i < (fldRow (List.replicate n fldE5)).length := by simpa using h2
    have hg : ∀ v, (fldRow (List.replicate n fldE5))[i]? = some v → (fldRow (List.replicate n fldE5)).toArray[i] = v := fun v hv => by
      rw [List.getElem?_eq_getElem hl] at hv
      have := Option.some.inj hv
      simpa using this
    simp only [Array.getElem_map, Array.getElem_range]
    match hq : i % 5, hm with
    | 0, _ => rw [hq] at hd; rw [hg _ (by rw [hd]; exact hr.1)]; simp [fldE5]
    | 1, _ => rw [hq] at hd; rw [hg _ (by rw [hd]; exact hr.2.1)]; simp [fldE5]
    | 2, _ => rw [hq] at hd; rw [hg _ (by rw [hd]; exact hr.2.2.1)]; simp [fldE5]
    | 3, _ => rw [hq] at hd; rw [hg _ (by rw [hd]; exact hr.2.2.2.1)]; simp [fldE5]
    | 4, _ => rw [hq] at hd; rw [hg _ (by rw [hd]; exact hr.2.2.2.2)]; simp [fldE5]
theorem run_make_fld (n : Nat) (hn : n ≤ 1048576) (w : World) :
    (Instr.makeSlice 65 (.int .i64 (n : Int)) (.int .i64 (n : Int))).run Tryz.prog w = .ok (.slice (some ⟨w.heap.size, 0, none⟩) n n) (w.alloc (.cells (fldRow (List.replicate n fldE5)).toArray 112)) := by
  obtain ⟨i0, hi, hz0, hz1, hz2⟩ := info_parts infoFld
  have := run_make (P := Tryz.prog) w 65 112 i0 _ Tryz.underlying65 hi hz0 .i64 .i64 (n : Int) (n : Int) (by omega) (by omega) (by rw [hz2]; omega) (by omega)
  rw [this, hz1]
  simp only [Int.toNat_natCast]
  rw [← made_fld]; rfl
theorem alloc_fld (w : World) (l : List Fld) : BlkF (w.alloc (.cells (fldRow l).toArray 112)) w.heap.size l := (MapKept.heap_alloc w _).1
end Go.Proofs.YtamdgdkpcoeknaaGreatDoor
/-
  Blocks of rows: their cells, a row stored, a new one of rows that say nothing; rows with blocks of fields of their own.
-/
namespace Go.Proofs.YtamdgdkpcoeknaaGreatDoor
open Go.RowKit Go.Lib
set_option linter.unusedVariables false
set_option maxRecDepth 20000

/-- A row as its three cells. -/
structure Rc where
  k : ByteArray
  a : Int
  v : Value
def rcCells (x : Rc) : List Value := [.string x.k, .int .i64 x.a, x.v]
def rcRow (l : List Rc) : List Value := l.flatMap rcCells
def rcE : Rc := ⟨⟨#[]⟩, 0, .slice none 0 0⟩
theorem rcRow_len (l : List Rc) : (rcRow l).length = l.length * 3 := by
  induction l with
  | nil => rfl
  | cons f l ih => unfold rcRow at *; rw [List.flatMap_cons, List.length_append, ih]; simp [rcCells]; omega
theorem rcRow_append (l m : List Rc) : rcRow (l ++ m) = rcRow l ++ rcRow m := by simp [rcRow]
theorem rcRow_at (l : List Rc) : ∀ (i : Nat) (h : i < l.length), (rcRow l)[i * 3]? = some (.string l[i].k) ∧ (rcRow l)[i * 3 + 1]? = some (.int .i64 l[i].a) ∧ (rcRow l)[i * 3 + 2]? = some l[i].v := by
  induction l with
  | nil => intro i h; simp at h
  | cons f l ih =>
    intro i h
    match i with
    | 0 => exact ⟨rfl, rfl, rfl⟩
    | i + 1 =>
      have := ih i (by simpa using h)
      rw [show (i + 1) * 3 = i * 3 + 3 by omega]
      exact this
theorem rcRow_set : ∀ (l : List Rc) (i : Nat) (x : Rc), (((rcRow l).set (i * 3) (.string x.k)).set (i * 3 + 1) (.int .i64 x.a)).set (i * 3 + 2) x.v = rcRow (l.set i x)
  | [], i, x => by simp [rcRow]
  | f :: l, 0, x => rfl
  | f :: l, i + 1, x => by
    have ih := rcRow_set l i x
    have e : rcRow (f :: l) = .string f.k :: .int .i64 f.a :: f.v :: rcRow l := rfl
    have e2 : rcRow ((f :: l).set (i + 1) x) = .string f.k :: .int .i64 f.a :: f.v :: rcRow (l.set i x) := rfl
    rw [e, e2, ← ih, show (i + 1) * 3 = i * 3 + 3 by omega]
    rfl
def BlkR (w : World) (g : Nat) (l : List Rc) : Prop := Bxs w g 67 (rcRow l).toArray
theorem BlkR.cells {w : World} {g : Nat} {l : List Rc} (h : BlkR w g l) (i : Nat) (hi : i < l.length) : (w.cell? ⟨g, i * 3, none⟩ = some (.string l[i].k) ∧ w.cell? ⟨g, i * 3 + 1, none⟩ = some (.int .i64 l[i].a) ∧ w.cell? ⟨g, i * 3 + 2, none⟩ = some l[i].v) ∧ w.frozen? ⟨g, i * 3, none⟩ = false ∧ w.frozen? ⟨g, i * 3 + 1, none⟩ = false ∧ w.frozen? ⟨g, i * 3 + 2, none⟩ = false := by
  have hr := rcRow_at l i hi
  have hc : ∀ j, w.cell? ⟨g, j, none⟩ = (rcRow l)[j]? := fun j => by rw [Bxs.cell h j]; simp
  rw [← hc, ← hc, ← hc] at hr
  exact ⟨hr, Bxs.fr h _, Bxs.fr h _, Bxs.fr h _⟩
def set3 (w : World) (g o : Nat) (x : Rc) : World := ((w.setCell ⟨g, o, none⟩ (.string x.k)).setCell ⟨g, o + 1, none⟩ (.int .i64 x.a)).setCell ⟨g, o + 2, none⟩ x.v
theorem bxs_set1 {w : World} {g : Nat} {T : TypeId} {l : List Value} (h : Bxs w g T l.toArray) (j : Nat) (v : Value) : Bxs (w.setCell ⟨g, j, none⟩ v) g T (l.set j v).toArray := by
  have h1 := h.set j v
  rwa [List.setIfInBounds_toArray] at h1
theorem BlkR.set3 {w : World} {g : Nat} {l : List Rc} (h : BlkR w g l) (i : Nat) (x : Rc) : BlkR (set3 w g (i * 3) x) g (l.set i x) := by
  unfold BlkR
  rw [← rcRow_set]
  exact bxs_set1 (bxs_set1 (bxs_set1 h _ _) _ _) _ _
theorem set3_other {w : World} {g b o : Nat} {T : TypeId} {cs : Array Value} (h : Bxs w g T cs) (hne : b ≠ g) (x : Rc) : Bxs (set3 w b o x) g T cs := ((h.other b _ hne _).other b _ hne _).other b _ hne _
theorem set3_below {B : Nat} {a w : World} (h : Below B a w) {g : Nat} (hg : B ≤ g) (o : Nat) (x : Rc) : Below B a (set3 w g o x) := ((h.setCell hg _).setCell hg _).setCell hg _
theorem infoRow : (Tryz.prog.info? 67).map (fun i => (i.zero, i.size, i.bytes)) = some (some (.agg #[.string ByteArray.empty, .int .i64 0, .slice none 0 0]), 3, 48) := by kernel_rfl
theorem made_rc (n : Nat) : madeCells #[.string ByteArray.empty, .int .i64 0, .slice none 0 0] (n * 3) = (rcRow (List.replicate n rcE)).toArray := by
  unfold madeCells
  apply Array.ext
  · simp [rcRow_len]
  · intro i h0 h2
    have h1 : i < n * 3 := by simpa using h0
    have hr := rcRow_at (List.replicate n rcE) (i / 3) (by rw [List.length_replicate]; omega)
    simp only [List.getElem_replicate] at hr
    have hm : i % 3 < 3 := Nat.mod_lt _ (by omega)
    have hd : i = i / 3 * 3 + i % 3 := by omega
    have hl : i < (rcRow (List.replicate n rcE)).length := by simpa using h2
    have hg : ∀ v, (rcRow (List.replicate n rcE))[i]? = some v → (rcRow (List.replicate n rcE)).toArray[i] = v := fun v hv => by
      rw [List.getElem?_eq_getElem hl] at hv
      have := Option.some.inj hv
      simpa using this
    simp only [Array.getElem_map, Array.getElem_range]
    match hq : i % 3, hm with
    | 0, _ => rw [hq] at hd; rw [hg _ (by rw [hd]; exact hr.1)]; simp [rcE]; rfl
    | 1, _ => rw [hq] at hd; rw [hg _ (by rw [hd]; exact hr.2.1)]; simp [rcE]
    | 2, _ => rw [hq] at hd; rw [hg _ (by rw [hd]; exact hr.2.2)]; simp [rcE]
theorem run_make_rc (n : Nat) (hn : n ≤ 1048576) (w : World) :
    (Instr.makeSlice 34 (.int .i64 (n : Int)) (.int .i64 (n : Int))).run Tryz.prog w = .ok (.slice (some ⟨w.heap.size, 0, none⟩) n n) (w.alloc (.cells (rcRow (List.replicate n rcE)).toArray 67)) := by
  obtain ⟨i0, hi, hz0, hz1, hz2⟩ := info_parts infoRow
  have := run_make (P := Tryz.prog) w 34 67 i0 _ Tryz.underlying34 hi hz0 .i64 .i64 (n : Int) (n : Int) (by omega) (by omega) (by rw [hz2]; omega) (by omega)
  rw [this, hz1]
  simp only [Int.toNat_natCast]
  rw [← made_rc]; rfl
theorem alloc_rc (w : World) (l : List Rc) : BlkR (w.alloc (.cells (rcRow l).toArray 67)) w.heap.size l := (MapKept.heap_alloc w _).1
/-! ### Rows with blocks of fields of their own -/
def rcOf (x : Rw × Nat) : Rc := ⟨x.1.k, x.1.a, .slice (some ⟨x.2, 0, none⟩) x.1.fs.length x.1.fs.length⟩
/-- The block g holds rows, the fields of each lie in a block of their own behind it. -/
structure RwsB (w : World) (g : Nat) (xs : List (Rw × Nat)) : Prop where
  blk : BlkR w g (xs.map rcOf)
  fld : ∀ x ∈ xs, BlkF w x.2 x.1.fs
  up : ∀ x ∈ xs, g < x.2
  apart : xs.Pairwise (fun x y => x.2 < y.2)
theorem RwsB.below {w w' : World} {g : Nat} {xs : List (Rw × Nat)} (h : RwsB w g xs) (hb : Below w.heap.size w w') : RwsB w' g xs := ⟨Bxs.below h.blk hb, fun x hx => (h.fld x hx).below hb, h.up, h.apart⟩
theorem RwsB.lt {w : World} {g : Nat} {xs : List (Rw × Nat)} (h : RwsB w g xs) : g < w.heap.size := Bxs.lt h.blk
theorem RwsB.at {w : World} {g : Nat} {xs : List (Rw × Nat)} (h : RwsB w g xs) : RwAt w (some ⟨g, 0, none⟩) (xs.map (·.1)) := by
  intro i hi
  have hi2 : i < xs.length := by simpa using hi
  obtain ⟨⟨c0, c1, c2⟩, -⟩ := h.blk.cells i (by simpa using hi2)
  rw [List.getElem_map] at c0 c1 c2
  have e : (xs.map (·.1))[i] = xs[i].1 := by simp
  refine ⟨g, 0, some ⟨xs[i].2, 0, none⟩, xs[i].1.fs.length, rfl, h.lt, ?_, ?_, ?_, ?_, ?_⟩
  · rw [Nat.zero_add, e]; exact c0
  · rw [Nat.zero_add, e]; exact c1
  · rw [Nat.zero_add, e]; exact c2
  · rw [e]; exact Nat.le_refl _
  · rw [e]; exact (h.fld _ (List.getElem_mem hi2)).at
end Go.Proofs.YtamdgdkpcoeknaaGreatDoor
/-
  One operation of a drawing region taken by hand: wanted or not, a call that stands alone.
-/
namespace Go.Proofs.YtamdgdkpcoeknaaGreatDoor
open Go.RowKit Go.Lib
set_option linter.unusedVariables false

theorem take_at {P : Program} {md : Region.Mode} {ops : Array Oper} {Q : Exit → Act → World → Prop} {S : World → Prop} (i : Nat) {oi : Oper} {v : Value} {fuel : Nat} {listed : Array Bool} {a : Act} {w : World} (hi : ops.toList[i]? = some oi)
    (hs : Region.noSelect ops = true) (hf : Region.free md ops listed i = true) (hr : (Region.ready md ops listed).contains i = true)
    (hQ : ∀ c a w, Q (.panic c) (a.put oi.dst v) w → Q (.panic c) a w) (hS : S w) (hy : YieldsIf P ops S oi v a)
    (h : wpAnyH P md ops Q S fuel (listed.setIfInBounds i true) (a.put oi.dst v) w) : wpAnyH P md ops Q S (fuel + 1) listed a w :=
  wpAnyH_take (by rw [← hi]; simp) hs hf hr hQ hy hS h
theorem ready_at {P : Program} {md : Region.Mode} {ops : Array Oper} {Q : Exit → Act → World → Prop} {S : World → Prop} (i : Nat) {o : Oper} {fuel : Nat} {listed : Array Bool} {a : Act} {w : World} (hi : ops.toList[i]? = some o) (hr : Region.ready md ops listed = [i])
    (h : ∀ K' : Act → World → Prop, Shut (∀ a w, S w → (S w → wpAnyH P md ops Q S fuel (listed.setIfInBounds i true) a w) → K' a w) → if Region.wanted o (yielded ops a.tmps) = true then Oper.wp P o a w K' Q else K' (a.put o.dst undef) w) : wpAnyH P md ops Q S (fuel + 1) listed a w :=
  wpAnyH_ready hr (by simp) (AllReadyH.cons (by rw [← hi]; simp) h AllReadyH.nil)
end Go.Proofs.YtamdgdkpcoeknaaGreatDoor
