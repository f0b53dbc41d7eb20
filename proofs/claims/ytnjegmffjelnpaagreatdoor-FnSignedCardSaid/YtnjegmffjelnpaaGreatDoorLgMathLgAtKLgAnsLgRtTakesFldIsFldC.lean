/-
  Parts of one proof, laid as one text: LgMath, LgAtK, LgAns, LgRt, Takes, FldIs, FldC; what each says stands at its head.
-/
import Derived.Test.YtnjegmffjelnpaaGreatDoorRows
import Derived.Test.YtnjegmffjelnpaaGreatDoorBytesDigMathTurnIWholeR
import Derived.Test.YtnjegmffjelnpaaGreatDoorSlABxKSlBOwnSSgnBOwnBPadI
import Derived.Test.YtnjegmffjelnpaaGreatDoorTimeBPutTextFldMathFldRiseScanMath
import Derived.Test.YtnjegmffjelnpaaGreatDoorGetValGetTxtNumMathFldRdNumFromTmbMath
import Derived.Handy
import Derived.Test.YtnjegmffjelnpaaGreatDoorTreeMath
import Derived.Test.YtnjegmffjelnpaaGreatDoorMacMathPutMathJoinedDigITurn2
import Derived.Test.YtnjegmffjelnpaaGreatDoorPutNumAppSSrc
import Derived.Deep.RegionHeld3
import Derived.WalkSpells
import Derived.OwnWalk
import Derived.Test.YtnjegmffjelnpaaGreatDoorAll2LeafNode
import Derived.Test.YtnjegmffjelnpaaGreatDoorNameRight
import Derived.Deep.RegionWith
/-
  A log in plain mathematics: its rows and leaves as cells, when it is right (as the specification goes: each tomb is the first of its field), and that the program's way (marks of what was noted, held against what is gone) comes to the same.
-/
namespace Go.Proofs.YtnjegmffjelnpaaGreatDoor
open Go.RowKit Go.Lib
set_option linter.unusedVariables false

/-- A row. -/
structure Rw where
  k : ByteArray
  a : Int
  fs : List Fld
/-- The cells that a slice of rows leads to hold these (of none nothing is asked). -/
def RwAt (w : World) (p : Option Addr) (rs : List Rw) : Prop :=
  ∀ i (h : i < rs.length), ∃ b off q c, p = some ⟨b, off, none⟩ ∧ b < w.heap.size ∧ w.cell? ⟨b, off + i * 3, none⟩ = some (.string rs[i].k) ∧ w.cell? ⟨b, off + i * 3 + 1, none⟩ = some (.int .i64 rs[i].a) ∧ w.cell? ⟨b, off + i * 3 + 2, none⟩ = some (.slice q rs[i].fs.length c) ∧ rs[i].fs.length ≤ c ∧ FldAt w q rs[i].fs
theorem RwAt.below {w w' : World} {p : Option Addr} {rs : List Rw} (h : RwAt w p rs) (hb : Below w.heap.size w w') : RwAt w' p rs := by
  intro i hi
  obtain ⟨b, off, q, c, rfl, h1, h2, h3, h4, h5, h6⟩ := h i hi
  exact ⟨b, off, q, c, rfl, Nat.lt_of_lt_of_le h1 hb.size, (hb.cell (p := ⟨b, off + i * 3, none⟩) h1).trans h2, (hb.cell (p := ⟨b, off + i * 3 + 1, none⟩) h1).trans h3, (hb.cell (p := ⟨b, off + i * 3 + 2, none⟩) h1).trans h4, h5, h6.below hb⟩
theorem RwAt.nil (w : World) (p : Option Addr) : RwAt w p [] := fun i h => by simp at h
theorem RwAt.some_of {w : World} {p : Option Addr} {rs : List Rw} (h : RwAt w p rs) (h0 : 0 < rs.length) : ∃ b off, p = some ⟨b, off, none⟩ ∧ b < w.heap.size := by
  obtain ⟨b, off, q, c, rfl, hb, -⟩ := h 0 h0
  exact ⟨b, off, rfl, hb⟩
theorem RwAt.at {w : World} {b off : Nat} {rs : List Rw} (h : RwAt w (some ⟨b, off, none⟩) rs) (i : Nat) (hi : i < rs.length) : ∃ q c, w.cell? ⟨b, off + i * 3, none⟩ = some (.string rs[i].k) ∧ w.cell? ⟨b, off + i * 3 + 1, none⟩ = some (.int .i64 rs[i].a) ∧ w.cell? ⟨b, off + i * 3 + 2, none⟩ = some (.slice q rs[i].fs.length c) ∧ rs[i].fs.length ≤ c ∧ FldAt w q rs[i].fs := by
  obtain ⟨b', off', q, c, h0, h1, h2⟩ := h i hi
  cases h0; exact ⟨q, c, h2⟩
/-- The texts of rows are no greater than the reach. -/
def RwsLe (rs : List Rw) : Prop := ∀ r ∈ rs, r.fs.length ≤ 1048576 ∧ r.k.size ≤ maxLen ∧ FldsLe r.fs
def TxtsLe (ss : List ByteArray) : Prop := ∀ s ∈ ss, s.size ≤ maxLen

/-! ### Right logs, as the specification goes -/
def fldZ : Fld := ⟨ByteArray.empty, ByteArray.empty, ByteArray.empty, ByteArray.empty, false⟩
def rwZ : Rw := ⟨ByteArray.empty, 0, []⟩
def rlB (r : Rw) : ByteArray := one101 ++ digB (lfT r.k r.a r.fs)
def rB (r : Rw) : Bool := rwB r.k r.a r.fs
/-- The leaf is the note of this field. -/
def tmHit (r f : Int) (t : ByteArray) : Bool := decide (trC t = 0) && (decide ((trO t).r = r) && decide ((trO t).f = f))
def tbFrom (r f : Int) : Nat → List ByteArray → Int
  | _, [] => -1
  | i, t :: ts => if tmHit r f t = true then (i : Int) else tbFrom r f (i + 1) ts
def tbAt (lv : List ByteArray) (r f : Int) : Int := tbFrom r f 0 lv
def fldOf (rs : List Rw) (r f : Int) : Fld := (rs.getD r.toNat rwZ).fs.getD f.toNat fldZ
def goneAt (rs : List Rw) (r f : Int) : Bool := decide (0 ≤ r ∧ r ≤ (rs.length : Int) - 1) && (decide (0 ≤ f ∧ f ≤ ((rs.getD r.toNat rwZ).fs.length : Int) - 1) && (fldOf rs r f).g)
def tbOk (rs : List Rw) (now : Int) (all : List ByteArray) (i n : Nat) (t : ByteArray) : Bool :=
  decide (trC t = 0) && (decide ((trO t).r < (n : Int)) && (goneAt rs (trO t).r (trO t).f && (decide ((trO t).a ≤ now) && decide (tbAt all (trO t).r (trO t).f = (i : Int)))))
def isNx (rs : List Rw) (n : Nat) (t : ByteArray) : Bool := decide (n < rs.length) && decide (t = rlB (rs.getD n rwZ))
def lvGo (rs : List Rw) (now : Int) (all : List ByteArray) : Nat → Nat → List ByteArray → Bool
  | _, n, [] => decide (n = rs.length)
  | i, n, t :: ts => if isNx rs n t = true then lvGo rs now all (i + 1) (n + 1) ts else if tbOk rs now all i n t = true then lvGo rs now all (i + 1) n ts else false
def rsB (rs : List Rw) (now : Int) : Bool := rs.all fun r => rB r && decide (r.a ≤ now)
def alB7 (lv : List ByteArray) (i : Nat) (fs : List Fld) : Bool := (List.range fs.length).all fun k => !(fs.getD k fldZ).g || decide (0 ≤ tbAt lv (i : Int) (k : Int))
def allB (rs : List Rw) (lv : List ByteArray) : Bool := (List.range rs.length).all fun i => alB7 lv i (rs.getD i rwZ).fs
def lgB (rs : List Rw) (lv : List ByteArray) (now : Int) : Bool :=
  decide (rs.length ≤ 6) && (decide (lv.length ≤ 64) && (timeB now && (rsB rs now && (lvGo rs now lv 0 0 lv && allB rs lv))))

/-! ### The program's way -/
def hitIn (pre : List ByteArray) (r f : Int) : Bool := pre.any (tmHit r f)
def mrkOf (pre : List ByteArray) : List Bool := (List.range 18).map fun j => hitIn pre ((j / 3 : Nat) : Int) ((j % 3 : Nat) : Int)
def goneM (rs : List Rw) : List Bool := (List.range 18).map fun j => (fldOf rs ((j / 3 : Nat) : Int) ((j % 3 : Nat) : Int)).g
def okT (now : Int) (pre : List ByteArray) (n : Nat) (t : ByteArray) : Bool :=
  decide (trC t = 0) && (decide ((trO t).r < (n : Int)) && (decide ((trO t).a ≤ now) && !hitIn pre (trO t).r (trO t).f))
def cGo (rs : List Rw) (now : Int) : List ByteArray → Nat → List ByteArray → Option Nat
  | _, n, [] => some n
  | pre, n, t :: ts => if isNx rs n t = true then cGo rs now (pre ++ [t]) (n + 1) ts else if okT now pre n t = true then cGo rs now (pre ++ [t]) n ts else none
def imB (rs : List Rw) (lv : List ByteArray) (now : Int) : Bool :=
  timeB now && ((decide (rs.length ≤ 6) && rsB rs now) && (match cGo rs now [] 0 lv with | some n => decide (n = rs.length) && decide (mrkOf lv = goneM rs) | none => false))

/-! ### Both come to the same -/
theorem lg_one (D : ByteArray) (h : D.size = 32) : isRl (one101 ++ D) = true := by
  unfold isRl
  rw [Bool.and_eq_true, decide_eq_true_iff, decide_eq_true_iff]
  constructor
  · rw [ByteArray.size_append, h]; rfl
  · simp [one101, ByteArray.data_append]
theorem rl_isRl (r : Rw) : isRl (rlB r) = true := lg_one _ (digB_size _)
theorem rl_lf {r : Rw} (h : rB r = true) : lfB r.k r.a r.fs = rlB r := by unfold rB at h; unfold lfB rlB; rw [if_pos h]
theorem tr_not_rl {t : ByteArray} (h : trC t = 0) : isRl t = false := by
  obtain ⟨-, hB, hR, -⟩ := tr_sound h
  have := lk_raw hB
  rw [hR] at this
  unfold lkB at this
  cases e : isRl t with
  | false => rfl
  | true => rw [e, if_pos rfl] at this; cases this
theorem lk_iff2 (t : ByteArray) : lkB t = 2 ↔ trC t = 0 := by
  constructor
  · intro h
    unfold lkB at h
    split at h
    · cases h
    · split at h
      · assumption
      · cases h
  · intro h
    unfold lkB
    rw [tr_not_rl h, if_neg Bool.false_ne_true, if_pos h]
theorem lk_iff1 (t : ByteArray) : lkB t = 1 ↔ isRl t = true := by
  constructor
  · intro h
    unfold lkB at h
    split at h
    · assumption
    · split at h <;> cases h
  · intro h; unfold lkB; rw [if_pos h]
theorem rl_tr (r : Rw) : ¬ trC (rlB r) = 0 := fun h => by have := rl_isRl r; rw [tr_not_rl h] at this; cases this
theorem tmHit_iff (r f : Int) (t : ByteArray) : tmHit r f t = true ↔ trC t = 0 ∧ (trO t).r = r ∧ (trO t).f = f := by unfold tmHit; simp
theorem hit_iff (pre : List ByteArray) (r f : Int) : hitIn pre r f = true ↔ ∃ t ∈ pre, tmHit r f t = true := by unfold hitIn; simp
theorem hit_snoc (pre : List ByteArray) (t : ByteArray) (r f : Int) : hitIn (pre ++ [t]) r f = (hitIn pre r f || tmHit r f t) := by unfold hitIn; simp
theorem tb_nonneg (r f : Int) : ∀ (i : Nat) (lv : List ByteArray), 0 ≤ tbFrom r f i lv ↔ hitIn lv r f = true
  | i, [] => by simp [tbFrom, hitIn]
  | i, t :: ts => by
    rw [tbFrom]
    split
    · rename_i h; simp [hitIn, h]
    · rename_i h
      rw [tb_nonneg r f (i + 1) ts]
      simp [hitIn, h]
theorem tb_ge (r f : Int) : ∀ (i : Nat) (lv : List ByteArray), tbFrom r f i lv = -1 ∨ (i : Int) ≤ tbFrom r f i lv
  | i, [] => .inl rfl
  | i, t :: ts => by
    rw [tbFrom]
    split
    · exact .inr (Int.le_refl _)
    · rcases tb_ge r f (i + 1) ts with h | h
      · exact .inl h
      · exact .inr (by omega)
theorem tb_here (r f : Int) (t : ByteArray) (ts : List ByteArray) (ht : tmHit r f t = true) : ∀ (i : Nat) (pre : List ByteArray), tbFrom r f i (pre ++ t :: ts) = ((i + pre.length : Nat) : Int) ↔ hitIn pre r f = false
  | i, [] => by simp [tbFrom, ht, hitIn]
  | i, p :: pre => by
    rw [List.cons_append, tbFrom]
    split
    · rename_i h
      simp only [hitIn, List.any_cons, h, Bool.true_or, List.length_cons]
      constructor
      · intro e; omega
      · intro e; cases e
    · rename_i h
      have := tb_here r f t ts ht (i + 1) pre
      rw [show i + 1 + pre.length = i + (pre.length + 1) by omega] at this
      rw [List.length_cons, this]
      simp [hitIn, h]
theorem tbAt_here {pre ts : List ByteArray} {t : ByteArray} {r f : Int} (ht : tmHit r f t = true) : tbAt (pre ++ t :: ts) r f = (pre.length : Int) ↔ hitIn pre r f = false := by
  have := tb_here r f t ts ht 0 pre
  rwa [Nat.zero_add] at this
theorem hit_self {t : ByteArray} (h : trC t = 0) : tmHit (trO t).r (trO t).f t = true := (tmHit_iff _ _ _).2 ⟨h, rfl, rfl⟩
theorem nx_iff (rs : List Rw) (n : Nat) (t : ByteArray) : isNx rs n t = true ↔ n < rs.length ∧ t = rlB (rs.getD n rwZ) := by unfold isNx; simp
theorem nx_tr {rs : List Rw} {n : Nat} {t : ByteArray} (h : isNx rs n t = true) : ¬ trC t = 0 := by
  rw [((nx_iff _ _ _).1 h).2]; exact rl_tr _
theorem tbOk_iff (rs : List Rw) (now : Int) (pre ts : List ByteArray) (n : Nat) (t : ByteArray) : tbOk rs now (pre ++ t :: ts) pre.length n t = true ↔ okT now pre n t = true ∧ (trC t = 0 → goneAt rs (trO t).r (trO t).f = true) := by
  unfold tbOk okT
  simp only [Bool.and_eq_true, decide_eq_true_iff, Bool.not_eq_true']
  constructor
  · rintro ⟨h1, h2, h3, h4, h5⟩
    exact ⟨⟨h1, h2, h4, (tbAt_here (hit_self h1)).1 h5⟩, fun _ => h3⟩
  · rintro ⟨⟨h1, h2, h3, h4⟩, h5⟩
    exact ⟨h1, h2, h5 h1, h3, (tbAt_here (hit_self h1)).2 h4⟩
theorem go_iff (rs : List Rw) (now : Int) (all : List ByteArray) : ∀ (suf pre : List ByteArray) (n : Nat), all = pre ++ suf → (lvGo rs now all pre.length n suf = true ↔ cGo rs now pre n suf = some rs.length ∧ ∀ t ∈ suf, trC t = 0 → goneAt rs (trO t).r (trO t).f = true)
  | [], pre, n, _ => by simp [lvGo, cGo]
  | t :: ts, pre, n, e => by
    rw [lvGo, cGo]
    have ih := go_iff rs now all ts (pre ++ [t])
    simp only [List.length_append, List.length_cons, List.length_nil, Nat.zero_add] at ih
    by_cases h : isNx rs n t = true
    · rw [if_pos h, if_pos h, ih (n + 1) (by rw [e]; simp)]
      constructor
      · rintro ⟨h1, h2⟩
        refine ⟨h1, fun x hx hc => ?_⟩
        rcases List.mem_cons.1 hx with rfl | hx
        · exact absurd hc (nx_tr h)
        · exact h2 x hx hc
      · rintro ⟨h1, h2⟩
        exact ⟨h1, fun x hx hc => h2 x (List.mem_cons_of_mem _ hx) hc⟩
    · rw [if_neg h, if_neg h, e, ]
      have hk := tbOk_iff rs now pre ts n t
      by_cases h2 : okT now pre n t = true
      · rw [if_pos h2]
        by_cases h3 : trC t = 0 → goneAt rs (trO t).r (trO t).f = true
        · rw [if_pos (hk.2 ⟨h2, h3⟩), ← e, ih n (by rw [e]; simp)]
          constructor
          · rintro ⟨g1, g2⟩
            refine ⟨g1, fun x hx hc => ?_⟩
            rcases List.mem_cons.1 hx with rfl | hx
            · exact h3 hc
            · exact g2 x hx hc
          · rintro ⟨g1, g2⟩
            exact ⟨g1, fun x hx hc => g2 x (List.mem_cons_of_mem _ hx) hc⟩
        · rw [if_neg (fun q => h3 (hk.1 q).2)]
          constructor
          · intro q; cases q
          · rintro ⟨-, g⟩
            exact absurd (g t (by simp)) h3
      · rw [if_neg h2, if_neg (fun q => h2 (hk.1 q).1)]
        simp
theorem cGo_parts (rs : List Rw) (now : Int) : ∀ (suf pre : List ByteArray) (n n' : Nat), cGo rs now pre n suf = some n' → n ≤ n' ∧ (n ≤ rs.length → n' ≤ rs.length) ∧ ∀ t ∈ suf, trC t = 0 → (trO t).r < (n' : Int)
  | [], pre, n, n', h => by
    simp only [cGo, Option.some.injEq] at h
    subst h
    exact ⟨Nat.le_refl _, id, fun t h => by cases h⟩
  | t :: ts, pre, n, n', h => by
    rw [cGo] at h
    split at h
    · rename_i hn
      obtain ⟨h1, h2, h3⟩ := cGo_parts rs now ts _ _ _ h
      have hl := ((nx_iff _ _ _).1 hn).1
      refine ⟨by omega, fun _ => h2 (by omega), fun x hx hc => ?_⟩
      rcases List.mem_cons.1 hx with rfl | hx
      · exact absurd hc (nx_tr hn)
      · exact h3 x hx hc
    · split at h
      · rename_i hn ho
        obtain ⟨h1, h2, h3⟩ := cGo_parts rs now ts _ _ _ h
        refine ⟨h1, h2, fun x hx hc => ?_⟩
        rcases List.mem_cons.1 hx with rfl | hx
        · unfold okT at ho
          simp only [Bool.and_eq_true, decide_eq_true_iff] at ho
          have := ho.2.1
          omega
        · exact h3 x hx hc
      · cases h
theorem mrk_len (pre : List ByteArray) : (mrkOf pre).length = 18 := by simp [mrkOf]
theorem goneM_len (rs : List Rw) : (goneM rs).length = 18 := by simp [goneM]
theorem mrk_get (pre : List ByteArray) (j : Nat) (h : j < (mrkOf pre).length) : (mrkOf pre)[j] = hitIn pre ((j / 3 : Nat) : Int) ((j % 3 : Nat) : Int) := by simp [mrkOf]
theorem gone_get (rs : List Rw) (j : Nat) (h : j < (goneM rs).length) : (goneM rs)[j] = (fldOf rs ((j / 3 : Nat) : Int) ((j % 3 : Nat) : Int)).g := by simp [goneM]
theorem tr_range {t : ByteArray} (h : trC t = 0) : (0 ≤ (trO t).r ∧ (trO t).r ≤ 63) ∧ (0 ≤ (trO t).f ∧ (trO t).f ≤ 2) := by
  obtain ⟨-, hB, -, ho⟩ := tr_sound h
  have := (tmB_iff _).1 hB
  rw [ho]; exact ⟨this.1, this.2.1⟩
theorem mrk_no {pre : List ByteArray} {t : ByteArray} (h : ¬ trC t = 0) : mrkOf (pre ++ [t]) = mrkOf pre := by
  unfold mrkOf
  apply List.map_congr_left
  intro j _
  rw [hit_snoc]
  have : tmHit ((j / 3 : Nat) : Int) ((j % 3 : Nat) : Int) t = false := by unfold tmHit; rw [decide_eq_false h]; rfl
  rw [this, Bool.or_false]
def mkAt (t : ByteArray) : Nat := (trO t).r.toNat * 3 + (trO t).f.toNat
theorem mrk_yes {pre : List ByteArray} {t : ByteArray} (h : trC t = 0) : mrkOf (pre ++ [t]) = (mrkOf pre).set (mkAt t) true := by
  obtain ⟨⟨r0, r1⟩, f0, f1⟩ := tr_range h
  apply List.ext_getElem
  · simp [mrk_len]
  · intro j h1 h2
    rw [mrk_get, List.getElem_set, hit_snoc]
    have hj : j < 18 := by rw [mrk_len] at h1; exact h1
    by_cases e : mkAt t = j
    · rw [if_pos e]
      have : tmHit ((j / 3 : Nat) : Int) ((j % 3 : Nat) : Int) t = true := by
        rw [tmHit_iff]
        unfold mkAt at e
        exact ⟨h, by omega, by omega⟩
      rw [this, Bool.or_true]
    · rw [if_neg e, mrk_get]
      have : tmHit ((j / 3 : Nat) : Int) ((j % 3 : Nat) : Int) t = false := by
        cases q : tmHit ((j / 3 : Nat) : Int) ((j % 3 : Nat) : Int) t with
        | false => rfl
        | true =>
          obtain ⟨-, q1, q2⟩ := (tmHit_iff _ _ _).1 q
          exfalso; apply e; unfold mkAt; omega
      rw [this, Bool.or_false]
theorem mrk_at {pre : List ByteArray} {t : ByteArray} (h : trC t = 0) (h6 : (trO t).r < 6) : (mrkOf pre)[mkAt t]? = some (hitIn pre (trO t).r (trO t).f) := by
  obtain ⟨⟨r0, r1⟩, f0, f1⟩ := tr_range h
  have hj : mkAt t < (mrkOf pre).length := by rw [mrk_len]; unfold mkAt; omega
  rw [List.getElem?_eq_getElem hj, mrk_get]
  have e1 : ((mkAt t / 3 : Nat) : Int) = (trO t).r := by unfold mkAt; omega
  have e2 : ((mkAt t % 3 : Nat) : Int) = (trO t).f := by unfold mkAt; omega
  rw [e1, e2]
theorem cGo_len (rs : List Rw) (now : Int) (h6 : rs.length ≤ 6) : ∀ (suf pre : List ByteArray) (n n' : Nat), n ≤ rs.length → cGo rs now pre n suf = some n' → suf.length + n + (mrkOf pre).count true = n' + (mrkOf (pre ++ suf)).count true
  | [], pre, n, n', _, h => by
    simp only [cGo, Option.some.injEq] at h
    subst h
    simp
  | t :: ts, pre, n, n', hn, h => by
    rw [cGo] at h
    split at h
    · rename_i hx
      have := cGo_len rs now h6 ts (pre ++ [t]) (n + 1) n' (by have := ((nx_iff _ _ _).1 hx).1; omega) h
      rw [mrk_no (nx_tr hx), List.append_assoc] at this
      simp only [List.cons_append, List.nil_append] at this
      rw [← this]; simp; omega
    · split at h
      · rename_i hx ho
        have := cGo_len rs now h6 ts (pre ++ [t]) n n' hn h
        unfold okT at ho
        simp only [Bool.and_eq_true, decide_eq_true_iff, Bool.not_eq_true'] at ho
        obtain ⟨hc, hr, -, hh⟩ := ho
        have hm := mrk_at (pre := pre) hc (by omega)
        rw [hh] at hm
        have hl : mkAt t < (mrkOf pre).length := by
          rcases Nat.lt_or_ge (mkAt t) (mrkOf pre).length with q | q
          · exact q
          · rw [List.getElem?_eq_none q] at hm; cases hm
        rw [List.getElem?_eq_getElem hl] at hm
        have hg : (mrkOf pre)[mkAt t] = false := Option.some.inj hm
        rw [mrk_yes hc, List.append_assoc, List.count_set hl, hg] at this
        simp only [List.cons_append, List.nil_append] at this
        simp at this
        rw [← this]; simp; omega
      · cases h
theorem fld_of_gone {rs : List Rw} {r f : Int} (h0 : 0 ≤ r) (h1 : 0 ≤ f) : goneAt rs r f = true ↔ (fldOf rs r f).g = true := by
  unfold goneAt
  simp only [Bool.and_eq_true, decide_eq_true_iff]
  constructor
  · exact fun h => h.2.2
  · intro h
    have h2 : r.toNat < rs.length := by
      rcases Nat.lt_or_ge r.toNat rs.length with q | q
      · exact q
      · exfalso
        unfold fldOf at h
        rw [List.getD_eq_getElem?_getD, List.getD_eq_getElem?_getD, List.getElem?_eq_none q] at h
        simp [rwZ, fldZ] at h
    have h3 : f.toNat < (rs.getD r.toNat rwZ).fs.length := by
      rcases Nat.lt_or_ge f.toNat (rs.getD r.toNat rwZ).fs.length with q | q
      · exact q
      · exfalso
        unfold fldOf at h
        rw [List.getD_eq_getElem?_getD (l := (rs.getD r.toNat rwZ).fs), List.getElem?_eq_none q] at h
        simp [fldZ] at h
    exact ⟨⟨h0, by omega⟩, ⟨h1, by omega⟩, h⟩
theorem allB_iff (rs : List Rw) (lv : List ByteArray) : allB rs lv = true ↔ ∀ r f : Nat, (fldOf rs (r : Int) (f : Int)).g = true → hitIn lv (r : Int) (f : Int) = true := by
  unfold allB alB7
  simp only [List.all_eq_true, List.mem_range, Bool.or_eq_true, Bool.not_eq_true', decide_eq_true_iff]
  constructor
  · intro h r f hg
    obtain ⟨g1, g2, -⟩ := by
      have := (fld_of_gone (rs := rs) (r := (r : Int)) (f := (f : Int)) (by omega) (by omega)).2 hg
      unfold goneAt at this
      simpa only [Bool.and_eq_true, decide_eq_true_iff] using this
    simp only [Int.toNat_natCast] at g2
    rcases h r (by omega) f (by omega) with q | q
    · unfold fldOf at hg
      simp only [Int.toNat_natCast] at hg
      rw [hg] at q; cases q
    · exact (tb_nonneg _ _ 0 lv).1 q
  · intro h i hi k hk
    cases hg : ((rs.getD i rwZ).fs.getD k fldZ).g with
    | false => exact .inl rfl
    | true =>
      right
      refine (tb_nonneg _ _ 0 lv).2 (h i k ?_)
      unfold fldOf
      simpa only [Int.toNat_natCast] using hg
theorem lg_eq (rs : List Rw) (lv : List ByteArray) (now : Int) : lgB rs lv now = imB rs lv now := by
  rw [Bool.eq_iff_iff]
  unfold lgB imB
  simp only [Bool.and_eq_true, decide_eq_true_iff]
  have gi := go_iff rs now lv lv [] 0 (by simp)
  simp only [List.length_nil] at gi
  constructor
  · rintro ⟨h6, -, ht, hr, hl, ha⟩
    obtain ⟨g1, g2⟩ := gi.1 hl
    refine ⟨ht, ⟨h6, hr⟩, ?_⟩
    rw [g1]
    simp only [Bool.and_eq_true, decide_eq_true_iff, true_and]
    apply List.ext_getElem
    · rw [mrk_len, goneM_len]
    · intro j h1 h2
      rw [mrk_get, gone_get, Bool.eq_iff_iff]
      constructor
      · intro h
        obtain ⟨t, ht1, ht2⟩ := (hit_iff _ _ _).1 h
        obtain ⟨e0, e1, e2⟩ := (tmHit_iff _ _ _).1 ht2
        have := g2 t ht1 e0
        rw [e1, e2] at this
        exact (fld_of_gone (by omega) (by omega)).1 this
      · exact fun h => (allB_iff rs lv).1 ha _ _ h
  · rintro ⟨ht, ⟨h6, hr⟩, hm⟩
    cases hc : cGo rs now [] 0 lv with
    | none => rw [hc] at hm; cases hm
    | some n =>
      rw [hc] at hm
      simp only [Bool.and_eq_true, decide_eq_true_iff] at hm
      obtain ⟨rfl, hm⟩ := hm
      obtain ⟨-, -, hlt⟩ := cGo_parts rs now lv [] 0 _ hc
      have hlen := cGo_len rs now h6 lv [] 0 _ (Nat.zero_le _) hc
      have hc18 : (mrkOf ([] ++ lv)).count true ≤ 18 := Nat.le_trans List.count_le_length (by rw [mrk_len]; exact Nat.le_refl _)
      have key : ∀ r f : Nat, r < 6 → f < 3 → hitIn lv (r : Int) (f : Int) = (fldOf rs (r : Int) (f : Int)).g := fun r f h1 h2 => by
        have e : (mrkOf lv)[r * 3 + f]? = (goneM rs)[r * 3 + f]? := by rw [hm]
        rw [List.getElem?_eq_getElem (by rw [mrk_len]; omega), List.getElem?_eq_getElem (by rw [goneM_len]; omega), mrk_get, gone_get] at e
        have e1 : (r * 3 + f) / 3 = r := by omega
        have e2 : (r * 3 + f) % 3 = f := by omega
        rw [e1, e2] at e
        exact Option.some.inj e
      refine ⟨h6, by omega, ht, hr, gi.2 ⟨hc, fun t ht hz => ?_⟩, ?_⟩
      · obtain ⟨⟨r0, -⟩, f0, f1⟩ := tr_range hz
        have hr6 := hlt t ht hz
        have := key (trO t).r.toNat (trO t).f.toNat (by omega) (by omega)
        rw [Int.toNat_of_nonneg r0, Int.toNat_of_nonneg f0] at this
        rw [fld_of_gone r0 f0, ← this]
        exact (hit_iff _ _ _).2 ⟨t, ht, hit_self hz⟩
      · rw [allB_iff]
        intro r f hg
        have hb := (fld_of_gone (rs := rs) (r := (r : Int)) (f := (f : Int)) (by omega) (by omega)).2 hg
        unfold goneAt at hb
        simp only [Bool.and_eq_true, decide_eq_true_iff] at hb
        obtain ⟨b1, b2, -⟩ := hb
        simp only [Int.toNat_natCast] at b2
        have hrl : r < rs.length := by omega
        have hf3 : (rs.getD r rwZ).fs.length ≤ 3 := by
          unfold rsB at hr
          rw [List.all_eq_true] at hr
          have := hr (rs.getD r rwZ) (by rw [List.getD_eq_getElem?_getD, List.getElem?_eq_getElem hrl]; exact List.getElem_mem hrl)
          rw [Bool.and_eq_true] at this
          exact (rwB_parts this.1).2.2.1.2
        rw [key r f (by omega) (by omega)]
        exact hg
end Go.Proofs.YtnjegmffjelnpaaGreatDoor
/-
  What holds of a log that lies in memory: its rows and leaves as cells, within the reach.
-/
namespace Go.Proofs.YtnjegmffjelnpaaGreatDoor
open Go.RowKit Go.Lib
set_option linter.unusedVariables false

/-- What holds of a log that lies in memory. -/
structure LgAt (p : Option Addr) (lv : List ByteArray) (cp : Nat) (q : Option Addr) (rs : List Rw) (cq : Nat) (w : World) : Prop where
  tx : TxtAt w p lv
  lc : lv.length ≤ cp
  ln : lv.length ≤ 1048576
  lz : TxtsLe lv
  rw : RwAt w q rs
  rc : rs.length ≤ cq
  rn : rs.length ≤ 1048576
  rz : RwsLe rs
theorem LgAt.below {p : Option Addr} {lv : List ByteArray} {cp : Nat} {q : Option Addr} {rs : List Rw} {cq : Nat} {w x : World} (h : LgAt p lv cp q rs cq w) (hb : Below w.heap.size w x) : LgAt p lv cp q rs cq x :=
  ⟨h.tx.below hb, h.lc, h.ln, h.lz, h.rw.below hb, h.rc, h.rn, h.rz⟩
end Go.Proofs.YtnjegmffjelnpaaGreatDoor
/-
  What is told of a log, in plain mathematics: the place of a row's leaf, the code and the status of a field.
-/
namespace Go.Proofs.YtnjegmffjelnpaaGreatDoor
open Go.RowKit Go.Lib
set_option linter.unusedVariables false

def plFrom (row : Int) : Nat → Nat → List ByteArray → Int
  | _, _, [] => -1
  | n, i, t :: ts => if isRl t = true then (if (n : Int) = row then (i : Int) else plFrom row (n + 1) (i + 1) ts) else plFrom row n (i + 1) ts
def plB (lv : List ByteArray) (row : Int) : Int := plFrom row 0 0 lv
def plO (rs : List Rw) (lv : List ByteArray) (now r : Int) : Int := if lgB rs lv now = true then plB lv r else -1
def tbO (rs : List Rw) (lv : List ByteArray) (now r f : Int) : Int := if lgB rs lv now = true then tbAt lv r f else -1
/-- The code of a field: it is there, it is gone, there is none. -/
def fcO (rs : List Rw) (r f : Int) : Int := if 0 ≤ r ∧ r ≤ (rs.length : Int) - 1 then (if 0 ≤ f ∧ f ≤ ((rs.getD r.toNat rwZ).fs.length : Int) - 1 then (if (fldOf rs r f).g = true then 7 else 0) else 6) else 6
def gcO (rs : List Rw) (lv : List ByteArray) (now r f : Int) : Int := if lgB rs lv now = true then fcO rs r f else 1
def stC (c : Int) : Int := if c = 0 then 1 else if c = 7 then 2 else 0
def stO (rs : List Rw) (lv : List ByteArray) (now r f : Int) : Int := if lgB rs lv now = true then stC (fcO rs r f) else 0
theorem stO_gc (rs : List Rw) (lv : List ByteArray) (now r f : Int) : stO rs lv now r f = stC (gcO rs lv now r f) := by
  unfold stO gcO
  split
  · rfl
  · rfl
theorem fcO_cases (rs : List Rw) (r f : Int) : fcO rs r f = 0 ∨ fcO rs r f = 7 ∨ fcO rs r f = 6 := by
  unfold fcO
  split
  · split
    · split
      · exact .inr (.inl rfl)
      · exact .inl rfl
    · exact .inr (.inr rfl)
  · exact .inr (.inr rfl)
theorem lg_right {rs : List Rw} {lv : List ByteArray} {now : Int} (h : lgB rs lv now = true) : rs.length ≤ 6 ∧ lv.length ≤ 64 ∧ (∀ r ∈ rs, rB r = true) := by
  unfold lgB at h
  simp only [Bool.and_eq_true, decide_eq_true_iff] at h
  refine ⟨h.1, h.2.1, fun r hr => ?_⟩
  have h2 := h.2.2.2.1
  unfold rsB at h2
  rw [List.all_eq_true] at h2
  exact (Bool.and_eq_true_iff.1 (h2 r hr)).1
end Go.Proofs.YtnjegmffjelnpaaGreatDoor
/-
  The root of a log's first leaves and its head, in plain mathematics; the leaves of a right log are small.
-/
namespace Go.Proofs.YtnjegmffjelnpaaGreatDoor
open Go.RowKit Go.Lib
set_option linter.unusedVariables false

def roO (rs : List Rw) (lv : List ByteArray) (now n : Int) : ByteArray := if lgB rs lv now = true then (if 0 ≤ n ∧ n ≤ (lv.length : Int) then treeB (lv.take n.toNat) else ByteArray.empty) else ByteArray.empty
def hdB (lv : List ByteArray) : ByteArray := putB (lv.length : Int) ++ putTextB (treeB lv)
def hdO (rs : List Rw) (lv : List ByteArray) (now : Int) : ByteArray := if lgB rs lv now = true then hdB lv else ByteArray.empty
theorem go_small (rs : List Rw) (now : Int) : ∀ (suf pre : List ByteArray) (n n' : Nat), cGo rs now pre n suf = some n' → ∀ t ∈ suf, t.size ≤ 100
  | [], _, _, _, _ => fun t h => by cases h
  | t :: ts, pre, n, n', h => by
    rw [cGo] at h
    have each : ∀ {m : Nat} {q : List ByteArray}, t.size ≤ 100 → cGo rs now q m ts = some n' → ∀ x ∈ t :: ts, x.size ≤ 100 := fun ht hc x hx => by
      rcases List.mem_cons.1 hx with rfl | hx
      · exact ht
      · exact go_small rs now ts _ _ _ hc x hx
    split at h
    · rename_i hn
      refine each ?_ h
      rw [((nx_iff _ _ _).1 hn).2]
      unfold rlB
      rw [ByteArray.size_append, digB_size]
      show 1 + 32 ≤ 100
      omega
    · split at h
      · rename_i hn ho
        refine each ?_ h
        unfold okT at ho
        simp only [Bool.and_eq_true, decide_eq_true_iff] at ho
        obtain ⟨-, -, hR, -⟩ := tr_sound ho.1
        have := (tmRaw_size (trT t)).2
        rw [hR] at this
        omega
      · cases h
theorem lg_small {rs : List Rw} {lv : List ByteArray} {now : Int} (h : lgB rs lv now = true) : ∀ t ∈ lv, t.size ≤ 100 := by
  rw [lg_eq] at h
  unfold imB at h
  simp only [Bool.and_eq_true] at h
  cases hc : cGo rs now [] 0 lv with
  | none => rw [hc] at h; exact absurd h.2.2 (by simp)
  | some n => exact go_small rs now lv [] 0 n hc
theorem ent_take {lv : List ByteArray} (h1 : lv.length ≤ 64) (h2 : ∀ t ∈ lv, t.size ≤ 100) (k : Nat) : entB (lv.take k) = true :=
  entB_true (by simp; omega) (fun j hj => h2 _ (List.mem_of_mem_take (List.getElem_mem hj)))
theorem rtSize (wx : World) : (sizeOf (Tryz.prog.elem 24)).run Tryz.prog wx = .ok 1 wx := by kernel_rfl
theorem rtElem : Tryz.prog.underlying 24 = some (.slice (Tryz.prog.elem 24)) := by kernel_rfl
theorem sl_to (q : Option Addr) (n c k : Nat) (hk : k ≤ c) (wx : World) : (Instr.slice 24 (.slice q n c) none (some (.int .i64 (k : Int))) none).run Tryz.prog wx = .ok (.slice q k c) wx := by
  rw [run_slice_h (P := Tryz.prog) wx 24 q n c rtElem .i64 (k : Int) (by omega) (by omega), rtSize]
  cases q <;> simp [sliced, Result.andThen, Addr.add]
theorem rtSizeL (wx : World) : (sizeOf (Tryz.prog.elem 78)).run Tryz.prog wx = .ok 1 wx := by kernel_rfl
theorem rtElemL : Tryz.prog.underlying 78 = some (.slice (Tryz.prog.elem 78)) := by kernel_rfl
theorem sl_lv (q : Option Addr) (n c k : Nat) (hk : k ≤ c) (wx : World) : (Instr.slice 78 (.slice q n c) none (some (.int .i64 (k : Int))) none).run Tryz.prog wx = .ok (.slice q k c) wx := by
  rw [run_slice_h (P := Tryz.prog) wx 78 q n c rtElemL .i64 (k : Int) (by omega) (by omega), rtSizeL]
  cases q <;> simp [sliced, Result.andThen, Addr.add]
theorem putTextB_32 {t : ByteArray} (h : t.size = 32) : (putTextB t).size ≤ 42 := by
  have := putTextB_le t (by omega)
  omega
end Go.Proofs.YtnjegmffjelnpaaGreatDoor
/-
  One operation of a drawing region taken by hand: wanted or not, a call that stands alone.
-/
namespace Go.Proofs.YtnjegmffjelnpaaGreatDoor
open Go.RowKit Go.Lib
set_option linter.unusedVariables false

theorem take_at {P : Program} {md : Region.Mode} {ops : Array Oper} {Q : Exit → Act → World → Prop} {S : World → Prop} (i : Nat) {oi : Oper} {v : Value} {fuel : Nat} {listed : Array Bool} {a : Act} {w : World} (hi : ops.toList[i]? = some oi)
    (hs : Region.noSelect ops = true) (hf : Region.free md ops listed i = true) (hr : (Region.ready md ops listed).contains i = true)
    (hQ : ∀ c a w, Q (.panic c) (a.put oi.dst v) w → Q (.panic c) a w) (hS : S w) (hy : YieldsIf P ops S oi v a)
    (h : wpAnyH P md ops Q S fuel (listed.setIfInBounds i true) (a.put oi.dst v) w) : wpAnyH P md ops Q S (fuel + 1) listed a w :=
  wpAnyH_take (by rw [← hi]; simp) hs hf hr hQ hy hS h
theorem ready_at {P : Program} {md : Region.Mode} {ops : Array Oper} {Q : Exit → Act → World → Prop} {S : World → Prop} (i : Nat) {o : Oper} {fuel : Nat} {listed : Array Bool} {a : Act} {w : World} (hi : ops.toList[i]? = some o) (hr : Region.ready md ops listed = [i])
    (h : ∀ K' : Act → World → Prop, Shut (∀ a w, S w → (S w → wpAnyH P md ops Q S fuel (listed.setIfInBounds i true) a w) → K' a w) → if Region.wanted o (yielded ops a.tmps) = true then Oper.wp P o a w K' Q else K' (a.put o.dst undef) w) : wpAnyH P md ops Q S (fuel + 1) listed a w :=
  wpAnyH_ready hr (by simp) (AllReadyH.cons (by rw [← hi]; simp) h AllReadyH.nil)
end Go.Proofs.YtnjegmffjelnpaaGreatDoor
/-
  What the specification's l07Is and l07Time answer.
-/
namespace Go.Proofs.YtnjegmffjelnpaaGreatDoor
open Go.RowKit Go.Lib
set_option linter.unusedVariables false
set_option maxRecDepth 20000

theorem l07Is_any (n lo hi : Int) (w : World) : Calls Tryz.prog 80 #[.int .i64 n, .int .i64 lo, .int .i64 hi] w fun e w' => e = .returned (.bool (decide (lo ≤ n ∧ n ≤ hi))) ∧ w' = w := by
  by_cases h1 : lo ≤ n
  · have d1 : decide (lo ≤ n) = true := decide_eq_true h1
    by_cases h2 : n ≤ hi
    · have d2 : decide (n ≤ hi) = true := decide_eq_true h2
      rw [decide_eq_true (And.intro h1 h2)]
      clear h1 h2
      go_enter Tryz.func80, Tryz.ntmps80
      go_wp2_with fail
      go_ret
      exact ⟨rfl, rfl⟩
    · have d2 : decide (n ≤ hi) = false := decide_eq_false h2
      rw [decide_eq_false (fun h => h2 h.2)]
      clear h1 h2
      go_enter Tryz.func80, Tryz.ntmps80
      go_wp2_with fail
      go_ret
      exact ⟨rfl, rfl⟩
  · have d1 : decide (lo ≤ n) = false := decide_eq_false h1
    rw [decide_eq_false (fun h => h1 h.1)]
    clear h1
    go_enter Tryz.func80, Tryz.ntmps80
    go_wp2_with fail
    go_ret
    exact ⟨rfl, rfl⟩
theorem l07Time_any (n : Int) (w : World) : Calls Tryz.prog 53 #[.int .i64 n] w fun e w' => e = .returned (.bool (timeB n)) ∧ w' = w := by
  have h := l07Is_any n 0 1000000 w
  unfold timeB
  generalize decide (0 ≤ n ∧ n ≤ 1000000) = bo at *
  go_enter Tryz.func53, Tryz.ntmps53
  go_wp2_with fail
  refine h.mono ?_
  rintro e w1 ⟨rfl, rfl⟩
  go_wp2_with fail
  go_ret
  exact ⟨rfl, rfl⟩
end Go.Proofs.YtnjegmffjelnpaaGreatDoor
/-
  What the specification's l07Is, l07Time, l07Commit, CommitOf and FieldRight answer.
-/
namespace Go.Proofs.YtnjegmffjelnpaaGreatDoor
open Go.RowKit Go.Lib
set_option linter.unusedVariables false
set_option maxRecDepth 20000

theorem l07Commit_any (n s v : ByteArray) (w : World) (hn : n.size ≤ 1000) (hs : s.size ≤ 1000) (hv : v.size ≤ 1000) : Calls Tryz.prog 133 #[.string n, .string s, .string v] w fun e w' => e = .returned (.string (digB (cmT n s v))) ∧ Below w.heap.size w w' := by
  have t1 := putTextB_le n (by omega)
  have t2 := putTextB_le s (by omega)
  have t3 := putTextB_le v (by omega)
  have HN : Hid (∀ x, Calls Tryz.prog 60 #[.string n] x fun e w' => e = .returned (.string (putTextB n)) ∧ Below x.heap.size x w') := fun x => specPutText_any n x (by unfold maxLen; omega)
  have HS : Hid (∀ x, Calls Tryz.prog 60 #[.string s] x fun e w' => e = .returned (.string (putTextB s)) ∧ Below x.heap.size x w') := fun x => specPutText_any s x (by unfold maxLen; omega)
  have HV : Hid (∀ x, Calls Tryz.prog 60 #[.string v] x fun e w' => e = .returned (.string (putTextB v)) ∧ Below x.heap.size x w') := fun x => specPutText_any v x (by unfold maxLen; omega)
  have HT : Hid (cmT n s v = (⟨#[2]⟩ : ByteArray) ++ putTextB n ++ putTextB s ++ putTextB v) := rfl
  have hA := fun x => specAll_any (cmT n s v) x (by rw [HT.out]; simp only [ByteArray.size_append]; show 1 + _ + _ + _ ≤ _; omega)
  have HA : Hid (∀ x, Calls Tryz.prog 66 #[.string ((⟨#[2]⟩ : ByteArray) ++ putTextB n ++ putTextB s ++ putTextB v)] x fun e w' => e = .returned (.string (digB (cmT n s v))) ∧ Below x.heap.size x w') := fun x => by rw [← HT.out]; exact hA x
  generalize digB (cmT n s v) = O at *
  clear HT hA
  generalize putTextB n = A at *
  generalize putTextB s = B at *
  generalize putTextB v = C at *
  have z1 : ((⟨#[2]⟩ : ByteArray) ++ A).size ≤ 2000 := by rw [ByteArray.size_append]; show 1 + _ ≤ _; omega
  have z2 : ((⟨#[2]⟩ : ByteArray) ++ A ++ B).size ≤ 4000 := by rw [ByteArray.size_append]; omega
  go_enter Tryz.func133, Tryz.ntmps133
  go_wp2_with fail
  refine (HN.out w).mono ?_
  rintro e w1 ⟨rfl, b1⟩
  go_wp2_with fail
  refine (HS.out w1).mono ?_
  rintro e w2 ⟨rfl, b2⟩
  have b2 := chainB b1 b2
  go_wp2_with fail
  refine (HV.out w2).mono ?_
  rintro e w3 ⟨rfl, b3⟩
  have b3 := chainB b2 b3
  go_wp2_with fail
  refine (HA.out w3).mono ?_
  rintro e w4 ⟨rfl, b4⟩
  have b4 := chainB b3 b4
  go_wp2_with fail
  go_ret
  exact ⟨rfl, b4⟩
set_option maxHeartbeats 1000000 in
theorem specCommitOf_any (n s v : ByteArray) (w : World) (hn : n.size ≤ maxLen) (hs : s.size ≤ maxLen) (hv : v.size ≤ maxLen) : Calls Tryz.prog 115 #[.string n, .string s, .string v] w fun e w' => e = .returned (.string (cmB n s v)) ∧ Below w.heap.size w w' := by
  have hN := specNameRight_any n w hn
  unfold maxLen at hn hs hv
  cases hk : nrB n with
  | false =>
    have HV : Hid (cmB n s v = ByteArray.empty) := if_neg (by unfold cmOk; rw [hk]; exact Bool.false_ne_true)
    rw [hk] at hN
    rw [HV.out]
    go_enter Tryz.func115, Tryz.ntmps115
    go_wp2_with fail
    refine hN.mono ?_
    rintro e w1 ⟨rfl, rfl⟩
    go_wp2_with fail
    go_ret
    exact ⟨rfl, Below.refl _ _⟩
  | true =>
  rw [hk] at hN
  by_cases h1 : s.size < 1
  · have HV : Hid (cmB n s v = ByteArray.empty) := if_neg (by unfold cmOk; rw [decide_eq_false (by omega)]; simp)
    have d1 : decide ((s.size : Int) < 1) = true := decide_eq_true (by omega)
    rw [HV.out]
    go_enter Tryz.func115, Tryz.ntmps115
    go_wp2_with fail
    refine hN.mono ?_
    rintro e w1 ⟨rfl, rfl⟩
    go_wp2_with fail
    go_ret
    exact ⟨rfl, Below.refl _ _⟩
  have d1 : decide ((s.size : Int) < 1) = false := decide_eq_false (by omega)
  by_cases h2 : 8 < s.size
  · have HV : Hid (cmB n s v = ByteArray.empty) := if_neg (by unfold cmOk; rw [decide_eq_false (p := 1 ≤ s.size ∧ s.size ≤ 8) (by omega)]; simp)
    have d2 : decide (8 < (s.size : Int)) = true := decide_eq_true (by omega)
    rw [HV.out]
    go_enter Tryz.func115, Tryz.ntmps115
    go_wp2_with fail
    refine hN.mono ?_
    rintro e w1 ⟨rfl, rfl⟩
    go_wp2_with fail
    go_ret
    exact ⟨rfl, Below.refl _ _⟩
  have d2 : decide (8 < (s.size : Int)) = false := decide_eq_false (by omega)
  by_cases h3 : 16 < v.size
  · have HV : Hid (cmB n s v = ByteArray.empty) := if_neg (by unfold cmOk; rw [decide_eq_false (p := v.size ≤ 16) (by omega)]; simp)
    have d3 : decide (16 < (v.size : Int)) = true := decide_eq_true (by omega)
    rw [HV.out]
    go_enter Tryz.func115, Tryz.ntmps115
    go_wp2_with fail
    refine hN.mono ?_
    rintro e w1 ⟨rfl, rfl⟩
    go_wp2_with fail
    go_ret
    exact ⟨rfl, Below.refl _ _⟩
  have d3 : decide (16 < (v.size : Int)) = false := decide_eq_false (by omega)
  have HV : Hid (cmB n s v = digB (cmT n s v)) := if_pos (by unfold cmOk; rw [hk, decide_eq_true (p := 1 ≤ s.size ∧ s.size ≤ 8) (by omega), decide_eq_true (p := v.size ≤ 16) (by omega)]; rfl)
  have hC := l07Commit_any n s v w (by have := nrB_le hk; omega) (by omega) (by omega)
  rw [HV.out]
  clear hk h1 h2 h3
  go_enter Tryz.func115, Tryz.ntmps115
  go_wp2_with fail
  refine hN.mono ?_
  rintro e w1 ⟨rfl, rfl⟩
  go_wp2_with fail
  refine hC.mono ?_
  rintro e w2 ⟨rfl, b2⟩
  go_wp2_with fail
  go_ret
  exact ⟨rfl, b2⟩
set_option maxHeartbeats 2000000 in
theorem specFieldRight_any (f : Fld) (w : World) (h1 : f.n.size ≤ maxLen) (h2 : f.c.size ≤ maxLen) (h3 : f.s.size ≤ maxLen) (h4 : f.v.size ≤ maxLen) : Calls Tryz.prog 98 #[.agg #[.string f.n, .string f.c, .string f.s, .string f.v, .bool f.g]] w fun e w' => e = .returned (.bool (fdB f)) ∧ Below w.heap.size w w' := by
  obtain ⟨n, c, s, v, g⟩ := f
  show Calls Tryz.prog 98 #[.agg #[.string n, .string c, .string s, .string v, .bool g]] w _
  have h1 : n.size ≤ maxLen := h1
  have h2 : c.size ≤ maxLen := h2
  have h3 : s.size ≤ maxLen := h3
  have h4 : v.size ≤ maxLen := h4
  obtain ⟨W1, hW1⟩ : ∃ W1, W1 = w.alloc (.cells #[.string n, .string c, .string s, .string v, .bool g] 76) := ⟨_, rfl⟩
  have HW1 : Hid (W1 = w.alloc (.cells #[.string n, .string c, .string s, .string v, .bool g] 76)) := hW1
  have B1 : Hid (Below w.heap.size w W1) := by rw [hW1]; exact (Below.refl _ _).alloc (Nat.le_refl _) _
  have K1 : Hid (Bxs W1 w.heap.size 76 #[.string n, .string c, .string s, .string v, .bool g]) := by rw [hW1]; exact Bxs.new _ _ _
  have hN := specNameRight_any n W1 h1
  have HC : Hid (∀ x, Calls Tryz.prog 115 #[.string n, .string s, .string v] x fun e w' => e = .returned (.string (cmB n s v)) ∧ Below x.heap.size x w') := fun x => specCommitOf_any n s v x h1 h3 h4
  have HF : Hid (fdB ⟨n, c, s, v, g⟩ = (nrB n && (decide (c.size = 32) && (if g = true then emB s && emB v else c.toList == (cmB n s v).toList)))) := rfl
  have HX : Hid (∀ x, Below W1.heap.size W1 x → x.cell? ⟨w.heap.size, 0, none⟩ = some (.string n) ∧ x.cell? ⟨w.heap.size, 1, none⟩ = some (.string c) ∧ x.cell? ⟨w.heap.size, 2, none⟩ = some (.string s) ∧ x.cell? ⟨w.heap.size, 3, none⟩ = some (.string v) ∧ x.cell? ⟨w.heap.size, 4, none⟩ = some (.bool g)) := fun x hb => ⟨(K1.out.below hb).cell 0, (K1.out.below hb).cell 1, (K1.out.below hb).cell 2, (K1.out.below hb).cell 3, (K1.out.below hb).cell 4⟩
  obtain ⟨x0, x1, x2, x3, x4⟩ := HX.out W1 (Below.refl _ _)
  have y0 := x0
  rw [hW1] at y0
  unfold maxLen at h1 h2 h3 h4
  clear hW1
  rw [HF.out]
  cases hk : nrB n with
  | false =>
    rw [hk] at hN
    rw [Bool.false_and]
    go_enter Tryz.func98, Tryz.ntmps98
    go_wp2_with fail
    rw [← HW1.out]
    refine hN.mono ?_
    rintro e w1 ⟨rfl, rfl⟩
    go_wp2_with fail
    go_ret
    exact ⟨rfl, B1.out⟩
  | true =>
  rw [hk] at hN
  rw [Bool.true_and]
  by_cases hc : ¬ c.size = 32
  · have d1 : ((c.size : Int) == 32) = false := beq_eq_false_iff_ne.2 (by omega)
    have d1n : ((c.size : Int) != 32) = true := bne_iff_ne.2 (by omega)
    rw [decide_eq_false hc, Bool.false_and]
    clear hc
    go_enter Tryz.func98, Tryz.ntmps98
    go_wp2_with fail
    rw [← HW1.out]
    refine hN.mono ?_
    rintro e w1 ⟨rfl, rfl⟩
    go_wp2_with fail
    go_ret
    exact ⟨rfl, B1.out⟩
  have hc : c.size = 32 := Decidable.byContradiction hc
  have d1 : ((c.size : Int) == 32) = true := beq_iff_eq.2 (by omega)
  have d1n : ((c.size : Int) != 32) = false := by unfold bne; rw [d1]; rfl
  rw [decide_eq_true hc, Bool.true_and]
  clear hc
  cases g with
  | true =>
    rw [if_pos rfl]
    cases hs : emB s with
    | false =>
      have ds : s.toList.isEmpty = false := (emB_isEmpty s).trans hs
      rw [Bool.false_and]
      go_enter Tryz.func98, Tryz.ntmps98
      go_wp2_with fail
      rw [← HW1.out]
      refine hN.mono ?_
      rintro e w1 ⟨rfl, rfl⟩
      go_wp2_with fail
      go_ret
      exact ⟨rfl, B1.out⟩
    | true =>
      have ds : s.toList.isEmpty = true := (emB_isEmpty s).trans hs
      rw [Bool.true_and]
      cases hv : emB v with
      | false =>
        have dv : v.toList.isEmpty = false := (emB_isEmpty v).trans hv
        go_enter Tryz.func98, Tryz.ntmps98
        go_wp2_with fail
        rw [← HW1.out]
        refine hN.mono ?_
        rintro e w1 ⟨rfl, rfl⟩
        go_wp2_with fail
        go_ret
        exact ⟨rfl, B1.out⟩
      | true =>
        have dv : v.toList.isEmpty = true := (emB_isEmpty v).trans hv
        go_enter Tryz.func98, Tryz.ntmps98
        go_wp2_with fail
        rw [← HW1.out]
        refine hN.mono ?_
        rintro e w1 ⟨rfl, rfl⟩
        go_wp2_with fail
        go_ret
        exact ⟨rfl, B1.out⟩
  | false =>
    rw [if_neg (by exact Bool.false_ne_true)]
    obtain ⟨C, hC⟩ : ∃ C, C = cmB n s v := ⟨_, rfl⟩
    rw [← hC] at HC ⊢
    clear hC HF
    go_enter Tryz.func98, Tryz.ntmps98
    go_wp2_with fail
    rw [← HW1.out]
    refine hN.mono ?_
    rintro e w1 ⟨rfl, rfl⟩
    have BR : Hid (Below w1.heap.size w1 w1.drew) := (Below.refl _ _).drew
    go_wp2_with fail
    go_region_held3 (fun w' => w'.cell? ⟨w.heap.size, 0, none⟩ = some (.string n) ∧ w'.cell? ⟨w.heap.size, 1, none⟩ = some (.string c) ∧ w'.cell? ⟨w.heap.size, 2, none⟩ = some (.string s) ∧ w'.cell? ⟨w.heap.size, 3, none⟩ = some (.string v) ∧ w'.cell? ⟨w.heap.size, 4, none⟩ = some (.bool false)) ((first | exact HX.out _ BR.out | exact HX.out _ z1)) (first
      | (go_at_call 115; with_reducible refine (HC.out _).mono ?_; rintro e x9 ⟨rfl, z0⟩; have z1 : Below w1.heap.size w1 x9 := chainB BR.out z0))
    all_goals
      go_wp2_with fail
      go_ret
      exact ⟨rfl, chainB B1.out z1⟩
end Go.Proofs.YtnjegmffjelnpaaGreatDoor
