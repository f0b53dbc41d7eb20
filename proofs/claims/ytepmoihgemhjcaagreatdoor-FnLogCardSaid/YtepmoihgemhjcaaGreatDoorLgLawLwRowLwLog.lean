/-
  Parts of one proof, laid as one text: LgLaw, LwRow, LwLog; what each says stands at its head.
-/
import Derived.Test.YtepmoihgemhjcaaGreatDoorRows
import Derived.Test.YtepmoihgemhjcaaGreatDoorBytesDigMath
import Derived.Test.YtepmoihgemhjcaaGreatDoorTreeMathSlABxKSlBOwnS
import Derived.Test.YtepmoihgemhjcaaGreatDoorTimeBPutMathPutNumJoinedPutTextFldMath
import Derived.Test.YtepmoihgemhjcaaGreatDoorFldGSrcDrawsDrawKitAppSSomeDrawTreeScanMath
import Derived.Test.YtepmoihgemhjcaaGreatDoorGetValGetTxtNumMathFldRdNumFromTmbMathFldRiseLgMath
import Derived.Test.YtepmoihgemhjcaaGreatDoorLgAtKLgAnsLgRtShwKOneKFldBlkRwBlk
import Derived.Test.YtepmoihgemhjcaaGreatDoorLtMathLaMathLfMathTakesLStepAppBlNotTakes
import Derived.Handy
import Derived.Test.YtepmoihgemhjcaaGreatDoorAll2FldC
import Derived.Test.YtepmoihgemhjcaaGreatDoorFldR
import Derived.WalkSpells
import Derived.OwnWalk
import Derived.Laws.StructEq
import Derived.Deep.RegionHeld3
import Derived.Deep.Cut
import Derived.Test.YtepmoihgemhjcaaGreatDoorSpecLr
/-
  Promises 13 and 14 as plain laws: a right log stays right, whatever is added, forgotten or however late it is; what is added stands last, what is forgotten is noted last, and nothing else turns; earlier roots stay.
-/
namespace Go.Proofs.YtepmoihgemhjcaaGreatDoor
open Go.RowKit Go.Lib
set_option linter.unusedVariables false
set_option maxRecDepth 20000

/-- A right log, said with marks. -/
structure LgP (rs : List Rw) (lv : List ByteArray) (now : Int) : Prop where
  t : timeB now = true
  n : rs.length ≤ 6
  r : rsB rs now = true
  g : cGo rs now [] 0 lv = some rs.length
  m : mrkOf lv = goneM rs
theorem lgP_iff (rs : List Rw) (lv : List ByteArray) (now : Int) : lgB rs lv now = true ↔ LgP rs lv now := by
  rw [lg_eq]
  unfold imB
  simp only [Bool.and_eq_true, decide_eq_true_iff]
  constructor
  · rintro ⟨h1, ⟨h2, h3⟩, h4⟩
    cases hc : cGo rs now [] 0 lv with
    | none => rw [hc] at h4; cases h4
    | some n =>
      rw [hc] at h4
      simp only [Bool.and_eq_true, decide_eq_true_iff] at h4
      exact ⟨h1, h2, h3, by rw [hc, h4.1], h4.2⟩
  · rintro ⟨h1, h2, h3, h4, h5⟩
    refine ⟨h1, ⟨h2, h3⟩, ?_⟩
    rw [h4]
    simp only [Bool.and_eq_true, decide_eq_true_iff]
    exact ⟨trivial, h5⟩
theorem LgP.rb {rs : List Rw} {lv : List ByteArray} {now : Int} (h : LgP rs lv now) : ∀ r ∈ rs, rB r = true ∧ r.a ≤ now := fun r hr => by
  have := h.r
  unfold rsB at this
  rw [List.all_eq_true] at this
  have h2 := Bool.and_eq_true_iff.1 (this r hr)
  exact ⟨h2.1, of_decide_eq_true h2.2⟩
/-- Whether a field is noted is whether it is gone. -/
theorem LgP.hit {rs : List Rw} {lv : List ByteArray} {now : Int} (h : LgP rs lv now) {r f : Nat} (h1 : r < 6) (h2 : f < 3) : hitIn lv (r : Int) (f : Int) = (fldOf rs (r : Int) (f : Int)).g := by
  have e : (mrkOf lv)[r * 3 + f]? = (goneM rs)[r * 3 + f]? := by rw [h.m]
  rw [List.getElem?_eq_getElem (by rw [mrk_len]; omega), List.getElem?_eq_getElem (by rw [goneM_len]; omega), mrk_get, gone_get] at e
  have e1 : (r * 3 + f) / 3 = r := by omega
  have e2 : (r * 3 + f) % 3 = f := by omega
  rw [e1, e2] at e
  exact Option.some.inj e
theorem fldOf_at {rs : List Rw} {I J : Nat} (hI : I < rs.length) (hJ : J < rs[I].fs.length) : fldOf rs (I : Int) (J : Int) = rs[I].fs[J] := by
  unfold fldOf
  rw [getD_row hI, Int.toNat_natCast, List.getD_eq_getElem?_getD, List.getElem?_eq_getElem hJ]; rfl
theorem cGo_app {rs : List Rw} {now : Int} : ∀ (suf : List ByteArray) (ts pre : List ByteArray) (n : Nat), cGo rs now pre n (suf ++ ts) = (cGo rs now pre n suf).bind fun m => cGo rs now (pre ++ suf) m ts
  | [], ts, pre, n => by simp [cGo]
  | t :: suf, ts, pre, n => by
    rw [List.cons_append, cGo, cGo]
    split
    · rw [cGo_app suf ts (pre ++ [t]) (n + 1)]; simp
    · split
      · rw [cGo_app suf ts (pre ++ [t]) n]; simp
      · rfl

/-! ### Time -/
theorem okT_late {now t : Int} (h : now ≤ t) {pre : List ByteArray} {n : Nat} {x : ByteArray} (ho : okT now pre n x = true) : okT t pre n x = true := by
  unfold okT at ho ⊢
  simp only [Bool.and_eq_true, decide_eq_true_iff] at ho ⊢
  exact ⟨ho.1, ho.2.1, by omega, ho.2.2.2⟩
theorem cGo_late {rs : List Rw} {now t : Int} (h : now ≤ t) : ∀ (suf pre : List ByteArray) (n m : Nat), cGo rs now pre n suf = some m → cGo rs t pre n suf = some m
  | [], pre, n, m, hc => hc
  | x :: suf, pre, n, m, hc => by
    rw [cGo] at hc ⊢
    split at hc
    · rename_i hx
      rw [if_pos hx]; exact cGo_late h suf _ _ _ hc
    · rename_i hx
      split at hc
      · rename_i ho
        rw [if_neg hx, if_pos (okT_late h ho)]; exact cGo_late h suf _ _ _ hc
      · cases hc
theorem lt_right {rs : List Rw} {lv : List ByteArray} {now t : Int} (h : ltC rs lv now t = 0) : lgB (ltmR rs lv now t) (ltL rs lv now t) (ltN rs lv now t) = true ∧ now ≤ ltN rs lv now t ∧ t ≤ ltN rs lv now t := by
  unfold ltC at h
  by_cases hk : ltB rs lv now t = true
  · unfold ltmR ltL ltN
    rw [if_pos hk, if_pos hk, if_pos hk]
    unfold ltB at hk
    obtain ⟨h1, h2⟩ := Bool.and_eq_true_iff.1 hk
    have hp := (lgP_iff _ _ _).1 h1
    have hm : now ≤ mxB now t ∧ t ≤ mxB now t ∧ (mxB now t = now ∨ mxB now t = t) := by unfold mxB; split <;> omega
    refine ⟨(lgP_iff _ _ _).2 ⟨?_, hp.n, ?_, cGo_late hm.1 _ _ _ _ hp.g, hp.m⟩, hm.1, hm.2.1⟩
    · rcases hm.2.2 with e | e
      · rw [e]; exact hp.t
      · rw [e]; exact h2
    · unfold rsB
      rw [List.all_eq_true]
      exact fun r hr => by
        have := hp.rb r hr
        rw [this.1, Bool.true_and]
        exact decide_eq_true (by omega)
  · rw [if_neg hk] at h; omega

/-! ### A row is added -/
theorem fr_getD {fs : List Fld} (h : frsB fs = true) (k : Nat) : (fs.getD k fldZ).g = false := by
  unfold frsB at h
  rw [List.all_eq_true] at h
  rw [List.getD_eq_getElem?_getD]
  by_cases hk : k < fs.length
  · rw [List.getElem?_eq_getElem hk, Option.getD_some]
    have := h _ (List.getElem_mem hk)
    simpa using this
  · rw [List.getElem?_eq_none (by omega)]; rfl
theorem getD_app {rs : List Rw} {r : Rw} {n : Nat} (h : n < rs.length) : (rs ++ [r]).getD n rwZ = rs.getD n rwZ := by
  rw [List.getD_eq_getElem?_getD, List.getD_eq_getElem?_getD, List.getElem?_append_left h]
theorem getD_new (rs : List Rw) (r : Rw) : (rs ++ [r]).getD rs.length rwZ = r := by
  rw [List.getD_eq_getElem?_getD, List.getElem?_append_right (Nat.le_refl _), Nat.sub_self]; rfl
theorem getD_past {rs : List Rw} {n : Nat} (h : rs.length ≤ n) : rs.getD n rwZ = rwZ := by
  rw [List.getD_eq_getElem?_getD, List.getElem?_eq_none h]; rfl
theorem gone_add {rs : List Rw} {r : Rw} (h : frsB r.fs = true) (i k : Nat) : (fldOf (rs ++ [r]) (i : Int) (k : Int)).g = (fldOf rs (i : Int) (k : Int)).g := by
  unfold fldOf
  rw [Int.toNat_natCast, Int.toNat_natCast]
  rcases Nat.lt_trichotomy i rs.length with hi | rfl | hi
  · rw [getD_app hi]
  · rw [getD_new, getD_past (Nat.le_refl _), fr_getD h k]; rfl
  · rw [getD_past (rs := rs ++ [r]) (by simp; omega), getD_past (by omega)]
theorem nx_add {rs : List Rw} {r : Rw} {n : Nat} {t : ByteArray} (h : n < rs.length) : isNx (rs ++ [r]) n t = isNx rs n t := by
  unfold isNx
  rw [getD_app h, decide_eq_true h, decide_eq_true (show n < (rs ++ [r]).length by simp; omega)]
theorem cGo_add {rs : List Rw} {r : Rw} {now : Int} : ∀ (suf pre : List ByteArray) (n m : Nat), n ≤ rs.length → cGo rs now pre n suf = some m → cGo (rs ++ [r]) now pre n suf = some m
  | [], pre, n, m, _, hc => hc
  | x :: suf, pre, n, m, hn, hc => by
    rw [cGo] at hc ⊢
    split at hc
    · rename_i hx
      have hl := ((nx_iff _ _ _).1 hx).1
      rw [nx_add hl, if_pos hx]
      exact cGo_add suf _ _ _ (by omega) hc
    · rename_i hx
      split at hc
      · rename_i ho
        have hx2 : ¬ isNx (rs ++ [r]) n x = true := fun hy => by
          have h0 : trC x = 0 := by
            unfold okT at ho
            simp only [Bool.and_eq_true, decide_eq_true_iff] at ho
            exact ho.1
          exact nx_tr hy h0
        rw [if_neg hx2, if_pos ho]
        exact cGo_add suf _ _ _ hn hc
      · cases hc
theorem la_parts {rs : List Rw} {lv : List ByteArray} {now : Int} {r : Rw} (h : laC rs lv now r = 0) : lgB rs lv now = true ∧ rwB r.k r.a r.fs = true ∧ frsB r.fs = true ∧ r.a = now ∧ rs.length < 6 := by
  unfold laC at h
  by_cases hk : laK rs lv now r = true
  · rw [if_pos hk] at h
    unfold laK at hk
    simp only [Bool.and_eq_true, beq_iff_eq] at hk
    have h6 := (lg_right hk.1).1
    by_cases h7 : rs.length = 6
    · rw [if_pos h7] at h; omega
    · exact ⟨hk.1, hk.2.1, hk.2.2.1, hk.2.2.2, by omega⟩
  · rw [if_neg hk] at h; omega
theorem la_right {rs : List Rw} {lv : List ByteArray} {now : Int} {r : Rw} (h : laC rs lv now r = 0) : lgB (laR rs lv now r) (laL rs lv now r) (laN rs lv now r) = true := by
  obtain ⟨e1, e2, e3⟩ := la_good h
  rw [e1, e2, e3]
  obtain ⟨h1, h2, h3, h4, h5⟩ := la_parts h
  have hp := (lgP_iff _ _ _).1 h1
  have hl : lfB r.k r.a r.fs = rlB r := rl_lf h2
  rw [hl]
  refine (lgP_iff _ _ _).2 ⟨hp.t, by simp; omega, ?_, ?_, ?_⟩
  · unfold rsB
    rw [List.all_eq_true]
    intro x hx
    rcases List.mem_append.1 hx with g | g
    · have := hp.rb x g
      rw [this.1, Bool.true_and]
      exact decide_eq_true this.2
    · rw [List.mem_singleton.1 g]
      have : rB r = true := h2
      rw [this, Bool.true_and]
      exact decide_eq_true (by omega)
  · rw [cGo_app, cGo_add lv [] 0 _ (Nat.zero_le _) hp.g, Option.bind_some, cGo, if_pos ((nx_iff _ _ _).2 ⟨by simp, by rw [getD_new]⟩)]
    simp [cGo]
  · rw [mrk_no (rl_tr r), hp.m]
    unfold goneM
    exact List.map_congr_left fun j _ => (gone_add h3 _ _).symm
/-- The rows' leaves among a right log's leaves are as many as its rows. -/
theorem pl_past {rs : List Rw} {now : Int} (hr : ∀ r ∈ rs, rB r = true) (row : Nat) : ∀ (suf pre ts : List ByteArray) (n i m : Nat), cGo rs now pre n suf = some m → m ≤ row → plFrom (row : Int) n i (suf ++ ts) = plFrom (row : Int) m (i + suf.length) ts
  | [], pre, ts, n, i, m, hc, hm => by
    simp only [cGo, Option.some.injEq] at hc
    subst hc
    rfl
  | x :: suf, pre, ts, n, i, m, hc, hm => by
    rw [cGo] at hc
    rw [List.cons_append, plFrom]
    split at hc
    · rename_i hx
      have hle := (cGo_parts _ _ _ _ _ _ hc).1
      obtain ⟨hl, rfl⟩ := (nx_iff _ _ _).1 hx
      rw [if_pos (rl_isRl _), if_neg (by omega), pl_past hr row suf _ ts (n + 1) (i + 1) m hc hm]
      simp; congr 1; omega
    · split at hc
      · rename_i hx ho
        have h0 : trC x = 0 := by
          unfold okT at ho
          simp only [Bool.and_eq_true, decide_eq_true_iff] at ho
          exact ho.1
        rw [tr_not_rl h0, if_neg Bool.false_ne_true, pl_past hr row suf _ ts n (i + 1) m hc hm]
        simp; congr 1; omega
      · cases hc
theorem la_place {rs : List Rw} {lv : List ByteArray} {now : Int} {r : Rw} (h : laC rs lv now r = 0) : plO (laR rs lv now r) (laL rs lv now r) (laN rs lv now r) (rs.length : Int) = (lv.length : Int) := by
  have hr := la_right h
  unfold plO
  rw [if_pos hr]
  obtain ⟨e1, e2, e3⟩ := la_good h
  obtain ⟨h1, h2, -⟩ := la_parts h
  have hp := (lgP_iff _ _ _).1 h1
  rw [e2]
  unfold plB
  have hl : lfB r.k r.a r.fs = rlB r := rl_lf h2
  rw [hl, pl_past (fun x hx => (hp.rb x hx).1) rs.length lv [] [rlB r] 0 0 rs.length hp.g (Nat.le_refl _), plFrom, if_pos (rl_isRl r), if_pos rfl]
  omega
theorem la_there {rs : List Rw} {lv : List ByteArray} {now : Int} {r : Rw} (h : laC rs lv now r = 0) : stO (laR rs lv now r) (laL rs lv now r) (laN rs lv now r) (rs.length : Int) 0 = 1 := by
  have hr := la_right h
  unfold stO
  rw [if_pos hr]
  obtain ⟨e1, -, -⟩ := la_good h
  obtain ⟨-, h2, h3, -⟩ := la_parts h
  have hf := (rwB_parts h2).2.2.1.1
  have hfc : fcO (rs ++ [r]) (rs.length : Int) 0 = 0 := by
    unfold fcO
    rw [if_pos (by simp), Int.toNat_natCast, getD_new, if_pos (by omega)]
    have := gone_add (rs := rs) h3 rs.length 0
    have h0 : (fldOf rs (rs.length : Int) ((0 : Nat) : Int)).g = false := by unfold fldOf; rw [Int.toNat_natCast, getD_past (Nat.le_refl _)]; rfl
    rw [h0] at this
    have e0 : ((0 : Nat) : Int) = 0 := rfl
    rw [e0] at this
    rw [this, if_neg Bool.false_ne_true]
  rw [e1, hfc]; rfl
theorem la_leaves {rs : List Rw} {lv : List ByteArray} {now : Int} {r : Rw} (h : laC rs lv now r = 0) : (laL rs lv now r).take lv.length = lv ∧ (laL rs lv now r).length = lv.length + 1 := by
  obtain ⟨-, e2, -⟩ := la_good h
  rw [e2]
  exact ⟨List.take_left, by simp⟩

/-! ### A field is forgotten -/
theorem lf_parts {rs : List Rw} {lv : List ByteArray} {now r f y : Int} (h : lfC rs lv now r f y = 0) : lgB rs lv now = true ∧ (1 ≤ y ∧ y ≤ 2) ∧ fcO rs r f = 0 := by
  unfold lfC at h
  by_cases hk : (lgB rs lv now && decide (1 ≤ y ∧ y ≤ 2)) = true
  · rw [if_pos hk] at h
    obtain ⟨h1, h2⟩ := Bool.and_eq_true_iff.1 hk
    exact ⟨h1, of_decide_eq_true h2, h⟩
  · rw [if_neg hk] at h; omega
theorem getD_set {rs : List Rw} {I : Nat} {x : Rw} (hI : I < rs.length) (n : Nat) : (rs.set I x).getD n rwZ = if n = I then x else rs.getD n rwZ := by
  rw [List.getD_eq_getElem?_getD, List.getD_eq_getElem?_getD]
  by_cases e : n = I
  · subst e; rw [if_pos rfl, List.getElem?_set_self hI]; rfl
  · rw [if_neg e, List.getElem?_set_ne (by omega)]
theorem fgt_rl {rs : List Rw} {I J : Nat} (hI : I < rs.length) (hJ : J < rs[I].fs.length) : rlB (fgt rs I J) = rlB rs[I] := by
  rw [fgt_eq hI hJ]
  unfold rlB
  rw [lfT_same (same2_set J (goneF rs[I].fs[J]) fun _ => ⟨rfl, rfl⟩)]
theorem nx_fgt {rs : List Rw} {I J : Nat} (hI : I < rs.length) (hJ : J < rs[I].fs.length) (n : Nat) (t : ByteArray) : isNx (rs.set I (fgt rs I J)) n t = isNx rs n t := by
  unfold isNx
  rw [List.length_set, getD_set hI]
  by_cases e : n = I
  · subst e
    rw [if_pos rfl, fgt_rl hI hJ, List.getD_eq_getElem?_getD, List.getElem?_eq_getElem hI]; rfl
  · rw [if_neg e]
theorem cGo_fgt {rs : List Rw} {I J : Nat} (hI : I < rs.length) (hJ : J < rs[I].fs.length) {now : Int} : ∀ (suf pre : List ByteArray) (n : Nat), cGo (rs.set I (fgt rs I J)) now pre n suf = cGo rs now pre n suf
  | [], pre, n => rfl
  | x :: suf, pre, n => by rw [cGo, cGo, nx_fgt hI hJ, cGo_fgt hI hJ suf, cGo_fgt hI hJ suf]
theorem fgt_fld {rs : List Rw} {I J : Nat} (hI : I < rs.length) (hJ : J < rs[I].fs.length) (i k : Nat) : (fldOf (rs.set I (fgt rs I J)) (i : Int) (k : Int)).g = (if i = I ∧ k = J then true else (fldOf rs (i : Int) (k : Int)).g) := by
  unfold fldOf
  rw [Int.toNat_natCast, Int.toNat_natCast, getD_set hI]
  by_cases e : i = I
  · subst e
    rw [if_pos rfl, fgt_eq hI hJ, List.getD_eq_getElem?_getD (l := rs), List.getElem?_eq_getElem hI, Option.getD_some, List.getD_eq_getElem?_getD, List.getD_eq_getElem?_getD]
    by_cases e2 : k = J
    · subst e2
      rw [if_pos ⟨rfl, rfl⟩]
      dsimp only
      rw [List.getElem?_set_self hJ]; rfl
    · rw [if_neg (fun h => e2 h.2)]
      dsimp only
      rw [List.getElem?_set_ne (by omega)]
  · rw [if_neg e, if_neg (fun h => e h.1)]
theorem lf_right {rs : List Rw} {lv : List ByteArray} {now r f y : Int} (h : lfC rs lv now r f y = 0) : lgB (lfR rs lv now r f y) (lfL rs lv now r f y) (lfN rs lv now r f y) = true := by
  obtain ⟨e1, e2, e3⟩ := lf_good h
  obtain ⟨h1, hy, hf⟩ := lf_parts h
  rw [e1, e2, e3]
  obtain ⟨I, J, hI, hJ, rfl, rfl, hg⟩ := fc_zero hf
  have hp := (lgP_iff _ _ _).1 h1
  have hI6 : I < 6 := by have := hp.n; omega
  have hJ3 : J < 3 := by have := (rwB_parts (hp.rb _ (List.getElem_mem hI)).1).2.2.1.2; omega
  have hT := lg_tomb h1 hI hJ hy
  obtain ⟨t1, t2⟩ := tr_raw hT
  rw [Int.toNat_natCast]
  refine (lgP_iff _ _ _).2 ⟨hp.t, by simpa using hp.n, ?_, ?_, ?_⟩
  · unfold rsB
    rw [List.all_eq_true]
    intro x hx
    rcases List.mem_or_eq_of_mem_set hx with g | rfl
    · have := hp.rb x g
      rw [this.1, Bool.true_and]
      exact decide_eq_true this.2
    · have := hp.rb _ (List.getElem_mem hI)
      rw [fgt_eq hI hJ]
      have h2 : rB ⟨rs[I].k, rs[I].a, rs[I].fs.set J (goneF rs[I].fs[J])⟩ = true := forget_right this.1 J hJ
      rw [h2, Bool.true_and]
      exact decide_eq_true this.2
  · rw [cGo_app, cGo_fgt hI hJ, hp.g, Option.bind_some, cGo, if_neg (fun hx => by have := ((nx_iff _ _ _).1 hx).1; simp at this), if_pos ?_]
    · simp [cGo]
    · unfold okT
      rw [t2]
      simp only [Bool.and_eq_true, decide_eq_true_iff, Bool.not_eq_true', List.nil_append]
      refine ⟨t1, by omega, Int.le_refl _, ?_⟩
      rw [hp.hit hI6 hJ3, fldOf_at hI hJ, hg]
  · rw [mrk_yes t1, hp.m]
    apply List.ext_getElem
    · simp [goneM_len]
    · intro j j1 j2
      have hm : mkAt (tmRaw ⟨(I : Int), (J : Int), y, now⟩) = I * 3 + J := by unfold mkAt; rw [t2]; simp
      have hj : j < 18 := by rw [goneM_len] at j2; exact j2
      rw [List.getElem_set, gone_get, gone_get, fgt_fld hI hJ, hm]
      by_cases e : I * 3 + J = j
      · rw [if_pos e, if_pos (by omega)]
      · rw [if_neg e, if_neg (by omega)]
theorem fc_iff (rs : List Rw) (i k : Nat) : fcO rs (i : Int) (k : Int) = if i < rs.length ∧ k < (rs.getD i rwZ).fs.length then (if (fldOf rs (i : Int) (k : Int)).g = true then 7 else 0) else 6 := by
  unfold fcO
  rw [Int.toNat_natCast]
  by_cases h1 : i < rs.length
  · rw [if_pos (by omega)]
    by_cases h2 : k < (rs.getD i rwZ).fs.length
    · have h3 : i < rs.length ∧ k < (rs.getD i rwZ).fs.length := ⟨h1, h2⟩
      rw [if_pos (by omega), if_pos h3]
    · have h3 : ¬ (i < rs.length ∧ k < (rs.getD i rwZ).fs.length) := fun h => h2 h.2
      rw [if_neg (by omega), if_neg h3]
  · have h3 : ¬ (i < rs.length ∧ k < (rs.getD i rwZ).fs.length) := fun h => h1 h.1
    rw [if_neg (by omega), if_neg h3]
theorem fgt_len {rs : List Rw} {I J : Nat} (hI : I < rs.length) (hJ : J < rs[I].fs.length) (i : Nat) : ((rs.set I (fgt rs I J)).getD i rwZ).fs.length = (rs.getD i rwZ).fs.length := by
  rw [getD_set hI]
  by_cases e : i = I
  · subst e
    rw [if_pos rfl, fgt_eq hI hJ, List.getD_eq_getElem?_getD, List.getElem?_eq_getElem hI]
    simp
  · rw [if_neg e]
theorem lf_gone {rs : List Rw} {lv : List ByteArray} {now r f y : Int} (h : lfC rs lv now r f y = 0) : stO (lfR rs lv now r f y) (lfL rs lv now r f y) (lfN rs lv now r f y) r f = 2 := by
  have hr := lf_right h
  unfold stO
  rw [if_pos hr]
  obtain ⟨e1, -, -⟩ := lf_good h
  obtain ⟨h1, hy, hf⟩ := lf_parts h
  rw [e1]
  obtain ⟨I, J, hI, hJ, rfl, rfl, hg⟩ := fc_zero hf
  have hq : I < (rs.set I (fgt rs I J)).length ∧ J < ((rs.set I (fgt rs I J)).getD I rwZ).fs.length := ⟨by simpa using hI, by rw [fgt_len hI hJ, List.getD_eq_getElem?_getD, List.getElem?_eq_getElem hI]; exact hJ⟩
  have he : I = I ∧ J = J := ⟨rfl, rfl⟩
  rw [Int.toNat_natCast, fc_iff, if_pos hq, fgt_fld hI hJ, if_pos he]
  rfl
theorem lf_other {rs : List Rw} {lv : List ByteArray} {now r f y : Int} (h : lfC rs lv now r f y = 0) (i k : Nat) (hne : (i : Int) ≠ r ∨ (k : Int) ≠ f) : stO (lfR rs lv now r f y) (lfL rs lv now r f y) (lfN rs lv now r f y) (i : Int) (k : Int) = stO rs lv now (i : Int) (k : Int) := by
  have hr := lf_right h
  obtain ⟨e1, -, -⟩ := lf_good h
  obtain ⟨h1, hy, hf⟩ := lf_parts h
  unfold stO
  rw [if_pos hr, if_pos h1, e1]
  obtain ⟨I, J, hI, hJ, rfl, rfl, hg⟩ := fc_zero hf
  have hx : ¬ (i = I ∧ k = J) := by omega
  rw [Int.toNat_natCast, fc_iff, fc_iff, fgt_len hI hJ, fgt_fld hI hJ, if_neg hx, List.length_set]
theorem lf_note {rs : List Rw} {lv : List ByteArray} {now r f y : Int} (h : lfC rs lv now r f y = 0) : tbO (lfR rs lv now r f y) (lfL rs lv now r f y) (lfN rs lv now r f y) r f = (lv.length : Int) := by
  have hr := lf_right h
  unfold tbO
  rw [if_pos hr]
  obtain ⟨-, e2, -⟩ := lf_good h
  obtain ⟨h1, hy, hf⟩ := lf_parts h
  rw [e2]
  obtain ⟨I, J, hI, hJ, rfl, rfl, hg⟩ := fc_zero hf
  have hp := (lgP_iff _ _ _).1 h1
  have hI6 : I < 6 := by have := hp.n; omega
  have hJ3 : J < 3 := by have := (rwB_parts (hp.rb _ (List.getElem_mem hI)).1).2.2.1.2; omega
  obtain ⟨t1, t2⟩ := tr_raw (lg_tomb h1 hI hJ hy)
  have hh : tmHit (I : Int) (J : Int) (tmRaw ⟨(I : Int), (J : Int), y, now⟩) = true := (tmHit_iff _ _ _).2 ⟨t1, by rw [t2], by rw [t2]⟩
  exact (tbAt_here (ts := []) hh).2 (by rw [hp.hit hI6 hJ3, fldOf_at hI hJ, hg])
theorem lf_leaves {rs : List Rw} {lv : List ByteArray} {now r f y : Int} (h : lfC rs lv now r f y = 0) : (lfL rs lv now r f y).take lv.length = lv ∧ (lfL rs lv now r f y).length = lv.length + 1 ∧ ∀ k, k ≤ lv.length → (lfL rs lv now r f y).take k = lv.take k := by
  obtain ⟨-, e2, -⟩ := lf_good h
  rw [e2]
  exact ⟨List.take_left, by simp, fun k hk => List.take_append_of_le_length hk⟩
theorem lf_root {rs : List Rw} {lv : List ByteArray} {now r f y : Int} (h : lfC rs lv now r f y = 0) (k : Int) (hk : k ≤ (lv.length : Int)) : roO (lfR rs lv now r f y) (lfL rs lv now r f y) (lfN rs lv now r f y) k = roO rs lv now k := by
  have hr := lf_right h
  obtain ⟨h1, -, -⟩ := lf_parts h
  obtain ⟨-, hl, ht⟩ := lf_leaves h
  unfold roO
  rw [if_pos hr, if_pos h1, hl]
  by_cases h0 : 0 ≤ k
  · rw [if_pos ⟨h0, by omega⟩, if_pos ⟨h0, hk⟩, ht k.toNat (by omega)]
  · rw [if_neg (fun q => h0 q.1), if_neg (fun q => h0 q.1)]
end Go.Proofs.YtepmoihgemhjcaaGreatDoor
/-
  What the laws' lwRow and lwRows answer of two rows that are alike: true.
  Conditions: the cells hold the fields; for lwRows: where the code is OK the row is right.
-/
namespace Go.Proofs.YtepmoihgemhjcaaGreatDoor
open Go.RowKit Go.Lib
set_option linter.unusedVariables false
set_option maxRecDepth 20000

theorem neq_fld (n c s v : ByteArray) (g : Bool) (w : World) : (binOp .neq 103 (.agg #[.string n, .string c, .string s, .string v, .bool g]) (.agg #[.string n, .string c, .string s, .string v, .bool g])).run Tryz.prog w = .ok (.bool false) w := by
  rw [run_neq_struct, run_equalIn_agg w 9999 103 _ _ (by kernel_rfl) (by kernel_rfl)]
  have hF : Tryz.prog.fieldsOf 103 = Tryz.prog.fieldsOf 103 := rfl
  conv at hF => rhs; simp only [Program.fieldsOf, Tryz.underlying103]
  rw [hF]
  simp [go_sem, Op.eqFields]

set_option maxHeartbeats 4000000 in
theorem lwRow_any (kd : ByteArray) (at_ : Int) (p q : Option Addr) (c d : Nat) (fs : List Fld) (w : World) (h1 : FldAt w p fs) (g1 : FldAt w q fs) (n1 : fs.length ≤ 1048576) (m1 : fs.length ≤ c) (m2 : fs.length ≤ d) :
    Calls Tryz.prog 133 #[.agg #[.string kd, .int .i64 at_, .slice p fs.length c], .agg #[.string kd, .int .i64 at_, .slice q fs.length d]] w fun e w' => e = .returned (.bool true) ∧ Below w.heap.size w w' := by
  obtain ⟨W0, hW0⟩ : ∃ W0, W0 = w.alloc (.cells #[.string kd, .int .i64 at_, .slice p fs.length c] 29) := ⟨_, rfl⟩
  have hz : W0.heap.size = w.heap.size + 1 := by rw [hW0]; simp
  obtain ⟨W1, hW1⟩ : ∃ W1, W1 = W0.alloc (.cells #[.string kd, .int .i64 at_, .slice q fs.length d] 29) := ⟨_, rfl⟩
  have HW1 : Hid (W1 = (w.alloc (.cells #[.string kd, .int .i64 at_, .slice p fs.length c] 29)).alloc (.cells #[.string kd, .int .i64 at_, .slice q fs.length d] 29)) := by rw [hW1, hW0]; exact rfl
  have hB0 : Below w.heap.size w W0 := by rw [hW0]; exact (Below.refl _ _).alloc (Nat.le_refl _) _
  have B1 : Hid (Below w.heap.size w W1) := by rw [hW1]; exact alB hB0 _
  have X1 : Bxs W1 w.heap.size 29 #[.string kd, .int .i64 at_, .slice p fs.length c] := by rw [hW1]; refine Bxs.alloc ?_ _; rw [hW0]; exact Bxs.new _ _ _
  have X2 : Bxs W1 (w.heap.size + 1) 29 #[.string kd, .int .i64 at_, .slice q fs.length d] := by rw [hW1, ← hz]; exact Bxs.new _ _ _
  have HX : Hid (∀ x, Below W1.heap.size W1 x → x.cell? ⟨w.heap.size, 2, none⟩ = some (.slice p fs.length c) ∧ x.cell? ⟨w.heap.size + 1, 2, none⟩ = some (.slice q fs.length d)) := fun x hx => ⟨(X1.below hx).cell 2, (X2.below hx).cell 2⟩
  obtain ⟨HZ0, HZ1, HZ2, HZ3⟩ : W1.cell? ⟨w.heap.size, 0, none⟩ = some (.string kd) ∧ W1.cell? ⟨w.heap.size + 1, 0, none⟩ = some (.string kd) ∧ W1.cell? ⟨w.heap.size, 1, none⟩ = some (.int .i64 at_) ∧ W1.cell? ⟨w.heap.size + 1, 1, none⟩ = some (.int .i64 at_) := ⟨X1.cell 0, X2.cell 0, X1.cell 1, X2.cell 1⟩
  obtain ⟨x2, y2⟩ := HX.out W1 (Below.refl _ _)
  have HP : Hid (FldAt W1 p fs) := h1.below B1.out
  have HQ : Hid (FldAt W1 q fs) := g1.below B1.out
  clear hW1 hW0 h1 g1 hB0 hz X1 X2
  go_enter Tryz.func133, Tryz.ntmps133
  go_upto_region 1 with fail
  rw [← HW1.out]
  clear HW1
  go_wp2_with fail
  clear HZ0 HZ1 HZ2 HZ3 x2 y2
  go_loopw [5] (fun i wr => ∃ k : Nat, k ≤ fs.length ∧ i = .int .i64 k ∧ Hid (Below W1.heap.size W1 wr)) (fun i _ => fs.length - (Go.RowKit.intOf i).toNat)
  case atStart => exact ⟨0, Nat.zero_le _, rfl, Below.refl _ _⟩
  case round =>
    obtain ⟨k, hk, rfl, HB⟩ := hrel
    obtain ⟨x2, y2⟩ := HX.out wr HB.out
    by_cases hlt : k < fs.length
    · have i1 : (k : Int) < fs.length := by omega
      obtain ⟨b, o, rfl, -⟩ := HP.out k hlt
      obtain ⟨b', o', rfl, -⟩ := HQ.out k hlt
      have HC : Hid (∀ x, Below W1.heap.size W1 x → (x.cell? ⟨w.heap.size, 2, none⟩ = some (.slice (some ⟨b, o, none⟩) fs.length c) ∧ x.cell? ⟨w.heap.size + 1, 2, none⟩ = some (.slice (some ⟨b', o', none⟩) fs.length d)) ∧ (x.cell? ⟨b, o + k * 5, none⟩ = some (.string fs[k].n) ∧ x.cell? ⟨b, o + k * 5 + 1, none⟩ = some (.string fs[k].c) ∧ x.cell? ⟨b, o + k * 5 + 2, none⟩ = some (.string fs[k].s) ∧ x.cell? ⟨b, o + k * 5 + 3, none⟩ = some (.string fs[k].v) ∧ x.cell? ⟨b, o + k * 5 + 4, none⟩ = some (.bool fs[k].g)) ∧ (x.cell? ⟨b', o' + k * 5, none⟩ = some (.string fs[k].n) ∧ x.cell? ⟨b', o' + k * 5 + 1, none⟩ = some (.string fs[k].c) ∧ x.cell? ⟨b', o' + k * 5 + 2, none⟩ = some (.string fs[k].s) ∧ x.cell? ⟨b', o' + k * 5 + 3, none⟩ = some (.string fs[k].v) ∧ x.cell? ⟨b', o' + k * 5 + 4, none⟩ = some (.bool fs[k].g))) := fun x hx => ⟨HX.out x hx, (HP.out.below hx).at k hlt, (HQ.out.below hx).at k hlt⟩
      have BR : Hid (Below W1.heap.size W1 wr.drew) := HB.out.drew
      have hne := neq_fld fs[k].n fs[k].c fs[k].s fs[k].v fs[k].g
      generalize fs[k].n = fn at *
      generalize fs[k].c = fc at *
      generalize fs[k].s = fss at *
      generalize fs[k].v = fv at *
      generalize fs[k].g = fg at *
      go_upto_region 6 with fail
      refine wp_region_held_drew (S := fun w' => (w'.cell? ⟨w.heap.size, 2, none⟩ = some (.slice (some ⟨b, o, none⟩) fs.length c) ∧ w'.cell? ⟨w.heap.size + 1, 2, none⟩ = some (.slice (some ⟨b', o', none⟩) fs.length d)) ∧ (w'.cell? ⟨b, o + k * 5, none⟩ = some (.string fn) ∧ w'.cell? ⟨b, o + k * 5 + 1, none⟩ = some (.string fc) ∧ w'.cell? ⟨b, o + k * 5 + 2, none⟩ = some (.string fss) ∧ w'.cell? ⟨b, o + k * 5 + 3, none⟩ = some (.string fv) ∧ w'.cell? ⟨b, o + k * 5 + 4, none⟩ = some (.bool fg)) ∧ (w'.cell? ⟨b', o' + k * 5, none⟩ = some (.string fn) ∧ w'.cell? ⟨b', o' + k * 5 + 1, none⟩ = some (.string fc) ∧ w'.cell? ⟨b', o' + k * 5 + 2, none⟩ = some (.string fss) ∧ w'.cell? ⟨b', o' + k * 5 + 3, none⟩ = some (.string fv) ∧ w'.cell? ⟨b', o' + k * 5 + 4, none⟩ = some (.bool fg))) (by kernel_rfl) (HC.out _ BR.out) (fun hHeld => ?_)
      refine take_at 0 (v := ?_) rfl (by kernel_rfl) (by kernel_rfl) (by kernel_rfl) (fun _ _ _ h => h) hHeld (Or.inl ⟨by rfl, ?_⟩) ?_
      rotate_left
      · (intro w hSw; (try dsimp only at hSw); go_simp; try with_reducible rfl)
      simp only [Act.put, List.setIfInBounds_toArray, List.set_cons_zero, List.set_cons_succ]
      refine take_at 1 (v := ?_) rfl (by kernel_rfl) (by kernel_rfl) (by kernel_rfl) (fun _ _ _ h => h) hHeld (Or.inl ⟨by rfl, ?_⟩) ?_
      rotate_left
      · (intro w hSw; (try dsimp only at hSw); go_simp; try with_reducible rfl)
      simp only [Act.put, List.setIfInBounds_toArray, List.set_cons_zero, List.set_cons_succ]
      refine take_at 2 (v := ?_) rfl (by kernel_rfl) (by kernel_rfl) (by kernel_rfl) (fun _ _ _ h => h) hHeld (Or.inl ⟨by rfl, ?_⟩) ?_
      rotate_left
      · (intro w hSw; (try dsimp only at hSw); go_simp; try with_reducible rfl)
      simp only [Act.put, List.setIfInBounds_toArray, List.set_cons_zero, List.set_cons_succ]
      refine take_at 3 (v := ?_) rfl (by kernel_rfl) (by kernel_rfl) (by kernel_rfl) (fun _ _ _ h => h) hHeld (Or.inl ⟨by rfl, ?_⟩) ?_
      rotate_left
      · (intro w hSw; (try dsimp only at hSw); go_simp; try with_reducible rfl)
      simp only [Act.put, List.setIfInBounds_toArray, List.set_cons_zero, List.set_cons_succ]
      refine take_at 4 (v := ?_) rfl (by kernel_rfl) (by kernel_rfl) (by kernel_rfl) (fun _ _ _ h => h) hHeld (Or.inl ⟨by rfl, ?_⟩) ?_
      rotate_left
      · (intro w hSw; (try dsimp only at hSw); go_simp; try with_reducible rfl)
      simp only [Act.put, List.setIfInBounds_toArray, List.set_cons_zero, List.set_cons_succ]
      refine take_at 5 (v := ?_) rfl (by kernel_rfl) (by kernel_rfl) (by kernel_rfl) (fun _ _ _ h => h) hHeld (Or.inl ⟨by rfl, ?_⟩) ?_
      rotate_left
      · (intro w hSw; (try dsimp only at hSw); go_simp; try with_reducible rfl)
      simp only [Act.put, List.setIfInBounds_toArray, List.set_cons_zero, List.set_cons_succ]
      refine take_at 6 (v := ?_) rfl (by kernel_rfl) (by kernel_rfl) (by kernel_rfl) (fun _ _ _ h => h) hHeld (Or.inl ⟨by rfl, ?_⟩) ?_
      rotate_left
      · (intro w hSw; (try dsimp only at hSw); go_simp; try with_reducible rfl)
      simp only [Act.put, List.setIfInBounds_toArray, List.set_cons_zero, List.set_cons_succ]
      refine take_at 7 (v := ?_) rfl (by kernel_rfl) (by kernel_rfl) (by kernel_rfl) (fun _ _ _ h => h) hHeld (Or.inl ⟨by rfl, ?_⟩) ?_
      rotate_left
      · (intro w hSw; (try dsimp only at hSw); go_simp; try with_reducible rfl)
      simp only [Act.put, List.setIfInBounds_toArray, List.set_cons_zero, List.set_cons_succ]
      refine take_at 8 (v := ?_) rfl (by kernel_rfl) (by kernel_rfl) (by kernel_rfl) (fun _ _ _ h => h) hHeld (Or.inl ⟨by rfl, ?_⟩) ?_
      rotate_left
      · (intro w hSw; (try dsimp only at hSw); go_simp; try with_reducible rfl)
      simp only [Act.put, List.setIfInBounds_toArray, List.set_cons_zero, List.set_cons_succ]
      refine take_at 9 (v := ?_) rfl (by kernel_rfl) (by kernel_rfl) (by kernel_rfl) (fun _ _ _ h => h) hHeld (Or.inl ⟨by rfl, ?_⟩) ?_
      rotate_left
      · (intro w hSw; (try dsimp only at hSw); go_simp; try with_reducible rfl)
      simp only [Act.put, List.setIfInBounds_toArray, List.set_cons_zero, List.set_cons_succ]
      refine take_at 10 (v := ?_) rfl (by kernel_rfl) (by kernel_rfl) (by kernel_rfl) (fun _ _ _ h => h) hHeld (Or.inl ⟨by rfl, ?_⟩) ?_
      rotate_left
      · (intro w hSw; (try dsimp only at hSw); go_simp; try with_reducible rfl)
      simp only [Act.put, List.setIfInBounds_toArray, List.set_cons_zero, List.set_cons_succ]
      refine wpAnyH_done (by kernel_rfl) ?_ _
      go_wp2_with fail
      go_roundw
      case rel => exact ⟨k + 1, by omega, by go_num, BR⟩
      case measure => simp [Go.RowKit.intOf]; omega
    · have hkn : ¬ (k : Int) < fs.length := by omega
      go_wp2_with fail
      go_ret
      exact ⟨rfl, chainB B1.out HB.out⟩
end Go.Proofs.YtepmoihgemhjcaaGreatDoor
/-
  What lwLog and lwLogs answer at two logs that are alike: true.
  Conditions: the cells of both hold the rows and leaves; an answer's log is right where its code is zero.
-/
namespace Go.Proofs.YtepmoihgemhjcaaGreatDoor
open Go.RowKit Go.Lib
set_option linter.unusedVariables false
set_option maxRecDepth 20000

set_option maxHeartbeats 4000000 in
theorem lwLog_any (p : Option Addr) (cp : Nat) (q : Option Addr) (cq : Nat) (p2 : Option Addr) (cp2 : Nat) (q2 : Option Addr) (cq2 : Nat) (lv : List ByteArray) (rs : List Rw) (now : Int) (w : World) (h1 : LgAt p lv cp q rs cq w) (h2 : LgAt p2 lv cp2 q2 rs cq2 w) :
    Calls Tryz.prog 71 #[.agg #[.slice q rs.length cq, .slice p lv.length cp, .int .i64 now], .agg #[.slice q2 rs.length cq2, .slice p2 lv.length cp2, .int .i64 now]] w fun e w' => e = .returned (.bool true) ∧ Below w.heap.size w w' := by
  obtain ⟨W0, hW0⟩ : ∃ W0, W0 = w.alloc (.cells #[.slice q rs.length cq, .slice p lv.length cp, .int .i64 now] 26) := ⟨_, rfl⟩
  have hz0 : W0.heap.size = w.heap.size + 1 := by rw [hW0]; simp
  obtain ⟨W1, hW1⟩ : ∃ W1, W1 = W0.alloc (.cells #[.slice q2 rs.length cq2, .slice p2 lv.length cp2, .int .i64 now] 26) := ⟨_, rfl⟩
  have HW1 : Hid (W1 = (w.alloc (.cells #[.slice q rs.length cq, .slice p lv.length cp, .int .i64 now] 26)).alloc (.cells #[.slice q2 rs.length cq2, .slice p2 lv.length cp2, .int .i64 now] 26)) := by rw [hW1, hW0]; exact rfl
  have hB0 : Below w.heap.size w W0 := by rw [hW0]; exact (Below.refl _ _).alloc (Nat.le_refl _) _
  have B1 : Hid (Below w.heap.size w W1) := by rw [hW1]; exact alB hB0 _
  have X1 : Hid (Bxs W1 w.heap.size 26 #[.slice q rs.length cq, .slice p lv.length cp, .int .i64 now]) := by rw [hW1]; refine Bxs.alloc ?_ _; rw [hW0]; exact Bxs.new _ _ _
  have X2 : Hid (Bxs W1 (w.heap.size + 1) 26 #[.slice q2 rs.length cq2, .slice p2 lv.length cp2, .int .i64 now]) := by rw [hW1, ← hz0]; exact Bxs.new _ _ _
  have HX : Hid (∀ x, Below W1.heap.size W1 x → x.cell? ⟨w.heap.size, 0, none⟩ = some (.slice q rs.length cq) ∧ x.cell? ⟨w.heap.size + 1, 0, none⟩ = some (.slice q2 rs.length cq2)) := fun x hx => ⟨(X1.out.below hx).cell 0, (X2.out.below hx).cell 0⟩
  have y1 : W1.cell? ⟨w.heap.size, 1, none⟩ = some (.slice p lv.length cp) := X1.out.cell 1
  have y2 : W1.cell? ⟨w.heap.size, 2, none⟩ = some (.int .i64 now) := X1.out.cell 2
  have y3 : W1.cell? ⟨w.heap.size + 1, 1, none⟩ = some (.slice p2 lv.length cp2) := X2.out.cell 1
  have y4 : W1.cell? ⟨w.heap.size + 1, 2, none⟩ = some (.int .i64 now) := X2.out.cell 2
  have HR1 : Hid (RwAt W1 q rs) := h1.rw.below B1.out
  have HR2 : Hid (RwAt W1 q2 rs) := h2.rw.below B1.out
  have hln := h1.ln
  have hE := texts_any p p2 cp cp2 lv lv W1 (h1.tx.below B1.out) (h2.tx.below B1.out) (by omega) (by omega) h1.lc h2.lc
  rw [decide_eq_true rfl] at hE
  have hrn := h1.rn
  have hq1 := h1.rc
  have hq2 := h2.rc
  have HRZ : Hid (∀ k (h : k < rs.length), (rs[k]).fs.length ≤ 1048576) := fun k h => (h1.rz _ (List.getElem_mem h)).1
  clear hW1 hW0 h1 h2 hB0 hz0 X1 X2
  go_enter Tryz.func71, Tryz.ntmps71
  go_upto_region 1 with fail
  rw [← HW1.out]
  clear HW1
  go_wp2_with fail
  refine hE.mono ?_
  rintro e w1 ⟨rfl, b1⟩
  obtain ⟨z1, z2⟩ := HX.out w1 b1
  clear hE y1 y2 y3 y4
  have HB1 : Hid (Below W1.heap.size W1 w1) := b1
  clear b1
  go_wp2_with fail
  clear z1 z2
  go_loopw [5] (fun i wr => ∃ k : Nat, k ≤ rs.length ∧ i = .int .i64 k ∧ Hid (Below W1.heap.size W1 wr)) (fun i _ => rs.length - (Go.RowKit.intOf i).toNat)
  case atStart => exact ⟨0, Nat.zero_le _, rfl, HB1⟩
  case round =>
    clear HB1
    obtain ⟨k, hk, rfl, HB⟩ := hrel
    obtain ⟨z1, z2⟩ := HX.out wr HB.out
    by_cases hlt : k < rs.length
    · have i1 : (k : Int) < rs.length := by omega
      obtain ⟨b, o, f1, c1, rfl, l1, a0, a1, a2, m1, F1⟩ := HR1.out k hlt
      obtain ⟨b', o', f2, c2, rfl, l2, e0, e1, e2, m2, F2⟩ := HR2.out k hlt
      have hfz := HRZ.out k hlt
      generalize (rs[k]).fs = rf at *
      generalize (rs[k]).k = rk at *
      generalize (rs[k]).a = ra at *
      have HC : Hid (∀ x, Below W1.heap.size W1 x → (x.cell? ⟨w.heap.size, 0, none⟩ = some (.slice (some ⟨b, o, none⟩) rs.length cq) ∧ x.cell? ⟨w.heap.size + 1, 0, none⟩ = some (.slice (some ⟨b', o', none⟩) rs.length cq2)) ∧ (x.cell? ⟨b, o + k * 3, none⟩ = some (.string rk) ∧ x.cell? ⟨b, o + k * 3 + 1, none⟩ = some (.int .i64 ra) ∧ x.cell? ⟨b, o + k * 3 + 2, none⟩ = some (.slice f1 rf.length c1)) ∧ (x.cell? ⟨b', o' + k * 3, none⟩ = some (.string rk) ∧ x.cell? ⟨b', o' + k * 3 + 1, none⟩ = some (.int .i64 ra) ∧ x.cell? ⟨b', o' + k * 3 + 2, none⟩ = some (.slice f2 rf.length c2))) := fun x hx => ⟨HX.out x hx, ⟨(hx.cell (p := ⟨b, o + k * 3, none⟩) l1).trans a0, (hx.cell (p := ⟨b, o + k * 3 + 1, none⟩) l1).trans a1, (hx.cell (p := ⟨b, o + k * 3 + 2, none⟩) l1).trans a2⟩, ⟨(hx.cell (p := ⟨b', o' + k * 3, none⟩) l2).trans e0, (hx.cell (p := ⟨b', o' + k * 3 + 1, none⟩) l2).trans e1, (hx.cell (p := ⟨b', o' + k * 3 + 2, none⟩) l2).trans e2⟩⟩
      have BR : Hid (Below W1.heap.size W1 wr.drew) := HB.out.drew
      have hL := lwRow_any rk ra f1 f2 c1 c2 rf wr.drew (F1.below BR.out) (F2.below BR.out) hfz m1 m2
      clear a0 a1 a2 e0 e1 e2 F1 F2 l1 l2 HR1 HR2
      go_upto_region 6 with fail
      refine wp_region_held_drew (S := fun w' => (w'.cell? ⟨w.heap.size, 0, none⟩ = some (.slice (some ⟨b, o, none⟩) rs.length cq) ∧ w'.cell? ⟨w.heap.size + 1, 0, none⟩ = some (.slice (some ⟨b', o', none⟩) rs.length cq2)) ∧ (w'.cell? ⟨b, o + k * 3, none⟩ = some (.string rk) ∧ w'.cell? ⟨b, o + k * 3 + 1, none⟩ = some (.int .i64 ra) ∧ w'.cell? ⟨b, o + k * 3 + 2, none⟩ = some (.slice f1 rf.length c1)) ∧ (w'.cell? ⟨b', o' + k * 3, none⟩ = some (.string rk) ∧ w'.cell? ⟨b', o' + k * 3 + 1, none⟩ = some (.int .i64 ra) ∧ w'.cell? ⟨b', o' + k * 3 + 2, none⟩ = some (.slice f2 rf.length c2))) (by kernel_rfl) (HC.out _ BR.out) (fun hHeld => ?_)
      refine take_at 0 (v := ?_) rfl (by kernel_rfl) (by kernel_rfl) (by kernel_rfl) (fun _ _ _ h => h) hHeld (Or.inl ⟨by rfl, ?_⟩) ?_
      rotate_left
      · (intro w hSw; (try dsimp only at hSw); go_simp; try with_reducible rfl)
      simp only [Act.put, List.setIfInBounds_toArray, List.set_cons_zero, List.set_cons_succ]
      refine take_at 1 (v := ?_) rfl (by kernel_rfl) (by kernel_rfl) (by kernel_rfl) (fun _ _ _ h => h) hHeld (Or.inl ⟨by rfl, ?_⟩) ?_
      rotate_left
      · (intro w hSw; (try dsimp only at hSw); go_simp; try with_reducible rfl)
      simp only [Act.put, List.setIfInBounds_toArray, List.set_cons_zero, List.set_cons_succ]
      refine take_at 2 (v := ?_) rfl (by kernel_rfl) (by kernel_rfl) (by kernel_rfl) (fun _ _ _ h => h) hHeld (Or.inl ⟨by rfl, ?_⟩) ?_
      rotate_left
      · (intro w hSw; (try dsimp only at hSw); go_simp; try with_reducible rfl)
      simp only [Act.put, List.setIfInBounds_toArray, List.set_cons_zero, List.set_cons_succ]
      refine take_at 3 (v := ?_) rfl (by kernel_rfl) (by kernel_rfl) (by kernel_rfl) (fun _ _ _ h => h) hHeld (Or.inl ⟨by rfl, ?_⟩) ?_
      rotate_left
      · (intro w hSw; (try dsimp only at hSw); go_simp; try with_reducible rfl)
      simp only [Act.put, List.setIfInBounds_toArray, List.set_cons_zero, List.set_cons_succ]
      refine take_at 4 (v := ?_) rfl (by kernel_rfl) (by kernel_rfl) (by kernel_rfl) (fun _ _ _ h => h) hHeld (Or.inl ⟨by rfl, ?_⟩) ?_
      rotate_left
      · (intro w hSw; (try dsimp only at hSw); go_simp; try with_reducible rfl)
      simp only [Act.put, List.setIfInBounds_toArray, List.set_cons_zero, List.set_cons_succ]
      refine take_at 5 (v := ?_) rfl (by kernel_rfl) (by kernel_rfl) (by kernel_rfl) (fun _ _ _ h => h) hHeld (Or.inl ⟨by rfl, ?_⟩) ?_
      rotate_left
      · (intro w hSw; (try dsimp only at hSw); go_simp; try with_reducible rfl)
      simp only [Act.put, List.setIfInBounds_toArray, List.set_cons_zero, List.set_cons_succ]
      refine take_at 6 (v := ?_) rfl (by kernel_rfl) (by kernel_rfl) (by kernel_rfl) (fun _ _ _ h => h) hHeld (Or.inl ⟨by rfl, ?_⟩) ?_
      rotate_left
      · (intro w hSw; (try dsimp only at hSw); go_simp; try with_reducible rfl)
      simp only [Act.put, List.setIfInBounds_toArray, List.set_cons_zero, List.set_cons_succ]
      refine take_at 7 (v := ?_) rfl (by kernel_rfl) (by kernel_rfl) (by kernel_rfl) (fun _ _ _ h => h) hHeld (Or.inl ⟨by rfl, ?_⟩) ?_
      rotate_left
      · (intro w hSw; (try dsimp only at hSw); go_simp; try with_reducible rfl)
      simp only [Act.put, List.setIfInBounds_toArray, List.set_cons_zero, List.set_cons_succ]
      refine take_at 8 (v := ?_) rfl (by kernel_rfl) (by kernel_rfl) (by kernel_rfl) (fun _ _ _ h => h) hHeld (Or.inl ⟨by rfl, ?_⟩) ?_
      rotate_left
      · (intro w hSw; (try dsimp only at hSw); go_simp; try with_reducible rfl)
      simp only [Act.put, List.setIfInBounds_toArray, List.set_cons_zero, List.set_cons_succ]
      refine take_at 9 (v := ?_) rfl (by kernel_rfl) (by kernel_rfl) (by kernel_rfl) (fun _ _ _ h => h) hHeld (Or.inl ⟨by rfl, ?_⟩) ?_
      rotate_left
      · (intro w hSw; (try dsimp only at hSw); go_simp; try with_reducible rfl)
      simp only [Act.put, List.setIfInBounds_toArray, List.set_cons_zero, List.set_cons_succ]
      refine ready_at 10 rfl (by kernel_rfl) (fun K hK => ?_)
      go_simp
      (go_at_call 133; with_reducible refine hL.mono ?_; rintro e y1 ⟨rfl, c1'⟩; have C0 := chainB BR.out c1'; clear c1')
      refine hK.out _ _ (HC.out _ C0) (fun hHeld => ?_)
      clear hK K
      try simp only [Act.put, List.setIfInBounds_toArray, List.set_cons_zero, List.set_cons_succ]
      refine take_at 11 (v := ?_) rfl (by kernel_rfl) (by kernel_rfl) (by kernel_rfl) (fun _ _ _ h => h) hHeld (Or.inl ⟨by rfl, ?_⟩) ?_
      rotate_left
      · (intro w hSw; (try dsimp only at hSw); go_simp; try with_reducible rfl)
      simp only [Act.put, List.setIfInBounds_toArray, List.set_cons_zero, List.set_cons_succ]
      refine wpAnyH_done (by kernel_rfl) ?_ _
      have C1 : Hid (Below W1.heap.size W1 y1) := C0
      clear hHeld hL HC z1 z2 C0
      go_wp2_with fail
      go_roundw
      case rel => exact ⟨k + 1, by omega, by go_num, C1⟩
      case measure => simp [Go.RowKit.intOf]; omega
    · have hkn : ¬ (k : Int) < rs.length := by omega
      go_wp2_with fail
      go_ret
      exact ⟨rfl, chainB B1.out HB.out⟩
set_option maxHeartbeats 4000000 in
theorem lwLogs_any (p : Option Addr) (cp : Nat) (q : Option Addr) (cq : Nat) (p2 : Option Addr) (cp2 : Nat) (q2 : Option Addr) (cq2 : Nat) (lv : List ByteArray) (rs : List Rw) (now : Int) (c : Int) (w : World) (h1 : LgAt p lv cp q rs cq w) (h2 : LgAt p2 lv cp2 q2 rs cq2 w) (hr : c = 0 → lgB rs lv now = true) :
    Calls Tryz.prog 15 #[.agg #[.slice q rs.length cq, .slice p lv.length cp, .int .i64 now, .int .i64 c], .agg #[.slice q2 rs.length cq2, .slice p2 lv.length cp2, .int .i64 now, .int .i64 c]] w fun e w' => e = .returned (.bool true) ∧ Below w.heap.size w w' := by
  obtain ⟨W0, hW0⟩ : ∃ W0, W0 = w.alloc (.cells #[.slice q rs.length cq, .slice p lv.length cp, .int .i64 now, .int .i64 c] 33) := ⟨_, rfl⟩
  have hz0 : W0.heap.size = w.heap.size + 1 := by rw [hW0]; simp
  obtain ⟨W1, hW1⟩ : ∃ W1, W1 = W0.alloc (.cells #[.slice q2 rs.length cq2, .slice p2 lv.length cp2, .int .i64 now, .int .i64 c] 33) := ⟨_, rfl⟩
  have HW1 : Hid (W1 = (w.alloc (.cells #[.slice q rs.length cq, .slice p lv.length cp, .int .i64 now, .int .i64 c] 33)).alloc (.cells #[.slice q2 rs.length cq2, .slice p2 lv.length cp2, .int .i64 now, .int .i64 c] 33)) := by rw [hW1, hW0]; exact rfl
  have hB0 : Below w.heap.size w W0 := by rw [hW0]; exact (Below.refl _ _).alloc (Nat.le_refl _) _
  have B1 : Hid (Below w.heap.size w W1) := by rw [hW1]; exact alB hB0 _
  have X1 : Hid (Bxs W1 w.heap.size 33 #[.slice q rs.length cq, .slice p lv.length cp, .int .i64 now, .int .i64 c]) := by rw [hW1]; refine Bxs.alloc ?_ _; rw [hW0]; exact Bxs.new _ _ _
  have X2 : Hid (Bxs W1 (w.heap.size + 1) 33 #[.slice q2 rs.length cq2, .slice p2 lv.length cp2, .int .i64 now, .int .i64 c]) := by rw [hW1, ← hz0]; exact Bxs.new _ _ _
  have hE := lwLog_any p cp q cq p2 cp2 q2 cq2 lv rs now W1 (h1.below B1.out) (h2.below B1.out)
  have hD : Hid (∀ x, Below W1.heap.size W1 x → Calls Tryz.prog 26 #[.agg #[.slice q rs.length cq, .slice p lv.length cp, .int .i64 now]] x fun e x' => e = .returned (.bool (lgB rs lv now)) ∧ Below x.heap.size x x') := fun x hb => specLogRight_any p lv cp q rs cq now x ((h1.below B1.out).below hb)
  clear hW1 hW0 h1 h2 hB0 hz0
  obtain ⟨x0, x1, x2, x3⟩ := X1.out.four
  obtain ⟨y0, y1, y2, y3⟩ := X2.out.four
  go_enter Tryz.func15, Tryz.ntmps15
  go_upto_region 1 with fail
  rw [← HW1.out]
  clear HW1
  go_wp2_with fail
  refine hE.mono ?_
  rintro e w1 ⟨rfl, b1⟩
  clear x0 x1 x2 x3 y0 y1 y2 y3
  obtain ⟨x0, x1, x2, x3⟩ := (X1.out.below b1).four
  have h2 := hD.out w1 b1
  have b1 := chainB B1.out b1
  clear hE X1 X2 hD
  by_cases hc : c = 0
  · rw [hr hc] at h2
    subst hc
    clear hr
    go_wp2_with fail
    refine h2.mono ?_
    rintro e w2 ⟨rfl, b2⟩
    have b2 := chainB b1 b2
    clear h2 x0 x1 x2 x3
    go_wp2_with fail
    go_ret
    exact ⟨rfl, b2⟩
  · have dc : (c == 0) = false := beq_eq_false_iff_ne.2 hc
    clear h2 hr
    go_wp2_with fail
    go_ret
    exact ⟨rfl, b1⟩
end Go.Proofs.YtepmoihgemhjcaaGreatDoor
