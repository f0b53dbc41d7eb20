/-
  Parts of one proof, laid as one text: LgLaw, Takes, TakesL, Putter, PathI; what each says stands at its head.
-/
import Derived.Test.YtonleickhincgaaGreatDoorRows
import Derived.Test.YtonleickhincgaaGreatDoorBytesDigMath
import Derived.Test.YtonleickhincgaaGreatDoorTreeMathSlABxKSlBOwnS
import Derived.Test.YtonleickhincgaaGreatDoorTimeBPutMathPutNumJoinedPutTextFldMath
import Derived.Test.YtonleickhincgaaGreatDoorLgAtKLgAnsLgRtAudMathHdMathClaMathHearMathFldGOneKFldBlkRwBlkRowOps
import Derived.Test.YtonleickhincgaaGreatDoorGetValGetTxtNumMathFldRdNumFromTmbMathLgMath
import Derived.Test.YtonleickhincgaaGreatDoorLgOLtMathLfMathLaMath
import Derived.Handy
import Derived.Deep.RegionHeld3
import Derived.Test.YtonleickhincgaaGreatDoorPowerHalvesTreeTree2TreeHPathMathIncMathTakerTakePathConMathProofLawSignMath
import Derived.OwnWalk
import Derived.Deep.AppendLies
import Derived.Deep.RegionLaw
/-
  Promises 13 and 14 as plain laws: a right log stays right, whatever is added, forgotten or however late it is; what is added stands last, what is forgotten is noted last, and nothing else turns; earlier roots stay.
-/
namespace Go.Proofs.YtonleickhincgaaGreatDoor
open Go.RowKit Go.Lib
set_option linter.unusedVariables false
set_option maxRecDepth 20000

/-- A right log, said with marks. -/
structure LgP (rs : List Rw) (lv : List ByteArray) (now : Int) : Prop where
  t : timeB now = true
  n : rs.length ≤ 6
  r : rsB rs now = true
  g : cGo rs now [] 0 lv = some rs.length
  m : mrkOf lv = goneM rs
theorem lgP_iff (rs : List Rw) (lv : List ByteArray) (now : Int) : lgB rs lv now = true ↔ LgP rs lv now := by
  rw [lg_eq]
  unfold imB
  simp only [Bool.and_eq_true, decide_eq_true_iff]
  constructor
  · rintro ⟨h1, ⟨h2, h3⟩, h4⟩
    cases hc : cGo rs now [] 0 lv with
    | none => rw [hc] at h4; cases h4
    | some n =>
      rw [hc] at h4
      simp only [Bool.and_eq_true, decide_eq_true_iff] at h4
      exact ⟨h1, h2, h3, by rw [hc, h4.1], h4.2⟩
  · rintro ⟨h1, h2, h3, h4, h5⟩
    refine ⟨h1, ⟨h2, h3⟩, ?_⟩
    rw [h4]
    simp only [Bool.and_eq_true, decide_eq_true_iff]
    exact ⟨trivial, h5⟩
theorem LgP.rb {rs : List Rw} {lv : List ByteArray} {now : Int} (h : LgP rs lv now) : ∀ r ∈ rs, rB r = true ∧ r.a ≤ now := fun r hr => by
  have := h.r
  unfold rsB at this
  rw [List.all_eq_true] at this
  have h2 := Bool.and_eq_true_iff.1 (this r hr)
  exact ⟨h2.1, of_decide_eq_true h2.2⟩
/-- Whether a field is noted is whether it is gone. -/
theorem LgP.hit {rs : List Rw} {lv : List ByteArray} {now : Int} (h : LgP rs lv now) {r f : Nat} (h1 : r < 6) (h2 : f < 3) : hitIn lv (r : Int) (f : Int) = (fldOf rs (r : Int) (f : Int)).g := by
  have e : (mrkOf lv)[r * 3 + f]? = (goneM rs)[r * 3 + f]? := by rw [h.m]
  rw [List.getElem?_eq_getElem (by rw [mrk_len]; omega), List.getElem?_eq_getElem (by rw [goneM_len]; omega), mrk_get, gone_get] at e
  have e1 : (r * 3 + f) / 3 = r := by omega
  have e2 : (r * 3 + f) % 3 = f := by omega
  rw [e1, e2] at e
  exact Option.some.inj e
theorem fldOf_at {rs : List Rw} {I J : Nat} (hI : I < rs.length) (hJ : J < rs[I].fs.length) : fldOf rs (I : Int) (J : Int) = rs[I].fs[J] := by
  unfold fldOf
  rw [getD_row hI, Int.toNat_natCast, List.getD_eq_getElem?_getD, List.getElem?_eq_getElem hJ]; rfl
theorem cGo_app {rs : List Rw} {now : Int} : ∀ (suf : List ByteArray) (ts pre : List ByteArray) (n : Nat), cGo rs now pre n (suf ++ ts) = (cGo rs now pre n suf).bind fun m => cGo rs now (pre ++ suf) m ts
  | [], ts, pre, n => by simp [cGo]
  | t :: suf, ts, pre, n => by
    rw [List.cons_append, cGo, cGo]
    split
    · rw [cGo_app suf ts (pre ++ [t]) (n + 1)]; simp
    · split
      · rw [cGo_app suf ts (pre ++ [t]) n]; simp
      · rfl

/-! ### Time -/
theorem okT_late {now t : Int} (h : now ≤ t) {pre : List ByteArray} {n : Nat} {x : ByteArray} (ho : okT now pre n x = true) : okT t pre n x = true := by
  unfold okT at ho ⊢
  simp only [Bool.and_eq_true, decide_eq_true_iff] at ho ⊢
  exact ⟨ho.1, ho.2.1, by omega, ho.2.2.2⟩
theorem cGo_late {rs : List Rw} {now t : Int} (h : now ≤ t) : ∀ (suf pre : List ByteArray) (n m : Nat), cGo rs now pre n suf = some m → cGo rs t pre n suf = some m
  | [], pre, n, m, hc => hc
  | x :: suf, pre, n, m, hc => by
    rw [cGo] at hc ⊢
    split at hc
    · rename_i hx
      rw [if_pos hx]; exact cGo_late h suf _ _ _ hc
    · rename_i hx
      split at hc
      · rename_i ho
        rw [if_neg hx, if_pos (okT_late h ho)]; exact cGo_late h suf _ _ _ hc
      · cases hc
theorem lt_right {rs : List Rw} {lv : List ByteArray} {now t : Int} (h : ltC rs lv now t = 0) : lgB (ltmR rs lv now t) (ltL rs lv now t) (ltN rs lv now t) = true ∧ now ≤ ltN rs lv now t ∧ t ≤ ltN rs lv now t := by
  unfold ltC at h
  by_cases hk : ltB rs lv now t = true
  · unfold ltmR ltL ltN
    rw [if_pos hk, if_pos hk, if_pos hk]
    unfold ltB at hk
    obtain ⟨h1, h2⟩ := Bool.and_eq_true_iff.1 hk
    have hp := (lgP_iff _ _ _).1 h1
    have hm : now ≤ mxB now t ∧ t ≤ mxB now t ∧ (mxB now t = now ∨ mxB now t = t) := by unfold mxB; split <;> omega
    refine ⟨(lgP_iff _ _ _).2 ⟨?_, hp.n, ?_, cGo_late hm.1 _ _ _ _ hp.g, hp.m⟩, hm.1, hm.2.1⟩
    · rcases hm.2.2 with e | e
      · rw [e]; exact hp.t
      · rw [e]; exact h2
    · unfold rsB
      rw [List.all_eq_true]
      exact fun r hr => by
        have := hp.rb r hr
        rw [this.1, Bool.true_and]
        exact decide_eq_true (by omega)
  · rw [if_neg hk] at h; omega

/-! ### A row is added -/
theorem fr_getD {fs : List Fld} (h : frsB fs = true) (k : Nat) : (fs.getD k fldZ).g = false := by
  unfold frsB at h
  rw [List.all_eq_true] at h
  rw [List.getD_eq_getElem?_getD]
  by_cases hk : k < fs.length
  · rw [List.getElem?_eq_getElem hk, Option.getD_some]
    have := h _ (List.getElem_mem hk)
    simpa using this
  · rw [List.getElem?_eq_none (by omega)]; rfl
theorem getD_app {rs : List Rw} {r : Rw} {n : Nat} (h : n < rs.length) : (rs ++ [r]).getD n rwZ = rs.getD n rwZ := by
  rw [List.getD_eq_getElem?_getD, List.getD_eq_getElem?_getD, List.getElem?_append_left h]
theorem getD_new (rs : List Rw) (r : Rw) : (rs ++ [r]).getD rs.length rwZ = r := by
  rw [List.getD_eq_getElem?_getD, List.getElem?_append_right (Nat.le_refl _), Nat.sub_self]; rfl
theorem getD_past {rs : List Rw} {n : Nat} (h : rs.length ≤ n) : rs.getD n rwZ = rwZ := by
  rw [List.getD_eq_getElem?_getD, List.getElem?_eq_none h]; rfl
theorem gone_add {rs : List Rw} {r : Rw} (h : frsB r.fs = true) (i k : Nat) : (fldOf (rs ++ [r]) (i : Int) (k : Int)).g = (fldOf rs (i : Int) (k : Int)).g := by
  unfold fldOf
  rw [Int.toNat_natCast, Int.toNat_natCast]
  rcases Nat.lt_trichotomy i rs.length with hi | rfl | hi
  · rw [getD_app hi]
  · rw [getD_new, getD_past (Nat.le_refl _), fr_getD h k]; rfl
  · rw [getD_past (rs := rs ++ [r]) (by simp; omega), getD_past (by omega)]
theorem nx_add {rs : List Rw} {r : Rw} {n : Nat} {t : ByteArray} (h : n < rs.length) : isNx (rs ++ [r]) n t = isNx rs n t := by
  unfold isNx
  rw [getD_app h, decide_eq_true h, decide_eq_true (show n < (rs ++ [r]).length by simp; omega)]
theorem cGo_add {rs : List Rw} {r : Rw} {now : Int} : ∀ (suf pre : List ByteArray) (n m : Nat), n ≤ rs.length → cGo rs now pre n suf = some m → cGo (rs ++ [r]) now pre n suf = some m
  | [], pre, n, m, _, hc => hc
  | x :: suf, pre, n, m, hn, hc => by
    rw [cGo] at hc ⊢
    split at hc
    · rename_i hx
      have hl := ((nx_iff _ _ _).1 hx).1
      rw [nx_add hl, if_pos hx]
      exact cGo_add suf _ _ _ (by omega) hc
    · rename_i hx
      split at hc
      · rename_i ho
        have hx2 : ¬ isNx (rs ++ [r]) n x = true := fun hy => by
          have h0 : trC x = 0 := by
            unfold okT at ho
            simp only [Bool.and_eq_true, decide_eq_true_iff] at ho
            exact ho.1
          exact nx_tr hy h0
        rw [if_neg hx2, if_pos ho]
        exact cGo_add suf _ _ _ hn hc
      · cases hc
theorem la_parts {rs : List Rw} {lv : List ByteArray} {now : Int} {r : Rw} (h : laC rs lv now r = 0) : lgB rs lv now = true ∧ rwB r.k r.a r.fs = true ∧ frsB r.fs = true ∧ r.a = now ∧ rs.length < 6 := by
  unfold laC at h
  by_cases hk : laK rs lv now r = true
  · rw [if_pos hk] at h
    unfold laK at hk
    simp only [Bool.and_eq_true, beq_iff_eq] at hk
    have h6 := (lg_right hk.1).1
    by_cases h7 : rs.length = 6
    · rw [if_pos h7] at h; omega
    · exact ⟨hk.1, hk.2.1, hk.2.2.1, hk.2.2.2, by omega⟩
  · rw [if_neg hk] at h; omega
theorem la_right {rs : List Rw} {lv : List ByteArray} {now : Int} {r : Rw} (h : laC rs lv now r = 0) : lgB (laR rs lv now r) (laL rs lv now r) (laN rs lv now r) = true := by
  obtain ⟨e1, e2, e3⟩ := la_good h
  rw [e1, e2, e3]
  obtain ⟨h1, h2, h3, h4, h5⟩ := la_parts h
  have hp := (lgP_iff _ _ _).1 h1
  have hl : lfB r.k r.a r.fs = rlB r := rl_lf h2
  rw [hl]
  refine (lgP_iff _ _ _).2 ⟨hp.t, by simp; omega, ?_, ?_, ?_⟩
  · unfold rsB
    rw [List.all_eq_true]
    intro x hx
    rcases List.mem_append.1 hx with g | g
    · have := hp.rb x g
      rw [this.1, Bool.true_and]
      exact decide_eq_true this.2
    · rw [List.mem_singleton.1 g]
      have : rB r = true := h2
      rw [this, Bool.true_and]
      exact decide_eq_true (by omega)
  · rw [cGo_app, cGo_add lv [] 0 _ (Nat.zero_le _) hp.g, Option.bind_some, cGo, if_pos ((nx_iff _ _ _).2 ⟨by simp, by rw [getD_new]⟩)]
    simp [cGo]
  · rw [mrk_no (rl_tr r), hp.m]
    unfold goneM
    exact List.map_congr_left fun j _ => (gone_add h3 _ _).symm
/-- The rows' leaves among a right log's leaves are as many as its rows. -/
theorem pl_past {rs : List Rw} {now : Int} (hr : ∀ r ∈ rs, rB r = true) (row : Nat) : ∀ (suf pre ts : List ByteArray) (n i m : Nat), cGo rs now pre n suf = some m → m ≤ row → plFrom (row : Int) n i (suf ++ ts) = plFrom (row : Int) m (i + suf.length) ts
  | [], pre, ts, n, i, m, hc, hm => by
    simp only [cGo, Option.some.injEq] at hc
    subst hc
    rfl
  | x :: suf, pre, ts, n, i, m, hc, hm => by
    rw [cGo] at hc
    rw [List.cons_append, plFrom]
    split at hc
    · rename_i hx
      have hle := (cGo_parts _ _ _ _ _ _ hc).1
      obtain ⟨hl, rfl⟩ := (nx_iff _ _ _).1 hx
      rw [if_pos (rl_isRl _), if_neg (by omega), pl_past hr row suf _ ts (n + 1) (i + 1) m hc hm]
      simp; congr 1; omega
    · split at hc
      · rename_i hx ho
        have h0 : trC x = 0 := by
          unfold okT at ho
          simp only [Bool.and_eq_true, decide_eq_true_iff] at ho
          exact ho.1
        rw [tr_not_rl h0, if_neg Bool.false_ne_true, pl_past hr row suf _ ts n (i + 1) m hc hm]
        simp; congr 1; omega
      · cases hc
theorem la_place {rs : List Rw} {lv : List ByteArray} {now : Int} {r : Rw} (h : laC rs lv now r = 0) : plO (laR rs lv now r) (laL rs lv now r) (laN rs lv now r) (rs.length : Int) = (lv.length : Int) := by
  have hr := la_right h
  unfold plO
  rw [if_pos hr]
  obtain ⟨e1, e2, e3⟩ := la_good h
  obtain ⟨h1, h2, -⟩ := la_parts h
  have hp := (lgP_iff _ _ _).1 h1
  rw [e2]
  unfold plB
  have hl : lfB r.k r.a r.fs = rlB r := rl_lf h2
  rw [hl, pl_past (fun x hx => (hp.rb x hx).1) rs.length lv [] [rlB r] 0 0 rs.length hp.g (Nat.le_refl _), plFrom, if_pos (rl_isRl r), if_pos rfl]
  omega
theorem la_there {rs : List Rw} {lv : List ByteArray} {now : Int} {r : Rw} (h : laC rs lv now r = 0) : stO (laR rs lv now r) (laL rs lv now r) (laN rs lv now r) (rs.length : Int) 0 = 1 := by
  have hr := la_right h
  unfold stO
  rw [if_pos hr]
  obtain ⟨e1, -, -⟩ := la_good h
  obtain ⟨-, h2, h3, -⟩ := la_parts h
  have hf := (rwB_parts h2).2.2.1.1
  have hfc : fcO (rs ++ [r]) (rs.length : Int) 0 = 0 := by
    unfold fcO
    rw [if_pos (by simp), Int.toNat_natCast, getD_new, if_pos (by omega)]
    have := gone_add (rs := rs) h3 rs.length 0
    have h0 : (fldOf rs (rs.length : Int) ((0 : Nat) : Int)).g = false := by unfold fldOf; rw [Int.toNat_natCast, getD_past (Nat.le_refl _)]; rfl
    rw [h0] at this
    have e0 : ((0 : Nat) : Int) = 0 := rfl
    rw [e0] at this
    rw [this, if_neg Bool.false_ne_true]
  rw [e1, hfc]; rfl
theorem la_leaves {rs : List Rw} {lv : List ByteArray} {now : Int} {r : Rw} (h : laC rs lv now r = 0) : (laL rs lv now r).take lv.length = lv ∧ (laL rs lv now r).length = lv.length + 1 := by
  obtain ⟨-, e2, -⟩ := la_good h
  rw [e2]
  exact ⟨List.take_left, by simp⟩

/-! ### A field is forgotten -/
theorem lf_parts {rs : List Rw} {lv : List ByteArray} {now r f y : Int} (h : lfC rs lv now r f y = 0) : lgB rs lv now = true ∧ (1 ≤ y ∧ y ≤ 2) ∧ fcO rs r f = 0 := by
  unfold lfC at h
  by_cases hk : (lgB rs lv now && decide (1 ≤ y ∧ y ≤ 2)) = true
  · rw [if_pos hk] at h
    obtain ⟨h1, h2⟩ := Bool.and_eq_true_iff.1 hk
    exact ⟨h1, of_decide_eq_true h2, h⟩
  · rw [if_neg hk] at h; omega
theorem getD_set {rs : List Rw} {I : Nat} {x : Rw} (hI : I < rs.length) (n : Nat) : (rs.set I x).getD n rwZ = if n = I then x else rs.getD n rwZ := by
  rw [List.getD_eq_getElem?_getD, List.getD_eq_getElem?_getD]
  by_cases e : n = I
  · subst e; rw [if_pos rfl, List.getElem?_set_self hI]; rfl
  · rw [if_neg e, List.getElem?_set_ne (by omega)]
theorem fgt_rl {rs : List Rw} {I J : Nat} (hI : I < rs.length) (hJ : J < rs[I].fs.length) : rlB (fgt rs I J) = rlB rs[I] := by
  rw [fgt_eq hI hJ]
  unfold rlB
  rw [lfT_same (same2_set J (goneF rs[I].fs[J]) fun _ => ⟨rfl, rfl⟩)]
theorem nx_fgt {rs : List Rw} {I J : Nat} (hI : I < rs.length) (hJ : J < rs[I].fs.length) (n : Nat) (t : ByteArray) : isNx (rs.set I (fgt rs I J)) n t = isNx rs n t := by
  unfold isNx
  rw [List.length_set, getD_set hI]
  by_cases e : n = I
  · subst e
    rw [if_pos rfl, fgt_rl hI hJ, List.getD_eq_getElem?_getD, List.getElem?_eq_getElem hI]; rfl
  · rw [if_neg e]
theorem cGo_fgt {rs : List Rw} {I J : Nat} (hI : I < rs.length) (hJ : J < rs[I].fs.length) {now : Int} : ∀ (suf pre : List ByteArray) (n : Nat), cGo (rs.set I (fgt rs I J)) now pre n suf = cGo rs now pre n suf
  | [], pre, n => rfl
  | x :: suf, pre, n => by rw [cGo, cGo, nx_fgt hI hJ, cGo_fgt hI hJ suf, cGo_fgt hI hJ suf]
theorem fgt_fld {rs : List Rw} {I J : Nat} (hI : I < rs.length) (hJ : J < rs[I].fs.length) (i k : Nat) : (fldOf (rs.set I (fgt rs I J)) (i : Int) (k : Int)).g = (if i = I ∧ k = J then true else (fldOf rs (i : Int) (k : Int)).g) := by
  unfold fldOf
  rw [Int.toNat_natCast, Int.toNat_natCast, getD_set hI]
  by_cases e : i = I
  · subst e
    rw [if_pos rfl, fgt_eq hI hJ, List.getD_eq_getElem?_getD (l := rs), List.getElem?_eq_getElem hI, Option.getD_some, List.getD_eq_getElem?_getD, List.getD_eq_getElem?_getD]
    by_cases e2 : k = J
    · subst e2
      rw [if_pos ⟨rfl, rfl⟩]
      dsimp only
      rw [List.getElem?_set_self hJ]; rfl
    · rw [if_neg (fun h => e2 h.2)]
      dsimp only
      rw [List.getElem?_set_ne (by omega)]
  · rw [if_neg e, if_neg (fun h => e h.1)]
theorem lf_right {rs : List Rw} {lv : List ByteArray} {now r f y : Int} (h : lfC rs lv now r f y = 0) : lgB (lfR rs lv now r f y) (lfL rs lv now r f y) (lfN rs lv now r f y) = true := by
  obtain ⟨e1, e2, e3⟩ := lf_good h
  obtain ⟨h1, hy, hf⟩ := lf_parts h
  rw [e1, e2, e3]
  obtain ⟨I, J, hI, hJ, rfl, rfl, hg⟩ := fc_zero hf
  have hp := (lgP_iff _ _ _).1 h1
  have hI6 : I < 6 := by have := hp.n; omega
  have hJ3 : J < 3 := by have := (rwB_parts (hp.rb _ (List.getElem_mem hI)).1).2.2.1.2; omega
  have hT := lg_tomb h1 hI hJ hy
  obtain ⟨t1, t2⟩ := tr_raw hT
  rw [Int.toNat_natCast]
  refine (lgP_iff _ _ _).2 ⟨hp.t, by simpa using hp.n, ?_, ?_, ?_⟩
  · unfold rsB
    rw [List.all_eq_true]
    intro x hx
    rcases List.mem_or_eq_of_mem_set hx with g | rfl
    · have := hp.rb x g
      rw [this.1, Bool.true_and]
      exact decide_eq_true this.2
    · have := hp.rb _ (List.getElem_mem hI)
      rw [fgt_eq hI hJ]
      have h2 : rB ⟨rs[I].k, rs[I].a, rs[I].fs.set J (goneF rs[I].fs[J])⟩ = true := forget_right this.1 J hJ
      rw [h2, Bool.true_and]
      exact decide_eq_true this.2
  · rw [cGo_app, cGo_fgt hI hJ, hp.g, Option.bind_some, cGo, if_neg (fun hx => by have := ((nx_iff _ _ _).1 hx).1; simp at this), if_pos ?_]
    · simp [cGo]
    · unfold okT
      rw [t2]
      simp only [Bool.and_eq_true, decide_eq_true_iff, Bool.not_eq_true', List.nil_append]
      refine ⟨t1, by omega, Int.le_refl _, ?_⟩
      rw [hp.hit hI6 hJ3, fldOf_at hI hJ, hg]
  · rw [mrk_yes t1, hp.m]
    apply List.ext_getElem
    · simp [goneM_len]
    · intro j j1 j2
      have hm : mkAt (tmRaw ⟨(I : Int), (J : Int), y, now⟩) = I * 3 + J := by unfold mkAt; rw [t2]; simp
      have hj : j < 18 := by rw [goneM_len] at j2; exact j2
      rw [List.getElem_set, gone_get, gone_get, fgt_fld hI hJ, hm]
      by_cases e : I * 3 + J = j
      · rw [if_pos e, if_pos (by omega)]
      · rw [if_neg e, if_neg (by omega)]
theorem fc_iff (rs : List Rw) (i k : Nat) : fcO rs (i : Int) (k : Int) = if i < rs.length ∧ k < (rs.getD i rwZ).fs.length then (if (fldOf rs (i : Int) (k : Int)).g = true then 7 else 0) else 6 := by
  unfold fcO
  rw [Int.toNat_natCast]
  by_cases h1 : i < rs.length
  · rw [if_pos (by omega)]
    by_cases h2 : k < (rs.getD i rwZ).fs.length
    · have h3 : i < rs.length ∧ k < (rs.getD i rwZ).fs.length := ⟨h1, h2⟩
      rw [if_pos (by omega), if_pos h3]
    · have h3 : ¬ (i < rs.length ∧ k < (rs.getD i rwZ).fs.length) := fun h => h2 h.2
      rw [if_neg (by omega), if_neg h3]
  · have h3 : ¬ (i < rs.length ∧ k < (rs.getD i rwZ).fs.length) := fun h => h1 h.1
    rw [if_neg (by omega), if_neg h3]
theorem fgt_len {rs : List Rw} {I J : Nat} (hI : I < rs.length) (hJ : J < rs[I].fs.length) (i : Nat) : ((rs.set I (fgt rs I J)).getD i rwZ).fs.length = (rs.getD i rwZ).fs.length := by
  rw [getD_set hI]
  by_cases e : i = I
  · subst e
    rw [if_pos rfl, fgt_eq hI hJ, List.getD_eq_getElem?_getD, List.getElem?_eq_getElem hI]
    simp
  · rw [if_neg e]
theorem lf_gone {rs : List Rw} {lv : List ByteArray} {now r f y : Int} (h : lfC rs lv now r f y = 0) : stO (lfR rs lv now r f y) (lfL rs lv now r f y) (lfN rs lv now r f y) r f = 2 := by
  have hr := lf_right h
  unfold stO
  rw [if_pos hr]
  obtain ⟨e1, -, -⟩ := lf_good h
  obtain ⟨h1, hy, hf⟩ := lf_parts h
  rw [e1]
  obtain ⟨I, J, hI, hJ, rfl, rfl, hg⟩ := fc_zero hf
  have hq : I < (rs.set I (fgt rs I J)).length ∧ J < ((rs.set I (fgt rs I J)).getD I rwZ).fs.length := ⟨by simpa using hI, by rw [fgt_len hI hJ, List.getD_eq_getElem?_getD, List.getElem?_eq_getElem hI]; exact hJ⟩
  have he : I = I ∧ J = J := ⟨rfl, rfl⟩
  rw [Int.toNat_natCast, fc_iff, if_pos hq, fgt_fld hI hJ, if_pos he]
  rfl
theorem lf_other {rs : List Rw} {lv : List ByteArray} {now r f y : Int} (h : lfC rs lv now r f y = 0) (i k : Nat) (hne : (i : Int) ≠ r ∨ (k : Int) ≠ f) : stO (lfR rs lv now r f y) (lfL rs lv now r f y) (lfN rs lv now r f y) (i : Int) (k : Int) = stO rs lv now (i : Int) (k : Int) := by
  have hr := lf_right h
  obtain ⟨e1, -, -⟩ := lf_good h
  obtain ⟨h1, hy, hf⟩ := lf_parts h
  unfold stO
  rw [if_pos hr, if_pos h1, e1]
  obtain ⟨I, J, hI, hJ, rfl, rfl, hg⟩ := fc_zero hf
  have hx : ¬ (i = I ∧ k = J) := by omega
  rw [Int.toNat_natCast, fc_iff, fc_iff, fgt_len hI hJ, fgt_fld hI hJ, if_neg hx, List.length_set]
theorem lf_note {rs : List Rw} {lv : List ByteArray} {now r f y : Int} (h : lfC rs lv now r f y = 0) : tbO (lfR rs lv now r f y) (lfL rs lv now r f y) (lfN rs lv now r f y) r f = (lv.length : Int) := by
  have hr := lf_right h
  unfold tbO
  rw [if_pos hr]
  obtain ⟨-, e2, -⟩ := lf_good h
  obtain ⟨h1, hy, hf⟩ := lf_parts h
  rw [e2]
  obtain ⟨I, J, hI, hJ, rfl, rfl, hg⟩ := fc_zero hf
  have hp := (lgP_iff _ _ _).1 h1
  have hI6 : I < 6 := by have := hp.n; omega
  have hJ3 : J < 3 := by have := (rwB_parts (hp.rb _ (List.getElem_mem hI)).1).2.2.1.2; omega
  obtain ⟨t1, t2⟩ := tr_raw (lg_tomb h1 hI hJ hy)
  have hh : tmHit (I : Int) (J : Int) (tmRaw ⟨(I : Int), (J : Int), y, now⟩) = true := (tmHit_iff _ _ _).2 ⟨t1, by rw [t2], by rw [t2]⟩
  exact (tbAt_here (ts := []) hh).2 (by rw [hp.hit hI6 hJ3, fldOf_at hI hJ, hg])
theorem lf_leaves {rs : List Rw} {lv : List ByteArray} {now r f y : Int} (h : lfC rs lv now r f y = 0) : (lfL rs lv now r f y).take lv.length = lv ∧ (lfL rs lv now r f y).length = lv.length + 1 ∧ ∀ k, k ≤ lv.length → (lfL rs lv now r f y).take k = lv.take k := by
  obtain ⟨-, e2, -⟩ := lf_good h
  rw [e2]
  exact ⟨List.take_left, by simp, fun k hk => List.take_append_of_le_length hk⟩
theorem lf_root {rs : List Rw} {lv : List ByteArray} {now r f y : Int} (h : lfC rs lv now r f y = 0) (k : Int) (hk : k ≤ (lv.length : Int)) : roO (lfR rs lv now r f y) (lfL rs lv now r f y) (lfN rs lv now r f y) k = roO rs lv now k := by
  have hr := lf_right h
  obtain ⟨h1, -, -⟩ := lf_parts h
  obtain ⟨-, hl, ht⟩ := lf_leaves h
  unfold roO
  rw [if_pos hr, if_pos h1, hl]
  by_cases h0 : 0 ≤ k
  · rw [if_pos ⟨h0, by omega⟩, if_pos ⟨h0, hk⟩, ht k.toNat (by omega)]
  · rw [if_neg (fun q => h0 q.1), if_neg (fun q => h0 q.1)]
end Go.Proofs.YtonleickhincgaaGreatDoor
/-
  One operation of a drawing region taken by hand: wanted or not, a call that stands alone.
-/
namespace Go.Proofs.YtonleickhincgaaGreatDoor
open Go.RowKit Go.Lib
set_option linter.unusedVariables false

theorem take_at {P : Program} {md : Region.Mode} {ops : Array Oper} {Q : Exit → Act → World → Prop} {S : World → Prop} (i : Nat) {oi : Oper} {v : Value} {fuel : Nat} {listed : Array Bool} {a : Act} {w : World} (hi : ops.toList[i]? = some oi)
    (hs : Region.noSelect ops = true) (hf : Region.free md ops listed i = true) (hr : (Region.ready md ops listed).contains i = true)
    (hQ : ∀ c a w, Q (.panic c) (a.put oi.dst v) w → Q (.panic c) a w) (hS : S w) (hy : YieldsIf P ops S oi v a)
    (h : wpAnyH P md ops Q S fuel (listed.setIfInBounds i true) (a.put oi.dst v) w) : wpAnyH P md ops Q S (fuel + 1) listed a w :=
  wpAnyH_take (by rw [← hi]; simp) hs hf hr hQ hy hS h
theorem ready_at {P : Program} {md : Region.Mode} {ops : Array Oper} {Q : Exit → Act → World → Prop} {S : World → Prop} (i : Nat) {o : Oper} {fuel : Nat} {listed : Array Bool} {a : Act} {w : World} (hi : ops.toList[i]? = some o) (hr : Region.ready md ops listed = [i])
    (h : ∀ K' : Act → World → Prop, Shut (∀ a w, S w → (S w → wpAnyH P md ops Q S fuel (listed.setIfInBounds i true) a w) → K' a w) → if Region.wanted o (yielded ops a.tmps) = true then Oper.wp P o a w K' Q else K' (a.put o.dst undef) w) : wpAnyH P md ops Q S (fuel + 1) listed a w :=
  wpAnyH_ready hr (by simp) (AllReadyH.cons (by rw [← hi]; simp) h AllReadyH.nil)
end Go.Proofs.YtonleickhincgaaGreatDoor
/-
  One operation of a drawing region taken by hand, where the region's LAST operation (a store, which waits for all others) ends what held of the world till then: the condition is asked behind every operation but that one.
-/
namespace Go.Proofs.YtonleickhincgaaGreatDoor
open Go.RowKit Go.Lib
set_option linter.unusedVariables false

/-- In whatever order, and S holds behind every operation but number l. -/
def AnyTill (P : Program) (md : Region.Mode) (ops : Array Oper) (Q : Exit → Act → World → Prop) (S : World → Prop) (l : Nat) : Nat → Array Bool → Act → World → Prop
  | 0, listed, a, w => Region.ready md ops listed = [] ∧ Q .normal a w
  | n + 1, listed, a, w => (Region.ready md ops listed = [] → Q .normal a w) ∧ ∀ i ∈ Region.ready md ops listed, wpOp P ops Q i (fun a' w' => (i ≠ l → S w') ∧ AnyTill P md ops Q S l n (listed.setIfInBounds i true) a' w') a w
/-- Number l waits for number i. -/
def waitsFor (md : Region.Mode) (ops : Array Oper) (l i : Nat) : Bool := match ops[l]? with
  | some x => x.after.any (fun e => Region.binds md e && e.on == i)
  | none => false
section
variable {P : Program} {ops : Array Oper} {Q : Exit → Act → World → Prop} {md : Region.Mode} {S : World → Prop} {l : Nat}
theorem AnyTill.any : ∀ (n : Nat) (listed : Array Bool) (a : Act) (w : World), AnyTill P md ops Q S l n listed a w → wpAny P md ops Q n listed a w
  | 0, _, _, _, h => h
  | n + 1, _, _, _, h => ⟨h.1, fun i hi => wpOp_mono (fun a' w' k => AnyTill.any n _ a' w' k.2) (h.2 i hi)⟩
theorem AnyTill.first {i : Nat} {o : Oper} {v : Value} (hi : ops[i]? = some o) (hsel : ∀ (j : Nat) (x : Oper) cs b, ops[j]? = some x → x.op ≠ .select cs b) (hQ : ∀ c a w, Q (.panic c) (a.put o.dst v) w → Q (.panic c) a w) (hl : waitsFor md ops l i = true) (n : Nat) :
    ∀ (listed : Array Bool) (a : Act) (w : World), (∀ j x, ops[j]? = some x → j ≠ i → listed.getD j true = false → (∀ e ∈ x.after, Region.binds md e = true → e.on ≠ i) → o.apart ops x = true) →
      i ∈ Region.ready md ops listed → YieldsIf P ops S o v a → S w → AnyTill P md ops Q S l n (listed.setIfInBounds i true) (a.put o.dst v) w → AnyTill P md ops Q S l (n + 1) listed a w := by
  induction n with
  | zero =>
    intro listed a w _ hr hy hS H
    refine ⟨fun h0 => absurd (h0 ▸ hr) (by simp), fun j hj => ?_⟩
    by_cases hji : j = i
    · subst hji; exact hy.wpOp hi hS ⟨fun _ => hS, H⟩
    · exact absurd (H.1 ▸ ready_mono hj hji) (by simp)
  | succ n ih =>
    intro listed a w hfree hr hy hS H
    refine ⟨fun h0 => absurd (h0 ▸ hr) (by simp), fun j hj => ?_⟩
    by_cases hji : j = i
    · subst hji; exact hy.wpOp hi hS ⟨fun _ => hS, H⟩
    obtain ⟨hun, x, hx, hall⟩ := mem_ready.1 hj
    have hnot : ∀ e ∈ x.after, Region.binds md e = true → e.on ≠ i := fun e he hb heq => by
      have h1 := hall e he hb
      have h0 := (mem_ready.1 hr).1
      rw [heq] at h1
      rcases Nat.lt_or_ge i listed.size with q | q
      · simp [q] at h0 h1; rw [h0] at h1; cases h1
      · simp [Array.getElem?_eq_none q] at h1
    have hjl : j ≠ l := by
      rintro rfl
      unfold waitsFor at hl
      rw [hx] at hl
      simp only [Array.any_eq_true] at hl
      obtain ⟨k, hk, he⟩ := hl
      rw [Bool.and_eq_true, beq_iff_eq] at he
      exact hnot _ (Array.getElem_mem hk) he.1 he.2
    have hfree' : ∀ k y, ops[k]? = some y → k ≠ i → (listed.setIfInBounds j true).getD k true = false → (∀ e ∈ y.after, Region.binds md e = true → e.on ≠ i) → o.apart ops y = true := fun k y hk hki hu hno => by
      refine hfree k y hk hki ?_ hno
      by_cases hjk : j = k
      · subst hjk; exact hun
      · rwa [getD_set_ne true hjk] at hu
    have step := wpOp_putIf hx (hfree j x hx hji hun hnot) (fun cs b => hsel i o cs b hi) (fun cs b => hsel j x cs b hx) hQ hy (H.2 j (ready_mono hj hji))
    refine wpOp_mono (fun a' w' k => ?_) step
    obtain ⟨ky, kS, kH⟩ := k
    exact ⟨kS, ih _ a' w' hfree' (ready_mono hr (Ne.symm hji)) ky (kS hjl) (by rw [Array.setIfInBounds_comm _ _ hji]; exact kH)⟩
theorem till_take (i : Nat) {oi : Oper} {v : Value} {fuel : Nat} {listed : Array Bool} {a : Act} {w : World} (hi : ops.toList[i]? = some oi)
    (hs : Region.noSelect ops = true) (hf : Region.free md ops listed i = true) (hr : (Region.ready md ops listed).contains i = true) (hl : waitsFor md ops l i = true)
    (hQ : ∀ c a w, Q (.panic c) (a.put oi.dst v) w → Q (.panic c) a w) (hS : S w) (hy : YieldsIf P ops S oi v a)
    (h : AnyTill P md ops Q S l fuel (listed.setIfInBounds i true) (a.put oi.dst v) w) : AnyTill P md ops Q S l (fuel + 1) listed a w :=
  AnyTill.first (by rw [← hi]; simp) (Region.noSelect_spec hs) hQ hl fuel listed a w (Region.free_spec (by rw [← hi]; simp) hf) (by simpa using hr) hy hS h
theorem till_ready (i : Nat) {o : Oper} {fuel : Nat} {listed : Array Bool} {a : Act} {w : World} (hi : ops.toList[i]? = some o) (hr : Region.ready md ops listed = [i])
    (h : ∀ K' : Act → World → Prop, Shut (∀ a w, S w → (S w → AnyTill P md ops Q S l fuel (listed.setIfInBounds i true) a w) → K' a w) → if Region.wanted o (yielded ops a.tmps) = true then Oper.wp P o a w K' Q else K' (a.put o.dst undef) w) : AnyTill P md ops Q S l (fuel + 1) listed a w :=
  ⟨fun h0 => absurd (hr ▸ h0) (by simp), fun j hj => by
    obtain rfl : j = i := by rw [hr] at hj; simpa using hj
    exact wpOp_step (by rw [← hi]; simp) (fun K' hK => h K' (fun a w hS hW => hK a w ⟨fun _ => hS, hW hS⟩))⟩
theorem till_last {o : Oper} {fuel : Nat} {listed : Array Bool} {a : Act} {w : World} (hi : ops.toList[l]? = some o) (hr : Region.ready md ops listed = [l]) (hd : Region.ready md ops (listed.setIfInBounds l true) = [])
    (h : ∀ K' : Act → World → Prop, Shut (∀ a w, Q .normal a w → K' a w) → if Region.wanted o (yielded ops a.tmps) = true then Oper.wp P o a w K' Q else K' (a.put o.dst undef) w) : AnyTill P md ops Q S l (fuel + 1) listed a w :=
  ⟨fun h0 => absurd (hr ▸ h0) (by simp), fun j hj => by
    obtain rfl : j = l := by rw [hr] at hj; simpa using hj
    exact wpOp_step (by rw [← hi]; simp) (fun K' hK => h K' (fun a w hQ => hK a w ⟨fun h0 => absurd rfl h0, by
      cases fuel with
      | zero => exact ⟨hd, hQ⟩
      | succ n => exact ⟨fun _ => hQ, by rw [hd]; simp⟩⟩))⟩
theorem region_till (S : World → Prop) (l : Nat) {id : Nat} {a : Act} {w : World} (hm : P.follows .mixedOrders = true) (hS : S w.drew)
    (h : S w.drew → AnyTill P .any ops Q S l ops.size (Array.replicate ops.size false) a w.drew) : (Code.region id ops true).wp P Q a w :=
  wp_region_any hm (AnyTill.any _ _ _ _ (h hS))
end
end Go.Proofs.YtonleickhincgaaGreatDoor
/-
  The program's putter: its two closures, 'put' (the tree of the entries is put behind the list) and 'all' (the list).
  Conditions: the entries are of at most 100 bytes; the captured list lies in a block of its own; the two tables lie as the program's text lays them.
-/
namespace Go.Proofs.YtonleickhincgaaGreatDoor
open Go.RowKit Go.Lib
set_option linter.unusedVariables false
set_option maxRecDepth 20000

/-- The list's box, in memory that came behind W0; the list owns its row; nothing that was there has turned. -/
structure PutS (W0 : World) (X : Nat) (l : List ByteArray) (v : Value) (w : World) : Prop where
  bel : Below W0.heap.size W0 w
  hX : W0.heap.size ≤ X
  box : w.heap[X]? = some (.cells #[v] 25 (0, 0))
  own : w.ownsRow W0.heap.size 9 1 v l.length (strRow l)
theorem PutS.below {W0 : World} {X : Nat} {l : List ByteArray} {v : Value} {w w' : World} (h : PutS W0 X l v w) (hb : Below w.heap.size w w') : PutS W0 X l v w' :=
  ⟨h.bel.trans (hb.mono h.bel.size), h.hX, (hb.block _ (lt_of_block h.box)).trans h.box, ownS_below h.own hb⟩
theorem PutS.ne {W0 : World} {X : Nat} {l : List ByteArray} {v : Value} {w : World} (h : PutS W0 X l v w) : v.ownBlock ≠ some X := by
  intro he
  rcases h.own.2 with ⟨rfl, _⟩ | ⟨g, cap, cur, rfl, _, hg, _⟩
  · cases he
  · have : g = X := by simpa [Value.ownBlock] using he
    subst this
    rw [h.box] at hg; simp at hg

set_option maxHeartbeats 1000000 in
theorem put_any (W0 : World) (X : Nat) (l : List ByteArray) (v : Value) (p : Option Addr) (cap : Nat) (ss : List ByteArray) (w : World) (hT : Tabs W0) (hp : TxtAt W0 p ss) (hn : ss.length ≤ 140737488355328) (hcap : ss.length ≤ cap)
    (h100 : ∀ x ∈ ss, x.size ≤ 100) (hl : l.length ≤ 1048576) (h : PutS W0 X l v w) :
    Calls Tryz.prog 182 #[.slice p ss.length cap, .pointer (some ⟨X, 0, none⟩)] w fun e w' => e = .returned (.tuple #[]) ∧ ∃ v', PutS W0 X (l ++ [treeB ss]) v' w' := by
  have HK : Hid (PutS W0 X l v w) := h
  have c1 := cell_of_one h.box
  have hXlt := lt_of_block h.box
  have hne : some X ≠ v.ownBlock := fun e => h.ne e.symm
  obtain ⟨i0, hi, hz0, hz1, hz2⟩ := info_parts infoStr
  have HC : Hid (∀ w', Below w.heap.size w w' → Calls Tryz.prog 183 #[.slice p ss.length cap] w' fun e w'' => e = .returned (.string (treeB ss)) ∧ Below w'.heap.size w' w'') := fun w' hb =>
    treeI_any ss.length p cap ss w' rfl (hT.below (h.bel.trans (hb.mono h.bel.size)) hT.1) (hp.below (h.bel.trans (hb.mono h.bel.size))) hn hcap h100
  have hW0 : W0.heap.size ≤ w.heap.size := h.bel.size
  clear h hT hp h100
  generalize treeB ss = T at *
  go_enter Tryz.func182, Tryz.ntmps182
  go_wp2
  go_region_law
    (first
      | (refine step_append_lies _ rfl _ _ 25 rfl W0.heap.size 9 i0 (.string ByteArray.empty) 1 16 Tryz.underlying25 hi hz0 hz1 hz2 rfl (by omega) v l.length (strRow l) rfl (own2.alloc _) ⟨w2.heap.size, 0, none⟩ 1 1 [.string T] rfl rfl (World.news_of_block (cs := #[.string T]) (t := 9) (fr := (0, 0)) (MapKept.heap_alloc w2 _).1) (by simp [Value.oneCell']) (by omega) (by unfold maxLen; omega) (by omega) (by simp; omega) (w2.heap.size + 1) (by simp) ?_; intro g2 cap2 w3 hown2 hgrow hat hltg; have c3 := (hgrow.cell_far ⟨X, 0, none⟩ (by simp; omega) hne).trans c2'; have f3 := (hgrow.frozen_far ⟨X, 0, none⟩ (by simp; omega) hne).trans f2')
      | (go_simp; go_at_call 183; refine (HC.out _ ((Below.refl _ _).drew)).mono ?_; rintro e w2 ⟨rfl, b2⟩; have b2 := chainB ((Below.refl _ _).drew) b2; have P2 := HK.out.below b2; have c2 := cell_of_one P2.box; have own2 := P2.own; have hX2 := lt_of_block P2.box; have hs2 := b2.size; have c2' : (w2.alloc (.cells #[.string T] 9)).cell? ⟨X, 0, none⟩ = some v := (((Below.refl _ _).alloc (Nat.le_refl _) _ : Below w2.heap.size w2 (w2.alloc _)).cell (p := ⟨X, 0, none⟩) hX2).trans c2; have f2' : (w2.alloc (.cells #[.string T] 9)).frozen? ⟨X, 0, none⟩ = false := (((Below.refl _ _).alloc (Nat.le_refl _) _ : Below w2.heap.size w2 (w2.alloc _)).frozen (p := ⟨X, 0, none⟩) hX2).trans (free_of_one P2.box)))
  all_goals
    have B3 : Below W0.heap.size W0 w3 := (P2.bel.alloc P2.bel.size _).grown hgrow (by simp; omega) (fun j hj => (own2.lt j hj).1)
    have X3 : w3.heap[X]? = some (.cells #[v] 25 (0, 0)) := (hgrow.block X (by simp; omega) hne).trans ((Below.heap_alloc _ _ _ hX2).trans P2.box)
    have hgX : g2 ≠ X := by
      rintro rfl
      rcases hat with h | h
      · exact hne h.symm
      · omega
    have hfin : PutS W0 X (l ++ [T]) (.slice (some ⟨g2, 0, none⟩) (l.length + 1) cap2) (w3.setCell ⟨X, 0, none⟩ (.slice (some ⟨g2, 0, none⟩) (l.length + 1) cap2)) := by
      refine ⟨B3.setCell HK.out.hX _, HK.out.hX, by rw [one_setCell X3], ?_⟩
      have e1 : (l ++ [T]).length = l.length + 1 := by simp
      have e2 : strRow (l ++ [T]) = strRow l ++ [.string T] := by simp [strRow]
      rw [e1, e2]
      exact ownsRow_setCell_other hown2 (by simp [Value.ownBlock, hgX]) _
    go_wp2
    go_end0
    exact ⟨rfl, _, hfin⟩
set_option maxHeartbeats 400000 in
theorem all_any (W0 : World) (X : Nat) (l : List ByteArray) (v : Value) (w : World) (h : PutS W0 X l v w) :
    Calls Tryz.prog 184 #[.pointer (some ⟨X, 0, none⟩)] w fun e w' => e = .returned v ∧ w' = w := by
  have c1 := cell_of_one h.box
  clear h
  go_enter Tryz.func184, Tryz.ntmps184
  go_wp2
  go_ret
  exact ⟨rfl, rfl⟩
def putF (X : Nat) : Value := .func (.func 182) #[] #[.pointer (some ⟨X, 0, none⟩)]
def allF (X : Nat) : Value := .func (.func 184) #[] #[.pointer (some ⟨X, 0, none⟩)]
theorem hmfP : ∀ (fn : Fn) (first cap : Array Value) (w : World), (Instr.makeFunc fn first cap).run Tryz.prog w = .ok (.func fn first cap) w := fun _ _ _ _ => rfl
theorem putS_new (w : World) : PutS w w.heap.size [] (.slice none 0 0) (w.alloc (.cells #[.slice none 0 0] 25)) :=
  ⟨(Below.refl _ _).alloc (Nat.le_refl _) _, Nat.le_refl _, (MapKept.heap_alloc w _).1, World.ownsRow_nil _ _ _ _⟩
set_option maxHeartbeats 400000 in
theorem putter_any (w : World) :
    Calls Tryz.prog 156 #[] w fun e w' => e = .returned (.tuple #[putF w.heap.size, allF w.heap.size]) ∧ PutS w w.heap.size [] (.slice none 0 0) w' := by
  have hm := hmfP
  go_enter Tryz.func156, Tryz.ntmps156
  go_wp2
  go_ret2
  exact ⟨rfl, putS_new w⟩
end Go.Proofs.YtonleickhincgaaGreatDoor
/-
  The program's putPath and PathOf: the path of an entry, 'pathA', in new memory of its own.
  Conditions: the slice's cells hold the entries; index is an int64; the two tables lie as the program's text lays them.
-/
namespace Go.Proofs.YtonleickhincgaaGreatDoor
open Go.RowKit Go.Lib
set_option linter.unusedVariables false
set_option maxRecDepth 20000

set_option maxHeartbeats 1000000 in
theorem putPath_any (N : Nat) : ∀ (W0 : World) (X : Nat) (p : Option Addr) (cap : Nat) (ss : List ByteArray) (i : Nat) (l : List ByteArray) (v : Value) (w : World), ss.length = N → Tabs W0 → TxtAt W0 p ss → ss.length ≤ 1024 → ss.length ≤ cap → (∀ x ∈ ss, x.size ≤ 100) →
    i < ss.length → l.length + ss.length ≤ 1048576 → PutS W0 X l v w →
    Calls Tryz.prog 157 #[.slice p ss.length cap, .int .i64 (i : Int), putF X] w fun e w' => e = .returned (.tuple #[]) ∧ ∃ v', PutS W0 X (l ++ pathB ss i) v' w' := by
  induction N using Nat.strongRecOn with
  | _ N ih =>
  intro W0 X p cap ss i l v w hN hT hp hn hcap h100 hi hl hK
  subst hN
  have HT : Hid (Tabs W0) := hT
  have HP : Hid (TxtAt W0 p ss) := hp
  have HX : Hid (∀ x ∈ ss, x.size ≤ 100) := h100
  have HK : Hid (PutS W0 X l v w) := hK
  clear hT hp h100 hK
  unfold putF at ih ⊢
  by_cases h2 : 2 ≤ ss.length
  · obtain ⟨b, off, rfl, hb, _⟩ := HP.out 0 (by omega)
    have h1 := halfN_lt h2
    have h0 := halfN_pos ss.length
    have l1 : (ss.take (halfN ss.length)).length = halfN ss.length := by simp; omega
    have l2 : (ss.drop (halfN ss.length)).length = ss.length - halfN ss.length := by simp
    have hH := fun w => halves_any b off ss.length cap w h2 (by omega) hcap
    by_cases hik : i < halfN ss.length
    · have hlen := pathB_len (ss.take (halfN ss.length)) i (by omega)
      have HB : Hid (l ++ pathB (ss.take (halfN ss.length)) i ++ [treeB (ss.drop (halfN ss.length))] = l ++ pathB ss i) := by
        show _ = _
        rw [pathB_left h2 hik, List.append_assoc]
      have I1 : Hid (∀ w', PutS W0 X l v w' → Calls Tryz.prog 157 #[.slice (some ⟨b, off, none⟩) (halfN ss.length) (halfN ss.length), .int .i64 (i : Int), .func (.func 182) #[] #[.pointer (some ⟨X, 0, none⟩)]] w' fun e w'' => e = .returned (.tuple #[]) ∧ ∃ v', PutS W0 X (l ++ pathB (ss.take (halfN ss.length)) i) v' w'') := by
        intro w' hK
        have := ih _ (by omega) W0 X (some ⟨b, off, none⟩) (halfN ss.length) (ss.take (halfN ss.length)) i l v w' l1 HT.out (HP.out.take _) (by omega) (by omega) (fun x hx => HX.out x (List.mem_of_mem_take hx)) (by omega) (by omega) hK
        rwa [l1] at this
      have I2 : Hid (∀ l' v' w', l'.length ≤ 1048576 → PutS W0 X l' v' w' → Calls Tryz.prog 182 #[.slice (some ⟨b, off + halfN ss.length, none⟩) (ss.length - halfN ss.length) (ss.length - halfN ss.length), .pointer (some ⟨X, 0, none⟩)] w' fun e w'' => e = .returned (.tuple #[]) ∧ ∃ v'', PutS W0 X (l' ++ [treeB (ss.drop (halfN ss.length))]) v'' w'') := by
        intro l' v' w' hl' hK
        have := put_any W0 X l' v' (some ⟨b, off + halfN ss.length, none⟩) (ss.length - halfN ss.length) (ss.drop (halfN ss.length)) w' HT.out (HP.out.drop _) (by omega) (by omega) (fun x hx => HX.out x (List.mem_of_mem_drop hx)) hl' hK
        rwa [l2] at this
      have hll : (l ++ pathB (ss.take (halfN ss.length)) i).length ≤ 1048576 := by rw [List.length_append]; omega
      clear l1 l2 hlen
      generalize l ++ pathB (ss.take (halfN ss.length)) i = Q at *
      generalize treeB (ss.drop (halfN ss.length)) = T2 at *
      generalize halfN ss.length = k at *
      clear ih
      go_enter Tryz.func157, Tryz.ntmps157
      go_wp2_with fail
      refine (hH _).mono ?_
      rintro e w1 ⟨rfl, b1⟩
      go_wp2_with fail
      refine (I1.out _ (HK.out.below b1)).mono ?_
      rintro e w2 ⟨rfl, v2, K2⟩
      have HK2 : Hid (PutS W0 X Q v2 w2) := K2
      clear K2
      go_wp2_with fail
      refine (I2.out Q v2 _ hll HK2.out).mono ?_
      rintro e w3 ⟨rfl, v3, K3⟩
      have HK3 : Hid (PutS W0 X (Q ++ [T2]) v3 w3) := K3
      clear K3
      go_wp2_with fail
      refine bodyPost_ret (results_none rfl _ _ _) rfl ?_
      exact ⟨rfl, v3, by rw [← HB.out]; exact HK3.out⟩
    · have hlen := pathB_len (ss.drop (halfN ss.length)) (i - halfN ss.length) (by omega)
      have HB : Hid (l ++ pathB (ss.drop (halfN ss.length)) (i - halfN ss.length) ++ [treeB (ss.take (halfN ss.length))] = l ++ pathB ss i) := by
        show _ = _
        rw [pathB_right h2 hik, List.append_assoc]
      have I1 : Hid (∀ w', PutS W0 X l v w' → Calls Tryz.prog 157 #[.slice (some ⟨b, off + halfN ss.length, none⟩) (ss.length - halfN ss.length) (ss.length - halfN ss.length), .int .i64 ((i : Int) - (halfN ss.length : Int)), .func (.func 182) #[] #[.pointer (some ⟨X, 0, none⟩)]] w' fun e w'' => e = .returned (.tuple #[]) ∧ ∃ v', PutS W0 X (l ++ pathB (ss.drop (halfN ss.length)) (i - halfN ss.length)) v' w'') := by
        intro w' hK
        have := ih _ (by omega) W0 X (some ⟨b, off + halfN ss.length, none⟩) (ss.length - halfN ss.length) (ss.drop (halfN ss.length)) (i - halfN ss.length) l v w' l2 HT.out (HP.out.drop _) (by omega) (by omega) (fun x hx => HX.out x (List.mem_of_mem_drop hx)) (by omega) (by omega) hK
        rw [l2, show ((i - halfN ss.length : Nat) : Int) = (i : Int) - (halfN ss.length : Int) by omega] at this
        exact this
      have I2 : Hid (∀ l' v' w', l'.length ≤ 1048576 → PutS W0 X l' v' w' → Calls Tryz.prog 182 #[.slice (some ⟨b, off, none⟩) (halfN ss.length) (halfN ss.length), .pointer (some ⟨X, 0, none⟩)] w' fun e w'' => e = .returned (.tuple #[]) ∧ ∃ v'', PutS W0 X (l' ++ [treeB (ss.take (halfN ss.length))]) v'' w'') := by
        intro l' v' w' hl' hK
        have := put_any W0 X l' v' (some ⟨b, off, none⟩) (halfN ss.length) (ss.take (halfN ss.length)) w' HT.out (HP.out.take _) (by omega) (by omega) (fun x hx => HX.out x (List.mem_of_mem_take hx)) hl' hK
        rwa [l1] at this
      have hll : (l ++ pathB (ss.drop (halfN ss.length)) (i - halfN ss.length)).length ≤ 1048576 := by rw [List.length_append]; omega
      clear l1 l2 hlen
      generalize l ++ pathB (ss.drop (halfN ss.length)) (i - halfN ss.length) = Q at *
      generalize treeB (ss.take (halfN ss.length)) = T2 at *
      generalize halfN ss.length = k at *
      clear ih
      go_enter Tryz.func157, Tryz.ntmps157
      go_wp2_with fail
      refine (hH _).mono ?_
      rintro e w1 ⟨rfl, b1⟩
      go_wp2_with fail
      refine (I1.out _ (HK.out.below b1)).mono ?_
      rintro e w2 ⟨rfl, v2, K2⟩
      have HK2 : Hid (PutS W0 X Q v2 w2) := K2
      clear K2
      go_wp2_with fail
      refine (I2.out Q v2 _ hll HK2.out).mono ?_
      rintro e w3 ⟨rfl, v3, K3⟩
      have HK3 : Hid (PutS W0 X (Q ++ [T2]) v3 w3) := K3
      clear K3
      go_wp2_with fail
      go_end0
      exact ⟨rfl, v3, by rw [← HB.out]; exact HK3.out⟩
  · have h1 : (ss.length : Int) = 1 := by omega
    have HB : Hid (l ++ pathB ss i = l) := by show _ = _; rw [pathB_one h2, List.append_nil]
    clear ih
    go_enter Tryz.func157, Tryz.ntmps157
    go_wp2
    refine bodyPost_ret (results_none rfl _ _ _) rfl ?_
    exact ⟨rfl, v, by rw [HB.out]; exact HK.out⟩

set_option maxHeartbeats 1000000 in
theorem implPath_any (p : Option Addr) (cap : Nat) (ss : List ByteArray) (i : Int) (w : World) (hT : Tabs w) (hp : TxtAt w p ss) (hn : ss.length ≤ 140737488355328) (hcap : ss.length ≤ cap) (i0 : -9223372036854775808 ≤ i) (i1 : i ≤ 9223372036854775807) :
    Calls Tryz.prog 104 #[.slice p ss.length cap, .int .i64 i] w fun e w' => ∃ v, e = .returned v ∧ w'.ownsRow w.heap.size 9 1 v (pathA ss i).length (strRow (pathA ss i)) ∧ Below w.heap.size w w' := by
  have HT : Hid (Tabs w) := hT
  have HP : Hid (TxtAt w p ss) := hp
  clear hT hp
  have hr := entR_any p cap ss w HP.out hn hcap
  have H0 : Hid (pathA ss i = if entB ss = true ∧ 0 ≤ i ∧ i < ss.length then pathB ss i.toNat else []) := rfl
  cases he : entB ss
  · rw [he] at hr
    have H : Hid (pathA ss i = []) := H0.out.trans (if_neg fun h => by rw [he] at h; exact absurd h.1 (by simp))
    clear he
    go_enter Tryz.func104, Tryz.ntmps104
    go_wp2_with fail
    refine hr.mono ?_
    rintro e w1 ⟨rfl, rfl⟩
    go_wp2_with fail
    go_ret
    exact ⟨_, rfl, by rw [H.out]; exact World.ownsRow_nil _ _ _ _, Below.refl _ _⟩
  by_cases c1 : 0 ≤ i
  case neg =>
    rw [he] at hr
    have d1 : decide (i < 0) = true := decide_eq_true (by omega)
    have H : Hid (pathA ss i = []) := H0.out.trans (if_neg fun h => c1 h.2.1)
    clear he
    go_enter Tryz.func104, Tryz.ntmps104
    go_wp2_with fail
    refine hr.mono ?_
    rintro e w1 ⟨rfl, rfl⟩
    go_wp2_with fail
    go_ret
    exact ⟨_, rfl, by rw [H.out]; exact World.ownsRow_nil _ _ _ _, Below.refl _ _⟩
  have d1 : decide (i < 0) = false := decide_eq_false (by omega)
  by_cases c2 : i < ss.length
  case neg =>
    rw [he] at hr
    have d2 : decide ((ss.length : Int) ≤ i) = true := decide_eq_true (by omega)
    have H : Hid (pathA ss i = []) := H0.out.trans (if_neg fun h => c2 h.2.2)
    clear he
    go_enter Tryz.func104, Tryz.ntmps104
    go_wp2_with fail
    refine hr.mono ?_
    rintro e w1 ⟨rfl, rfl⟩
    go_wp2_with fail
    go_ret
    exact ⟨_, rfl, by rw [H.out]; exact World.ownsRow_nil _ _ _ _, Below.refl _ _⟩
  have d2 : decide ((ss.length : Int) ≤ i) = false := decide_eq_false (by omega)
  have H : Hid (pathA ss i = pathB ss i.toNat) := H0.out.trans (if_pos ⟨he, c1, c2⟩)
  have h100 := entB_all he
  have h64 := entB_len he
  rw [he] at hr
  obtain ⟨I, rfl⟩ := Int.eq_ofNat_of_zero_le c1
  rw [Int.toNat_natCast] at H
  have d3 : decide (ss.length ≤ I) = false := decide_eq_false (by omega)
  have HPP : Hid (∀ w', PutS w w.heap.size [] (.slice none 0 0) w' → Calls Tryz.prog 157 #[.slice p ss.length cap, .int .i64 (I : Int), .func (.func 182) #[] #[.pointer (some ⟨w.heap.size, 0, none⟩)]] w' fun e w'' => e = .returned (.tuple #[]) ∧ ∃ v', PutS w w.heap.size (pathA ss I) v' w'') := by
    intro w' hK
    have := putPath_any ss.length w w.heap.size p cap ss I [] _ w' rfl HT.out HP.out (by omega) hcap h100 (by omega) (by simp; omega) hK
    rw [List.nil_append, ← H.out] at this
    exact this
  have HTK := putter_any w
  unfold putF allF at HTK
  clear he h100 H0 H
  generalize pathA ss (I : Int) = R at *
  go_enter Tryz.func104, Tryz.ntmps104
  go_wp2_with fail
  refine hr.mono ?_
  rintro e w1 ⟨rfl, hw1⟩
  subst hw1
  go_wp2_with fail
  refine HTK.mono ?_
  rintro e w2 ⟨rfl, K2⟩
  have HK2 : Hid (PutS w1 w1.heap.size [] (.slice none 0 0) w2) := K2
  clear K2
  go_wp2_with fail
  refine (HPP.out _ HK2.out).mono ?_
  rintro e w3 ⟨rfl, v3, K3⟩
  have HK3 : Hid (PutS w1 w1.heap.size R v3 w3) := K3
  clear K3
  go_wp2_with fail
  refine (all_any w1 w1.heap.size R v3 w3 HK3.out).mono ?_
  rintro e w4 ⟨rfl, hw4⟩
  subst hw4
  go_wp2_with fail
  go_ret
  exact ⟨_, rfl, HK3.out.own, HK3.out.bel⟩
end Go.Proofs.YtonleickhincgaaGreatDoor
