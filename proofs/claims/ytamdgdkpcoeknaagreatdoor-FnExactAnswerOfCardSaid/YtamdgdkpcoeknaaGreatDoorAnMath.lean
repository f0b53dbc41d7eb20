/-
  What AnswerOf answers (plain), and its box.
-/
import Derived.Test.YtamdgdkpcoeknaaGreatDoorRows
import Derived.Test.YtamdgdkpcoeknaaGreatDoorBytesDigMath
import Derived.Test.YtamdgdkpcoeknaaGreatDoorTreeMathSlASlBBxKOwnS
import Derived.Test.YtamdgdkpcoeknaaGreatDoorLawLmLgAnsLgRtTakesL
import Derived.Test.YtamdgdkpcoeknaaGreatDoorFldIsTimeIGrKSpecGNSpecGTTillTwoFldN
import Derived.Test.YtamdgdkpcoeknaaGreatDoorTimeBPutMathPutNumJoinedPutTextFldMath
import Derived.Test.YtamdgdkpcoeknaaGreatDoorFldGShwKFldHPathMathFldRiseScanMath
import Derived.Test.YtamdgdkpcoeknaaGreatDoorGetValGetTxtNumMathFldRdNumFromTmbMath
import Derived.Test.YtamdgdkpcoeknaaGreatDoorLgMathLgAtKOneKFldBlkRwBlkTakes
import Derived.Test.YtamdgdkpcoeknaaGreatDoorPrfLs
import Derived.Handy
import Derived.OwnWalk
namespace Go.Proofs.YtamdgdkpcoeknaaGreatDoor
open Go.RowKit Go.Lib
set_option linter.unusedVariables false
set_option maxRecDepth 20000

theorem pl_in (rs : List Rw) (now : Int) (all : List ByteArray) (row : Nat) (hr : row < rs.length) : ∀ (ts : List ByteArray) (i n : Nat), lvGo rs now all i n ts = true → n ≤ row → ∃ K : Nat, plFrom (row : Int) n i ts = (K : Int) ∧ i ≤ K ∧ K < i + ts.length
  | [], i, n, h, hn => by simp [lvGo] at h; omega
  | t :: ts, i, n, h, hn => by
    rw [lvGo] at h
    rw [plFrom]
    by_cases hx : isNx rs n t = true
    · rw [if_pos hx] at h
      have hrl : isRl t = true := by rw [((nx_iff rs n t).1 hx).2]; exact rl_isRl _
      rw [if_pos hrl]
      by_cases he : (n : Int) = (row : Int)
      · rw [if_pos he]; exact ⟨i, rfl, Nat.le_refl _, by simp⟩
      · rw [if_neg he]
        obtain ⟨K, h1, h2, h3⟩ := pl_in rs now all row hr ts (i + 1) (n + 1) h (by omega)
        exact ⟨K, h1, by omega, by simp only [List.length_cons]; omega⟩
    · rw [if_neg hx] at h
      by_cases ho : tbOk rs now all i n t = true
      · rw [if_pos ho] at h
        have hc : trC t = 0 := by unfold tbOk at ho; simp only [Bool.and_eq_true, decide_eq_true_eq] at ho; exact ho.1
        have hrl : ¬ isRl t = true := by rw [tr_not_rl hc]; simp
        rw [if_neg hrl]
        obtain ⟨K, h1, h2, h3⟩ := pl_in rs now all row hr ts (i + 1) n h hn
        exact ⟨K, h1, by omega, by simp only [List.length_cons]; omega⟩
      · rw [if_neg ho] at h; cases h
theorem tb_in (r f : Int) : ∀ (lv : List ByteArray) (i : Nat), hitIn lv r f = true → ∃ K : Nat, tbFrom r f i lv = (K : Int) ∧ i ≤ K ∧ K < i + lv.length
  | [], i, h => by simp [hitIn] at h
  | t :: ts, i, h => by
    rw [tbFrom]
    by_cases ht : tmHit r f t = true
    · rw [if_pos ht]; exact ⟨i, rfl, Nat.le_refl _, by simp⟩
    · rw [if_neg ht]
      have h2 : hitIn ts r f = true := by unfold hitIn at h ⊢; rw [List.any_cons] at h; simpa [ht] using h
      obtain ⟨K, h1, h3, h4⟩ := tb_in r f ts (i + 1) h2
      exact ⟨K, h1, by omega, by simp only [List.length_cons]; omega⟩
theorem lg_go {rs : List Rw} {lv : List ByteArray} {now : Int} (h : lgB rs lv now = true) : lvGo rs now lv 0 0 lv = true ∧ allB rs lv = true := by
  unfold lgB at h
  simp only [Bool.and_eq_true, decide_eq_true_eq] at h
  exact h.2.2.2.2
theorem pl_there {rs : List Rw} {lv : List ByteArray} {now : Int} (h : lgB rs lv now = true) {I : Nat} (hI : I < rs.length) : ∃ K : Nat, plB lv (I : Int) = (K : Int) ∧ K < lv.length := by
  obtain ⟨K, h1, -, h3⟩ := pl_in rs now lv I hI lv 0 0 (lg_go h).1 (Nat.zero_le _)
  exact ⟨K, h1, by omega⟩
theorem tb_there {rs : List Rw} {lv : List ByteArray} {now : Int} (h : lgB rs lv now = true) {I J : Nat} (hg : (fldOf rs (I : Int) (J : Int)).g = true) : ∃ K : Nat, tbAt lv (I : Int) (J : Int) = (K : Int) ∧ K < lv.length := by
  have := (allB_iff rs lv).1 (lg_go h).2 I J hg
  obtain ⟨K, h1, -, h3⟩ := tb_in (I : Int) (J : Int) lv 0 this
  exact ⟨K, h1, by omega⟩
/-- A field that is there or forgotten lies in a row that is there. -/
theorem fc_in {rs : List Rw} {r f : Int} (h : fcO rs r f = 0 ∨ fcO rs r f = 7) : ∃ (I J : Nat) (hI : I < rs.length), r = (I : Int) ∧ f = (J : Int) ∧ (fcO rs r f = 7 → (fldOf rs (I : Int) (J : Int)).g = true) := by
  unfold fcO at h ⊢
  by_cases h1 : 0 ≤ r ∧ r ≤ (rs.length : Int) - 1
  · by_cases h2 : 0 ≤ f ∧ f ≤ ((rs.getD r.toNat rwZ).fs.length : Int) - 1
    · obtain ⟨I, rfl⟩ : ∃ I : Nat, r = (I : Int) := ⟨r.toNat, by omega⟩
      obtain ⟨J, rfl⟩ : ∃ J : Nat, f = (J : Int) := ⟨f.toNat, by omega⟩
      refine ⟨I, J, by omega, rfl, rfl, fun h => ?_⟩
      rw [if_pos h1, if_pos h2] at h
      by_cases hg : (fldOf rs (I : Int) (J : Int)).g = true
      · exact hg
      · rw [if_neg hg] at h; omega
    · rw [if_pos h1, if_neg h2] at h; omega
  · rw [if_neg h1] at h; omega
/-- An answer, plain. -/
structure Ans where
  l1 : ByteArray
  i1 : Int
  s1 : Int
  p1 : List ByteArray
  sh : Shw
  l2 : ByteArray
  i2 : Int
  s2 : Int
  p2 : List ByteArray
def shwN : Shw := ⟨⟨#[]⟩, 0, [], [], 0, ⟨#[]⟩, ⟨#[]⟩⟩
def ansZ : Ans := ⟨⟨#[]⟩, 0, 0, [], shwN, ⟨#[]⟩, 0, 0, []⟩
def anRow (rs : List Rw) (lv : List ByteArray) (now r f : Int) : Ans := ⟨pfL rs lv now (plB lv r), pfI rs lv now (plB lv r), pfS rs lv now (plB lv r), pfP rs lv now (plB lv r), shO (rs.getD r.toNat rwZ).k (rs.getD r.toNat rwZ).a (rs.getD r.toNat rwZ).fs f, ⟨#[]⟩, 0, 0, []⟩
def anTmb (rs : List Rw) (lv : List ByteArray) (now r f : Int) : Ans := ⟨pfL rs lv now (plB lv r), pfI rs lv now (plB lv r), pfS rs lv now (plB lv r), pfP rs lv now (plB lv r), shwN, pfL rs lv now (tbAt lv r f), pfI rs lv now (tbAt lv r f), pfS rs lv now (tbAt lv r f), pfP rs lv now (tbAt lv r f)⟩
def anO (rs : List Rw) (lv : List ByteArray) (now r f : Int) : Ans := if lgB rs lv now = true then (if fcO rs r f = 0 then anRow rs lv now r f else if fcO rs r f = 7 then anTmb rs lv now r f else ansZ) else ansZ
/-- Two blocks are apart. -/
def Aprt (v v' : Value) : Prop := ∀ g, v.ownBlock = some g → v'.ownBlock ≠ some g
def StrO (base : Nat) (l : List ByteArray) (v : Value) (w : World) : Prop := w.ownsRow base 9 1 v l.length (strRow l)
theorem StrO.nil (base : Nat) (w : World) : StrO base [] (.slice none 0 0) w := World.ownsRow_nil _ _ _ _
theorem StrO.below {base : Nat} {l : List ByteArray} {v : Value} {w y : World} (h : StrO base l v w) (hb : Below w.heap.size w y) : StrO base l v y := ownS_below h hb
theorem StrO.mono {base base' : Nat} {l : List ByteArray} {v : Value} {w : World} (h : StrO base l v w) (hb : base' ≤ base) : StrO base' l v w := ownS_mono h hb
theorem StrO.apart {b1 : Nat} {l l' : List ByteArray} {v v' : Value} {w y : World} (h : StrO b1 l v w) (h' : StrO w.heap.size l' v' y) : Aprt v v' := fun g hg hg' => by have h1 := (h.lt g hg).2; have h2 := (h'.lt g hg').1; omega
theorem Aprt.symm {v v' : Value} (h : Aprt v v') : Aprt v' v := fun g hg hg' => h g hg' hg
theorem Aprt.nil (v : Value) : Aprt v (.slice none 0 0) := fun g _ h => by cases h
/-- The answer's four rows of texts are its own, and apart. -/
structure AnsO (base : Nat) (o : Ans) (v1 v2 v3 v4 : Value) (w : World) : Prop where
  o1 : StrO base o.p1 v1 w
  o2 : StrO base o.sh.ns v2 w
  o3 : StrO base o.sh.cs v3 w
  o4 : StrO base o.p2 v4 w
  a12 : Aprt v1 v2
  a13 : Aprt v1 v3
  a14 : Aprt v1 v4
  a23 : Aprt v2 v3
  a24 : Aprt v2 v4
  a34 : Aprt v3 v4
theorem AnsO.nil (base : Nat) (w : World) : AnsO base ansZ (.slice none 0 0) (.slice none 0 0) (.slice none 0 0) (.slice none 0 0) w :=
  ⟨.nil _ _, .nil _ _, .nil _ _, .nil _ _, .nil _, .nil _, .nil _, .nil _, .nil _, .nil _⟩
theorem AnsO.below {base : Nat} {o : Ans} {v1 v2 v3 v4 : Value} {w y : World} (h : AnsO base o v1 v2 v3 v4 w) (hb : Below w.heap.size w y) : AnsO base o v1 v2 v3 v4 y :=
  ⟨h.o1.below hb, h.o2.below hb, h.o3.below hb, h.o4.below hb, h.a12, h.a13, h.a14, h.a23, h.a24, h.a34⟩
theorem AnsO.mono {base base' : Nat} {o : Ans} {v1 v2 v3 v4 : Value} {w : World} (h : AnsO base o v1 v2 v3 v4 w) (hb : base' ≤ base) : AnsO base' o v1 v2 v3 v4 w :=
  ⟨h.o1.mono hb, h.o2.mono hb, h.o3.mono hb, h.o4.mono hb, h.a12, h.a13, h.a14, h.a23, h.a24, h.a34⟩
def anC (o : Ans) (v1 v2 v3 v4 : Value) : Array Value := #[.string o.l1, .int .i64 o.i1, .int .i64 o.s1, v1, .string o.sh.k, .int .i64 o.sh.at_, v2, v3, .int .i64 o.sh.ix, .string o.sh.s, .string o.sh.v, .string o.l2, .int .i64 o.i2, .int .i64 o.s2, v4]
def AnA (base : Nat) (o : Ans) (e : Ending) (w : World) : Prop := ∃ v1 v2 v3 v4, e = .returned (.agg (anC o v1 v2 v3 v4)) ∧ AnsO base o v1 v2 v3 v4 w
/-- The log's box and the answer's, as AnswerOf begins. -/
structure AnB (w : World) (q : Option Addr) (n cq : Nat) (p : Option Addr) (m cp : Nat) (now : Int) (x : World) : Prop where
  lg : Bxs x w.heap.size 36 #[.slice q n cq, .slice p m cp, .int .i64 now]
  rs : Bxs x (w.heap.size + 1) 32 #[.string ⟨#[]⟩, .int .i64 0, .int .i64 0, .slice none 0 0, .string ⟨#[]⟩, .int .i64 0, .slice none 0 0, .slice none 0 0, .int .i64 0, .string ⟨#[]⟩, .string ⟨#[]⟩, .string ⟨#[]⟩, .int .i64 0, .int .i64 0, .slice none 0 0]
  bel : Below w.heap.size w x
  big : w.heap.size + 2 ≤ x.heap.size
theorem AnB.below {w x y : World} {q : Option Addr} {n cq : Nat} {p : Option Addr} {m cp : Nat} {now : Int} (h : AnB w q n cq p m cp now x) (hb : Below x.heap.size x y) : AnB w q n cq p m cp now y := ⟨h.lg.below hb, h.rs.below hb, chainB h.bel hb, Nat.le_trans h.big hb.size⟩
theorem AnB.thr {w x : World} {q : Option Addr} {n cq : Nat} {p : Option Addr} {m cp : Nat} {now : Int} (h : AnB w q n cq p m cp now x) : x.cell? ⟨w.heap.size, 0, none⟩ = some (.slice q n cq) ∧ x.cell? ⟨w.heap.size, 1, none⟩ = some (.slice p m cp) ∧ x.cell? ⟨w.heap.size, 2, none⟩ = some (.int .i64 now) := ⟨h.lg.cell 0, h.lg.cell 1, h.lg.cell 2⟩
theorem AnB.res {w x : World} {q : Option Addr} {n cq : Nat} {p : Option Addr} {m cp : Nat} {now : Int} (h : AnB w q n cq p m cp now x) : x.cell? ⟨w.heap.size + 1, 0, none⟩ = some (.string ⟨#[]⟩) ∧ x.cell? ⟨w.heap.size + 1, 1, none⟩ = some (.int .i64 0) ∧ x.cell? ⟨w.heap.size + 1, 2, none⟩ = some (.int .i64 0) ∧ x.cell? ⟨w.heap.size + 1, 3, none⟩ = some (.slice none 0 0) ∧ x.cell? ⟨w.heap.size + 1, 4, none⟩ = some (.string ⟨#[]⟩) ∧ x.cell? ⟨w.heap.size + 1, 5, none⟩ = some (.int .i64 0) ∧ x.cell? ⟨w.heap.size + 1, 6, none⟩ = some (.slice none 0 0) ∧ x.cell? ⟨w.heap.size + 1, 7, none⟩ = some (.slice none 0 0) ∧ x.cell? ⟨w.heap.size + 1, 8, none⟩ = some (.int .i64 0) ∧ x.cell? ⟨w.heap.size + 1, 9, none⟩ = some (.string ⟨#[]⟩) ∧ x.cell? ⟨w.heap.size + 1, 10, none⟩ = some (.string ⟨#[]⟩) ∧ x.cell? ⟨w.heap.size + 1, 11, none⟩ = some (.string ⟨#[]⟩) ∧ x.cell? ⟨w.heap.size + 1, 12, none⟩ = some (.int .i64 0) ∧ x.cell? ⟨w.heap.size + 1, 13, none⟩ = some (.int .i64 0) ∧ x.cell? ⟨w.heap.size + 1, 14, none⟩ = some (.slice none 0 0) ∧ x.frozen? ⟨w.heap.size + 1, 0, none⟩ = false ∧ x.frozen? ⟨w.heap.size + 1, 1, none⟩ = false ∧ x.frozen? ⟨w.heap.size + 1, 2, none⟩ = false ∧ x.frozen? ⟨w.heap.size + 1, 3, none⟩ = false ∧ x.frozen? ⟨w.heap.size + 1, 4, none⟩ = false ∧ x.frozen? ⟨w.heap.size + 1, 5, none⟩ = false ∧ x.frozen? ⟨w.heap.size + 1, 6, none⟩ = false ∧ x.frozen? ⟨w.heap.size + 1, 7, none⟩ = false ∧ x.frozen? ⟨w.heap.size + 1, 8, none⟩ = false ∧ x.frozen? ⟨w.heap.size + 1, 9, none⟩ = false ∧ x.frozen? ⟨w.heap.size + 1, 10, none⟩ = false ∧ x.frozen? ⟨w.heap.size + 1, 11, none⟩ = false ∧ x.frozen? ⟨w.heap.size + 1, 12, none⟩ = false ∧ x.frozen? ⟨w.heap.size + 1, 13, none⟩ = false ∧ x.frozen? ⟨w.heap.size + 1, 14, none⟩ = false := ⟨h.rs.cell 0, h.rs.cell 1, h.rs.cell 2, h.rs.cell 3, h.rs.cell 4, h.rs.cell 5, h.rs.cell 6, h.rs.cell 7, h.rs.cell 8, h.rs.cell 9, h.rs.cell 10, h.rs.cell 11, h.rs.cell 12, h.rs.cell 13, h.rs.cell 14, h.rs.fr 0, h.rs.fr 1, h.rs.fr 2, h.rs.fr 3, h.rs.fr 4, h.rs.fr 5, h.rs.fr 6, h.rs.fr 7, h.rs.fr 8, h.rs.fr 9, h.rs.fr 10, h.rs.fr 11, h.rs.fr 12, h.rs.fr 13, h.rs.fr 14⟩
theorem StrO.set {base : Nat} {l : List ByteArray} {v : Value} {w : World} (h : StrO base l v w) {g : Nat} (hg : g < base) (i : Nat) (u : Value) : StrO base l v (w.setCell ⟨g, i, none⟩ u) :=
  ownS_but h ((But.refl (fun k => k = g) w).put (p := ⟨g, i, none⟩) rfl u) (fun j hj e => by have := (h.lt j hj).1; omega)
theorem AnsO.set {base : Nat} {o : Ans} {v1 v2 v3 v4 : Value} {w : World} (h : AnsO base o v1 v2 v3 v4 w) {g : Nat} (hg : g < base) (i : Nat) (u : Value) : AnsO base o v1 v2 v3 v4 (w.setCell ⟨g, i, none⟩ u) :=
  ⟨h.o1.set hg i u, h.o2.set hg i u, h.o3.set hg i u, h.o4.set hg i u, h.a12, h.a13, h.a14, h.a23, h.a24, h.a34⟩
/-- The answer is written into its box. -/
theorem AnB.put {w x : World} {q : Option Addr} {n cq : Nat} {p : Option Addr} {m cp : Nat} {now : Int} (h : AnB w q n cq p m cp now x) {o : Ans} {v1 v2 v3 v4 : Value} (own : AnsO (w.heap.size + 2) o v1 v2 v3 v4 x) (u0 u1 u2 u3 u4 u5 u6 u7 u8 u9 u10 u11 u12 u13 u14 : Value) :
    Bxs (((((((((((((((x.setCell ⟨w.heap.size + 1, 0, none⟩ u0).setCell ⟨w.heap.size + 1, 1, none⟩ u1).setCell ⟨w.heap.size + 1, 2, none⟩ u2).setCell ⟨w.heap.size + 1, 3, none⟩ u3).setCell ⟨w.heap.size + 1, 4, none⟩ u4).setCell ⟨w.heap.size + 1, 5, none⟩ u5).setCell ⟨w.heap.size + 1, 6, none⟩ u6).setCell ⟨w.heap.size + 1, 7, none⟩ u7).setCell ⟨w.heap.size + 1, 8, none⟩ u8).setCell ⟨w.heap.size + 1, 9, none⟩ u9).setCell ⟨w.heap.size + 1, 10, none⟩ u10).setCell ⟨w.heap.size + 1, 11, none⟩ u11).setCell ⟨w.heap.size + 1, 12, none⟩ u12).setCell ⟨w.heap.size + 1, 13, none⟩ u13).setCell ⟨w.heap.size + 1, 14, none⟩ u14) (w.heap.size + 1) 32 #[u0, u1, u2, u3, u4, u5, u6, u7, u8, u9, u10, u11, u12, u13, u14] ∧ AnsO w.heap.size o v1 v2 v3 v4 (((((((((((((((x.setCell ⟨w.heap.size + 1, 0, none⟩ u0).setCell ⟨w.heap.size + 1, 1, none⟩ u1).setCell ⟨w.heap.size + 1, 2, none⟩ u2).setCell ⟨w.heap.size + 1, 3, none⟩ u3).setCell ⟨w.heap.size + 1, 4, none⟩ u4).setCell ⟨w.heap.size + 1, 5, none⟩ u5).setCell ⟨w.heap.size + 1, 6, none⟩ u6).setCell ⟨w.heap.size + 1, 7, none⟩ u7).setCell ⟨w.heap.size + 1, 8, none⟩ u8).setCell ⟨w.heap.size + 1, 9, none⟩ u9).setCell ⟨w.heap.size + 1, 10, none⟩ u10).setCell ⟨w.heap.size + 1, 11, none⟩ u11).setCell ⟨w.heap.size + 1, 12, none⟩ u12).setCell ⟨w.heap.size + 1, 13, none⟩ u13).setCell ⟨w.heap.size + 1, 14, none⟩ u14) ∧ Below w.heap.size w (((((((((((((((x.setCell ⟨w.heap.size + 1, 0, none⟩ u0).setCell ⟨w.heap.size + 1, 1, none⟩ u1).setCell ⟨w.heap.size + 1, 2, none⟩ u2).setCell ⟨w.heap.size + 1, 3, none⟩ u3).setCell ⟨w.heap.size + 1, 4, none⟩ u4).setCell ⟨w.heap.size + 1, 5, none⟩ u5).setCell ⟨w.heap.size + 1, 6, none⟩ u6).setCell ⟨w.heap.size + 1, 7, none⟩ u7).setCell ⟨w.heap.size + 1, 8, none⟩ u8).setCell ⟨w.heap.size + 1, 9, none⟩ u9).setCell ⟨w.heap.size + 1, 10, none⟩ u10).setCell ⟨w.heap.size + 1, 11, none⟩ u11).setCell ⟨w.heap.size + 1, 12, none⟩ u12).setCell ⟨w.heap.size + 1, 13, none⟩ u13).setCell ⟨w.heap.size + 1, 14, none⟩ u14) :=
  ⟨by have k := ((((((((((((((h.rs.set 0 u0).set 1 u1).set 2 u2).set 3 u3).set 4 u4).set 5 u5).set 6 u6).set 7 u7).set 8 u8).set 9 u9).set 10 u10).set 11 u11).set 12 u12).set 13 u13).set 14 u14; simp only [List.setIfInBounds_toArray, List.set_cons_zero, List.set_cons_succ] at k; exact k, (((((((((((((((own.set (Nat.lt_succ_self _) 0 _).set (Nat.lt_succ_self _) 1 _).set (Nat.lt_succ_self _) 2 _).set (Nat.lt_succ_self _) 3 _).set (Nat.lt_succ_self _) 4 _).set (Nat.lt_succ_self _) 5 _).set (Nat.lt_succ_self _) 6 _).set (Nat.lt_succ_self _) 7 _).set (Nat.lt_succ_self _) 8 _).set (Nat.lt_succ_self _) 9 _).set (Nat.lt_succ_self _) 10 _).set (Nat.lt_succ_self _) 11 _).set (Nat.lt_succ_self _) 12 _).set (Nat.lt_succ_self _) 13 _).set (Nat.lt_succ_self _) 14 _).mono (by omega), ((((((((((((((h.bel.setCell (p := ⟨w.heap.size + 1, 0, none⟩) (by simp) _).setCell (p := ⟨w.heap.size + 1, 1, none⟩) (by simp) _).setCell (p := ⟨w.heap.size + 1, 2, none⟩) (by simp) _).setCell (p := ⟨w.heap.size + 1, 3, none⟩) (by simp) _).setCell (p := ⟨w.heap.size + 1, 4, none⟩) (by simp) _).setCell (p := ⟨w.heap.size + 1, 5, none⟩) (by simp) _).setCell (p := ⟨w.heap.size + 1, 6, none⟩) (by simp) _).setCell (p := ⟨w.heap.size + 1, 7, none⟩) (by simp) _).setCell (p := ⟨w.heap.size + 1, 8, none⟩) (by simp) _).setCell (p := ⟨w.heap.size + 1, 9, none⟩) (by simp) _).setCell (p := ⟨w.heap.size + 1, 10, none⟩) (by simp) _).setCell (p := ⟨w.heap.size + 1, 11, none⟩) (by simp) _).setCell (p := ⟨w.heap.size + 1, 12, none⟩) (by simp) _).setCell (p := ⟨w.heap.size + 1, 13, none⟩) (by simp) _).setCell (p := ⟨w.heap.size + 1, 14, none⟩) (by simp) _⟩
theorem an_boxes (w : World) (q : Option Addr) (n cq : Nat) (p : Option Addr) (m cp : Nat) (now : Int) {W2 : World} (h : W2 = (w.alloc (.cells #[.slice q n cq, .slice p m cp, .int .i64 now] 36)).alloc (.cells #[.string ⟨#[]⟩, .int .i64 0, .int .i64 0, .slice none 0 0, .string ⟨#[]⟩, .int .i64 0, .slice none 0 0, .slice none 0 0, .int .i64 0, .string ⟨#[]⟩, .string ⟨#[]⟩, .string ⟨#[]⟩, .int .i64 0, .int .i64 0, .slice none 0 0] 32)) : AnB w q n cq p m cp now W2 := by
  subst h
  have h := Bxs.new (w.alloc (.cells #[.slice q n cq, .slice p m cp, .int .i64 now] 36)) 32 #[.string ⟨#[]⟩, .int .i64 0, .int .i64 0, .slice none 0 0, .string ⟨#[]⟩, .int .i64 0, .slice none 0 0, .slice none 0 0, .int .i64 0, .string ⟨#[]⟩, .string ⟨#[]⟩, .string ⟨#[]⟩, .int .i64 0, .int .i64 0, .slice none 0 0]
  rw [szA] at h
  exact ⟨(Bxs.new _ _ _).alloc _, h, alB ((Below.refl _ _).alloc (Nat.le_refl _) _) _, by simp⟩
end Go.Proofs.YtamdgdkpcoeknaaGreatDoor
