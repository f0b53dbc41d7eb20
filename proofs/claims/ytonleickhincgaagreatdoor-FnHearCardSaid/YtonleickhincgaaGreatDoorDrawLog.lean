/-
  What l09Log draws: a log of its own memory, of few rows and leaves.
  Conditions: the source is one ('Src').
-/
import Derived.Test.YtonleickhincgaaGreatDoorRows
import Derived.Test.YtonleickhincgaaGreatDoorBytesDigMath
import Derived.Test.YtonleickhincgaaGreatDoorTreeMathSlABxKSlBOwnS
import Derived.Test.YtonleickhincgaaGreatDoorShwKOwnBPadIMacMathSgnBDigITurn2
import Derived.Test.YtonleickhincgaaGreatDoorMac2AppSSrcDrawsDrawKitSomeIsInSignSSignDWide2StepAppPath2DigestDrawTreeSpoil
import Derived.Test.YtonleickhincgaaGreatDoorLgLawTakesTakesLPutterPathI
import Derived.Test.YtonleickhincgaaGreatDoorFldIsTimeIGrKSpecGNSpecGTTillTwoFldN
import Derived.Test.YtonleickhincgaaGreatDoorTakesNDrawFldFldOMFldO
import Derived.Test.YtonleickhincgaaGreatDoorTimeBPutMathPutNumJoinedPutTextFldMath
import Derived.Test.YtonleickhincgaaGreatDoorLgAtKLgAnsLgRtAudMathHdMathClaMathHearMathFldGOneKFldBlkRwBlkRowOps
import Derived.Test.YtonleickhincgaaGreatDoorImplVerInc2SignRSignWFldRiseScanMath
import Derived.Test.YtonleickhincgaaGreatDoorNameRight
import Derived.Test.YtonleickhincgaaGreatDoorDrawRowFldF
import Derived.Test.YtonleickhincgaaGreatDoorGetValGetTxtNumMathFldRdNumFromTmbMathLgMath
import Derived.Test.YtonleickhincgaaGreatDoorLgOLtMathLfMathLaMath
import Derived.Test.YtonleickhincgaaGreatDoorLaSSpecPlLfF
import Derived.Test.YtonleickhincgaaGreatDoorLfSDrawLoDrawLoMSpoilT
import Derived.Test.YtonleickhincgaaGreatDoorSpecClLtSLaB
import Derived.Test.YtonleickhincgaaGreatDoorDrawSmDrawTb
import Derived.Test.YtonleickhincgaaGreatDoorFldTbFldTrImplFCBlNot
import Derived.Handy
import Derived.WalkSpells
import Derived.OwnWalk
import Derived.Laws.OwnMore
import Derived.Deep.RegionWith
import Derived.Deep.RegionHeld3
import Derived.Deep.Cut
import Derived.Deep.CutRange
namespace Go.Proofs.YtonleickhincgaaGreatDoor
open Go.RowKit Go.Lib
set_option linter.unusedVariables false
set_option maxRecDepth 20000

theorem lo_at {base : Nat} {xs : List (Rw × Value)} {lv : List ByteArray} {v1 v2 : Value} {w : World} (h : LgO base xs lv v1 v2 w) : ∃ q cq p cp, v1 = .slice q xs.length cq ∧ v2 = .slice p lv.length cp ∧ RwAt w q (xs.map (·.1)) ∧ xs.length ≤ cq ∧ TxtAt w p lv ∧ lv.length ≤ cp := by
  obtain ⟨q, cq, e1, h1⟩ := h.rws.form
  obtain ⟨p, cp, e2, h2, h3⟩ := ownS_form h.lvs
  subst e1 e2
  exact ⟨q, cq, p, cp, rfl, rfl, h.rws.at, h1, h3, h2⟩
theorem lo_row_le {k : ByteArray} {at_ : Int} {fs : List Fld} (h : rwB k at_ fs = true) : fs.length ≤ 1048576 ∧ k.size ≤ maxLen ∧ FldsLe fs := by
  obtain ⟨h1, -, h3, h4, -⟩ := rwB_parts h
  have hk := nrB_le h1
  refine ⟨by omega, by unfold maxLen; omega, fun f hf => ?_⟩
  obtain ⟨g1, g2, g3, g4⟩ := fdB_parts (h4 f hf)
  have hn := nrB_le g1
  have hsv : f.s.size ≤ 16 ∧ f.v.size ≤ 16 := by
    cases hg : f.g with
    | true =>
      obtain ⟨e1, e2⟩ := g3 hg
      rw [e1, e2]
      exact ⟨by simp, by simp⟩
    | false =>
      have hc := (g4 hg).2
      unfold cmOk at hc
      simp only [Bool.and_eq_true, decide_eq_true_eq] at hc
      exact ⟨by omega, by omega⟩
  unfold maxLen
  exact ⟨by omega, by omega, by omega, by omega⟩
theorem own_heap {w x : World} {base : Nat} {e : TypeId} {s : Nat} {v : Value} {n : Nat} {xs : List Value} (h : w.ownsRow base e s v n xs) (hs : w.heap.size ≤ x.heap.size) (hb : ∀ b, base ≤ b → b < w.heap.size → x.heap[b]? = w.heap[b]?) : x.ownsRow base e s v n xs := by
  refine ⟨h.1, ?_⟩
  rcases h.2 with ⟨a, b⟩ | ⟨g, cap, cur, rfl, h1, h2, h3⟩
  · exact .inl ⟨a, b⟩
  · exact .inr ⟨g, cap, cur, rfl, h1, (hb g h1 (lt_of_block h2)).trans h2, h3⟩
theorem LgO.heap {w x : World} {base : Nat} {xs : List (Rw × Value)} {lv : List ByteArray} {v1 v2 : Value} (h : LgO base xs lv v1 v2 w) (hs : w.heap.size ≤ x.heap.size) (hb : ∀ b, base ≤ b → b < w.heap.size → x.heap[b]? = w.heap[b]?) : LgO base xs lv v1 v2 x :=
  ⟨⟨own_heap h.rws.own hs hb, fun y hy => own_heap (h.rws.fld y hy) hs hb, h.rws.ne⟩, own_heap h.lvs hs hb⟩
/-- The log lies in blocks from base on: while these stay, it can be read. -/
def LgHi (base : Nat) (p : Option Addr) (lv : List ByteArray) (cp : Nat) (q : Option Addr) (rs : List Rw) (cq : Nat) (w : World) : Prop := ∀ x : World, w.heap.size ≤ x.heap.size → (∀ b, base ≤ b → b < w.heap.size → x.heap[b]? = w.heap[b]?) → LgAt p lv cp q rs cq x
theorem LgHi.at {base : Nat} {p : Option Addr} {lv : List ByteArray} {cp : Nat} {q : Option Addr} {rs : List Rw} {cq : Nat} {w : World} (h : LgHi base p lv cp q rs cq w) : LgAt p lv cp q rs cq w := h w (Nat.le_refl _) (fun _ _ _ => rfl)
theorem LgHi.grown {base g : Nat} {p : Option Addr} {lv : List ByteArray} {cp : Nat} {q : Option Addr} {rs : List Rw} {cq : Nat} {w x : World} (h : LgHi base p lv cp q rs cq w) (k : w.grownBy x (some g)) (hg : g < base) : LgHi base p lv cp q rs cq x := fun y h1 h2 => h y (Nat.le_trans k.size h1) (fun b hb hl => (h2 b hb (Nat.lt_of_lt_of_le hl k.size)).trans (k.block b hl (fun e => by cases e; omega)))
theorem LgHi.below {base : Nat} {p : Option Addr} {lv : List ByteArray} {cp : Nat} {q : Option Addr} {rs : List Rw} {cq : Nat} {w x : World} (h : LgHi base p lv cp q rs cq w) (k : Below w.heap.size w x) : LgHi base p lv cp q rs cq x := fun y h1 h2 => h y (Nat.le_trans k.size h1) (fun b hb hl => (h2 b hb (Nat.lt_of_lt_of_le hl k.size)).trans (k.block b hl))
theorem lo_now {w0 x : World} {B p : Nat} {a : Option Addr} {len cap X : Nat} {v1 v2 : Value} {xs : List (Rw × Value)} {lv : List ByteArray} {now : Int} (h : LoS w0 B p a len cap X v1 v2 xs lv now x) (r : Int) : LoS w0 B p a len cap X v1 v2 xs lv r (x.setCell ⟨X, 2, none⟩ (.int .i64 r)) := by
  have hp := h.hp
  have hX := h.hX
  have g := set_grw x X 2 (.int .i64 r)
  exact ⟨h.src.other g (fun j hj => by cases hj; omega), touch_own h.gr g (fun j hj => by cases hj; exact hX), hp, hX, h.box.set 2 _, h.lg.box h.box (by decide) (by decide) (by decide) g⟩
theorem LgAt.tail {o Z : Nat} {t : ByteArray} {ts : List ByteArray} {cp : Nat} {q : Option Addr} {rs : List Rw} {cq : Nat} {x : World} (h : LgAt (some ⟨Z, o, none⟩) (t :: ts) cp q rs cq x) : LgAt (some ⟨Z, o + 1, none⟩) ts (cp - 1) q rs cq x := by
  have h1 := h.lc
  have h2 := h.ln
  simp only [List.length_cons] at h1 h2
  refine ⟨fun i hi => ?_, by omega, by omega, fun x hx => h.lz x (List.mem_cons_of_mem _ hx), h.rw, h.rc, h.rn, h.rz⟩
  obtain ⟨b, off, e, g1, g2⟩ := h.tx (i + 1) (by simp; omega)
  cases e
  refine ⟨Z, o + 1, rfl, g1, ?_⟩
  rw [show o + 1 + i = o + (i + 1) by omega, g2]
  rfl
theorem LgHi.tail {base o Z : Nat} {t : ByteArray} {ts : List ByteArray} {cp : Nat} {q : Option Addr} {rs : List Rw} {cq : Nat} {w : World} (h : LgHi base (some ⟨Z, o, none⟩) (t :: ts) cp q rs cq w) : LgHi base (some ⟨Z, o + 1, none⟩) ts (cp - 1) q rs cq w := fun x h1 h2 => (h x h1 h2).tail
theorem LgHi.tail1 {base Z : Nat} {t : ByteArray} {ts : List ByteArray} {cp : Nat} {q : Option Addr} {rs : List Rw} {cq : Nat} {w : World} (h : LgHi base (some ⟨Z, 0, none⟩) (t :: ts) cp q rs cq w) (hm : (t :: ts).length ≤ cp) : LgHi base (if cp = 1 then some ⟨Z, 0, none⟩ else some ⟨Z, 1, none⟩) ts (cp - 1) q rs cq w := by
  by_cases he : cp = 1
  · rw [if_pos he]
    have h0 : ts = [] := by
      simp only [List.length_cons] at hm
      exact List.length_eq_zero_iff.1 (by omega)
    subst h0
    exact fun x h1 h2 => ⟨fun i hi => by simp at hi, Nat.zero_le _, Nat.zero_le _, (fun x hx => by cases hx), (h x h1 h2).rw, (h x h1 h2).rc, (h x h1 h2).rn, (h x h1 h2).rz⟩
  · rw [if_neg he]
    exact h.tail
theorem lo_first {base : Nat} {xs : List (Rw × Value)} {t : ByteArray} {ts : List ByteArray} {v1 : Value} {f2 : Option Addr} {e2 : Nat} {w : World} (h : LgO base xs (t :: ts) v1 (.slice f2 (t :: ts).length e2) w) : ∃ Z, f2 = some ⟨Z, 0, none⟩ := by
  rcases h.lvs.2 with ⟨h0, h1⟩ | ⟨g, cap, cur, h1, _⟩
  · simp at h1
  · injection h1 with h2; exact ⟨g, h2⟩
theorem lo_one {w0 x : World} {B p : Nat} {a : Option Addr} {len cap X : Nat} {v1 v2 : Value} {xs : List (Rw × Value)} {lv : List ByteArray} {now : Int} (h : LoS w0 B p a len cap X v1 v2 xs lv now x) (u : Value) : Src 126 B p a len cap (x.setCell ⟨X, 1, none⟩ u) ∧ w0.grownBy (x.setCell ⟨X, 1, none⟩ u) (some p) ∧ LgO w0.heap.size xs lv v1 v2 (x.setCell ⟨X, 1, none⟩ u) := by
  have hp := h.hp
  have hX := h.hX
  have g := set_grw x X 1 u
  exact ⟨h.src.other g (fun j hj => by cases hj; omega), touch_own h.gr g (fun j hj => by cases hj; exact hX), h.lg.box h.box (by decide) (by decide) (by decide) g⟩
theorem lo_len {rs : List Rw} {lv : List ByteArray} {now : Int} (h : LoD 6 65 1000000 rs lv now) (t : ByteArray) : (lv ++ [t]).length ≤ 66 := by have := h.m; simp; omega
theorem lo_six {rs : List Rw} {lv : List ByteArray} {now : Int} (h : LoD 6 65 1000000 rs lv now) : rs.length ≤ 6 := h.n
/-- A log as it comes out of the draw. -/
def LoF (rs : List Rw) (lv : List ByteArray) (now : Int) : Prop := rs.length ≤ 7 ∧ lv.length ≤ 66 ∧ RwsLe rs ∧ TxtsLe lv ∧ -9223372036854775808 ≤ now ∧ now ≤ 9223372036854775807
theorem LgHi.of {base : Nat} {w : World} {xs : List (Rw × Value)} {lv : List ByteArray} {q p : Option Addr} {cq cp : Nat} {now : Int} (h : LgO base xs lv (.slice q xs.length cq) (.slice p lv.length cp) w) (hf : LoF (xs.map (·.1)) lv now) : LgHi base p lv cp q (xs.map (·.1)) cq w := fun x hs hb => by
  have o := h.heap hs hb
  obtain ⟨_, _, _, _, e1, e2, h1, h2, h3, h4⟩ := lo_at o
  cases e1; cases e2
  obtain ⟨f1, f2, f3, f4, -⟩ := hf
  have h5 : (xs.map (·.1)).length = xs.length := List.length_map _
  exact ⟨h3, h4, by omega, f4, h1, by omega, by omega, f3⟩
theorem lo_fin {rs : List Rw} {lv : List ByteArray} {now : Int} (h : LoD 6 65 1000000 rs lv now) : LoF rs lv now := ⟨by have := h.n; omega, by have := h.m; omega, h.le, h.lz, by have := h.t0; omega, by have := h.t1; omega⟩
theorem lo_row7 {xs : List (Rw × Value)} {lv : List ByteArray} {now : Int} {rk : ByteArray} {ra : Int} {rf : List Fld} {v : Value} (h : LoD 6 65 1000000 (xs.map (·.1)) lv now) (hr : SmOk 4 rk ra rf) : LoF ((xs ++ [((⟨rk, ra, rf⟩ : Rw), v)]).map (·.1)) lv now := by
  obtain ⟨s1, s2, s3, s4⟩ := hr
  have h1 := h.n
  have h2 := h.m
  have h3 := h.t0
  have h4 := h.t1
  rw [List.length_map] at h1
  refine ⟨by simp; omega, by omega, fun x hx => ?_, h.lz, by omega, by omega⟩
  rw [List.map_append] at hx
  rcases List.mem_append.1 hx with g | g
  · exact h.le x g
  · have e : x = ⟨rk, ra, rf⟩ := by simpa using g
    rw [e]
    refine ⟨by show rf.length ≤ _; omega, by show rk.size ≤ _; unfold maxLen; omega, fun f hf => ?_⟩
    have := s4 f hf
    unfold FldOk at this
    unfold maxLen
    exact ⟨by omega, by omega, by omega, by omega⟩
theorem lo_firstR {base : Nat} {x0 : Rw × Value} {xr : List (Rw × Value)} {lv : List ByteArray} {v2 : Value} {f1 : Option Addr} {n e1 : Nat} {w : World} (h : LgO base (x0 :: xr) lv (.slice f1 n e1) v2 w) : ∃ Z, f1 = some ⟨Z, 0, none⟩ := by
  rcases h.rws.own.2 with ⟨h0, h1⟩ | ⟨g, cap, cur, h1, _⟩
  · simp at h1
  · injection h1 with h2; exact ⟨g, h2⟩
theorem lo_firstF {base : Nat} {f0 : Fld} {fr : List Fld} {v : Value} {w : World} (h : w.ownsRow base 122 5 v (f0 :: fr).length (fldRow (f0 :: fr))) : ∃ Z c, v = .slice (some ⟨Z, 0, none⟩) (f0 :: fr).length c := by
  rcases h.2 with ⟨h0, h1⟩ | ⟨g, cap, cur, h1, _⟩
  · simp at h1
  · exact ⟨g, cap, h1⟩
theorem lo_flip {rk : ByteArray} {ra : Int} {f0 : Fld} {fr : List Fld} {v : Value} {xr : List (Rw × Value)} {lv : List ByteArray} {now : Int} {g : Bool} (h : LoF ((((⟨rk, ra, f0 :: fr⟩ : Rw), v) :: xr).map (·.1)) lv now) : LoF ((((⟨rk, ra, ⟨f0.n, f0.c, f0.s, f0.v, g⟩ :: fr⟩ : Rw), v) :: xr).map (·.1)) lv now := by
  obtain ⟨h1, h2, h3, h4, h5⟩ := h
  refine ⟨by simpa using h1, h2, fun x hx => ?_, h4, h5⟩
  have h0 := h3 ⟨rk, ra, f0 :: fr⟩ (by simp)
  rw [List.map_cons] at hx
  rcases List.mem_cons.1 hx with rfl | hx
  · refine ⟨by simpa using h0.1, h0.2.1, fun f hf => ?_⟩
    rcases List.mem_cons.1 hf with rfl | hf
    · exact h0.2.2 f0 (List.mem_cons_self ..)
    · exact h0.2.2 f (List.mem_cons_of_mem _ hf)
  · exact h3 x (by rw [List.map_cons]; exact List.mem_cons_of_mem _ hx)
def DrawnL (B p : Nat) (a : Option Addr) (len cap : Nat) (w : World) (e : Ending) (w' : World) : Prop :=
  (∃ (q : Option Addr) (cq : Nat) (rs : List Rw) (p' : Option Addr) (cp : Nat) (lv : List ByteArray) (now : Int), e = .returned (.agg #[.slice q rs.length cq, .slice p' lv.length cp, .int .i64 now]) ∧ LgHi w.heap.size p' lv cp q rs cq w' ∧ LoF rs lv now) ∧ Src 126 B p a len cap w' ∧ w.grownBy w' (some p)
set_option maxHeartbeats 16000000 in
theorem l09Log_drawn (B p : Nat) (a : Option Addr) (len cap : Nat) (w : World) (hs0 : Src 126 B p a len cap w) :
    Calls Tryz.prog 39 #[.pointer (some ⟨p, 0, none⟩)] w (DrawnL B p a len cap w) := by
  have hp := hs0.lt
  obtain ⟨W1, hW1⟩ : ∃ W1, W1 = w.alloc (.cells #[.slice none 0 0, .slice none 0 0, .int .i64 0] 41) := ⟨_, rfl⟩
  have HW1 : Hid (W1 = w.alloc (.cells #[.slice none 0 0, .slice none 0 0, .int .i64 0] 41)) := hW1
  have B1 : Below w.heap.size w W1 := by rw [hW1]; exact (Below.refl _ _).alloc (Nat.le_refl _) _
  have R1 : Bxs W1 w.heap.size 41 #[.slice none 0 0, .slice none 0 0, .int .i64 0] := by rw [hW1]; exact Bxs.new _ _ _
  have z1 : Hid (W1.heap.size = w.heap.size + 1) := by rw [hW1]; show _ = _; simp
  have HRes : Hid (∀ x, W1.grownBy x (some p) → x.cell? ⟨w.heap.size, 0, none⟩ = some (.slice none 0 0) ∧ x.cell? ⟨w.heap.size, 1, none⟩ = some (.slice none 0 0) ∧ x.cell? ⟨w.heap.size, 2, none⟩ = some (.int .i64 0) ∧ x.frozen? ⟨w.heap.size, 0, none⟩ = false ∧ x.frozen? ⟨w.heap.size, 1, none⟩ = false ∧ x.frozen? ⟨w.heap.size, 2, none⟩ = false) := fun x hg => by
    have k : Bxs x w.heap.size 41 #[.slice none 0 0, .slice none 0 0, .int .i64 0] := (hg.block w.heap.size R1.lt (fun e => by cases e; omega)).trans R1
    exact ⟨k.cell 0, k.cell 1, k.cell 2, k.fr 0, k.fr 1, k.fr 2⟩
  have hpW : p < W1.heap.size := by have := z1.out; omega
  have D0 : Hid (LoS W1 B p a len cap (w.heap.size + 1) (.slice none 0 0) (.slice none 0 0) [] [] 0 (W1.alloc (.cells #[.slice none 0 0, .slice none 0 0, .int .i64 0] 41))) := by
    have hb := (Below.refl W1.heap.size W1).alloc (Nat.le_refl _) (.cells #[.slice none 0 0, .slice none 0 0, .int .i64 0] 41)
    have kb := Bxs.new W1 41 #[.slice none 0 0, .slice none 0 0, .int .i64 0]
    rw [z1.out] at kb
    exact ⟨(hs0.below B1).below hb, touch_below (World.grownBy.refl _ _) hb, hpW, by have := z1.out; omega, kb, LgO.nil _ _⟩
  have HEnd : Hid (∀ (x : World) (q : Option Addr) (cq : Nat) (rs : List Rw) (p' : Option Addr) (cp : Nat) (lv : List ByteArray) (now : Int) (y0 y1 y2 : Value), Src 126 B p a len cap x → W1.grownBy x (some p) → LgHi W1.heap.size p' lv cp q rs cq x → LoF rs lv now →
      DrawnL B p a len cap w (.returned (.agg #[.slice q rs.length cq, .slice p' lv.length cp, .int .i64 now])) (((x.setCell ⟨w.heap.size, 0, none⟩ y0).setCell ⟨w.heap.size, 1, none⟩ y1).setCell ⟨w.heap.size, 2, none⟩ y2)) := by
    intro x q cq rs p' cp lv now y0 y1 y2 hsr hgr hl hf
    have hg : x.grownBy (((x.setCell ⟨w.heap.size, 0, none⟩ y0).setCell ⟨w.heap.size, 1, none⟩ y1).setCell ⟨w.heap.size, 2, none⟩ y2) (some w.heap.size) := touch_set (touch_set (set_grw x _ 0 y0) 1 y1) 2 y2
    have hz := z1.out
    refine ⟨⟨q, cq, rs, p', cp, lv, now, rfl, fun y h1 h2 => (hl.grown hg (by omega)) y h1 (fun b hb hl2 => h2 b (by omega) hl2), hf⟩, hsr.other hg (fun j hj => by cases hj; exact hp), touch_own (touch_trans (⟨B1.os, B1.tape, B1.output, B1.size, fun k hk _ => B1.block k hk⟩ : w.grownBy W1 (some p)) hgr) hg (fun j hj => by cases hj; exact Nat.le_refl _)⟩
  clear hW1 hs0 B1 R1
  go_enter Tryz.func39, Tryz.ntmps39
  go_wp2_with fail
  rw [← HW1.out]
  refine (n_any B p a len cap 9 _ D0.out.src (by omega)).mono ?_
  rintro e w3 ⟨⟨k, rfl, hk0, hk1, -⟩, hs3, hg3⟩
  have hk : k < 9 := hk1 (by omega)
  have D3 : Hid (LoS W1 B p a len cap (w.heap.size + 1) (.slice none 0 0) (.slice none 0 0) [] [] 0 w3) := D0.out.step hs3 hg3
  obtain ⟨K, rfl⟩ := Int.eq_ofNat_of_zero_le hk0
  clear D0 hs3 hg3 hk1 hk0 HW1
  obtain ⟨X, hX⟩ : ∃ X, X = w.heap.size + 1 := ⟨_, rfl⟩
  rw [← hX] at D3 ⊢
  clear hX z1
  go_wp2_with fail
  go_loopw [4] (fun i wr => ∃ (k : Nat) (v1 v2 : Value) (xs : List (Rw × Value)) (lv : List ByteArray) (now : Int), k ≤ 8 ∧ i = .int .i64 k ∧ Hid (LoS W1 B p a len cap X v1 v2 xs lv now wr) ∧ Hid (LoD 6 65 1000000 (xs.map (·.1)) lv now)) (fun i _ => (Go.RowKit.intOf i).toNat)
  case atStart => exact ⟨K, _, _, [], [], 0, by omega, rfl, D3, LoD.nil _ _ _ (by omega)⟩
  case round =>
    clear D3
    obtain ⟨k, v1, v2, xs, lv, now, hk8, rfl, HD, HP⟩ := hrel
    obtain ⟨f1, e1, f2, e2, rfl, rfl, -, m1, -, m2⟩ := lo_at HD.out.lg
    by_cases hlt : 0 < (k : Int)
    · have d0 : decide (0 < k) = true := decide_eq_true (by omega)
      obtain ⟨c0, c1, c2, -, -, -⟩ := HD.out.cells
      go_upto_region 5 with fail
      go_cut [5] from 13 to 18 (fun s5 wx => ∃ Y, s5 = .pointer (some ⟨Y, 0, none⟩) ∧ Hid (LoS W1 B p a len cap X (.slice f1 xs.length e1) (.slice f2 lv.length e2) xs lv now wx) ∧ Hid (LoV W1 6 65 1000000 Y wx))
      case first =>
        have LS := HD.out.drew
        clear c0 c1 c2
        refine region_till (fun w' => w'.cell? ⟨X, 0, none⟩ = some (.slice f1 xs.length e1) ∧ w'.cell? ⟨X, 1, none⟩ = some (.slice f2 lv.length e2) ∧ w'.cell? ⟨X, 2, none⟩ = some (.int .i64 now)) 7 (by kernel_rfl) (⟨LS.cells.1, LS.cells.2.1, LS.cells.2.2.1⟩) (fun hHeld => ?_)
        generalize wr.drew = x0 at *
        refine till_take 0 (v := ?_) rfl (by kernel_rfl) (by kernel_rfl) (by kernel_rfl) (by kernel_rfl) (fun _ _ _ h => h) hHeld (Or.inl ⟨by rfl, ?_⟩) ?_
        rotate_left
        · (intro w hSw; (try dsimp only at hSw); go_simp; try with_reducible rfl)
        simp only [Act.put, List.setIfInBounds_toArray, List.set_cons_zero, List.set_cons_succ]
        refine till_take 1 (v := ?_) rfl (by kernel_rfl) (by kernel_rfl) (by kernel_rfl) (by kernel_rfl) (fun _ _ _ h => h) hHeld (Or.inl ⟨by rfl, ?_⟩) ?_
        rotate_left
        · (intro w hSw; (try dsimp only at hSw); go_simp; try with_reducible rfl)
        simp only [Act.put, List.setIfInBounds_toArray, List.set_cons_zero, List.set_cons_succ]
        refine till_take 2 (v := ?_) rfl (by kernel_rfl) (by kernel_rfl) (by kernel_rfl) (by kernel_rfl) (fun _ _ _ h => h) hHeld (Or.inl ⟨by rfl, ?_⟩) ?_
        rotate_left
        · (intro w hSw; (try dsimp only at hSw); go_simp; try with_reducible rfl)
        simp only [Act.put, List.setIfInBounds_toArray, List.set_cons_zero, List.set_cons_succ]
        refine till_take 3 (v := ?_) rfl (by kernel_rfl) (by kernel_rfl) (by kernel_rfl) (by kernel_rfl) (fun _ _ _ h => h) hHeld (Or.inl ⟨by rfl, ?_⟩) ?_
        rotate_left
        · (intro w hSw; (try dsimp only at hSw); go_simp; try with_reducible rfl)
        simp only [Act.put, List.setIfInBounds_toArray, List.set_cons_zero, List.set_cons_succ]
        refine till_ready2 4 6 rfl rfl (by kernel_rfl) (fun K hK => ?_) (fun K hK => ?_)
        · go_simp; (go_at_call 87; refine (l07Row_any B p a len cap now x0 LS.src HP.out.t0 HP.out.t1).mono ?_; rintro e y_1 ⟨⟨rk, rf, rv, rfl, ro, rr⟩, s1, g1⟩)
          have hpL := LS.hp
          replace LS := LS.step s1 g1
          obtain ⟨rq, rc, rfl, rcl, FA⟩ := ownF_form ro
          have HRr : Hid (rf.length ≤ 1048576 ∧ rk.size ≤ maxLen ∧ FldsLe rf) := lo_row_le rr.1
          clear ro rr s1 g1
          refine hK.out _ _ (⟨LS.cells.1, LS.cells.2.1, LS.cells.2.2.1⟩) (fun hHeld => ?_)
          clear hK K
          try simp only [Act.put, List.setIfInBounds_toArray, List.set_cons_zero, List.set_cons_succ]
          refine till_ready2 5 6 rfl rfl (by kernel_rfl) (fun K hK => ?_) (fun K hK => ?_)
          · have hLA := specLogAdd_any f2 lv e2 f1 (xs.map (·.1)) e1 now rk now rq rc rf y_1 (LS.at HP.out (by omega) (by omega)) FA HRr.out.1 rcl HRr.out.2.1 HRr.out.2.2
            rw [List.length_map] at hLA
            go_simp; (go_at_call 86; refine hLA.mono ?_; rintro e y_2 ⟨⟨u1, u2, ys, rfl, hys, OL⟩, b1⟩)
            clear hLA
            obtain ⟨o1, d1, o2, d2, rfl, rfl, -, -, -, -⟩ := lo_at OL
            replace OL := OL.lower LS.gr.size
            replace LS := LS.below b1
            have HOD : Hid (laC (xs.map (·.1)) lv now ⟨rk, now, rf⟩ = 0 → LoD 6 65 1000000 (ys.map (·.1)) (laL (xs.map (·.1)) lv now ⟨rk, now, rf⟩) (laN (xs.map (·.1)) lv now ⟨rk, now, rf⟩)) := fun h => by rw [hys]; exact la_drawn HP.out HRr.out h
            clear b1 FA hys
            generalize laC (xs.map (·.1)) lv now ⟨rk, now, rf⟩ = C1 at *
            generalize laL (xs.map (·.1)) lv now ⟨rk, now, rf⟩ = lu at *
            generalize laN (xs.map (·.1)) lv now ⟨rk, now, rf⟩ = nu at *
            refine hK.out _ _ (⟨LS.cells.1, LS.cells.2.1, LS.cells.2.2.1⟩) (fun hHeld => ?_)
            clear hK K
            try simp only [Act.put, List.setIfInBounds_toArray, List.set_cons_zero, List.set_cons_succ]
            refine till_ready 6 rfl (by kernel_rfl) (fun K hK => ?_)
            go_simp
            have hal : Below y_2.heap.size y_2 (y_2.alloc (.cells #[.slice none 0 0, .slice none 0 0, .int .i64 0, .int .i64 0] 136)) := (Below.refl _ _).alloc (Nat.le_refl _) _
            have KE : Bxs (y_2.alloc (.cells #[.slice none 0 0, .slice none 0 0, .int .i64 0, .int .i64 0] 136)) y_2.heap.size 136 #[.slice none 0 0, .slice none 0 0, .int .i64 0, .int .i64 0] := Bxs.new _ _ _
            have hE : W1.heap.size ≤ y_2.heap.size := LS.gr.size
            replace LS := LS.below hal
            replace OL := OL.below hal
            refine hK.out _ _ (⟨LS.cells.1, LS.cells.2.1, LS.cells.2.2.1⟩) (fun hHeld => ?_)
            clear hK K
            try simp only [Act.put, List.setIfInBounds_toArray, List.set_cons_zero, List.set_cons_succ]
            generalize y_2.alloc (.cells #[.slice none 0 0, .slice none 0 0, .int .i64 0, .int .i64 0] 136) = u at *
            generalize y_2.heap.size = Eb at *
            clear hal
            have q0 := KE.cell 0
            have q1 := KE.cell 1
            have q2 := KE.cell 2
            have q3 := KE.cell 3
            have t0 := KE.fr 0
            have t1 := KE.fr 1
            have t2 := KE.fr 2
            have t3 := KE.fr 3
            refine till_last rfl (by kernel_rfl) (by kernel_rfl) (fun K hK => ?_)
            go_simp
            refine hK.out _ _ ?_
            clear hK K hHeld q0 q1 q2 q3 t0 t1 t2 t3
            have HF1 := LoV.put (n := 6) (m := 65) (t := 1000000) hE KE rfl OL nu C1 HOD.out
            have HF2 := LS.wrote hE KE (by decide) (by decide) (by decide) (by decide) (touch_set (touch_set (touch_set (set_grw _ Eb 0 (.slice o1 ys.length d1)) 1 (.slice o2 lu.length d2)) 2 (.int .i64 nu)) 3 (.int .i64 C1))
            clear KE OL LS HOD
            go_wp2_with fail
            go_meet
            exact ⟨Eb, rfl, HF2, HF1⟩
          · go_simp
            have hal : Below y_1.heap.size y_1 (y_1.alloc (.cells #[.slice none 0 0, .slice none 0 0, .int .i64 0, .int .i64 0] 136)) := (Below.refl _ _).alloc (Nat.le_refl _) _
            have KE : Bxs (y_1.alloc (.cells #[.slice none 0 0, .slice none 0 0, .int .i64 0, .int .i64 0] 136)) y_1.heap.size 136 #[.slice none 0 0, .slice none 0 0, .int .i64 0, .int .i64 0] := Bxs.new _ _ _
            have hE : W1.heap.size ≤ y_1.heap.size := LS.gr.size
            replace LS := LS.below hal
            replace FA := FA.below hal
            refine hK.out _ _ (⟨LS.cells.1, LS.cells.2.1, LS.cells.2.2.1⟩) (fun hHeld => ?_)
            clear hK K
            try simp only [Act.put, List.setIfInBounds_toArray, List.set_cons_zero, List.set_cons_succ]
            generalize y_1.alloc (.cells #[.slice none 0 0, .slice none 0 0, .int .i64 0, .int .i64 0] 136) = u at *
            generalize y_1.heap.size = Eb at *
            clear hal
            refine till_ready 5 rfl (by kernel_rfl) (fun K hK => ?_)
            have hLA := specLogAdd_any f2 lv e2 f1 (xs.map (·.1)) e1 now rk now rq rc rf u (LS.at HP.out (by omega) (by omega)) FA HRr.out.1 rcl HRr.out.2.1 HRr.out.2.2
            rw [List.length_map] at hLA
            go_simp; (go_at_call 86; refine hLA.mono ?_; rintro e y_3 ⟨⟨u1, u2, ys, rfl, hys, OL⟩, b1⟩)
            clear hLA
            obtain ⟨o1, d1, o2, d2, rfl, rfl, -, -, -, -⟩ := lo_at OL
            replace OL := OL.lower LS.gr.size
            replace LS := LS.below b1
            have HOD : Hid (laC (xs.map (·.1)) lv now ⟨rk, now, rf⟩ = 0 → LoD 6 65 1000000 (ys.map (·.1)) (laL (xs.map (·.1)) lv now ⟨rk, now, rf⟩) (laN (xs.map (·.1)) lv now ⟨rk, now, rf⟩)) := fun h => by rw [hys]; exact la_drawn HP.out HRr.out h
            replace KE := KE.below b1
            clear b1 FA hys
            generalize laC (xs.map (·.1)) lv now ⟨rk, now, rf⟩ = C1 at *
            generalize laL (xs.map (·.1)) lv now ⟨rk, now, rf⟩ = lu at *
            generalize laN (xs.map (·.1)) lv now ⟨rk, now, rf⟩ = nu at *
            refine hK.out _ _ (⟨LS.cells.1, LS.cells.2.1, LS.cells.2.2.1⟩) (fun hHeld => ?_)
            clear hK K
            try simp only [Act.put, List.setIfInBounds_toArray, List.set_cons_zero, List.set_cons_succ]
            have q0 := KE.cell 0
            have q1 := KE.cell 1
            have q2 := KE.cell 2
            have q3 := KE.cell 3
            have t0 := KE.fr 0
            have t1 := KE.fr 1
            have t2 := KE.fr 2
            have t3 := KE.fr 3
            refine till_last rfl (by kernel_rfl) (by kernel_rfl) (fun K hK => ?_)
            go_simp
            refine hK.out _ _ ?_
            clear hK K hHeld q0 q1 q2 q3 t0 t1 t2 t3
            have HF1 := LoV.put (n := 6) (m := 65) (t := 1000000) hE KE rfl OL nu C1 HOD.out
            have HF2 := LS.wrote hE KE (by decide) (by decide) (by decide) (by decide) (touch_set (touch_set (touch_set (set_grw _ Eb 0 (.slice o1 ys.length d1)) 1 (.slice o2 lu.length d2)) 2 (.int .i64 nu)) 3 (.int .i64 C1))
            clear KE OL LS HOD
            go_wp2_with fail
            go_meet
            exact ⟨Eb, rfl, HF2, HF1⟩
        · go_simp
          have hal : Below x0.heap.size x0 (x0.alloc (.cells #[.slice none 0 0, .slice none 0 0, .int .i64 0, .int .i64 0] 136)) := (Below.refl _ _).alloc (Nat.le_refl _) _
          have KE : Bxs (x0.alloc (.cells #[.slice none 0 0, .slice none 0 0, .int .i64 0, .int .i64 0] 136)) x0.heap.size 136 #[.slice none 0 0, .slice none 0 0, .int .i64 0, .int .i64 0] := Bxs.new _ _ _
          have hE : W1.heap.size ≤ x0.heap.size := LS.gr.size
          replace LS := LS.below hal
          refine hK.out _ _ (⟨LS.cells.1, LS.cells.2.1, LS.cells.2.2.1⟩) (fun hHeld => ?_)
          clear hK K
          try simp only [Act.put, List.setIfInBounds_toArray, List.set_cons_zero, List.set_cons_succ]
          generalize x0.alloc (.cells #[.slice none 0 0, .slice none 0 0, .int .i64 0, .int .i64 0] 136) = u at *
          generalize x0.heap.size = Eb at *
          clear hal
          refine till_ready 4 rfl (by kernel_rfl) (fun K hK => ?_)
          go_simp; (go_at_call 87; refine (l07Row_any B p a len cap now u LS.src HP.out.t0 HP.out.t1).mono ?_; rintro e y_4 ⟨⟨rk, rf, rv, rfl, ro, rr⟩, s1, g1⟩)
          have hpL := LS.hp
          replace LS := LS.step s1 g1
          replace KE := KE.grown g1 (fun e => by cases e; omega)
          obtain ⟨rq, rc, rfl, rcl, FA⟩ := ownF_form ro
          have HRr : Hid (rf.length ≤ 1048576 ∧ rk.size ≤ maxLen ∧ FldsLe rf) := lo_row_le rr.1
          clear ro rr s1 g1
          refine hK.out _ _ (⟨LS.cells.1, LS.cells.2.1, LS.cells.2.2.1⟩) (fun hHeld => ?_)
          clear hK K
          try simp only [Act.put, List.setIfInBounds_toArray, List.set_cons_zero, List.set_cons_succ]
          refine till_ready 5 rfl (by kernel_rfl) (fun K hK => ?_)
          have hLA := specLogAdd_any f2 lv e2 f1 (xs.map (·.1)) e1 now rk now rq rc rf y_4 (LS.at HP.out (by omega) (by omega)) FA HRr.out.1 rcl HRr.out.2.1 HRr.out.2.2
          rw [List.length_map] at hLA
          go_simp; (go_at_call 86; refine hLA.mono ?_; rintro e y_5 ⟨⟨u1, u2, ys, rfl, hys, OL⟩, b1⟩)
          clear hLA
          obtain ⟨o1, d1, o2, d2, rfl, rfl, -, -, -, -⟩ := lo_at OL
          replace OL := OL.lower LS.gr.size
          replace LS := LS.below b1
          have HOD : Hid (laC (xs.map (·.1)) lv now ⟨rk, now, rf⟩ = 0 → LoD 6 65 1000000 (ys.map (·.1)) (laL (xs.map (·.1)) lv now ⟨rk, now, rf⟩) (laN (xs.map (·.1)) lv now ⟨rk, now, rf⟩)) := fun h => by rw [hys]; exact la_drawn HP.out HRr.out h
          replace KE := KE.below b1
          clear b1 FA hys
          generalize laC (xs.map (·.1)) lv now ⟨rk, now, rf⟩ = C1 at *
          generalize laL (xs.map (·.1)) lv now ⟨rk, now, rf⟩ = lu at *
          generalize laN (xs.map (·.1)) lv now ⟨rk, now, rf⟩ = nu at *
          refine hK.out _ _ (⟨LS.cells.1, LS.cells.2.1, LS.cells.2.2.1⟩) (fun hHeld => ?_)
          clear hK K
          try simp only [Act.put, List.setIfInBounds_toArray, List.set_cons_zero, List.set_cons_succ]
          have q0 := KE.cell 0
          have q1 := KE.cell 1
          have q2 := KE.cell 2
          have q3 := KE.cell 3
          have t0 := KE.fr 0
          have t1 := KE.fr 1
          have t2 := KE.fr 2
          have t3 := KE.fr 3
          refine till_last rfl (by kernel_rfl) (by kernel_rfl) (fun K hK => ?_)
          go_simp
          refine hK.out _ _ ?_
          clear hK K hHeld q0 q1 q2 q3 t0 t1 t2 t3
          have HF1 := LoV.put (n := 6) (m := 65) (t := 1000000) hE KE rfl OL nu C1 HOD.out
          have HF2 := LS.wrote hE KE (by decide) (by decide) (by decide) (by decide) (touch_set (touch_set (touch_set (set_grw _ Eb 0 (.slice o1 ys.length d1)) 1 (.slice o2 lu.length d2)) 2 (.int .i64 nu)) 3 (.int .i64 C1))
          clear KE OL LS HOD
          go_wp2_with fail
          go_meet
          exact ⟨Eb, rfl, HF2, HF1⟩
      case rest =>
        obtain ⟨Y, rfl, HDc, HOc⟩ := hcut
        go_wp2_with fail
        refine (n_any B p a len cap 4 _ HDc.out.src (by omega)).mono ?_
        rintro e w6 ⟨⟨q, rfl, q0, q1, -⟩, hs6, hg6⟩
        have HD6 : Hid (LoS W1 B p a len cap X (.slice f1 xs.length e1) (.slice f2 lv.length e2) xs lv now w6) := HDc.out.step hs6 hg6
        have HO6 : Hid (LoV W1 6 65 1000000 Y w6) := HOc.out.touch hg6 hpW
        clear HDc HOc hs6 hg6 q1
        obtain ⟨c0, c1, c2, -, -, -⟩ := HD6.out.cells
        by_cases hq0 : q = 0
        case pos =>
          subst hq0
          go_upto_region 8 with fail
          have LS := HD6.out.drew
          have OV := HO6.out.below (Below.refl _ _).drew
          clear c0 c1 c2 HD6 HO6 q0
          refine region_till (fun w' => w'.cell? ⟨X, 0, none⟩ = some (.slice f1 xs.length e1) ∧ w'.cell? ⟨X, 1, none⟩ = some (.slice f2 lv.length e2) ∧ w'.cell? ⟨X, 2, none⟩ = some (.int .i64 now)) 9 (by kernel_rfl) (⟨LS.cells.1, LS.cells.2.1, LS.cells.2.2.1⟩) (fun hHeld => ?_)
          generalize w6.drew = x0 at *
          refine till_take 0 (v := ?_) rfl (by kernel_rfl) (by kernel_rfl) (by kernel_rfl) (by kernel_rfl) (fun _ _ _ h => h) hHeld (Or.inl ⟨by rfl, ?_⟩) ?_
          rotate_left
          · (intro w hSw; (try dsimp only at hSw); go_simp; try with_reducible rfl)
          simp only [Act.put, List.setIfInBounds_toArray, List.set_cons_zero, List.set_cons_succ]
          refine till_take 1 (v := ?_) rfl (by kernel_rfl) (by kernel_rfl) (by kernel_rfl) (by kernel_rfl) (fun _ _ _ h => h) hHeld (Or.inl ⟨by rfl, ?_⟩) ?_
          rotate_left
          · (intro w hSw; (try dsimp only at hSw); go_simp; try with_reducible rfl)
          simp only [Act.put, List.setIfInBounds_toArray, List.set_cons_zero, List.set_cons_succ]
          refine till_take 3 (v := ?_) rfl (by kernel_rfl) (by kernel_rfl) (by kernel_rfl) (by kernel_rfl) (fun _ _ _ h => h) hHeld (Or.inl ⟨by rfl, ?_⟩) ?_
          rotate_left
          · (intro w hSw; (try dsimp only at hSw); go_simp; try with_reducible rfl)
          simp only [Act.put, List.setIfInBounds_toArray, List.set_cons_zero, List.set_cons_succ]
          refine till_take 5 (v := ?_) rfl (by kernel_rfl) (by kernel_rfl) (by kernel_rfl) (by kernel_rfl) (fun _ _ _ h => h) hHeld (Or.inl ⟨by rfl, ?_⟩) ?_
          rotate_left
          · (intro w hSw; (try dsimp only at hSw); go_simp; try with_reducible rfl)
          simp only [Act.put, List.setIfInBounds_toArray, List.set_cons_zero, List.set_cons_succ]
          refine till_ready 2 rfl (by kernel_rfl) (fun K hK => ?_)
          go_simp; (go_at_call 32; refine (n_any B p a len cap 3 x0 LS.src (by omega)).mono ?_; rintro e x1 ⟨⟨r1, rfl, r10, r11, -⟩, s1, g1⟩)
          replace LS := LS.step s1 g1
          replace OV := OV.touch g1 hpW
          clear s1 g1
          refine hK.out _ _ (⟨LS.cells.1, LS.cells.2.1, LS.cells.2.2.1⟩) (fun hHeld => ?_)
          clear hK K
          try simp only [Act.put, List.setIfInBounds_toArray, List.set_cons_zero, List.set_cons_succ]
          refine till_ready 4 rfl (by kernel_rfl) (fun K hK => ?_)
          go_simp; (go_at_call 32; refine (n_any B p a len cap 3 x1 LS.src (by omega)).mono ?_; rintro e x2 ⟨⟨r2, rfl, r20, r21, -⟩, s1, g1⟩)
          replace LS := LS.step s1 g1
          replace OV := OV.touch g1 hpW
          clear s1 g1
          refine hK.out _ _ (⟨LS.cells.1, LS.cells.2.1, LS.cells.2.2.1⟩) (fun hHeld => ?_)
          clear hK K
          try simp only [Act.put, List.setIfInBounds_toArray, List.set_cons_zero, List.set_cons_succ]
          refine till_ready 6 rfl (by kernel_rfl) (fun K hK => ?_)
          go_simp; (go_at_call 32; refine (n_any B p a len cap 2 x2 LS.src (by omega)).mono ?_; rintro e x3 ⟨⟨r3, rfl, r30, r31, -⟩, s1, g1⟩)
          replace LS := LS.step s1 g1
          replace OV := OV.touch g1 hpW
          clear s1 g1
          refine hK.out _ _ (⟨LS.cells.1, LS.cells.2.1, LS.cells.2.2.1⟩) (fun hHeld => ?_)
          clear hK K
          try simp only [Act.put, List.setIfInBounds_toArray, List.set_cons_zero, List.set_cons_succ]
          have hw : IntKind.i64.wrap (1 + r3) = 1 + r3 := by have := r31 (by omega); rw [IntKind.wrap_i64]; omega
          refine till_take 7 (v := ?_) rfl (by kernel_rfl) (by kernel_rfl) (by kernel_rfl) (by kernel_rfl) (fun _ _ _ h => h) hHeld (Or.inl ⟨by rfl, ?_⟩) ?_
          rotate_left
          · (intro w hSw; (try dsimp only at hSw); go_simp; try with_reducible rfl)
          simp only [Act.put, List.setIfInBounds_toArray, List.set_cons_zero, List.set_cons_succ]
          clear hw
          have hLF := specLogForget_any f2 lv e2 f1 (xs.map (·.1)) e1 now r1 r2 (1 + r3) x3 (LS.at HP.out (by omega) (by omega))
          rw [List.length_map] at hLF
          generalize hC1 : lfC (xs.map (·.1)) lv now r1 r2 (1 + r3) = C1 at *
          generalize hlu : lfL (xs.map (·.1)) lv now r1 r2 (1 + r3) = lu at *
          generalize hnu : lfN (xs.map (·.1)) lv now r1 r2 (1 + r3) = nu at *
          refine till_ready 8 rfl (by kernel_rfl) (fun K hK => ?_)
          go_simp; (go_at_call 88; refine hLF.mono ?_; rintro e yf ⟨⟨u1, u2, ys, rfl, hys, OL⟩, b1⟩)
          obtain ⟨o1, d1, o2, d2, rfl, rfl, -, -, -, -⟩ := lo_at OL
          replace OL := OL.lower LS.gr.size
          replace LS := LS.below b1
          replace OV := OV.below b1
          have HOD : Hid (C1 = 0 → LoD 6 65 1000000 (ys.map (·.1)) lu nu) := fun h => by rw [hys, ← hlu, ← hnu]; exact lf_drawn HP.out (by rw [hC1]; exact h)
          clear b1 hys hLF hC1 hlu hnu
          refine hK.out _ _ (⟨LS.cells.1, LS.cells.2.1, LS.cells.2.2.1⟩) (fun hHeld => ?_)
          clear hK K
          try simp only [Act.put, List.setIfInBounds_toArray, List.set_cons_zero, List.set_cons_succ]
          obtain ⟨hE, a1, a2, -, -, a3, a4, KE, -, -⟩ := OV
          have q0 := KE.cell 0
          have q1 := KE.cell 1
          have q2 := KE.cell 2
          have q3 := KE.cell 3
          have t0 := KE.fr 0
          have t1 := KE.fr 1
          have t2 := KE.fr 2
          have t3 := KE.fr 3
          refine till_last rfl (by kernel_rfl) (by kernel_rfl) (fun K hK => ?_)
          go_simp
          refine hK.out _ _ ?_
          clear hK K hHeld q0 q1 q2 q3 t0 t1 t2 t3
          have HF1 := LoV.put (n := 6) (m := 65) (t := 1000000) hE KE rfl OL (nu) (C1) HOD.out
          have HF2 := LS.wrote hE KE (by decide) (by decide) (by decide) (by decide) (touch_set (touch_set (touch_set (set_grw _ Y 0 (.slice o1 ys.length d1)) 1 (.slice o2 (lu).length d2)) 2 (.int .i64 (nu))) 3 (.int .i64 (C1)))
          clear KE OL LS HOD hE
          go_upto_region 11 with fail
          generalize ((((yf.setCell ⟨Y, 0, none⟩ (.slice o1 ys.length d1)).setCell ⟨Y, 1, none⟩ (.slice o2 (lu).length d2)).setCell ⟨Y, 2, none⟩ (.int .i64 (nu))).setCell ⟨Y, 3, none⟩ (.int .i64 (C1))) = w8 at *
          have HLS : Hid (LoS W1 B p a len cap X (.slice f1 xs.length e1) (.slice f2 lv.length e2) xs lv now w8) := HF2
          have HOV : Hid (LoV W1 6 65 1000000 Y w8) := HF1
          clear HF1 HF2
          obtain ⟨hY, u1, u2, ys, lu, nu, c, kY, oY, dY⟩ := HOV.out
          obtain ⟨o1, d1, o2, d2, rfl, rfl, -, -, -, -⟩ := lo_at oY
          have k0 := kY.cell 0
          have k1 := kY.cell 1
          have k2 := kY.cell 2
          have k3 := kY.cell 3
          obtain ⟨c0, c1, c2, a0, a1, a2⟩ := HLS.out.cells
          have HDa : Hid (LoS W1 B p a len cap X (.slice o1 ys.length d1) (.slice o2 lu.length d2) ys lu nu (((w8.setCell ⟨X, 0, none⟩ (.slice o1 ys.length d1)).setCell ⟨X, 1, none⟩ (.slice o2 lu.length d2)).setCell ⟨X, 2, none⟩ (.int .i64 nu))) := HLS.out.put oY nu
          have HDb := HLS
          have HRt : Hid (c = 0 → LoD 6 65 1000000 (ys.map (·.1)) lu nu) := dY
          clear kY oY dY hY HLS HOV
          by_cases hc : c = 0
          · have hbe : (c == 0) = true := beq_iff_eq.2 hc
            have HR2 := HRt.out hc
            have HR3 : Hid (LoD 6 65 1000000 (ys.map (·.1)) lu nu) := HR2
            clear hc HRt HR2 HDb HP HD
            go_wp2_with fail
            go_roundw
            case rel => exact ⟨k - 1, _, _, ys, lu, nu, by omega, by go_num, HDa, HR3⟩
            case measure => simp [Go.RowKit.intOf]; omega
          · have hbe : (c == 0) = false := beq_eq_false_iff_ne.2 hc
            clear hc HRt HDa HD
            go_wp2_with fail
            go_roundw
            case rel => exact ⟨k - 1, _, _, xs, lv, now, by omega, by go_num, HDb, HP⟩
            case measure => simp [Go.RowKit.intOf]; omega
        by_cases hq1 : q = 1
        case pos =>
          subst hq1
          go_upto_region 10 with fail
          have LS := HD6.out.drew
          have OV := HO6.out.below (Below.refl _ _).drew
          clear c0 c1 c2 HD6 HO6 q0 hq0
          refine region_till (fun w' => w'.cell? ⟨X, 0, none⟩ = some (.slice f1 xs.length e1) ∧ w'.cell? ⟨X, 1, none⟩ = some (.slice f2 lv.length e2) ∧ w'.cell? ⟨X, 2, none⟩ = some (.int .i64 now)) 7 (by kernel_rfl) (⟨LS.cells.1, LS.cells.2.1, LS.cells.2.2.1⟩) (fun hHeld => ?_)
          generalize w6.drew = x0 at *
          refine till_take 0 (v := ?_) rfl (by kernel_rfl) (by kernel_rfl) (by kernel_rfl) (by kernel_rfl) (fun _ _ _ h => h) hHeld (Or.inl ⟨by rfl, ?_⟩) ?_
          rotate_left
          · (intro w hSw; (try dsimp only at hSw); go_simp; try with_reducible rfl)
          simp only [Act.put, List.setIfInBounds_toArray, List.set_cons_zero, List.set_cons_succ]
          refine till_take 1 (v := ?_) rfl (by kernel_rfl) (by kernel_rfl) (by kernel_rfl) (by kernel_rfl) (fun _ _ _ h => h) hHeld (Or.inl ⟨by rfl, ?_⟩) ?_
          rotate_left
          · (intro w hSw; (try dsimp only at hSw); go_simp; try with_reducible rfl)
          simp only [Act.put, List.setIfInBounds_toArray, List.set_cons_zero, List.set_cons_succ]
          refine till_take 2 (v := ?_) rfl (by kernel_rfl) (by kernel_rfl) (by kernel_rfl) (by kernel_rfl) (fun _ _ _ h => h) hHeld (Or.inl ⟨by rfl, ?_⟩) ?_
          rotate_left
          · (intro w hSw; (try dsimp only at hSw); go_simp; try with_reducible rfl)
          simp only [Act.put, List.setIfInBounds_toArray, List.set_cons_zero, List.set_cons_succ]
          refine till_take 3 (v := ?_) rfl (by kernel_rfl) (by kernel_rfl) (by kernel_rfl) (by kernel_rfl) (fun _ _ _ h => h) hHeld (Or.inl ⟨by rfl, ?_⟩) ?_
          rotate_left
          · (intro w hSw; (try dsimp only at hSw); go_simp; try with_reducible rfl)
          simp only [Act.put, List.setIfInBounds_toArray, List.set_cons_zero, List.set_cons_succ]
          refine till_ready 4 rfl (by kernel_rfl) (fun K hK => ?_)
          go_simp; (go_at_call 32; refine (n_any B p a len cap 9 x0 LS.src (by omega)).mono ?_; rintro e x1 ⟨⟨r1, rfl, r10, r11, -⟩, s1, g1⟩)
          replace LS := LS.step s1 g1
          replace OV := OV.touch g1 hpW
          clear s1 g1
          refine hK.out _ _ (⟨LS.cells.1, LS.cells.2.1, LS.cells.2.2.1⟩) (fun hHeld => ?_)
          clear hK K
          try simp only [Act.put, List.setIfInBounds_toArray, List.set_cons_zero, List.set_cons_succ]
          have hn0 := HP.out.t0
          have hn1 := HP.out.t1
          have hr9 := r11 (by omega)
          have hw : IntKind.i64.wrap (now + r1) = now + r1 := by rw [IntKind.wrap_i64]; omega
          refine till_take 5 (v := ?_) rfl (by kernel_rfl) (by kernel_rfl) (by kernel_rfl) (by kernel_rfl) (fun _ _ _ h => h) hHeld (Or.inl ⟨by rfl, ?_⟩) ?_
          rotate_left
          · (intro w hSw; (try dsimp only at hSw); go_simp; try with_reducible rfl)
          simp only [Act.put, List.setIfInBounds_toArray, List.set_cons_zero, List.set_cons_succ]
          clear hw
          have hLF := specLogTime_any f2 lv e2 f1 (xs.map (·.1)) e1 now (now + r1) x1 (LS.at HP.out (by omega) (by omega)) ⟨by omega, by omega⟩ ⟨by omega, by omega⟩
          rw [List.length_map] at hLF
          clear hn0 hn1 hr9
          generalize hC1 : ltC (xs.map (·.1)) lv now (now + r1) = C1 at *
          generalize hlu : ltL (xs.map (·.1)) lv now (now + r1) = lu at *
          generalize hnu : ltN (xs.map (·.1)) lv now (now + r1) = nu at *
          refine till_ready 6 rfl (by kernel_rfl) (fun K hK => ?_)
          go_simp; (go_at_call 89; refine hLF.mono ?_; rintro e yf ⟨⟨u1, u2, ys, rfl, hys, OL⟩, b1⟩)
          obtain ⟨o1, d1, o2, d2, rfl, rfl, -, -, -, -⟩ := lo_at OL
          replace OL := OL.lower LS.gr.size
          replace LS := LS.below b1
          replace OV := OV.below b1
          have HOD : Hid (C1 = 0 → LoD 6 65 1000000 (ys.map (·.1)) lu nu) := fun h => by rw [hys, ← hlu, ← hnu]; exact lt_drawn HP.out (by rw [hC1]; exact h)
          clear b1 hys hLF hC1 hlu hnu
          refine hK.out _ _ (⟨LS.cells.1, LS.cells.2.1, LS.cells.2.2.1⟩) (fun hHeld => ?_)
          clear hK K
          try simp only [Act.put, List.setIfInBounds_toArray, List.set_cons_zero, List.set_cons_succ]
          obtain ⟨hE, a1, a2, -, -, a3, a4, KE, -, -⟩ := OV
          have q0 := KE.cell 0
          have q1 := KE.cell 1
          have q2 := KE.cell 2
          have q3 := KE.cell 3
          have t0 := KE.fr 0
          have t1 := KE.fr 1
          have t2 := KE.fr 2
          have t3 := KE.fr 3
          refine till_last rfl (by kernel_rfl) (by kernel_rfl) (fun K hK => ?_)
          go_simp
          refine hK.out _ _ ?_
          clear hK K hHeld q0 q1 q2 q3 t0 t1 t2 t3
          have HF1 := LoV.put (n := 6) (m := 65) (t := 1000000) hE KE rfl OL (nu) (C1) HOD.out
          have HF2 := LS.wrote hE KE (by decide) (by decide) (by decide) (by decide) (touch_set (touch_set (touch_set (set_grw _ Y 0 (.slice o1 ys.length d1)) 1 (.slice o2 (lu).length d2)) 2 (.int .i64 (nu))) 3 (.int .i64 (C1)))
          clear KE OL LS HOD hE
          go_upto_region 11 with fail
          generalize ((((yf.setCell ⟨Y, 0, none⟩ (.slice o1 ys.length d1)).setCell ⟨Y, 1, none⟩ (.slice o2 (lu).length d2)).setCell ⟨Y, 2, none⟩ (.int .i64 (nu))).setCell ⟨Y, 3, none⟩ (.int .i64 (C1))) = w8 at *
          have HLS : Hid (LoS W1 B p a len cap X (.slice f1 xs.length e1) (.slice f2 lv.length e2) xs lv now w8) := HF2
          have HOV : Hid (LoV W1 6 65 1000000 Y w8) := HF1
          clear HF1 HF2
          obtain ⟨hY, u1, u2, ys, lu, nu, c, kY, oY, dY⟩ := HOV.out
          obtain ⟨o1, d1, o2, d2, rfl, rfl, -, -, -, -⟩ := lo_at oY
          have k0 := kY.cell 0
          have k1 := kY.cell 1
          have k2 := kY.cell 2
          have k3 := kY.cell 3
          obtain ⟨c0, c1, c2, a0, a1, a2⟩ := HLS.out.cells
          have HDa : Hid (LoS W1 B p a len cap X (.slice o1 ys.length d1) (.slice o2 lu.length d2) ys lu nu (((w8.setCell ⟨X, 0, none⟩ (.slice o1 ys.length d1)).setCell ⟨X, 1, none⟩ (.slice o2 lu.length d2)).setCell ⟨X, 2, none⟩ (.int .i64 nu))) := HLS.out.put oY nu
          have HDb := HLS
          have HRt : Hid (c = 0 → LoD 6 65 1000000 (ys.map (·.1)) lu nu) := dY
          clear kY oY dY hY HLS HOV
          by_cases hc : c = 0
          · have hbe : (c == 0) = true := beq_iff_eq.2 hc
            have HR2 := HRt.out hc
            have HR3 : Hid (LoD 6 65 1000000 (ys.map (·.1)) lu nu) := HR2
            clear hc HRt HR2 HDb HP HD
            go_wp2_with fail
            go_roundw
            case rel => exact ⟨k - 1, _, _, ys, lu, nu, by omega, by go_num, HDa, HR3⟩
            case measure => simp [Go.RowKit.intOf]; omega
          · have hbe : (c == 0) = false := beq_eq_false_iff_ne.2 hc
            clear hc HRt HDa HD
            go_wp2_with fail
            go_roundw
            case rel => exact ⟨k - 1, _, _, xs, lv, now, by omega, by go_num, HDb, HP⟩
            case measure => simp [Go.RowKit.intOf]; omega
        have dq0 : (q == 0) = false := beq_eq_false_iff_ne.2 hq0
        have dq1 : (q == 1) = false := beq_eq_false_iff_ne.2 hq1
        clear hq0 hq1
        go_upto_region 11 with fail
        clear dq0 dq1 c0 c1 c2
        obtain ⟨hY, u1, u2, ys, lu, nu, c, kY, oY, dY⟩ := HO6.out
        obtain ⟨o1, d1, o2, d2, rfl, rfl, -, -, -, -⟩ := lo_at oY
        have k0 := kY.cell 0
        have k1 := kY.cell 1
        have k2 := kY.cell 2
        have k3 := kY.cell 3
        obtain ⟨c0, c1, c2, a0, a1, a2⟩ := HD6.out.cells
        have HDa : Hid (LoS W1 B p a len cap X (.slice o1 ys.length d1) (.slice o2 lu.length d2) ys lu nu (((w6.setCell ⟨X, 0, none⟩ (.slice o1 ys.length d1)).setCell ⟨X, 1, none⟩ (.slice o2 lu.length d2)).setCell ⟨X, 2, none⟩ (.int .i64 nu))) := HD6.out.put oY nu
        have HDb := HD6
        have HRt : Hid (c = 0 → LoD 6 65 1000000 (ys.map (·.1)) lu nu) := dY
        clear kY oY dY hY HD6 HO6
        by_cases hc : c = 0
        · have hbe : (c == 0) = true := beq_iff_eq.2 hc
          have HR2 := HRt.out hc
          have HR3 : Hid (LoD 6 65 1000000 (ys.map (·.1)) lu nu) := HR2
          clear hc HRt HR2 HDb HP HD
          go_wp2_with fail
          go_roundw
          case rel => exact ⟨k - 1, _, _, ys, lu, nu, by omega, by go_num, HDa, HR3⟩
          case measure => simp [Go.RowKit.intOf]; omega
        · have hbe : (c == 0) = false := beq_eq_false_iff_ne.2 hc
          clear hc HRt HDa HD
          go_wp2_with fail
          go_roundw
          case rel => exact ⟨k - 1, _, _, xs, lv, now, by omega, by go_num, HDb, HP⟩
          case measure => simp [Go.RowKit.intOf]; omega
    · obtain rfl : k = 0 := by omega
      go_wp2_with fail
      refine (one_any B p a len cap 15 _ HD.out.src (by omega)).mono ?_
      rintro e w6 ⟨⟨bo, rfl⟩, hs6, hg6⟩
      have HD6 : Hid (LoS W1 B p a len cap X (.slice f1 xs.length e1) (.slice f2 lv.length e2) xs lv now w6) := HD.out.step hs6 hg6
      have HF : Hid (LoF (xs.map (·.1)) lv now) := lo_fin HP.out
      clear HD hs6 hg6
      cases bo
      · have HE : Hid _ := fun y0 y1 y2 => HEnd.out _ _ _ _ _ _ _ _ y0 y1 y2 HD6.out.src HD6.out.gr (LgHi.of HD6.out.lg HF.out) HF.out
        obtain ⟨c0, c1, c2, -, -, -⟩ := HD6.out.cells
        obtain ⟨r0, r1, r2, g0, g1, g2⟩ := HRes.out _ HD6.out.gr
        rw [List.length_map] at HE
        clear HRes HEnd HD6 HP HF
        go_wp2_with fail
        refine bodyPost_ret (by simp [results, Tryz.results39, go_sem, r0, r1, r2]; rfl) rfl ?_
        exact HE.out _ _ _
      · go_wp2_with fail
        refine (n_any B p a len cap 5 _ HD6.out.src (by omega)).mono ?_
        rintro e w7 ⟨⟨q, rfl, q0, q1, -⟩, hs7, hg7⟩
        have q2 := q1 (by omega)
        have HD7 : Hid (LoS W1 B p a len cap X (.slice f1 xs.length e1) (.slice f2 lv.length e2) xs lv now w7) := HD6.out.step hs7 hg7
        clear HD6 hs7 hg7 q1
        have hq : q = 0 ∨ q = 1 ∨ q = 2 ∨ q = 3 ∨ q = 4 := by omega
        clear q0 q2
        rcases hq with rfl | rfl | rfl | rfl | rfl
        · go_wp2_with fail
          refine (edge_any B p a len cap _ HD7.out.src).mono ?_
          rintro e w8 ⟨⟨r, rfl, rr⟩, hs8, hg8⟩
          have HD8 : Hid (LoS W1 B p a len cap X (.slice f1 xs.length e1) (.slice f2 lv.length e2) xs lv now w8) := HD7.out.step hs8 hg8
          clear HD7 hs8 hg8
          have HD9 : Hid (LoS W1 B p a len cap X (.slice f1 xs.length e1) (.slice f2 lv.length e2) xs lv r (w8.setCell ⟨X, 2, none⟩ (.int .i64 r))) := lo_now HD8.out r
          have HF9 : Hid (LoF (xs.map (·.1)) lv r) := ⟨HF.out.1, HF.out.2.1, HF.out.2.2.1, HF.out.2.2.2.1, rr.1, rr.2⟩
          obtain ⟨b0, b1, b2, b3, b4, b5⟩ := HD8.out.cells
          have HE : Hid _ := fun y0 y1 y2 => HEnd.out _ _ _ _ _ _ _ _ y0 y1 y2 HD9.out.src HD9.out.gr (LgHi.of HD9.out.lg HF9.out) HF9.out
          rw [List.length_map] at HE
          obtain ⟨c0, c1, c2, -, -, -⟩ := HD9.out.cells
          obtain ⟨r0, r1, r2, g0, g1, g2⟩ := HRes.out _ HD9.out.gr
          clear HRes HEnd HD8 HD9 HP HF HF9 rr
          go_wp2_with fail
          refine bodyPost_ret (by simp [results, Tryz.results39, go_sem, r0, r1, r2]; rfl) rfl ?_
          exact HE.out _ _ _
        · have LS := HD7.out.drew
          obtain ⟨c0, c1, c2, -, -, -⟩ := HD7.out.cells
          have hlm := HF.out.2.1
          go_upto_region 20 with fail
          clear c0 c1 c2 HD7
          refine region_till (fun w' => w'.cell? ⟨X, 0, none⟩ = some (.slice f1 xs.length e1) ∧ w'.cell? ⟨X, 1, none⟩ = some (.slice f2 lv.length e2) ∧ w'.cell? ⟨X, 2, none⟩ = some (.int .i64 now)) 8 (by kernel_rfl) (⟨LS.cells.1, LS.cells.2.1, LS.cells.2.2.1⟩) (fun hHeld => ?_)
          generalize w7.drew = x0 at *
          refine till_take 0 (v := ?_) rfl (by kernel_rfl) (by kernel_rfl) (by kernel_rfl) (by kernel_rfl) (fun _ _ _ h => h) hHeld (Or.inl ⟨by rfl, ?_⟩) ?_
          rotate_left
          · (intro w hSw; (try dsimp only at hSw); go_simp; try with_reducible rfl)
          simp only [Act.put, List.setIfInBounds_toArray, List.set_cons_zero, List.set_cons_succ]
          refine till_take 1 (v := ?_) rfl (by kernel_rfl) (by kernel_rfl) (by kernel_rfl) (by kernel_rfl) (fun _ _ _ h => h) hHeld (Or.inl ⟨by rfl, ?_⟩) ?_
          rotate_left
          · (intro w hSw; (try dsimp only at hSw); go_simp; try with_reducible rfl)
          simp only [Act.put, List.setIfInBounds_toArray, List.set_cons_zero, List.set_cons_succ]
          refine till_take 2 (v := ?_) rfl (by kernel_rfl) (by kernel_rfl) (by kernel_rfl) (by kernel_rfl) (fun _ _ _ h => h) hHeld (Or.inl ⟨by rfl, ?_⟩) ?_
          rotate_left
          · (intro w hSw; (try dsimp only at hSw); go_simp; try with_reducible rfl)
          simp only [Act.put, List.setIfInBounds_toArray, List.set_cons_zero, List.set_cons_succ]
          refine till_ready 3 rfl (by kernel_rfl) (fun K hK => ?_)
          go_simp; (go_at_call 92; refine (l08Tomb_any B p a len cap x0 LS.src).mono ?_; rintro e x1 ⟨⟨tr, tf, ty, ta, rfl⟩, s1, g1⟩)
          replace LS := LS.step s1 g1
          clear s1 g1
          refine hK.out _ _ (⟨LS.cells.1, LS.cells.2.1, LS.cells.2.2.1⟩) (fun hHeld => ?_)
          clear hK K
          try simp only [Act.put, List.setIfInBounds_toArray, List.set_cons_zero, List.set_cons_succ]
          refine till_ready 4 rfl (by kernel_rfl) (fun K hK => ?_)
          go_simp; (go_at_call 91; refine (specTombText_any ⟨tr, tf, ty, ta⟩ x1).mono ?_; rintro e x2 ⟨rfl, zz⟩)
          replace LS := LS.below zz
          have hts := tmT_size ⟨tr, tf, ty, ta⟩
          clear zz
          generalize tmT ⟨tr, tf, ty, ta⟩ = tt at *
          refine hK.out _ _ (⟨LS.cells.1, LS.cells.2.1, LS.cells.2.2.1⟩) (fun hHeld => ?_)
          clear hK K
          try simp only [Act.put, List.setIfInBounds_toArray, List.set_cons_zero, List.set_cons_succ]
          obtain ⟨g3, d3, y3, hrun, T3, kc, f3⟩ := LS.appL tt (by omega)
          obtain ⟨kc0, kc1, kc2⟩ := kc
          refine till_ready 5 rfl (by kernel_rfl) (fun K hK => ?_)
          go_simp
          refine hK.out _ _ (⟨(LS.below ((Below.refl _ _).alloc (Nat.le_refl _) _)).cells.1, (LS.below ((Below.refl _ _).alloc (Nat.le_refl _) _)).cells.2.1, (LS.below ((Below.refl _ _).alloc (Nat.le_refl _) _)).cells.2.2.1⟩) (fun hHeld => ?_)
          clear hK K
          try simp only [Act.put, List.setIfInBounds_toArray, List.set_cons_zero, List.set_cons_succ]
          refine till_ready 6 rfl (by kernel_rfl) (fun K hK => ?_)
          refine step_append_run rfl _ _ 25 rfl (.slice f2 lv.length e2) (.slice (some ⟨x2.heap.size, 0, none⟩) 1 1) _ _ rfl rfl hrun ?_
          refine hK.out _ _ (⟨kc0, kc1, kc2⟩) (fun hHeld => ?_)
          clear hK K
          try simp only [Act.put, List.setIfInBounds_toArray, List.set_cons_zero, List.set_cons_succ]
          refine till_take 7 (v := ?_) rfl (by kernel_rfl) (by kernel_rfl) (by kernel_rfl) (by kernel_rfl) (fun _ _ _ h => h) hHeld (Or.inl ⟨by rfl, ?_⟩) ?_
          rotate_left
          · (intro w hSw; (try dsimp only at hSw); go_simp; try with_reducible rfl)
          simp only [Act.put, List.setIfInBounds_toArray, List.set_cons_zero, List.set_cons_succ]
          refine till_last rfl (by kernel_rfl) (by kernel_rfl) (fun K hK => ?_)
          go_simp
          refine hK.out _ _ ?_
          clear hK K
          have HD9 : Hid (LoS W1 B p a len cap X (.slice f1 xs.length e1) (.slice g3 (lv ++ [tt]).length d3) xs (lv ++ [tt]) now (y3.setCell ⟨X, 1, none⟩ (.slice g3 (lv.length + 1) d3))) := by rw [show (lv ++ [tt]).length = lv.length + 1 by simp]; exact T3
          have HF9 : Hid (LoF (xs.map (·.1)) (lv ++ [tt]) now) := ⟨HF.out.1, lo_len HP.out tt, HF.out.2.2.1, fun z hz => by rcases List.mem_append.1 hz with q | q; exact HF.out.2.2.2.1 z q; rw [List.mem_singleton.1 q]; unfold maxLen; omega, HF.out.2.2.2.2⟩
          have HE : Hid _ := fun y0 y1 y2 => HEnd.out _ _ _ _ _ _ _ _ y0 y1 y2 HD9.out.src HD9.out.gr (LgHi.of HD9.out.lg HF9.out) HF9.out
          rw [List.length_map] at HE
          rw [show (lv ++ [tt]).length = lv.length + 1 by simp] at HE
          obtain ⟨c0, c1, c2, -, -, -⟩ := HD9.out.cells
          rw [show (lv ++ [tt]).length = lv.length + 1 by simp] at c1
          obtain ⟨r0, r1, r2, g0, g1, g2⟩ := HRes.out _ HD9.out.gr
          clear HRes HEnd HD9 HP HF HF9 T3 LS hrun hHeld kc0 kc1 kc2 f3 hts hlm
          generalize (y3.setCell ⟨X, 1, none⟩ (.slice g3 (lv.length + 1) d3)) = we at *
          go_wp2_with fail
          refine bodyPost_ret (by simp [results, Tryz.results39, go_sem, r0, r1, r2]; rfl) rfl ?_
          exact HE.out _ _ _
        · have LS := HD7.out.drew
          obtain ⟨c0, c1, c2, -, -, -⟩ := HD7.out.cells
          have hlm := HF.out.1
          rw [List.length_map] at hlm
          go_upto_region 22 with fail
          clear c0 c1 c2 HD7
          refine region_till (fun w' => w'.cell? ⟨X, 0, none⟩ = some (.slice f1 xs.length e1) ∧ w'.cell? ⟨X, 1, none⟩ = some (.slice f2 lv.length e2) ∧ w'.cell? ⟨X, 2, none⟩ = some (.int .i64 now)) 7 (by kernel_rfl) (⟨LS.cells.1, LS.cells.2.1, LS.cells.2.2.1⟩) (fun hHeld => ?_)
          generalize w7.drew = x0 at *
          refine till_take 0 (v := ?_) rfl (by kernel_rfl) (by kernel_rfl) (by kernel_rfl) (by kernel_rfl) (fun _ _ _ h => h) hHeld (Or.inl ⟨by rfl, ?_⟩) ?_
          rotate_left
          · (intro w hSw; (try dsimp only at hSw); go_simp; try with_reducible rfl)
          simp only [Act.put, List.setIfInBounds_toArray, List.set_cons_zero, List.set_cons_succ]
          refine till_take 1 (v := ?_) rfl (by kernel_rfl) (by kernel_rfl) (by kernel_rfl) (by kernel_rfl) (fun _ _ _ h => h) hHeld (Or.inl ⟨by rfl, ?_⟩) ?_
          rotate_left
          · (intro w hSw; (try dsimp only at hSw); go_simp; try with_reducible rfl)
          simp only [Act.put, List.setIfInBounds_toArray, List.set_cons_zero, List.set_cons_succ]
          refine till_take 2 (v := ?_) rfl (by kernel_rfl) (by kernel_rfl) (by kernel_rfl) (by kernel_rfl) (fun _ _ _ h => h) hHeld (Or.inl ⟨by rfl, ?_⟩) ?_
          rotate_left
          · (intro w hSw; (try dsimp only at hSw); go_simp; try with_reducible rfl)
          simp only [Act.put, List.setIfInBounds_toArray, List.set_cons_zero, List.set_cons_succ]
          refine till_ready 3 rfl (by kernel_rfl) (fun K hK => ?_)
          go_simp; (go_at_call 93; refine (l07Some_any B p a len cap x0 LS.src).mono ?_; rintro e x1 ⟨⟨rk, ra, rf, rv, rfl, ro, rr⟩, s1, g1⟩)
          obtain ⟨rq, rc, rfl, rcl, -⟩ := ownF_form ro
          have LS1 := LS.step s1 g1
          clear s1 g1
          refine hK.out _ _ (⟨LS1.cells.1, LS1.cells.2.1, LS1.cells.2.2.1⟩) (fun hHeld => ?_)
          clear hK K
          try simp only [Act.put, List.setIfInBounds_toArray, List.set_cons_zero, List.set_cons_succ]
          obtain ⟨g3, d3, y3, hrun, T3, kc, f3⟩ := LS.appR LS1 ⟨rk, ra, rf⟩ rq rc ro (by have := lo_six HP.out; rw [List.length_map] at this; omega)
          obtain ⟨kc0, kc1, kc2⟩ := kc
          refine till_ready 4 rfl (by kernel_rfl) (fun K hK => ?_)
          go_simp
          refine hK.out _ _ (⟨(LS1.below ((Below.refl _ _).alloc (Nat.le_refl _) _)).cells.1, (LS1.below ((Below.refl _ _).alloc (Nat.le_refl _) _)).cells.2.1, (LS1.below ((Below.refl _ _).alloc (Nat.le_refl _) _)).cells.2.2.1⟩) (fun hHeld => ?_)
          clear hK K
          try simp only [Act.put, List.setIfInBounds_toArray, List.set_cons_zero, List.set_cons_succ]
          refine till_ready 5 rfl (by kernel_rfl) (fun K hK => ?_)
          refine step_append_run rfl _ _ 39 rfl (.slice f1 xs.length e1) (.slice (some ⟨x1.heap.size, 0, none⟩) 1 1) _ _ rfl rfl hrun ?_
          refine hK.out _ _ (⟨kc0, kc1, kc2⟩) (fun hHeld => ?_)
          clear hK K
          try simp only [Act.put, List.setIfInBounds_toArray, List.set_cons_zero, List.set_cons_succ]
          refine till_take 6 (v := ?_) rfl (by kernel_rfl) (by kernel_rfl) (by kernel_rfl) (by kernel_rfl) (fun _ _ _ h => h) hHeld (Or.inl ⟨by rfl, ?_⟩) ?_
          rotate_left
          · (intro w hSw; (try dsimp only at hSw); go_simp; try with_reducible rfl)
          simp only [Act.put, List.setIfInBounds_toArray, List.set_cons_zero, List.set_cons_succ]
          refine till_last rfl (by kernel_rfl) (by kernel_rfl) (fun K hK => ?_)
          go_simp
          refine hK.out _ _ ?_
          clear hK K
          have HD9 : Hid (LoS W1 B p a len cap X (.slice g3 (xs ++ [((⟨rk, ra, rf⟩ : Rw), Value.slice rq rf.length rc)]).length d3) (.slice f2 lv.length e2) (xs ++ [(⟨rk, ra, rf⟩, .slice rq rf.length rc)]) lv now (y3.setCell ⟨X, 0, none⟩ (.slice g3 (xs.length + 1) d3))) := by rw [show (xs ++ [((⟨rk, ra, rf⟩ : Rw), Value.slice rq rf.length rc)]).length = xs.length + 1 by simp]; exact T3
          have HF9 : Hid (LoF ((xs ++ [((⟨rk, ra, rf⟩ : Rw), Value.slice rq rf.length rc)]).map (·.1)) lv now) := lo_row7 HP.out rr
          have HE : Hid _ := fun y0 y1 y2 => HEnd.out _ _ _ _ _ _ _ _ y0 y1 y2 HD9.out.src HD9.out.gr (LgHi.of HD9.out.lg HF9.out) HF9.out
          rw [List.length_map, show (xs ++ [((⟨rk, ra, rf⟩ : Rw), Value.slice rq rf.length rc)]).length = xs.length + 1 by simp] at HE
          obtain ⟨c0, c1, c2, -, -, -⟩ := HD9.out.cells
          rw [show (xs ++ [((⟨rk, ra, rf⟩ : Rw), Value.slice rq rf.length rc)]).length = xs.length + 1 by simp] at c0
          obtain ⟨r0, r1, r2, g0, g1, g2⟩ := HRes.out _ HD9.out.gr
          clear HRes HEnd HD9 HP HF HF9 T3 LS LS1 hrun hHeld kc0 kc1 kc2 f3 hlm ro rr
          generalize (y3.setCell ⟨X, 0, none⟩ (.slice g3 (xs.length + 1) d3)) = we at *
          go_wp2_with fail
          refine bodyPost_ret (by simp [results, Tryz.results39, go_sem, r0, r1, r2]; rfl) rfl ?_
          exact HE.out _ _ _
        · obtain ⟨b0, b1, b2, b3, b4, b5⟩ := HD7.out.cells
          cases lv with
          | nil =>
            have HE : Hid _ := fun y0 y1 y2 => HEnd.out _ _ _ _ _ _ _ _ y0 y1 y2 HD7.out.src HD7.out.gr (LgHi.of HD7.out.lg HF.out) HF.out
            rw [List.length_map] at HE
            obtain ⟨r0, r1, r2, g0, g1, g2⟩ := HRes.out _ HD7.out.gr
            clear HRes HEnd HD7 HP HF
            go_wp2_with fail
            refine bodyPost_ret (by simp [results, Tryz.results39, go_sem, r0, r1, r2]; rfl) rfl ?_
            exact HE.out _ _ _
          | cons t ts =>
            obtain ⟨Z, rfl⟩ := lo_first HD7.out.lg
            have dl : decide (0 < ((t :: ts).length : Int)) = true := decide_eq_true (by simp)
            obtain ⟨hs9, hg9, lg9⟩ := lo_one HD7.out (.slice (if e2 = 1 then some ⟨Z, 0, none⟩ else some ⟨Z, 1, none⟩) ts.length (e2 - 1))
            have HF9 : Hid (LoF (xs.map (·.1)) ts now) := ⟨HF.out.1, Nat.le_of_succ_le HF.out.2.1, HF.out.2.2.1, fun x hx => HF.out.2.2.2.1 x (List.mem_cons_of_mem _ hx), HF.out.2.2.2.2⟩
            have HL9 := (LgHi.of lg9 HF.out).tail1 m2
            have HE : Hid _ := fun y0 y1 y2 => HEnd.out _ _ _ _ _ _ _ _ y0 y1 y2 hs9 hg9 HL9 HF9.out
            rw [List.length_map] at HE
            obtain ⟨r0, r1, r2, g0, g1, g2⟩ := HRes.out _ hg9
            have HR9 : Hid _ := And.intro r0 (And.intro r1 (And.intro r2 (And.intro g0 (And.intro g1 g2))))
            clear HRes HEnd HD7 HP HF HF9 hs9 hg9 HL9 lg9 r0 r1 r2 g0 g1 g2
            go_upto_region 26 with fail
            generalize (if e2 = 1 then some (⟨Z, 0, none⟩ : Addr) else some ⟨Z, 1, none⟩) = pz at *
            obtain ⟨r0, r1, r2, g0, g1, g2⟩ := HR9.out
            go_wp2_with fail
            refine bodyPost_ret (by simp [results, Tryz.results39, go_sem, r0, r1, r2]; rfl) rfl ?_
            exact HE.out _ _ _
        · obtain ⟨b0, b1, b2, b3, b4, b5⟩ := HD7.out.cells
          cases xs with
          | nil =>
            have HE : Hid _ := fun y0 y1 y2 => HEnd.out _ _ _ _ _ _ _ _ y0 y1 y2 HD7.out.src HD7.out.gr (LgHi.of HD7.out.lg HF.out) HF.out
            rw [List.length_map] at HE
            obtain ⟨r0, r1, r2, g0, g1, g2⟩ := HRes.out _ HD7.out.gr
            clear HRes HEnd HD7 HP HF
            go_wp2_with fail
            refine bodyPost_ret (by simp [results, Tryz.results39, go_sem, r0, r1, r2]; rfl) rfl ?_
            exact HE.out _ _ _
          | cons x9 xr =>
            obtain ⟨⟨rk, ra, rf⟩, rv⟩ := x9
            have h1 := HP.out.f1 ⟨rk, ra, rf⟩ (by simp)
            cases rf with
            | nil => simp at h1
            | cons f0 fr =>
              clear h1
              obtain ⟨rb, rfl⟩ := lo_firstR HD7.out.lg
              have hfo := HD7.out.lg.rws.fld _ (List.mem_cons_self ..)
              obtain ⟨fb, fc, rfl⟩ := lo_firstF hfo
              have LS := HD7.out.drew
              have dl : decide (0 < ((((⟨rk, ra, f0 :: fr⟩ : Rw), Value.slice (some ⟨fb, 0, none⟩) (f0 :: fr).length fc) :: xr).length : Int)) = true := decide_eq_true (by simp)
              have HF9 := lo_flip (g := !f0.g) HF.out
              go_upto_region 16 with fail
              clear b0 b1 b2 b3 b4 b5 HD7 hfo dl
              refine region_till (fun w' => w'.cell? ⟨X, 0, none⟩ = some (.slice (some ⟨rb, 0, none⟩) (((⟨rk, ra, f0 :: fr⟩ : Rw), Value.slice (some ⟨fb, 0, none⟩) (f0 :: fr).length fc) :: xr).length e1) ∧ w'.cell? ⟨rb, 2, none⟩ = some (.slice (some ⟨fb, 0, none⟩) (f0 :: fr).length fc) ∧ w'.cell? ⟨fb, 4, none⟩ = some (.bool f0.g)) 16 (by kernel_rfl) (⟨LS.cells.1, World.ownsRow.cellAt LS.lg.rws.own 2 (by simp; omega), World.ownsRow.cellAt (LS.lg.rws.fld _ (List.mem_cons_self ..)) 4 (by simp; omega)⟩) (fun hHeld => ?_)
              have fz := World.ownsRow.frozenAt (LS.lg.rws.fld _ (List.mem_cons_self ..)) 4
              obtain ⟨hs9, hg9, lg9, bx9⟩ := LS.flip (!f0.g)
              generalize w7.drew = x0 at *
              refine till_take 0 (v := ?_) rfl (by kernel_rfl) (by kernel_rfl) (by kernel_rfl) (by kernel_rfl) (fun _ _ _ h => h) hHeld (Or.inl ⟨by rfl, ?_⟩) ?_
              rotate_left
              · (intro w hSw; (try dsimp only at hSw); go_simp; try with_reducible rfl)
              simp only [Act.put, List.setIfInBounds_toArray, List.set_cons_zero, List.set_cons_succ]
              refine till_take 1 (v := ?_) rfl (by kernel_rfl) (by kernel_rfl) (by kernel_rfl) (by kernel_rfl) (fun _ _ _ h => h) hHeld (Or.inl ⟨by rfl, ?_⟩) ?_
              rotate_left
              · (intro w hSw; (try dsimp only at hSw); go_simp; try with_reducible rfl)
              simp only [Act.put, List.setIfInBounds_toArray, List.set_cons_zero, List.set_cons_succ]
              refine till_take 2 (v := ?_) rfl (by kernel_rfl) (by kernel_rfl) (by kernel_rfl) (by kernel_rfl) (fun _ _ _ h => h) hHeld (Or.inl ⟨by rfl, ?_⟩) ?_
              rotate_left
              · (intro w hSw; (try dsimp only at hSw); go_simp; try with_reducible rfl)
              simp only [Act.put, List.setIfInBounds_toArray, List.set_cons_zero, List.set_cons_succ]
              refine till_take 3 (v := ?_) rfl (by kernel_rfl) (by kernel_rfl) (by kernel_rfl) (by kernel_rfl) (fun _ _ _ h => h) hHeld (Or.inl ⟨by rfl, ?_⟩) ?_
              rotate_left
              · (intro w hSw; (try dsimp only at hSw); go_simp; try with_reducible rfl)
              simp only [Act.put, List.setIfInBounds_toArray, List.set_cons_zero, List.set_cons_succ]
              refine till_take 4 (v := ?_) rfl (by kernel_rfl) (by kernel_rfl) (by kernel_rfl) (by kernel_rfl) (fun _ _ _ h => h) hHeld (Or.inl ⟨by rfl, ?_⟩) ?_
              rotate_left
              · (intro w hSw; (try dsimp only at hSw); go_simp; try with_reducible rfl)
              simp only [Act.put, List.setIfInBounds_toArray, List.set_cons_zero, List.set_cons_succ]
              refine till_take 5 (v := ?_) rfl (by kernel_rfl) (by kernel_rfl) (by kernel_rfl) (by kernel_rfl) (fun _ _ _ h => h) hHeld (Or.inl ⟨by rfl, ?_⟩) ?_
              rotate_left
              · (intro w hSw; (try dsimp only at hSw); go_simp; try with_reducible rfl)
              simp only [Act.put, List.setIfInBounds_toArray, List.set_cons_zero, List.set_cons_succ]
              refine till_take 6 (v := ?_) rfl (by kernel_rfl) (by kernel_rfl) (by kernel_rfl) (by kernel_rfl) (fun _ _ _ h => h) hHeld (Or.inl ⟨by rfl, ?_⟩) ?_
              rotate_left
              · (intro w hSw; (try dsimp only at hSw); go_simp; try with_reducible rfl)
              simp only [Act.put, List.setIfInBounds_toArray, List.set_cons_zero, List.set_cons_succ]
              refine till_take 7 (v := ?_) rfl (by kernel_rfl) (by kernel_rfl) (by kernel_rfl) (by kernel_rfl) (fun _ _ _ h => h) hHeld (Or.inl ⟨by rfl, ?_⟩) ?_
              rotate_left
              · (intro w hSw; (try dsimp only at hSw); go_simp; try with_reducible rfl)
              simp only [Act.put, List.setIfInBounds_toArray, List.set_cons_zero, List.set_cons_succ]
              refine till_take 8 (v := ?_) rfl (by kernel_rfl) (by kernel_rfl) (by kernel_rfl) (by kernel_rfl) (fun _ _ _ h => h) hHeld (Or.inl ⟨by rfl, ?_⟩) ?_
              rotate_left
              · (intro w hSw; (try dsimp only at hSw); go_simp; try with_reducible rfl)
              simp only [Act.put, List.setIfInBounds_toArray, List.set_cons_zero, List.set_cons_succ]
              refine till_take 9 (v := ?_) rfl (by kernel_rfl) (by kernel_rfl) (by kernel_rfl) (by kernel_rfl) (fun _ _ _ h => h) hHeld (Or.inl ⟨by rfl, ?_⟩) ?_
              rotate_left
              · (intro w hSw; (try dsimp only at hSw); go_simp; try with_reducible rfl)
              simp only [Act.put, List.setIfInBounds_toArray, List.set_cons_zero, List.set_cons_succ]
              refine till_take 10 (v := ?_) rfl (by kernel_rfl) (by kernel_rfl) (by kernel_rfl) (by kernel_rfl) (fun _ _ _ h => h) hHeld (Or.inl ⟨by rfl, ?_⟩) ?_
              rotate_left
              · (intro w hSw; (try dsimp only at hSw); go_simp; try with_reducible rfl)
              simp only [Act.put, List.setIfInBounds_toArray, List.set_cons_zero, List.set_cons_succ]
              refine till_take 11 (v := ?_) rfl (by kernel_rfl) (by kernel_rfl) (by kernel_rfl) (by kernel_rfl) (fun _ _ _ h => h) hHeld (Or.inl ⟨by rfl, ?_⟩) ?_
              rotate_left
              · (intro w hSw; (try dsimp only at hSw); go_simp; try with_reducible rfl)
              simp only [Act.put, List.setIfInBounds_toArray, List.set_cons_zero, List.set_cons_succ]
              refine till_take 12 (v := ?_) rfl (by kernel_rfl) (by kernel_rfl) (by kernel_rfl) (by kernel_rfl) (fun _ _ _ h => h) hHeld (Or.inl ⟨by rfl, ?_⟩) ?_
              rotate_left
              · (intro w hSw; (try dsimp only at hSw); go_simp; try with_reducible rfl)
              simp only [Act.put, List.setIfInBounds_toArray, List.set_cons_zero, List.set_cons_succ]
              refine till_take 13 (v := ?_) rfl (by kernel_rfl) (by kernel_rfl) (by kernel_rfl) (by kernel_rfl) (fun _ _ _ h => h) hHeld (Or.inl ⟨by rfl, ?_⟩) ?_
              rotate_left
              · (intro w hSw; (try dsimp only at hSw); go_simp; try with_reducible rfl)
              simp only [Act.put, List.setIfInBounds_toArray, List.set_cons_zero, List.set_cons_succ]
              refine till_ready 14 rfl (by kernel_rfl) (fun K hK => ?_)
              go_simp
              refine hK.out _ _ hHeld (fun hHeld => ?_)
              clear hK K
              try simp only [Act.put, List.setIfInBounds_toArray, List.set_cons_zero, List.set_cons_succ]
              refine till_take 15 (v := ?_) rfl (by kernel_rfl) (by kernel_rfl) (by kernel_rfl) (by kernel_rfl) (fun _ _ _ h => h) hHeld (Or.inl ⟨by rfl, ?_⟩) ?_
              rotate_left
              · (intro w hSw; (try dsimp only at hSw); go_simp; try with_reducible rfl)
              simp only [Act.put, List.setIfInBounds_toArray, List.set_cons_zero, List.set_cons_succ]
              obtain ⟨hh0, hh1, hh2⟩ := hHeld
              refine till_last rfl (by kernel_rfl) (by kernel_rfl) (fun K hK => ?_)
              go_simp
              refine hK.out _ _ ?_
              clear hK K hh0 hh1 hh2 fz
              have HE : Hid _ := fun y0 y1 y2 => HEnd.out _ _ _ _ _ _ _ _ y0 y1 y2 hs9 hg9 (LgHi.of lg9 HF9) HF9
              rw [List.length_map] at HE
              have c0 := bx9.cell 0
              have c1 := bx9.cell 1
              have c2 := bx9.cell 2
              obtain ⟨r0, r1, r2, g0, g1, g2⟩ := HRes.out _ hg9
              clear HRes HEnd HP HF HF9 LS hs9 hg9 lg9 bx9
              generalize (x0.setCell ⟨fb, 4, none⟩ (.bool !f0.g)) = we at *
              go_wp2_with fail
              refine bodyPost_ret (by simp [results, Tryz.results39, go_sem, r0, r1, r2]; rfl) rfl ?_
              exact HE.out _ _ _
end Go.Proofs.YtonleickhincgaaGreatDoor
