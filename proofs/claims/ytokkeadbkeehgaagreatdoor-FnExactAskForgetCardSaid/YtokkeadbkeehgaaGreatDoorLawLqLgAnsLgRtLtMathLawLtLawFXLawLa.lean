/-
  Parts of one proof, laid as one text: LawLq, LgAns, LgRt, LtMath, LawLt, LawFX, LawLa; what each says stands at its head.
-/
import Derived.Test.YtokkeadbkeehgaaGreatDoorRows
import Derived.Test.YtokkeadbkeehgaaGreatDoorBytesDigMathTreeMathSlASlBBxKOwnSTakesLTillTwo
import Derived.Test.YtokkeadbkeehgaaGreatDoorRulBlkLawRlLawPoLawSLawM
import Derived.Test.YtokkeadbkeehgaaGreatDoorLawLzLawMGLawFMLawLm
import Derived.Test.YtokkeadbkeehgaaGreatDoorTimeBPutMathPutNumJoinedPutTextFldMathFldRiseScanMath
import Derived.Test.YtokkeadbkeehgaaGreatDoorGetValGetTxtNumMathFldRdNumFromTmbMathLgMath
import Derived.Test.YtokkeadbkeehgaaGreatDoorLgAtKShwKOneKFldGFldBlkRwBlkIntKLawILawOGLawImBlNotRulMathAppS
import Derived.Test.YtokkeadbkeehgaaGreatDoorLawLgLawLh
import Derived.Test.YtokkeadbkeehgaaGreatDoorLawLkRowOpsLgOLawLo
import Derived.Handy
import Derived.WalkSpells
import Derived.OwnWalk
import Derived.Deep.Cut
import Derived.Test.YtokkeadbkeehgaaGreatDoorLawRmLawPoMTakesLawFLawFRLawSG
import Derived.Laws.OwnMore
/-
  What the laws' own helpers markLog, markLogOut, heldLog, heldLogOut and eqLogOut answer, and leave, for a log of its own memory.
-/
namespace Go.Proofs.YtokkeadbkeehgaaGreatDoor
open Go.RowKit Go.Lib
set_option linter.unusedVariables false
set_option maxRecDepth 20000

theorem But.trans {S : Nat → Prop} {a b c : World} (h : But S a b) (k : But S b c) : But S a c :=
  ⟨k.os.trans h.os, k.tape.trans h.tape, k.output.trans h.output, Nat.le_trans h.size k.size, fun q hq hn => (k.block q (Nat.lt_of_lt_of_le hq h.size) hn).trans (h.block q hq hn)⟩
theorem But.wider {S T : Nat → Prop} {a b : World} (h : But S a b) (hs : ∀ k, S k → T k) : But T a b := ⟨h.os, h.tape, h.output, h.size, fun q hq hn => h.block q hq (fun e => hn (hs q e))⟩
theorem But.own {a b : World} {o : Option Nat} {S : Nat → Prop} (k : a.grownBy b o) (hs : ∀ q, o = some q → S q) : But S a b :=
  ⟨k.os, k.tape, k.output, k.size, fun q hq hn => k.block q hq (fun e => hn (hs q e.symm))⟩
theorem LgO.at {base : Nat} {xs : List (Rw × Value)} {rs : List Rw} {lv : List ByteArray} {v1 v2 : Value} {w : World} (h : LgO base xs lv v1 v2 w) (hx : xs.map (·.1) = rs) : ∃ q cq p cp, v1 = .slice q rs.length cq ∧ v2 = .slice p lv.length cp ∧ RwAt w q rs ∧ rs.length ≤ cq ∧ TxtAt w p lv ∧ lv.length ≤ cp := by
  obtain ⟨q, cq, e1, h1⟩ := h.rws.form
  obtain ⟨p, cp, e2, h2, h3⟩ := ownS_form h.lvs
  have hr := h.rws
  rw [e1] at hr
  have ha := hr.at
  subst hx
  rw [List.length_map]
  exact ⟨q, cq, p, cp, e1, e2, ha, h1, h3, h2⟩
/-- The blocks of a log of its own. -/
def lqS (xs : List (Rw × Value)) (v1 v2 : Value) (k : Nat) : Prop := rwS xs v1 k ∨ v2.ownBlock = some k
theorem lqS_from {base : Nat} {xs : List (Rw × Value)} {lv : List ByteArray} {v1 v2 : Value} {w : World} (h : LgO base xs lv v1 v2 w) {k : Nat} (hk : lqS xs v1 v2 k) : base ≤ k ∧ k < w.heap.size := by
  rcases hk with (h1 | ⟨x, hx, h1⟩) | h1
  · exact h.rws.own.lt k h1
  · exact (h.rws.fld x hx).lt k h1
  · exact h.lvs.lt k h1
def mkT (xs : List (Rw × Value)) : Nat := 1 + 2 * xs.length + 5 * fsN (xs.map (·.1))
/-- A log of its own that bears its marks. -/
def LgM (base : Nat) (xs : List (Rw × Value)) (m : Nat) (v1 v2 : Value) (w : World) : Prop := LgO base (mkV 1 xs xs.length) (marksN (mkT xs) m) v1 v2 w
theorem marksN_len (s n : Nat) : (marksN s n).length = n := by simp [marksN]
set_option maxHeartbeats 2000000 in
theorem markLogO_any (base : Nat) (xs : List (Rw × Value)) (lv : List ByteArray) (v1 v2 : Value) (now : Int) (w : World) (h : LgO base xs lv v1 v2 w) (hn : xs.length ≤ 1048576) (hb : mkT xs + lv.length ≤ 16777210) :
    Calls Tryz.prog 15 #[.agg #[v1, v2, .int .i64 now], .int .i64 1] w fun e w' => e = .returned (.int .i64 ((mkT xs + lv.length : Nat) : Int)) ∧ LgM base xs lv.length v1 v2 w' ∧ But (lqS xs v1 v2) w w' := by
  obtain ⟨W1, hW1⟩ : ∃ W1, W1 = w.alloc (.cells #[v1, v2, .int .i64 now] 36) := ⟨_, rfl⟩
  have HW1 : Hid (W1 = w.alloc (.cells #[v1, v2, .int .i64 now] 36)) := hW1
  have b1 : Below w.heap.size w W1 := by rw [hW1]; exact (Below.refl _ _).alloc (Nat.le_refl _) _
  have K1 : Hid (Bxs W1 w.heap.size 36 #[v1, v2, .int .i64 now]) := by rw [hW1]; exact Bxs.new _ _ _
  have h1 : LgO base xs lv v1 v2 W1 := h.below b1
  have hno : ¬ rwS xs v1 w.heap.size := fun hk => by have := (lqS_from h (.inl hk)).2; omega
  have hM : Calls Tryz.prog 47 #[v1, .int .i64 1] W1 fun e w' => e = .returned (.int .i64 ((mkT xs : Nat) : Int)) ∧ RwsO base (mkV 1 xs xs.length) v1 w' ∧ But (rwS xs v1) W1 w' := markRowO_any (rwS xs v1) base xs v1 1 W1 h1.rws (Nat.le_refl _) (fun k hk => hk) hn (by unfold mkT at hb; omega)
  have h2no : ∀ g, v2.ownBlock = some g → ¬ rwS xs v1 g := fun g hg hk => by
    rcases hk with h3 | ⟨x, hx, h3⟩
    · rcases own_apart h.lvs h.rws.own (by decide) with e | e
      · rw [e] at hg; cases hg
      · exact e (hg.trans h3.symm)
    · rcases own_apart h.lvs (h.rws.fld x hx) (by decide) with e | e
      · rw [e] at hg; cases hg
      · exact e (hg.trans h3.symm)
  have HG : Hid (∀ y, But (rwS xs v1) W1 y → RwsO base (mkV 1 xs xs.length) v1 y → Calls Tryz.prog 48 #[v2, .int .i64 ((mkT xs : Nat) : Int)] y fun e w' => e = .returned (.int .i64 ((mkT xs + lv.length : Nat) : Int)) ∧ LgM base xs lv.length v1 v2 w' ∧ But (lqS xs v1 v2) w w') := fun y hy hr => by
    have ho := ownS_but h1.lvs hy h2no
    refine (markG_any (mkT xs) (by unfold mkT; omega) base v2 lv y ho (by omega)).mono ?_
    rintro e z ⟨rfl, hz, hg⟩
    refine ⟨by rw [show ((lv.length : Int) + (mkT xs : Nat)) = ((mkT xs + lv.length : Nat) : Int) by omega], ⟨hr.kept hg (own_apart hr.own ho (by decide)) (fun x hx => own_apart (hr.fld x hx) ho (by decide)), by rw [marksN_len]; exact hz⟩, ?_⟩
    exact (((But.refl _ w).more b1).trans (hy.wider (fun k hk => .inl hk))).trans (But.own hg (fun q hq => .inr hq))
  have HKb : Hid (∀ y, But (rwS xs v1) W1 y → y.cell? ⟨w.heap.size, 1, none⟩ = some v2) := fun y hy => (K1.out.but hy hno).cell 1
  have c0 : W1.cell? ⟨w.heap.size, 0, none⟩ = some v1 := K1.out.cell 0
  obtain ⟨q, cq, p, cp, e1, e2, _⟩ := h.at rfl
  rw [List.length_map] at e1
  subst e1 e2
  clear hW1 b1 h h1 hno h2no hb hn
  generalize mkT xs = T at *
  go_enter Tryz.func15, Tryz.ntmps15
  go_upto_region 1 with fail
  rw [← HW1.out]
  go_wp2_with fail
  with_reducible refine hM.mono ?_
  rintro e y ⟨rfl, hr, hy⟩
  have hG := HG.out y hy hr
  have c1 := HKb.out y hy
  clear hM c0 hr hy
  go_wp2_with fail
  with_reducible refine hG.mono ?_
  rintro e z ⟨rfl, hl, hbz⟩
  have HL : Hid _ := hl
  have HB : Hid _ := hbz
  clear hl hbz hG c1
  go_wp2_with fail
  go_ret
  exact ⟨rfl, HL.out, HB.out⟩
theorem LgM.at {base : Nat} {xs : List (Rw × Value)} {m : Nat} {v1 v2 : Value} {w : World} (h : LgM base xs m v1 v2 w) : ∃ q cq p cp, v1 = .slice q xs.length cq ∧ v2 = .slice p m cp ∧ RwAt w q ((mkV 1 xs xs.length).map (·.1)) ∧ xs.length ≤ cq ∧ TxtAt w p (marksN (mkT xs) m) ∧ m ≤ cp := by
  obtain ⟨q, cq, p, cp, e1, e2, h1, h2, h3, h4⟩ := LgO.at h rfl
  rw [List.length_map, mkV_len] at e1 h2
  rw [marksN_len] at e2 h4
  exact ⟨q, cq, p, cp, e1, e2, h1, h2, h3, h4⟩
theorem LgM.below {base : Nat} {xs : List (Rw × Value)} {m : Nat} {v1 v2 : Value} {w w' : World} (h : LgM base xs m v1 v2 w) (hb : Below w.heap.size w w') : LgM base xs m v1 v2 w' := LgO.below h hb
end Go.Proofs.YtokkeadbkeehgaaGreatDoor
/-
  What is told of a log, in plain mathematics: the place of a row's leaf, the code and the status of a field.
-/
namespace Go.Proofs.YtokkeadbkeehgaaGreatDoor
open Go.RowKit Go.Lib
set_option linter.unusedVariables false

def plFrom (row : Int) : Nat → Nat → List ByteArray → Int
  | _, _, [] => -1
  | n, i, t :: ts => if isRl t = true then (if (n : Int) = row then (i : Int) else plFrom row (n + 1) (i + 1) ts) else plFrom row n (i + 1) ts
def plB (lv : List ByteArray) (row : Int) : Int := plFrom row 0 0 lv
def plO (rs : List Rw) (lv : List ByteArray) (now r : Int) : Int := if lgB rs lv now = true then plB lv r else -1
def tbO (rs : List Rw) (lv : List ByteArray) (now r f : Int) : Int := if lgB rs lv now = true then tbAt lv r f else -1
/-- The code of a field: it is there, it is gone, there is none. -/
def fcO (rs : List Rw) (r f : Int) : Int := if 0 ≤ r ∧ r ≤ (rs.length : Int) - 1 then (if 0 ≤ f ∧ f ≤ ((rs.getD r.toNat rwZ).fs.length : Int) - 1 then (if (fldOf rs r f).g = true then 7 else 0) else 6) else 6
def gcO (rs : List Rw) (lv : List ByteArray) (now r f : Int) : Int := if lgB rs lv now = true then fcO rs r f else 1
def stC (c : Int) : Int := if c = 0 then 1 else if c = 7 then 2 else 0
def stO (rs : List Rw) (lv : List ByteArray) (now r f : Int) : Int := if lgB rs lv now = true then stC (fcO rs r f) else 0
theorem stO_gc (rs : List Rw) (lv : List ByteArray) (now r f : Int) : stO rs lv now r f = stC (gcO rs lv now r f) := by
  unfold stO gcO
  split
  · rfl
  · rfl
theorem fcO_cases (rs : List Rw) (r f : Int) : fcO rs r f = 0 ∨ fcO rs r f = 7 ∨ fcO rs r f = 6 := by
  unfold fcO
  split
  · split
    · split
      · exact .inr (.inl rfl)
      · exact .inl rfl
    · exact .inr (.inr rfl)
  · exact .inr (.inr rfl)
theorem lg_right {rs : List Rw} {lv : List ByteArray} {now : Int} (h : lgB rs lv now = true) : rs.length ≤ 6 ∧ lv.length ≤ 64 ∧ (∀ r ∈ rs, rB r = true) := by
  unfold lgB at h
  simp only [Bool.and_eq_true, decide_eq_true_iff] at h
  refine ⟨h.1, h.2.1, fun r hr => ?_⟩
  have h2 := h.2.2.2.1
  unfold rsB at h2
  rw [List.all_eq_true] at h2
  exact (Bool.and_eq_true_iff.1 (h2 r hr)).1
end Go.Proofs.YtokkeadbkeehgaaGreatDoor
/-
  The root of a log's first leaves and its head, in plain mathematics; the leaves of a right log are small.
-/
namespace Go.Proofs.YtokkeadbkeehgaaGreatDoor
open Go.RowKit Go.Lib
set_option linter.unusedVariables false

def roO (rs : List Rw) (lv : List ByteArray) (now n : Int) : ByteArray := if lgB rs lv now = true then (if 0 ≤ n ∧ n ≤ (lv.length : Int) then treeB (lv.take n.toNat) else ByteArray.empty) else ByteArray.empty
def hdB (lv : List ByteArray) : ByteArray := putB (lv.length : Int) ++ putTextB (treeB lv)
def hdO (rs : List Rw) (lv : List ByteArray) (now : Int) : ByteArray := if lgB rs lv now = true then hdB lv else ByteArray.empty
theorem go_small (rs : List Rw) (now : Int) : ∀ (suf pre : List ByteArray) (n n' : Nat), cGo rs now pre n suf = some n' → ∀ t ∈ suf, t.size ≤ 100
  | [], _, _, _, _ => fun t h => by cases h
  | t :: ts, pre, n, n', h => by
    rw [cGo] at h
    have each : ∀ {m : Nat} {q : List ByteArray}, t.size ≤ 100 → cGo rs now q m ts = some n' → ∀ x ∈ t :: ts, x.size ≤ 100 := fun ht hc x hx => by
      rcases List.mem_cons.1 hx with rfl | hx
      · exact ht
      · exact go_small rs now ts _ _ _ hc x hx
    split at h
    · rename_i hn
      refine each ?_ h
      rw [((nx_iff _ _ _).1 hn).2]
      unfold rlB
      rw [ByteArray.size_append, digB_size]
      show 1 + 32 ≤ 100
      omega
    · split at h
      · rename_i hn ho
        refine each ?_ h
        unfold okT at ho
        simp only [Bool.and_eq_true, decide_eq_true_iff] at ho
        obtain ⟨-, -, hR, -⟩ := tr_sound ho.1
        have := (tmRaw_size (trT t)).2
        rw [hR] at this
        omega
      · cases h
theorem lg_small {rs : List Rw} {lv : List ByteArray} {now : Int} (h : lgB rs lv now = true) : ∀ t ∈ lv, t.size ≤ 100 := by
  rw [lg_eq] at h
  unfold imB at h
  simp only [Bool.and_eq_true] at h
  cases hc : cGo rs now [] 0 lv with
  | none => rw [hc] at h; exact absurd h.2.2 (by simp)
  | some n => exact go_small rs now lv [] 0 n hc
theorem ent_take {lv : List ByteArray} (h1 : lv.length ≤ 64) (h2 : ∀ t ∈ lv, t.size ≤ 100) (k : Nat) : entB (lv.take k) = true :=
  entB_true (by simp; omega) (fun j hj => h2 _ (List.mem_of_mem_take (List.getElem_mem hj)))
theorem rtSize (wx : World) : (sizeOf (Tryz.prog.elem 23)).run Tryz.prog wx = .ok 1 wx := by kernel_rfl
theorem rtElem : Tryz.prog.underlying 23 = some (.slice (Tryz.prog.elem 23)) := by kernel_rfl
theorem sl_to (q : Option Addr) (n c k : Nat) (hk : k ≤ c) (wx : World) : (Instr.slice 23 (.slice q n c) none (some (.int .i64 (k : Int))) none).run Tryz.prog wx = .ok (.slice q k c) wx := by
  rw [run_slice_h (P := Tryz.prog) wx 23 q n c rtElem .i64 (k : Int) (by omega) (by omega), rtSize]
  cases q <;> simp [sliced, Result.andThen, Addr.add]
theorem rtSizeL (wx : World) : (sizeOf (Tryz.prog.elem 107)).run Tryz.prog wx = .ok 1 wx := by kernel_rfl
theorem rtElemL : Tryz.prog.underlying 107 = some (.slice (Tryz.prog.elem 107)) := by kernel_rfl
theorem sl_lv (q : Option Addr) (n c k : Nat) (hk : k ≤ c) (wx : World) : (Instr.slice 107 (.slice q n c) none (some (.int .i64 (k : Int))) none).run Tryz.prog wx = .ok (.slice q k c) wx := by
  rw [run_slice_h (P := Tryz.prog) wx 107 q n c rtElemL .i64 (k : Int) (by omega) (by omega), rtSizeL]
  cases q <;> simp [sliced, Result.andThen, Addr.add]
theorem putTextB_32 {t : ByteArray} (h : t.size = 32) : (putTextB t).size ≤ 42 := by
  have := putTextB_le t (by omega)
  omega
end Go.Proofs.YtokkeadbkeehgaaGreatDoor
/-
  A LogOut in new memory; what LogTime answers (plain).
-/
namespace Go.Proofs.YtokkeadbkeehgaaGreatDoor
open Go.RowKit Go.Lib
set_option linter.unusedVariables false
set_option maxRecDepth 20000

/-- A LogOut of its own memory. -/
def LgA (base : Nat) (rs : List Rw) (lv : List ByteArray) (now C : Int) (e : Ending) (w : World) : Prop := ∃ v1 v2 xs, e = .returned (.agg #[v1, v2, .int .i64 now, .int .i64 C]) ∧ xs.map (·.1) = rs ∧ LgO base xs lv v1 v2 w
theorem LgA.ill (base : Nat) (C : Int) (w : World) : LgA base [] [] 0 C (.returned (.agg #[.slice none 0 0, .slice none 0 0, .int .i64 0, .int .i64 C])) w := ⟨_, _, [], rfl, rfl, LgO.nil _ _⟩
def mxB (a b : Int) : Int := if a < b then b else a
def ltB (rs : List Rw) (lv : List ByteArray) (now t : Int) : Bool := lgB rs lv now && timeB t
def ltC (rs : List Rw) (lv : List ByteArray) (now t : Int) : Int := if ltB rs lv now t = true then 0 else 1
def ltmR (rs : List Rw) (lv : List ByteArray) (now t : Int) : List Rw := if ltB rs lv now t = true then rs else []
def ltL (rs : List Rw) (lv : List ByteArray) (now t : Int) : List ByteArray := if ltB rs lv now t = true then lv else []
def ltN (rs : List Rw) (lv : List ByteArray) (now t : Int) : Int := if ltB rs lv now t = true then mxB now t else 0
/-- The log's box and the answer's, as LogTime begins. -/
structure LtB (w : World) (q : Option Addr) (n cq : Nat) (p : Option Addr) (m cp : Nat) (now : Int) (x : World) : Prop where
  lg : Bxs x w.heap.size 36 #[.slice q n cq, .slice p m cp, .int .i64 now]
  rs : Bxs x (w.heap.size + 1) 137 #[.slice none 0 0, .slice none 0 0, .int .i64 0, .int .i64 0]
  bel : Below w.heap.size w x
theorem LtB.below {w x y : World} {q : Option Addr} {n cq : Nat} {p : Option Addr} {m cp : Nat} {now : Int} (h : LtB w q n cq p m cp now x) (hb : Below x.heap.size x y) : LtB w q n cq p m cp now y := ⟨h.lg.below hb, h.rs.below hb, chainB h.bel hb⟩
theorem LtB.thr {w x : World} {q : Option Addr} {n cq : Nat} {p : Option Addr} {m cp : Nat} {now : Int} (h : LtB w q n cq p m cp now x) : x.cell? ⟨w.heap.size, 0, none⟩ = some (.slice q n cq) ∧ x.cell? ⟨w.heap.size, 1, none⟩ = some (.slice p m cp) ∧ x.cell? ⟨w.heap.size, 2, none⟩ = some (.int .i64 now) := ⟨h.lg.cell 0, h.lg.cell 1, h.lg.cell 2⟩
theorem LtB.res {w x : World} {q : Option Addr} {n cq : Nat} {p : Option Addr} {m cp : Nat} {now : Int} (h : LtB w q n cq p m cp now x) : x.cell? ⟨w.heap.size + 1, 0, none⟩ = some (.slice none 0 0) ∧ x.cell? ⟨w.heap.size + 1, 1, none⟩ = some (.slice none 0 0) ∧ x.cell? ⟨w.heap.size + 1, 2, none⟩ = some (.int .i64 0) ∧ x.cell? ⟨w.heap.size + 1, 3, none⟩ = some (.int .i64 0) ∧ x.frozen? ⟨w.heap.size + 1, 0, none⟩ = false ∧ x.frozen? ⟨w.heap.size + 1, 1, none⟩ = false ∧ x.frozen? ⟨w.heap.size + 1, 2, none⟩ = false ∧ x.frozen? ⟨w.heap.size + 1, 3, none⟩ = false := ⟨h.rs.cell 0, h.rs.cell 1, h.rs.cell 2, h.rs.cell 3, h.rs.fr 0, h.rs.fr 1, h.rs.fr 2, h.rs.fr 3⟩
/-- The answer is written into its box: what a log of its own is stays one. -/
theorem LtB.put {w x y : World} {base : Nat} {q : Option Addr} {n cq : Nat} {p : Option Addr} {m cp : Nat} {now : Int} (h : Bxs x (w.heap.size + 1) 137 #[.slice none 0 0, .slice none 0 0, .int .i64 0, .int .i64 0]) (hb : Below w.heap.size w x) {xs : List (Rw × Value)} {lv : List ByteArray} {v1 v2 : Value} (o : LgO base xs lv v1 v2 x) (u0 u1 u2 u3 : Value) :
    Bxs ((((x.setCell ⟨w.heap.size + 1, 0, none⟩ u0).setCell ⟨w.heap.size + 1, 1, none⟩ u1).setCell ⟨w.heap.size + 1, 2, none⟩ u2).setCell ⟨w.heap.size + 1, 3, none⟩ u3) (w.heap.size + 1) 137 #[u0, u1, u2, u3] ∧ LgO base xs lv v1 v2 ((((x.setCell ⟨w.heap.size + 1, 0, none⟩ u0).setCell ⟨w.heap.size + 1, 1, none⟩ u1).setCell ⟨w.heap.size + 1, 2, none⟩ u2).setCell ⟨w.heap.size + 1, 3, none⟩ u3) ∧ Below w.heap.size w ((((x.setCell ⟨w.heap.size + 1, 0, none⟩ u0).setCell ⟨w.heap.size + 1, 1, none⟩ u1).setCell ⟨w.heap.size + 1, 2, none⟩ u2).setCell ⟨w.heap.size + 1, 3, none⟩ u3) :=
  ⟨(((h.set 0 _).set 1 _).set 2 _).set 3 _, (((o.box h (by decide) (by decide) (by decide) (set_grw x _ 0 u0)).box (h.set 0 u0) (by decide) (by decide) (by decide) (set_grw _ _ 1 u1)).box ((h.set 0 u0).set 1 u1) (by decide) (by decide) (by decide) (set_grw _ _ 2 u2)).box (((h.set 0 u0).set 1 u1).set 2 u2) (by decide) (by decide) (by decide) (set_grw _ _ 3 u3), below_set4 hb (by omega) _ _ _ _⟩
theorem lt_boxes (w : World) (q : Option Addr) (n cq : Nat) (p : Option Addr) (m cp : Nat) (now : Int) {W2 : World} (h : W2 = (w.alloc (.cells #[.slice q n cq, .slice p m cp, .int .i64 now] 36)).alloc (.cells #[.slice none 0 0, .slice none 0 0, .int .i64 0, .int .i64 0] 137)) : LtB w q n cq p m cp now W2 := by
  subst h
  have h := Bxs.new (w.alloc (.cells #[.slice q n cq, .slice p m cp, .int .i64 now] 36)) 137 #[.slice none 0 0, .slice none 0 0, .int .i64 0, .int .i64 0]
  rw [szA] at h
  exact ⟨(Bxs.new _ _ _).alloc _, h, alB ((Below.refl _ _).alloc (Nat.le_refl _) _) _⟩
end Go.Proofs.YtokkeadbkeehgaaGreatDoor
/-
  What stays while a log and a LogOut are marked, in the walk of a law whose answer is a log.
-/
namespace Go.Proofs.YtokkeadbkeehgaaGreatDoor
open Go.RowKit Go.Lib
set_option linter.unusedVariables false

theorem LgO.but {S : Nat → Prop} {base : Nat} {xs : List (Rw × Value)} {lv : List ByteArray} {v1 v2 : Value} {w w' : World} (h : LgO base xs lv v1 v2 w) (k : But S w w') (hn : ∀ q, lqS xs v1 v2 q → ¬ S q) : LgO base xs lv v1 v2 w' :=
  ⟨⟨ownS_but h.rws.own k (fun g hg => hn g (.inl (.inl hg))), fun x hx => ownS_but (h.rws.fld x hx) k (fun g hg => hn g (.inl (.inr ⟨x, hx, hg⟩))), h.rws.ne⟩, ownS_but h.lvs k (fun g hg => hn g (.inr hg))⟩
theorem lt_sum {rs : List Rw} {lv : List ByteArray} {now t : Int} {N : Nat} (h : rs.length + fsN rs + lv.length ≤ N) : (ltmR rs lv now t).length + fsN (ltmR rs lv now t) + (ltL rs lv now t).length ≤ N := by
  unfold ltmR ltL
  split
  · exact h
  · simp [fsN]
/-- What stays: the argument's box, two boxes of answers, a log of its own. -/
structure LtK (w : World) (A : Array Value) (E1 E8 : Nat) (c1 c8 : Array Value) (xs : List (Rw × Value)) (lv : List ByteArray) (v1 v2 : Value) (x : World) : Prop where
  bel : Below w.heap.size w x
  ba : Bxs x w.heap.size 25 A
  b1 : Bxs x E1 137 c1
  b8 : Bxs x E8 137 c8
  lw : LgO w.heap.size xs lv v1 v2 x
section
variable {w x y : World} {A c1 c8 : Array Value} {E1 E8 : Nat} {xs : List (Rw × Value)} {lv : List ByteArray} {v1 v2 : Value}
theorem LtK.below (h : LtK w A E1 E8 c1 c8 xs lv v1 v2 x) (hb : Below x.heap.size x y) : LtK w A E1 E8 c1 c8 xs lv v1 v2 y := ⟨chainB h.bel hb, h.ba.below hb, h.b1.below hb, h.b8.below hb, h.lw.below hb⟩
theorem LtK.but {S : Nat → Prop} (h : LtK w A E1 E8 c1 c8 xs lv v1 v2 x) (k : But S x y) (hS : ∀ q, S q → w.heap.size < q ∧ q ≠ E1 ∧ q ≠ E8 ∧ ¬ lqS xs v1 v2 q) : LtK w A E1 E8 c1 c8 xs lv v1 v2 y :=
  ⟨k.below h.bel h.bel.size (fun q hq => Nat.le_of_lt (hS q hq).1), h.ba.but k (fun e => by have := (hS _ e).1; omega), h.b1.but k (fun e => (hS _ e).2.1 rfl), h.b8.but k (fun e => (hS _ e).2.2.1 rfl), h.lw.but k (fun q hq hs => (hS q hs).2.2.2 hq)⟩
end
end Go.Proofs.YtokkeadbkeehgaaGreatDoor
/-
  What the laws' own helpers do that mark and look at rows: markRow, heldRow, markRowOut, heldRowOut; what stays as it was while they do.
-/
namespace Go.Proofs.YtokkeadbkeehgaaGreatDoor
open Go.RowKit Go.Lib
set_option linter.unusedVariables false
set_option maxRecDepth 20000

theorem Bxs.read3 {w : World} {g : Nat} {T : TypeId} {a b c : Value} (k : Bxs w g T #[a, b, c]) : w.cell? ⟨g, 0, none⟩ = some a ∧ w.cell? ⟨g, 1, none⟩ = some b ∧ w.cell? ⟨g, 2, none⟩ = some c := ⟨k.cell 0, k.cell 1, k.cell 2⟩
theorem Bxs.read4 {w : World} {g : Nat} {T : TypeId} {a b c d : Value} (k : Bxs w g T #[a, b, c, d]) : w.cell? ⟨g, 0, none⟩ = some a ∧ w.cell? ⟨g, 1, none⟩ = some b ∧ w.cell? ⟨g, 2, none⟩ = some c ∧ w.cell? ⟨g, 3, none⟩ = some d := ⟨k.cell 0, k.cell 1, k.cell 2, k.cell 3⟩
/-- What marking a row leaves. -/
def MkF (base : Nat) (p : Option Addr) (c : Nat) (l : List Fld) (w w' : World) : Prop :=
  w'.ownsRow base 98 5 (.slice p l.length c) l.length (fldRow (mfN 1 l.length)) ∧ w.grownBy w' (Value.slice p l.length c).ownBlock
theorem MkF.alloc {base : Nat} {p : Option Addr} {c : Nat} {l : List Fld} {w w' : World} {o : Obj} (h : MkF base p c l (w.alloc o) w') : MkF base p c l w w' := by
  obtain ⟨h1, g⟩ := h
  exact ⟨h1, ⟨g.os, g.tape, g.output, by have := g.size; simp at this; omega, fun b hb hn => (g.block b (by simp; omega) hn).trans (Below.heap_alloc _ _ _ hb)⟩⟩

/-- A row of fields of its own, and what it reads. -/
theorem ownF_at {w : World} {base : Nat} {p : Option Addr} {c : Nat} {l : List Fld} (h : w.ownsRow base 98 5 (.slice p l.length c) l.length (fldRow l)) : FldAt w p l ∧ l.length ≤ c := by
  obtain ⟨p', c', e, h1, h2⟩ := ownF_form h
  cases e
  exact ⟨h2, h1⟩
theorem ownF_marks {w : World} {base : Nat} {p : Option Addr} {c n : Nat} (h : w.ownsRow base 98 5 (.slice p n c) n (fldRow (mfN 1 n))) : FldAt w p (mfN 1 n) := by
  have h' : w.ownsRow base 98 5 (.slice p (mfN 1 n).length c) (mfN 1 n).length (fldRow (mfN 1 n)) := by rw [mfN_len]; exact h
  exact (ownF_at h').1
/-- What stays as it was while rows are marked: a first box, two boxes of answers, and a row that is nobody's to mark. -/
structure MkS (w : World) (A T : TypeId) (ca cw cg : Array Value) (bw bg : Nat) (P : World → Prop) (x : World) : Prop where
  bel : Below w.heap.size w x
  ba : Bxs x w.heap.size A ca
  bw : Bxs x bw T cw
  bg : Bxs x bg T cg
  ps : P x
theorem MkS.below {w : World} {A T : TypeId} {ca cw cg : Array Value} {bw bg : Nat} {P : World → Prop} {x y : World} (h : MkS w A T ca cw cg bw bg P x) (hP : ∀ x y, P x → Below x.heap.size x y → P y) (hb : Below x.heap.size x y) : MkS w A T ca cw cg bw bg P y :=
  ⟨chainB h.bel hb, h.ba.below hb, h.bw.below hb, h.bg.below hb, hP _ _ h.ps hb⟩
theorem MkS.grown {w : World} {A T : TypeId} {ca cw cg : Array Value} {bw bg : Nat} {P : World → Prop} {x y : World} {row : Option Nat} (h : MkS w A T ca cw cg bw bg P x) (hg : x.grownBy y row) (hr : ∀ j, row = some j → w.heap.size < j ∧ j ≠ bw ∧ j ≠ bg) (hP : P y) : MkS w A T ca cw cg bw bg P y :=
  ⟨h.bel.grown hg h.bel.size (fun j hj => by have := hr j hj; omega), h.ba.grown hg (fun e => by have := hr _ e.symm; omega), h.bw.grown hg (fun e => by have := hr _ e.symm; omega), h.bg.grown hg (fun e => by have := hr _ e.symm; omega), hP⟩
end Go.Proofs.YtokkeadbkeehgaaGreatDoor
/-
  The laws' helpers for a log and a row: sizes, marks, what stays, an answer put into a box that was made at any time.
-/
namespace Go.Proofs.YtokkeadbkeehgaaGreatDoor
open Go.RowKit Go.Lib
set_option linter.unusedVariables false
set_option maxRecDepth 20000

set_option maxHeartbeats 2000000 in
theorem szLogU_any (q : Option Addr) (cq : Nat) (rs : List Rw) (p : Option Addr) (cp : Nat) (lv : List ByteArray) (now : Int) (w : World) (hq : RwAt w q rs) (hn : rs.length ≤ 9223372036854775807) (hcq : rs.length ≤ cq) (hs : RwsBig rs) (hp : TxtAt w p lv) (hl : lv.length ≤ 9223372036854775807) (hcp : lv.length ≤ cp) (hz : ∀ x ∈ lv, x.size ≤ 9223372036854775807) :
    Calls Tryz.prog 6 #[.agg #[.slice q rs.length cq, .slice p lv.length cp, .int .i64 now], .int .i64 1048576] w fun e w' => (∃ r : Int, e = .returned (.int .i64 r) ∧ (r = -1 ∨ (0 ≤ r ∧ r + rs.length + fsN rs + lv.length ≤ 1048576))) ∧ Below w.heap.size w w' := by
  obtain ⟨W1, hW1⟩ : ∃ W1, W1 = w.alloc (.cells #[.slice q rs.length cq, .slice p lv.length cp, .int .i64 now] 25) := ⟨_, rfl⟩
  have HW1 : Hid (W1 = w.alloc (.cells #[.slice q rs.length cq, .slice p lv.length cp, .int .i64 now] 25)) := hW1
  have B1 : Hid (Below w.heap.size w W1) := by rw [hW1]; exact (Below.refl _ _).alloc (Nat.le_refl _) _
  have K1 : Hid (Bxs W1 w.heap.size 25 #[.slice q rs.length cq, .slice p lv.length cp, .int .i64 now]) := by rw [hW1]; exact Bxs.new _ _ _
  have hR := szRowsZ_any q cq rs W1 (hq.below B1.out) hn hcq hs
  have HT : Hid (∀ (l0 : Int), 0 ≤ l0 → l0 ≤ 1048576 → ∀ x, Below W1.heap.size W1 x → Calls Tryz.prog 27 #[.slice p lv.length cp, .int .i64 l0] x fun e w' => (∃ r : Int, e = .returned (.int .i64 r) ∧ (r = -1 ∨ (0 ≤ r ∧ r + lv.length ≤ l0))) ∧ w' = x) := fun l0 a b x hb => szGz_any l0 a b p cp lv x ((hp.below B1.out).below hb) hl hcp hz
  clear hW1 hq hp hs hz
  go_enter Tryz.func6, Tryz.ntmps6
  go_wp2_with fail
  rw [← HW1.out]
  refine hR.mono ?_
  rintro e y ⟨⟨r, rfl, hr⟩, by_⟩
  clear hR
  have x1 := (K1.out.below by_).cell 1
  rcases hr with rfl | ⟨r0, r1⟩
  · go_wp2_with fail
    go_ret
    exact ⟨⟨_, rfl, .inl rfl⟩, chainB B1.out by_⟩
  · have dr : decide (r < 0) = false := decide_eq_false (by omega)
    have hT := HT.out r r0 (by omega) y by_
    go_wp2_with fail
    refine hT.mono ?_
    rintro e y2 ⟨⟨r', rfl, hr'⟩, rfl⟩
    clear hT HT
    rcases hr' with rfl | ⟨r4, r5⟩
    · go_wp2_with fail
      go_ret
      exact ⟨⟨_, rfl, .inl rfl⟩, chainB B1.out by_⟩
    · have dr' : decide (r' < 0) = false := decide_eq_false (by omega)
      go_wp2_with fail
      go_ret
      exact ⟨⟨_, rfl, .inr ⟨r4, by omega⟩⟩, chainB B1.out by_⟩
set_option maxHeartbeats 2000000 in
theorem markLogB_any (g : Nat) (xs : List (Rw × Nat)) (gl : Nat) (lv : List ByteArray) (now : Int) (s : Nat) (w : World) (h : LgB w g xs gl lv) (hs1 : 1 ≤ s) (hn : xs.length ≤ 1048576) (hl : lv.length ≤ 1048576) (hb : s + 2 * xs.length + 5 * fsN (xs.map (·.1)) + lv.length ≤ 16777210) :
    Calls Tryz.prog 15 #[.agg #[.slice (some ⟨g, 0, none⟩) xs.length xs.length, .slice (some ⟨gl, 0, none⟩) lv.length lv.length, .int .i64 now], .int .i64 (s : Int)] w fun e w' => (∃ r : Nat, e = .returned (.int .i64 (r : Int)) ∧ s ≤ r ∧ r ≤ s + 2 * xs.length + 5 * fsN (xs.map (·.1)) + lv.length) ∧ But (lgS g xs gl) w w' := by
  obtain ⟨W1, hW1⟩ : ∃ W1, W1 = w.alloc (.cells #[.slice (some ⟨g, 0, none⟩) xs.length xs.length, .slice (some ⟨gl, 0, none⟩) lv.length lv.length, .int .i64 now] 36) := ⟨_, rfl⟩
  have HW1 : Hid (W1 = w.alloc (.cells #[.slice (some ⟨g, 0, none⟩) xs.length xs.length, .slice (some ⟨gl, 0, none⟩) lv.length lv.length, .int .i64 now] 36)) := hW1
  have B1 : Below w.heap.size w W1 := by rw [hW1]; exact (Below.refl _ _).alloc (Nat.le_refl _) _
  have K1 : Hid (Bxs W1 w.heap.size 36 #[.slice (some ⟨g, 0, none⟩) xs.length xs.length, .slice (some ⟨gl, 0, none⟩) lv.length lv.length, .int .i64 now]) := by rw [hW1]; exact Bxs.new _ _ _
  have hL1 := h.below B1
  have hR := markRowS_any (fun k => k = g ∨ ∃ x ∈ xs, k = x.2) g xs s W1 hL1.rw hs1 (.inl rfl) (fun x hx => .inr ⟨x, hx, rfl⟩) hn (by omega)
  have HB1 : Hid (But (lgS g xs gl) w W1) := (But.refl _ _).more B1
  have HLF : Hid (BlkS W1 gl lv) := hL1.lf
  have HG : Hid (gl ≠ g ∧ ∀ x ∈ xs, gl ≠ x.2) := ⟨by have := h.gg; omega, fun x hx => by have := h.gx x hx; omega⟩
  have HLt : Hid (g < w.heap.size ∧ ∀ x ∈ xs, x.2 < w.heap.size) := ⟨h.rw.lt, fun x hx => Bxs.lt (h.rw.fld x hx)⟩
  have x0 := K1.out.cell 0
  rw [HW1.out] at x0
  clear hW1 h hL1 B1
  go_enter Tryz.func15, Tryz.ntmps15
  go_wp2_with fail
  rw [← HW1.out]
  refine hR.mono ?_
  rintro e y ⟨⟨r, rfl, r0, r1⟩, hbut⟩
  clear hR x0 HW1
  have K2 : Bxs y w.heap.size 36 #[.slice (some ⟨g, 0, none⟩) xs.length xs.length, .slice (some ⟨gl, 0, none⟩) lv.length lv.length, .int .i64 now] := K1.out.but hbut (by
    rintro (e | ⟨x, hx, e⟩)
    · have := HLt.out.1; omega
    · have := HLt.out.2 x hx; omega)
  have x1 := K2.cell 1
  have hLF : BlkS y gl lv := Bxs.but HLF.out hbut (by
    rintro (e | ⟨x, hx, e⟩)
    · exact HG.out.1 e
    · exact HG.out.2 x hx e)
  have HR : Hid (s ≤ r ∧ r ≤ s + 2 * xs.length + 5 * fsN (xs.map (·.1))) := ⟨r0, r1⟩
  have hM := markG_any r (by omega) 0 _ lv y (hLF.own 0 (Nat.zero_le _) (by unfold maxLen; omega)) (by omega)
  have HB2 : Hid (But (lgS g xs gl) w y) := ⟨hbut.os.trans HB1.out.os, hbut.tape.trans HB1.out.tape, hbut.output.trans HB1.out.output, Nat.le_trans HB1.out.size hbut.size, fun q hq hnq => (hbut.block q (Nat.lt_of_lt_of_le hq HB1.out.size) (fun e => hnq (by rcases e with e | e; exact .inl e; exact .inr (.inr e)))).trans (HB1.out.block q hq hnq)⟩
  clear hbut K2 hLF K1 HLF HB1
  go_wp2_with fail
  refine hM.mono ?_
  rintro e y2 ⟨rfl, -, hg⟩
  have HB3 : Hid (But (lgS g xs gl) w y2) := HB2.out.grown hg (.inr (.inl rfl))
  clear hM hg HB2
  go_wp2_with fail
  go_ret
  exact ⟨⟨lv.length + r, by simp, by have := HR.out; omega, by have := HR.out; omega⟩, HB3.out⟩
/-- What stays: the arguments' boxes, two boxes of answers, a log of its own. -/
structure LaK (w : World) (A R : Array Value) (E1 E8 : Nat) (c1 c8 : Array Value) (xs : List (Rw × Value)) (lv : List ByteArray) (v1 v2 : Value) (x : World) : Prop where
  bel : Below w.heap.size w x
  ba : Bxs x w.heap.size 25 A
  br : Bxs x (w.heap.size + 1) 88 R
  b1 : Bxs x E1 137 c1
  b8 : Bxs x E8 137 c8
  lw : LgO w.heap.size xs lv v1 v2 x
section
variable {w x y : World} {A R c1 c8 : Array Value} {E1 E8 : Nat} {xs : List (Rw × Value)} {lv : List ByteArray} {v1 v2 : Value}
theorem LaK.below (h : LaK w A R E1 E8 c1 c8 xs lv v1 v2 x) (hb : Below x.heap.size x y) : LaK w A R E1 E8 c1 c8 xs lv v1 v2 y := ⟨chainB h.bel hb, h.ba.below hb, h.br.below hb, h.b1.below hb, h.b8.below hb, h.lw.below hb⟩
theorem LaK.but {S : Nat → Prop} (h : LaK w A R E1 E8 c1 c8 xs lv v1 v2 x) (k : But S x y) (hS : ∀ q, S q → w.heap.size + 1 < q ∧ q ≠ E1 ∧ q ≠ E8 ∧ ¬ lqS xs v1 v2 q) : LaK w A R E1 E8 c1 c8 xs lv v1 v2 y :=
  ⟨k.below h.bel h.bel.size (fun q hq => by have := (hS q hq).1; omega), h.ba.but k (fun e => by have := (hS _ e).1; omega), h.br.but k (fun e => by have := (hS _ e).1; omega), h.b1.but k (fun e => (hS _ e).2.1 rfl), h.b8.but k (fun e => (hS _ e).2.2.1 rfl), h.lw.but k (fun q hq hs => (hS q hs).2.2.2 hq)⟩
end
/-- A LogOut that was put into a box of its own, made at some time behind the world x. -/
structure PuL (x : World) (xs : List (Rw × Value)) (lv : List ByteArray) (v1 v2 : Value) (NW CC : Int) (Eb : Nat) (wx : World) : Prop where
  eb : x.heap.size ≤ Eb
  box : Bxs wx Eb 137 #[v1, v2, .int .i64 NW, .int .i64 CC]
  lg : LgO x.heap.size xs lv v1 v2 wx
  bel : Below x.heap.size x wx
theorem PuL.put {x y : World} {xs : List (Rw × Value)} {lv : List ByteArray} {v1 v2 u0 u1 u2 u3 : Value} {NW CC : Int} {Eb : Nat} (k : Bxs y Eb 137 #[u0, u1, u2, u3]) (eb : x.heap.size ≤ Eb) (lg : LgO x.heap.size xs lv v1 v2 y) (bel : Below x.heap.size x y) :
    PuL x xs lv v1 v2 NW CC Eb ((((y.setCell ⟨Eb, 0, none⟩ v1).setCell ⟨Eb, 1, none⟩ v2).setCell ⟨Eb, 2, none⟩ (.int .i64 NW)).setCell ⟨Eb, 3, none⟩ (.int .i64 CC)) :=
  ⟨eb, (((k.set 0 _).set 1 _).set 2 _).set 3 _, (((lg.box k (by decide) (by decide) (by decide) (set_grw y _ 0 v1)).box (k.set 0 v1) (by decide) (by decide) (by decide) (set_grw _ _ 1 v2)).box ((k.set 0 v1).set 1 v2) (by decide) (by decide) (by decide) (set_grw _ _ 2 _)).box (((k.set 0 v1).set 1 v2).set 2 _) (by decide) (by decide) (by decide) (set_grw _ _ 3 _), below_set4 bel eb _ _ _ _⟩
end Go.Proofs.YtokkeadbkeehgaaGreatDoor
