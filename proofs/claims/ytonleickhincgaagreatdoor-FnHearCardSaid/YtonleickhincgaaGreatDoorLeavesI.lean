/-
  Whether the leaves of a log are those of its rows and notes, as the program asks it: a range over the leaves, with marks of what was noted.
  Conditions: the cells of Rows and Leaves hold the rows and leaves; the rows are right; the tables of the digest and errors.errorType are laid.
-/
import Derived.Test.YtonleickhincgaaGreatDoorRows
import Derived.Test.YtonleickhincgaaGreatDoorBytesDigMath
import Derived.Test.YtonleickhincgaaGreatDoorTreeMathSlABxKSlBOwnS
import Derived.Test.YtonleickhincgaaGreatDoorLgLawTakesTakesLPutterPathI
import Derived.Test.YtonleickhincgaaGreatDoorAsDAs2CodeOfRngXScopesReadBits
import Derived.Test.YtonleickhincgaaGreatDoorTimeBPutMathPutNumJoinedPutTextFldMath
import Derived.Test.YtonleickhincgaaGreatDoorGetValGetTxtNumMathFldRdNumFromTmbMathLgMath
import Derived.Test.YtonleickhincgaaGreatDoorAllI
import Derived.Test.YtonleickhincgaaGreatDoorPlaceIEq18ImplGn
import Derived.Test.YtonleickhincgaaGreatDoorImplLgFldC
namespace Go.Proofs.YtonleickhincgaaGreatDoor
open Go.RowKit Go.Lib Go.Shelf
set_option linter.unusedVariables false
set_option maxRecDepth 100000
attribute [local go_sem] Oper.semAt_some

theorem cGo_step (rs : List Rw) (now : Int) (lv : List ByteArray) (n k : Nat) (h : k < lv.length) : cGo rs now (lv.take k) n (lv.drop k) = if isNx rs n lv[k] = true then cGo rs now (lv.take (k + 1)) (n + 1) (lv.drop (k + 1)) else if okT now (lv.take k) n lv[k] = true then cGo rs now (lv.take (k + 1)) n (lv.drop (k + 1)) else none := by
  rw [List.drop_eq_getElem_cons h, cGo, List.take_succ_eq_append_getElem h]
theorem nx_ahead {rs : List Rw} {n : Nat} {t : ByteArray} (h : isNx rs n t = true) : isRl t = true := by rw [((nx_iff _ _ _).1 h).2]; exact rl_isRl _
/-- The log's leaves, as the program's loop has met them up to place k. -/
structure LvI (w : World) (cs : Array Value) (rs : List Rw) (now : Int) (lv : List ByteArray) (k : Nat) (W : World) : Prop where
  le : aheadN lv k ≤ rs.length
  run : cGo rs now [] 0 lv = cGo rs now (lv.take k) (aheadN lv k) (lv.drop k)
  wk : Bxs W w.heap.size 91 cs
  re : Bxs W (w.heap.size + 1) 4 #[.bool false]
  met : Bxs W (w.heap.size + 2) 3 #[.int .i64 (aheadN lv k : Int)]
  mks : Bxs W (w.heap.size + 3) 222 (mV (mrkOf (lv.take k)))
def LvX (w : World) (rs : List Rw) (now : Int) (lv : List ByteArray) (W : World) : Prop := cGo rs now [] 0 lv = none ∧ Bxs W (w.heap.size + 1) 4 #[.bool false]
theorem LvI.own {w : World} {cs : Array Value} {rs : List Rw} {now : Int} {lv : List ByteArray} : Own (fun (pre : List Nat) W => LvI w cs rs now lv pre.length W) := fun s A B r hs hg hr =>
  ⟨hs.le, hs.run, bxs_own _ _ (fun _ => _) s A B r hs.wk hg hr, bxs_own _ _ (fun _ => _) s A B r hs.re hg hr, bxs_own _ _ (fun _ => _) s A B r hs.met hg hr, bxs_own _ _ (fun _ => _) s A B r hs.mks hg hr⟩
theorem LvI.turned {w : World} {cs : Array Value} {rs : List Rw} {now : Int} {lv : List ByteArray} {k : Nat} {W : World} (h : LvI w cs rs now lv k W) {kk l : Nat} {B : World} {o : Obj} (ht : Turned kk l (W.alloc o) B) : LvI w cs rs now lv k B :=
  ⟨h.le, h.run, ht.bxs (h.wk.alloc _), ht.bxs (h.re.alloc _), ht.bxs (h.met.alloc _), ht.bxs (h.mks.alloc _)⟩
theorem LvI.below {w : World} {cs : Array Value} {rs : List Rw} {now : Int} {lv : List ByteArray} {k : Nat} {W x : World} (h : LvI w cs rs now lv k W) (hb : Below W.heap.size W x) : LvI w cs rs now lv k x :=
  ⟨h.le, h.run, h.wk.below hb, h.re.below hb, h.met.below hb, h.mks.below hb⟩
def lvOk (rs : List Rw) (now : Int) (lv : List ByteArray) : Bool := match cGo rs now [] 0 lv with | some n => decide (n = rs.length) && decide (mrkOf lv = goneM rs) | none => false
theorem lv_leaf (lv : List ByteArray) (k : Nat) (h : k < lv.length) : leafV lv k = #[.int .i64 (k : Int), .agg #[.string lv[k], .int .i64 (lkB lv[k]), .int .i64 (trO lv[k]).r, .int .i64 (trO lv[k]).f, .int .i64 (trO lv[k]).y, .int .i64 (trO lv[k]).a, .int .i64 (aheadN lv k : Int)]] := by
  unfold leafV leafC
  rw [List.getD_eq_getElem?_getD, List.getElem?_eq_getElem h, Option.getD_some]
theorem mrk_nil18 : mV (mrkOf []) = #[.bool false, .bool false, .bool false, .bool false, .bool false, .bool false, .bool false, .bool false, .bool false, .bool false, .bool false, .bool false, .bool false, .bool false, .bool false, .bool false, .bool false, .bool false] := by
  unfold mrkOf hitIn
  simp [List.range, List.range.loop, mV]
theorem region_round_till {P : Program} {ops : Array Oper} {Q : Exit → Act → World → Prop} (S : World → Prop) (k : Nat) {l m id : Nat} {a : Act} {w : World} (hd : noDefer ops = true) (hL : ¬ LetsOut Q) (hm : P.follows .mixedOrders = true) (hS : S w.drew)
    (h : S w.drew → AnyTill P .any ops Q S k ops.size (Array.replicate ops.size false) a w.drew) : (Code.region id ops true).wpIn (Fence.wide.inRound l) m P Q a w :=
  wpIn_region_any hm (any_round hd hL _ _ _ _ (AnyTill.any _ _ _ _ (h hS)))
theorem Bxs.drew {w : World} {g : Nat} {T : TypeId} {cs : Array Value} (h : Bxs w g T cs) : Bxs w.drew g T cs := h
theorem yields_load {P : Program} {a : Act} {w : World} {o : Oper} {t : TypeId} {x : Operand} {g : Addr} {v : Value} (ho : o.op = .load t x) (hx : a.eval x = .pointer (some g)) (hl : (loadVar t g).run P w = .ok v w) : (execOp a.eval o).run P w = .ok (.value v) w := by
  unfold execOp
  simp only [ho, hx, Instr.loadAt, Instr.sureAddr, Sem.run_bind, Sem.run_pure, Result.andThen_ok, hl]
/-- Where nothing but the normal way out comes. -/
def onlyN (Q : Exit → Act → World → Prop) : Exit → Act → World → Prop
  | .normal, a, w => Q .normal a w
  | _, _, _ => False
theorem wp_only {P : Program} {c : Code} {Q : Exit → Act → World → Prop} {a : Act} {w : World} (h : c.wp P (onlyN Q) a w) : c.wp P Q a w := wp_mono h (fun e a w hq => by cases e <;> first | exact hq | exact hq.elim)
theorem keeps_below {W W' : World} (h : Below W.heap.size W W') : KeepsOthers W W' := KeepsOthers.of_grownBy (below_grown h) (fun j o e => by cases e)
theorem lv_nx {rs : List Rw} {lv : List ByteArray} {x : Nat} (hx : x < lv.length) (h : isNx rs (aheadN lv x) lv[x] = true) : aheadN lv (x + 1) = aheadN lv x + 1 ∧ aheadN lv x + 1 ≤ rs.length ∧ mrkOf (lv.take (x + 1)) = mrkOf (lv.take x) := by
  refine ⟨?_, ((nx_iff _ _ _).1 h).1, ?_⟩
  · rw [ahead_succ lv x hx, if_pos (nx_ahead h)]
  · rw [List.take_succ_eq_append_getElem hx]; exact mrk_no (nx_tr h)
theorem lv_tb {lv : List ByteArray} {x : Nat} (hx : x < lv.length) (h : (lkB lv[x] == 2) = true) : aheadN lv (x + 1) = aheadN lv x ∧ mrkOf (lv.take (x + 1)) = (mrkOf (lv.take x)).set ((trO lv[x]).r.toNat * 3 + (trO lv[x]).f.toNat) true ∧ (0 ≤ (trO lv[x]).r ∧ 0 ≤ (trO lv[x]).f ∧ (trO lv[x]).f ≤ 2) ∧ ((trO lv[x]).r < 6 → (mrkOf (lv.take x))[(trO lv[x]).r.toNat * 3 + (trO lv[x]).f.toNat]? = some (hitIn (lv.take x) (trO lv[x]).r (trO lv[x]).f)) := by
  have hc : trC lv[x] = 0 := (lk_iff2 _).1 (by simpa using h)
  obtain ⟨⟨r0, -⟩, f0, f1⟩ := tr_range hc
  refine ⟨?_, ?_, ⟨r0, f0, f1⟩, fun h6 => mrk_at hc h6⟩
  · rw [ahead_succ lv x hx, tr_not_rl hc]; rfl
  · rw [List.take_succ_eq_append_getElem hx]; exact mrk_yes hc
theorem ok_parts (now : Int) (pre : List ByteArray) (A : Nat) (t : ByteArray) : okT now pre A t = (((lkB t == 2) && (decide ((trO t).r < (A : Int)) && decide ((trO t).a ≤ now))) && !hitIn pre (trO t).r (trO t).f) := by
  unfold okT
  have e : decide (trC t = 0) = (lkB t == 2) := by rw [Bool.eq_iff_iff, decide_eq_true_iff, beq_iff_eq]; exact (lk_iff2 t).symm
  rw [e]
  cases (lkB t == 2) <;> cases decide ((trO t).r < (A : Int)) <;> cases decide ((trO t).a ≤ now) <;> rfl
set_option maxHeartbeats 8000000 in
theorem leavesRight_any (p : Option Addr) (lv : List ByteArray) (cp : Nat) (q : Option Addr) (rs : List Rw) (cq : Nat) (now : Int) (w : World) (hT : Tabs w) (hg : Laid w) (hL : TxtAt w p lv) (hl : lv.length ≤ 1048576) (hcp : lv.length ≤ cp) (hzl : TxtsLe lv) (hR : RwAt w q rs) (hcq : rs.length ≤ cq) (hr : ∀ r ∈ rs, rB r = true) (hz : RwsLe rs) (h6 : rs.length ≤ 6) :
    Calls Tryz.prog 153 #[.agg (wkC p lv cp q rs cq now)] w fun e w' => e = .returned (.bool (lvOk rs now lv)) ∧ Below w.heap.size w w' := by
  obtain ⟨W4, hW4⟩ : ∃ W4, W4 = (((w.alloc (.cells #[.slice p lv.length cp, .slice q rs.length cq, .int .i64 now] 91)).alloc (.cells #[.bool false] 4)).alloc (.cells #[.int .i64 0] 3)).alloc (.cells #[.bool false, .bool false, .bool false, .bool false, .bool false, .bool false, .bool false, .bool false, .bool false, .bool false, .bool false, .bool false, .bool false, .bool false, .bool false, .bool false, .bool false, .bool false] 222) := ⟨_, rfl⟩
  have HW4 : Hid (W4 = (((w.alloc (.cells #[.slice p lv.length cp, .slice q rs.length cq, .int .i64 now] 91)).alloc (.cells #[.bool false] 4)).alloc (.cells #[.int .i64 0] 3)).alloc (.cells #[.bool false, .bool false, .bool false, .bool false, .bool false, .bool false, .bool false, .bool false, .bool false, .bool false, .bool false, .bool false, .bool false, .bool false, .bool false, .bool false, .bool false, .bool false] 222)) := hW4
  have B4 : Hid (Below w.heap.size w W4) := by rw [hW4]; exact ((((Below.refl _ _).alloc (Nat.le_refl _) _).alloc (by simp) _).alloc (by simp; omega) _).alloc (by simp; omega) _
  have HI4 : Hid (LvI w #[.slice p lv.length cp, .slice q rs.length cq, .int .i64 now] rs now lv 0 W4) := by
    refine ⟨Nat.zero_le _, rfl, ?_, ?_, ?_, ?_⟩
    · rw [hW4]; exact (((Bxs.new _ _ _).alloc _).alloc _).alloc _
    · rw [hW4]
      have := Bxs.new (w.alloc (.cells #[.slice p lv.length cp, .slice q rs.length cq, .int .i64 now] 91)) 4 #[.bool false]
      rw [szA] at this
      exact (this.alloc _).alloc _
    · rw [hW4]
      have := Bxs.new ((w.alloc (.cells #[.slice p lv.length cp, .slice q rs.length cq, .int .i64 now] 91)).alloc (.cells #[.bool false] 4)) 3 #[.int .i64 0]
      rw [szA, szA] at this
      exact this.alloc _
    · rw [hW4, List.take_zero, mrk_nil18]
      have := Bxs.new (((w.alloc (.cells #[.slice p lv.length cp, .slice q rs.length cq, .int .i64 now] 91)).alloc (.cells #[.bool false] 4)).alloc (.cells #[.int .i64 0] 3)) 222 #[.bool false, .bool false, .bool false, .bool false, .bool false, .bool false, .bool false, .bool false, .bool false, .bool false, .bool false, .bool false, .bool false, .bool false, .bool false, .bool false, .bool false, .bool false]
      rw [szA, szA, szA] at this
      exact this
  obtain ⟨W5, hW5⟩ : ∃ W5, W5 = W4.alloc (.cells #[.slice p lv.length cp] 89) := ⟨_, rfl⟩
  have HW5 : Hid (W5 = W4.alloc (.cells #[.slice p lv.length cp] 89)) := hW5
  have K5 : Hid (Bxs W5 W4.heap.size 89 #[.slice p lv.length cp]) := by rw [hW5]; exact Bxs.new _ _ _
  have b45 : Below W4.heap.size W4 W5 := by rw [hW5]; exact (Below.refl _ _).alloc (Nat.le_refl _) _
  have HI5 : Hid (LvI w #[.slice p lv.length cp, .slice q rs.length cq, .int .i64 now] rs now lv 0 W5) := HI4.out.below b45
  have B5 : Hid (Below w.heap.size w W5) := chainB B4.out b45
  have HS5 : Hid (W5.heap.size = w.heap.size + 5) := by rw [hW5, hW4]; show _ = _; simp
  have HQ : Hid (∀ n, 1 ≤ n → SeqX Fence.wide n Tryz.prog 158 #[.pointer (some ⟨W4.heap.size, 0, none⟩)] (leafV lv) (Below w.heap.size) (lvNx lv) (fun ys => ys.length = lv.length) (fun _ => True) W5) := fun n hn => all1_stops n W4.heap.size hn p cp lv w W5 hL hl hcp hzl hg B5.out (K5.out.cell 0)
  have HT : Hid (Tabs w) := hT
  have HR : Hid (RwAt w q rs) := hR
  have HNX : Hid (∀ (t : ByteArray) (n1 n2 n3 n4 : Int) (A : Nat) (x : World), A ≤ 1048576 → Below w.heap.size w x → Calls Tryz.prog 177 #[.agg #[.slice p lv.length cp, .slice q rs.length cq, .int .i64 now], .agg #[.string t, .int .i64 (lkB t), .int .i64 n1, .int .i64 n2, .int .i64 n3, .int .i64 n4, .int .i64 (A : Int)]] x fun e w' => e = .returned (.bool (isNx rs A t)) ∧ Below x.heap.size x w') := fun t n1 n2 n3 n4 A x hA hx => isNextRow_any p lv cp q rs cq now t n1 n2 n3 n4 A x (HT.out.to hx) (HR.out.below hx) hcq hr hz h6 hA
  have HTB : Hid (∀ (t : ByteArray) (C n1 n2 n3 n4 : Int) (A : Nat) (x : World), Calls Tryz.prog 178 #[.agg #[.slice p lv.length cp, .slice q rs.length cq, .int .i64 now], .agg #[.string t, .int .i64 C, .int .i64 n1, .int .i64 n2, .int .i64 n3, .int .i64 n4, .int .i64 (A : Int)]] x fun e w' => e = .returned (.bool ((C == 2) && (decide (n1 < (A : Int)) && decide (n4 ≤ now)))) ∧ Below x.heap.size x w') := fun t C n1 n2 n3 n4 A x => isTombAhead_any p lv cp q rs cq now t C n1 n2 n3 n4 A x
  have HGN : Hid (∀ x, Below w.heap.size w x → Calls Tryz.prog 179 #[.agg #[.slice p lv.length cp, .slice q rs.length cq, .int .i64 now]] x fun e w' => e = .returned (.agg (mV (goneM rs))) ∧ Below x.heap.size x w') := fun x hx => gone_any p lv cp q rs cq now x (HR.out.below hx) h6 hcq (fun r hrr => (rwB_parts (hr r hrr)).2.2.1.2)
  unfold wkC
  have x0 := HI4.out.wk.cell 0
  rw [HW4.out] at x0
  clear hW4 hW5 hL hzl hg hT hR hz hr b45 HR HT
  refine (callsIn_wide (n := 3)).1 ?_
  refine callsIn_of_wp_marks Tryz.func153 rfl trivial ?_ rfl
  simp only [Tryz.ntmps153, List.size_toArray, List.length_cons, List.length_nil, Nat.reduceAdd, Nat.reduceSub, Array.replicate_succ, Array.replicate_zero, List.push_toArray, List.append_toArray, List.nil_append, List.cons_append]
  gi_wp2
  refine ⟨trivial, ?_⟩
  rw [← HW4.out]
  refine (callsIn_wide.2 (allS_any p lv.length cp W4)).mono ?_
  rintro e w1 ⟨rfl, hw1⟩
  rw [← HW5.out] at hw1
  subst hw1
  clear x0 HW5 HW4 HI4 B4
  gi_wp2
  refine rangeX (n := 3) rfl (by omega) (gf := 158) (lb := #[.pointer (some ⟨W4.heap.size, 0, none⟩)]) rfl trivial (enters_of Tryz.func158 (by kernel_rfl) rfl) (HQ.out 2 (by omega)) belowK_t (belowK_b B5.out.size) (Below.refl _ _) (fun _ => rfl)
    (fun pre W => LvI w #[.slice p lv.length cp, .slice q rs.length cq, .int .i64 now] rs now lv pre.length W ∧ Below w.heap.size w W) (fun c pre W => (c = .ret ∧ LvX w rs now lv W) ∧ Below w.heap.size w W) ?hI ?hIx ⟨HI5.out, B5.out⟩ ?round ?done ?stop
  case hI => exact OwnFrom.and (Own.from LvI.own _) (ownFrom_below (Nat.le_refl _) B5.out.size)
  case hIx => exact fun c => OwnFrom.and (Own.from (fun s A B r hs hg hr => ⟨hs.1, hs.2.1, bxs_own _ _ (fun _ => _) s A B r hs.2.2 hg hr⟩) _) (ownFrom_below (Nat.le_refl _) B5.out.size)
  case round =>
    rintro l pre x W ⟨hx, hxl⟩ ⟨hI, hBW⟩ hlw
    rw [← hx] at hI
    have HPL : Hid ((pre ++ [x]).length = x + 1) := by show _ = _; simp [hx]
    rw [lv_leaf lv x hxl]
    have HST : Hid (cGo rs now [] 0 lv = if isNx rs (aheadN lv x) lv[x] = true then cGo rs now (lv.take (x + 1)) (aheadN lv x + 1) (lv.drop (x + 1)) else if okT now (lv.take x) (aheadN lv x) lv[x] = true then cGo rs now (lv.take (x + 1)) (aheadN lv x) (lv.drop (x + 1)) else none) := hI.run.trans (cGo_step rs now lv _ x hxl)
    have H1 : Hid (isNx rs (aheadN lv x) lv[x] = true → aheadN lv (x + 1) = aheadN lv x + 1 ∧ aheadN lv x + 1 ≤ rs.length ∧ mrkOf (lv.take (x + 1)) = mrkOf (lv.take x)) := fun h => lv_nx hxl h
    have H2 : Hid ((lkB lv[x] == 2) = true → _) := fun h => lv_tb hxl h
    have HOK : Hid (okT now (lv.take x) (aheadN lv x) lv[x] = _) := ok_parts now (lv.take x) (aheadN lv x) lv[x]
    have HNX2 : Hid (∀ y, Below w.heap.size w y → Calls Tryz.prog 177 #[.agg #[.slice p lv.length cp, .slice q rs.length cq, .int .i64 now], .agg #[.string lv[x], .int .i64 (lkB lv[x]), .int .i64 (trO lv[x]).r, .int .i64 (trO lv[x]).f, .int .i64 (trO lv[x]).y, .int .i64 (trO lv[x]).a, .int .i64 (aheadN lv x : Int)]] y fun e w' => e = .returned (.bool (isNx rs (aheadN lv x) lv[x])) ∧ Below y.heap.size y w') := fun y hy => HNX.out lv[x] _ _ _ _ (aheadN lv x) y (Nat.le_trans (ahead_le lv x) (by omega)) hy
    have HTB2 : Hid (∀ y, Calls Tryz.prog 178 #[.agg #[.slice p lv.length cp, .slice q rs.length cq, .int .i64 now], .agg #[.string lv[x], .int .i64 (lkB lv[x]), .int .i64 (trO lv[x]).r, .int .i64 (trO lv[x]).f, .int .i64 (trO lv[x]).y, .int .i64 (trO lv[x]).a, .int .i64 (aheadN lv x : Int)]] y fun e w' => e = .returned (.bool ((lkB lv[x] == 2) && (decide ((trO lv[x]).r < (aheadN lv x : Int)) && decide ((trO lv[x]).a ≤ now)))) ∧ Below y.heap.size y w') := fun y => HTB.out lv[x] _ _ _ _ _ (aheadN lv x) y
    obtain ⟨hle, -, hwk, hre, hmet, hmks⟩ := hI
    generalize hNN : aheadN lv (x + 1) = A1 at *
    have HA1 : Hid (aheadN lv (x + 1) = A1) := hNN
    generalize hAA : aheadN lv x = A at *
    generalize lv[x] = t at *
    generalize lkB t = C at *
    generalize (trO t).r = n1 at *
    generalize (trO t).f = n2 at *
    generalize (trO t).y = n3 at *
    generalize (trO t).a = n4 at *
    clear HNX HTB HQ hx hNN hAA
    have hkk : x ≤ 1048576 := by omega
    gi_wp2
    refine ⟨(KeepsOthers.alloc _ _).from _, (Below.refl _ _).alloc hBW.size _, fun B hT => ?_⟩
    have KL : Bxs B W.heap.size 163 #[.string t, .int .i64 C, .int .i64 n1, .int .i64 n2, .int .i64 n3, .int .i64 n4, .int .i64 (A : Int)] := hT.bxs (Bxs.new _ _ _)
    have KW : Bxs B w.heap.size 91 #[.slice p lv.length cp, .slice q rs.length cq, .int .i64 now] := hT.bxs (hwk.alloc _)
    have KR : Bxs B (w.heap.size + 1) 4 #[.bool false] := hT.bxs (hre.alloc _)
    have KM : Bxs B (w.heap.size + 2) 3 #[.int .i64 (A : Int)] := hT.bxs (hmet.alloc _)
    have KS : Bxs B (w.heap.size + 3) 222 (mV (mrkOf (lv.take x))) := hT.bxs (hmks.alloc _)
    have HBB : Hid (Below w.heap.size w B) := (hBW.alloc hBW.size _).trans (hT.below (by rw [HS5.out]; omega))
    have hWB : W.heap.size < B.heap.size := KL.lt
    have HKL : Hid (Bxs B W.heap.size 163 #[.string t, .int .i64 C, .int .i64 n1, .int .i64 n2, .int .i64 n3, .int .i64 n4, .int .i64 (A : Int)]) := KL
    have HKW : Hid (Bxs B w.heap.size 91 #[.slice p lv.length cp, .slice q rs.length cq, .int .i64 now]) := KW
    have HKR : Hid (Bxs B (w.heap.size + 1) 4 #[.bool false]) := KR
    have HKM : Hid (Bxs B (w.heap.size + 2) 3 #[.int .i64 (A : Int)]) := KM
    have HKS : Hid (Bxs B (w.heap.size + 3) 222 (mV (mrkOf (lv.take x)))) := KS
    have HNX3 := HNX2.out B HBB.out
    obtain ⟨l0, l1, l2, l3, l4, l5, l6⟩ := KL.seven
    obtain ⟨k0, k1, k2⟩ := KW.three
    clear KL KW KR KM KS hwk hre hmet hmks hBW hT HNX2
    cases hN : isNx rs A t with
    | true =>
      obtain ⟨rfl, hA6, hmk⟩ := H1.out hN
      rw [hN, if_pos rfl] at HST
      rw [hN] at HNX3
      have HMK : Hid (mrkOf (lv.take (x + 1)) = mrkOf (lv.take x)) := hmk
      clear H1 H2 HOK HTB2 hN hmk
      gi_wp2
      refine ⟨trivial, (CallsIn.inRound l (callsIn_wide.2 HNX3)).mono ?_⟩
      rintro e y ⟨rfl, by_⟩
      have m0 := (HKM.out.below by_).cell 0
      have m1 := (HKM.out.below by_).fr 0
      have HFin : Hid (LvI w #[.slice p lv.length cp, .slice q rs.length cq, .int .i64 now] rs now lv (x + 1) (y.setCell ⟨w.heap.size + 2, 0, none⟩ (.int .i64 ((A : Int) + 1)))) := by
        refine ⟨by rw [HA1.out]; exact hA6, by rw [HA1.out]; exact HST.out, (HKW.out.below by_).other _ _ (by omega) _, (HKR.out.below by_).other _ _ (by omega) _, ?_, ?_⟩
        · rw [HA1.out]; exact (HKM.out.below by_).set 0 _
        · rw [HMK.out]; exact (HKS.out.below by_).other _ _ (by omega) _
      have HKp : Hid (Below w.heap.size B (y.setCell ⟨w.heap.size + 2, 0, none⟩ (.int .i64 ((A : Int) + 1)))) := (by_.mono HBB.out.size).setCell (p := ⟨w.heap.size + 2, 0, none⟩) (Nat.le_add_right _ _) _
      have HKF : Hid (KeepsOthers B (y.setCell ⟨w.heap.size + 2, 0, none⟩ (.int .i64 ((A : Int) + 1)))) := (keeps_below by_).trans (KeepsOthers.setCell _ _ _)
      clear HNX3 HST HA1 HMK
      gi_wp2
      exact ⟨HKF.out.from _, HKp.out, by rw [HPL.out]; exact HFin.out, HBB.out.trans HKp.out⟩
    | false =>
      rw [hN, if_neg Bool.false_ne_true] at HST
      rw [hN] at HNX3
      clear H1 hN
      gi_wp2
      refine ⟨trivial, (CallsIn.inRound l (callsIn_wide.2 HNX3)).mono ?_⟩
      rintro e y ⟨rfl, by_⟩
      have HBY : Hid (Below w.heap.size w y) := HBB.out.trans (by_.mono HBB.out.size)
      have HTB3 := HTB2.out y.drew
      have HKF : Hid (KeepsOthers B y) := keeps_below by_
      have HKp : Hid (Below w.heap.size B y) := by_.mono HBB.out.size
      have HKW2 : Hid (Bxs y w.heap.size 91 #[.slice p lv.length cp, .slice q rs.length cq, .int .i64 now]) := HKW.out.below by_
      have HKR2 : Hid (Bxs y (w.heap.size + 1) 4 #[.bool false]) := HKR.out.below by_
      have HKM2 : Hid (Bxs y (w.heap.size + 2) 3 #[.int .i64 (A : Int)]) := HKM.out.below by_
      have HKS2 : Hid (Bxs y (w.heap.size + 3) 222 (mV (mrkOf (lv.take x)))) := HKS.out.below by_
      have HKL2 : Hid (Bxs y W.heap.size 163 #[.string t, .int .i64 C, .int .i64 n1, .int .i64 n2, .int .i64 n3, .int .i64 n4, .int .i64 (A : Int)]) := HKL.out.below by_
      obtain ⟨l0, l1, l2, l3, l4, l5, l6⟩ := HKL2.out.seven
      obtain ⟨k0, k1, k2⟩ := HKW2.out.three
      clear HNX3 HKL HKW HKR HKM HKS by_ HTB2
      have hmx : Tryz.prog.follows .mixedOrders = true := by kernel_rfl
      cases hB : ((C == 2) && (decide (n1 < (A : Int)) && decide (n4 ≤ now))) with
      | false =>
        rw [hB, Bool.false_and] at HOK
        rw [HOK.out, if_neg Bool.false_ne_true] at HST
        rw [hB] at HTB3
        clear H2 HOK hB
        have HX : Hid (∀ x, Below y.heap.size y x → (x.cell? ⟨w.heap.size, 0, none⟩ = some (.slice p lv.length cp) ∧ x.cell? ⟨w.heap.size, 1, none⟩ = some (.slice q rs.length cq) ∧ x.cell? ⟨w.heap.size, 2, none⟩ = some (.int .i64 now)) ∧ x.cell? ⟨W.heap.size, 0, none⟩ = some (.string t) ∧ x.cell? ⟨W.heap.size, 1, none⟩ = some (.int .i64 C) ∧ x.cell? ⟨W.heap.size, 2, none⟩ = some (.int .i64 n1) ∧ x.cell? ⟨W.heap.size, 3, none⟩ = some (.int .i64 n2) ∧ x.cell? ⟨W.heap.size, 4, none⟩ = some (.int .i64 n3) ∧ x.cell? ⟨W.heap.size, 5, none⟩ = some (.int .i64 n4) ∧ x.cell? ⟨W.heap.size, 6, none⟩ = some (.int .i64 (A : Int))) := fun x hb => ⟨(HKW2.out.below hb).three, (HKL2.out.below hb).seven⟩
        gi_wp2
        refine region_round (S := (fun w' => (w'.cell? ⟨w.heap.size, 0, none⟩ = some (.slice p lv.length cp) ∧ w'.cell? ⟨w.heap.size, 1, none⟩ = some (.slice q rs.length cq) ∧ w'.cell? ⟨w.heap.size, 2, none⟩ = some (.int .i64 now)) ∧ w'.cell? ⟨W.heap.size, 0, none⟩ = some (.string t) ∧ w'.cell? ⟨W.heap.size, 1, none⟩ = some (.int .i64 C) ∧ w'.cell? ⟨W.heap.size, 2, none⟩ = some (.int .i64 n1) ∧ w'.cell? ⟨W.heap.size, 3, none⟩ = some (.int .i64 n2) ∧ w'.cell? ⟨W.heap.size, 4, none⟩ = some (.int .i64 n3) ∧ w'.cell? ⟨W.heap.size, 5, none⟩ = some (.int .i64 n4) ∧ w'.cell? ⟨W.heap.size, 6, none⟩ = some (.int .i64 (A : Int)))) (by kernel_rfl) (by rintro ⟨_, _, h⟩; exact h) (by kernel_rfl) (HX.out _ (Below.refl _ _).drew) (fun hHeld => ?_)
        refine take_at 0 (v := ?_) rfl (by kernel_rfl) (by kernel_rfl) (by kernel_rfl) (fun _ _ _ h => h) hHeld (Or.inl ⟨by rfl, ?_⟩) ?_
        rotate_left
        · (intro w hSw; (try dsimp only at hSw); go_simp; try with_reducible rfl)
        simp only [Act.put, List.setIfInBounds_toArray, List.set_cons_zero, List.set_cons_succ]
        refine take_at 1 (v := ?_) rfl (by kernel_rfl) (by kernel_rfl) (by kernel_rfl) (fun _ _ _ h => h) hHeld (Or.inl ⟨by rfl, ?_⟩) ?_
        rotate_left
        · (intro w hSw; (try dsimp only at hSw); go_simp; try with_reducible rfl)
        simp only [Act.put, List.setIfInBounds_toArray, List.set_cons_zero, List.set_cons_succ]
        refine ready_at 2 rfl (by kernel_rfl) (fun K hK => ?_)
        go_simp
        (go_at_call 178; with_reducible refine HTB3.mono ?_; rintro e y2 ⟨rfl, by2⟩; have by3 : Below y.heap.size y y2 := chainB (Below.refl _ _).drew by2)
        refine hK.out _ _ (HX.out _ by3) (fun hHeld => ?_)
        clear hK K
        try simp only [Act.put, List.setIfInBounds_toArray, List.set_cons_zero, List.set_cons_succ]
        refine take_at 3 (v := ?_) rfl (by kernel_rfl) (by kernel_rfl) (by kernel_rfl) (fun _ _ _ h => h) hHeld (Or.inl ⟨by rfl, ?_⟩) ?_
        rotate_left
        · (intro w hSw; (try dsimp only at hSw); go_simp; try with_reducible rfl)
        simp only [Act.put, List.setIfInBounds_toArray, List.set_cons_zero, List.set_cons_succ]
        refine take_at 4 (v := undef) rfl (by kernel_rfl) (by kernel_rfl) (by kernel_rfl) (fun _ _ _ h => h) hHeld (Or.inr ⟨by rfl, rfl⟩) ?_
        simp only [Act.put, List.setIfInBounds_toArray, List.set_cons_zero, List.set_cons_succ]
        refine take_at 5 (v := undef) rfl (by kernel_rfl) (by kernel_rfl) (by kernel_rfl) (fun _ _ _ h => h) hHeld (Or.inr ⟨by rfl, rfl⟩) ?_
        simp only [Act.put, List.setIfInBounds_toArray, List.set_cons_zero, List.set_cons_succ]
        refine take_at 6 (v := undef) rfl (by kernel_rfl) (by kernel_rfl) (by kernel_rfl) (fun _ _ _ h => h) hHeld (Or.inr ⟨by rfl, rfl⟩) ?_
        simp only [Act.put, List.setIfInBounds_toArray, List.set_cons_zero, List.set_cons_succ]
        refine take_at 7 (v := undef) rfl (by kernel_rfl) (by kernel_rfl) (by kernel_rfl) (fun _ _ _ h => h) hHeld (Or.inr ⟨by rfl, rfl⟩) ?_
        simp only [Act.put, List.setIfInBounds_toArray, List.set_cons_zero, List.set_cons_succ]
        refine take_at 8 (v := undef) rfl (by kernel_rfl) (by kernel_rfl) (by kernel_rfl) (fun _ _ _ h => h) hHeld (Or.inr ⟨by rfl, rfl⟩) ?_
        simp only [Act.put, List.setIfInBounds_toArray, List.set_cons_zero, List.set_cons_succ]
        refine take_at 9 (v := undef) rfl (by kernel_rfl) (by kernel_rfl) (by kernel_rfl) (fun _ _ _ h => h) hHeld (Or.inr ⟨by rfl, rfl⟩) ?_
        simp only [Act.put, List.setIfInBounds_toArray, List.set_cons_zero, List.set_cons_succ]
        refine take_at 10 (v := undef) rfl (by kernel_rfl) (by kernel_rfl) (by kernel_rfl) (fun _ _ _ h => h) hHeld (Or.inr ⟨by rfl, rfl⟩) ?_
        simp only [Act.put, List.setIfInBounds_toArray, List.set_cons_zero, List.set_cons_succ]
        refine take_at 11 (v := undef) rfl (by kernel_rfl) (by kernel_rfl) (by kernel_rfl) (fun _ _ _ h => h) hHeld (Or.inr ⟨by rfl, rfl⟩) ?_
        simp only [Act.put, List.setIfInBounds_toArray, List.set_cons_zero, List.set_cons_succ]
        refine take_at 12 (v := undef) rfl (by kernel_rfl) (by kernel_rfl) (by kernel_rfl) (fun _ _ _ h => h) hHeld (Or.inr ⟨by rfl, rfl⟩) ?_
        simp only [Act.put, List.setIfInBounds_toArray, List.set_cons_zero, List.set_cons_succ]
        refine take_at 13 (v := undef) rfl (by kernel_rfl) (by kernel_rfl) (by kernel_rfl) (fun _ _ _ h => h) hHeld (Or.inr ⟨by rfl, rfl⟩) ?_
        simp only [Act.put, List.setIfInBounds_toArray, List.set_cons_zero, List.set_cons_succ]
        refine take_at 14 (v := ?_) rfl (by kernel_rfl) (by kernel_rfl) (by kernel_rfl) (fun _ _ _ h => h) hHeld (Or.inl ⟨by rfl, ?_⟩) ?_
        rotate_left
        · (intro w hSw; (try dsimp only at hSw); go_simp; try with_reducible rfl)
        simp only [Act.put, List.setIfInBounds_toArray, List.set_cons_zero, List.set_cons_succ]
        refine take_at 15 (v := ?_) rfl (by kernel_rfl) (by kernel_rfl) (by kernel_rfl) (fun _ _ _ h => h) hHeld (Or.inl ⟨by rfl, ?_⟩) ?_
        rotate_left
        · (intro w hSw; (try dsimp only at hSw); go_simp; try with_reducible rfl)
        simp only [Act.put, List.setIfInBounds_toArray, List.set_cons_zero, List.set_cons_succ]
        refine wpAnyH_done (by kernel_rfl) ?_ _
        have r0 := (HKR2.out.below by3).cell 0
        have r1 := (HKR2.out.below by3).fr 0
        gi_wp2
        exact ⟨((HKF.out.trans (keeps_below by3)).trans (KeepsOthers.setCell _ _ _)).from _, ⟨rfl, HST.out, (HKR2.out.below by3).set 0 _⟩, (chainB HBY.out by3).setCell (p := ⟨w.heap.size + 1, 0, none⟩) (Nat.le_add_right _ _) _⟩
      | true =>
        obtain ⟨hC2, hB2⟩ := Bool.and_eq_true_iff.1 hB
        obtain ⟨hB3, hB4⟩ := Bool.and_eq_true_iff.1 hB2
        obtain ⟨h2a, h2b, ⟨r0, f0, f2⟩, h2d⟩ := H2.out hC2
        have hrA : n1 < 6 := by have := of_decide_eq_true hB3; omega
        have hM := h2d hrA
        rw [hB, Bool.true_and] at HOK
        rw [hB] at HTB3
        obtain ⟨R, rfl⟩ : ∃ R : Nat, n1 = (R : Int) := ⟨n1.toNat, by omega⟩
        obtain ⟨G, rfl⟩ : ∃ G : Nat, n2 = (G : Int) := ⟨n2.toNat, by omega⟩
        simp only [Int.toNat_natCast] at h2b hM
        have hR6 : R < 6 := by omega
        have hG3 : G < 3 := by omega
        have rI : (R : Int) < 6 := by omega
        have gI : (G : Int) < 3 := by omega
        have HMV : Hid ((mV (mrkOf (lv.take x)))[R * 3 + G]? = some (.bool (hitIn (lv.take x) (R : Int) (G : Int)))) := by show _ = _; rw [mV_at, hM]; rfl
        have H2B : Hid (mrkOf (lv.take (x + 1)) = (mrkOf (lv.take x)).set (R * 3 + G) true) := h2b
        have H2A : Hid (A1 = A) := h2a
        clear h2d H2 hM hB hB2 hB3 hB4 h2b h2a r0 f0 f2 hrA
        cases hH : hitIn (lv.take x) (R : Int) (G : Int) with
        | true =>
          rw [hH, Bool.not_true] at HOK
          rw [HOK.out, if_neg Bool.false_ne_true] at HST
          rw [hH] at HMV
          clear HOK hH
          have HX : Hid (∀ x, Below y.heap.size y x → (x.cell? ⟨w.heap.size, 0, none⟩ = some (.slice p lv.length cp) ∧ x.cell? ⟨w.heap.size, 1, none⟩ = some (.slice q rs.length cq) ∧ x.cell? ⟨w.heap.size, 2, none⟩ = some (.int .i64 now)) ∧ x.cell? ⟨W.heap.size, 0, none⟩ = some (.string t) ∧ x.cell? ⟨W.heap.size, 1, none⟩ = some (.int .i64 C) ∧ x.cell? ⟨W.heap.size, 2, none⟩ = some (.int .i64 (R : Int)) ∧ x.cell? ⟨W.heap.size, 3, none⟩ = some (.int .i64 (G : Int)) ∧ x.cell? ⟨W.heap.size, 4, none⟩ = some (.int .i64 n3) ∧ x.cell? ⟨W.heap.size, 5, none⟩ = some (.int .i64 n4) ∧ x.cell? ⟨W.heap.size, 6, none⟩ = some (.int .i64 (A : Int)) ∧ x.cell? ⟨w.heap.size + 3, R * 3 + G, none⟩ = some (.bool true)) := fun x hb => ⟨(HKW2.out.below hb).three, (HKL2.out.below hb).cell 0, (HKL2.out.below hb).cell 1, (HKL2.out.below hb).cell 2, (HKL2.out.below hb).cell 3, (HKL2.out.below hb).cell 4, (HKL2.out.below hb).cell 5, (HKL2.out.below hb).cell 6, ((HKS2.out.below hb).cell (R * 3 + G)).trans HMV.out⟩
          gi_wp2
          refine region_round (S := (fun w' => (w'.cell? ⟨w.heap.size, 0, none⟩ = some (.slice p lv.length cp) ∧ w'.cell? ⟨w.heap.size, 1, none⟩ = some (.slice q rs.length cq) ∧ w'.cell? ⟨w.heap.size, 2, none⟩ = some (.int .i64 now)) ∧ w'.cell? ⟨W.heap.size, 0, none⟩ = some (.string t) ∧ w'.cell? ⟨W.heap.size, 1, none⟩ = some (.int .i64 C) ∧ w'.cell? ⟨W.heap.size, 2, none⟩ = some (.int .i64 (R : Int)) ∧ w'.cell? ⟨W.heap.size, 3, none⟩ = some (.int .i64 (G : Int)) ∧ w'.cell? ⟨W.heap.size, 4, none⟩ = some (.int .i64 n3) ∧ w'.cell? ⟨W.heap.size, 5, none⟩ = some (.int .i64 n4) ∧ w'.cell? ⟨W.heap.size, 6, none⟩ = some (.int .i64 (A : Int)) ∧ w'.cell? ⟨w.heap.size + 3, R * 3 + G, none⟩ = some (.bool true))) (by kernel_rfl) (by rintro ⟨_, _, h⟩; exact h) (by kernel_rfl) (HX.out _ (Below.refl _ _).drew) (fun hHeld => ?_)
          refine take_at 0 (v := ?_) rfl (by kernel_rfl) (by kernel_rfl) (by kernel_rfl) (fun _ _ _ h => h) hHeld (Or.inl ⟨by rfl, ?_⟩) ?_
          rotate_left
          · (intro w hSw; (try dsimp only at hSw); go_simp; try with_reducible rfl)
          simp only [Act.put, List.setIfInBounds_toArray, List.set_cons_zero, List.set_cons_succ]
          refine take_at 1 (v := ?_) rfl (by kernel_rfl) (by kernel_rfl) (by kernel_rfl) (fun _ _ _ h => h) hHeld (Or.inl ⟨by rfl, ?_⟩) ?_
          rotate_left
          · (intro w hSw; (try dsimp only at hSw); go_simp; try with_reducible rfl)
          simp only [Act.put, List.setIfInBounds_toArray, List.set_cons_zero, List.set_cons_succ]
          refine ready_at 2 rfl (by kernel_rfl) (fun K hK => ?_)
          go_simp
          (go_at_call 178; with_reducible refine HTB3.mono ?_; rintro e y2 ⟨rfl, by2⟩; have by3 : Below y.heap.size y y2 := chainB (Below.refl _ _).drew by2)
          refine hK.out _ _ (HX.out _ by3) (fun hHeld => ?_)
          clear hK K
          try simp only [Act.put, List.setIfInBounds_toArray, List.set_cons_zero, List.set_cons_succ]
          refine take_at 3 (v := ?_) rfl (by kernel_rfl) (by kernel_rfl) (by kernel_rfl) (fun _ _ _ h => h) hHeld (Or.inl ⟨by rfl, ?_⟩) ?_
          rotate_left
          · (intro w hSw; (try dsimp only at hSw); go_simp; try with_reducible rfl)
          simp only [Act.put, List.setIfInBounds_toArray, List.set_cons_zero, List.set_cons_succ]
          refine take_at 4 (v := ?_) rfl (by kernel_rfl) (by kernel_rfl) (by kernel_rfl) (fun _ _ _ h => h) hHeld (Or.inl ⟨by rfl, ?_⟩) ?_
          rotate_left
          · (intro w hSw; (try dsimp only at hSw); go_simp; try with_reducible rfl)
          simp only [Act.put, List.setIfInBounds_toArray, List.set_cons_zero, List.set_cons_succ]
          refine take_at 5 (v := ?_) rfl (by kernel_rfl) (by kernel_rfl) (by kernel_rfl) (fun _ _ _ h => h) hHeld (Or.inl ⟨by rfl, ?_⟩) ?_
          rotate_left
          · (intro w hSw; (try dsimp only at hSw); go_simp; try with_reducible rfl)
          simp only [Act.put, List.setIfInBounds_toArray, List.set_cons_zero, List.set_cons_succ]
          refine take_at 6 (v := ?_) rfl (by kernel_rfl) (by kernel_rfl) (by kernel_rfl) (fun _ _ _ h => h) hHeld (Or.inl ⟨by rfl, ?_⟩) ?_
          rotate_left
          · (intro w hSw; (try dsimp only at hSw); go_simp; try with_reducible rfl)
          simp only [Act.put, List.setIfInBounds_toArray, List.set_cons_zero, List.set_cons_succ]
          refine take_at 7 (v := ?_) rfl (by kernel_rfl) (by kernel_rfl) (by kernel_rfl) (fun _ _ _ h => h) hHeld (Or.inl ⟨by rfl, ?_⟩) ?_
          rotate_left
          · (intro w hSw; (try dsimp only at hSw); go_simp; try with_reducible rfl)
          simp only [Act.put, List.setIfInBounds_toArray, List.set_cons_zero, List.set_cons_succ]
          refine take_at 8 (v := ?_) rfl (by kernel_rfl) (by kernel_rfl) (by kernel_rfl) (fun _ _ _ h => h) hHeld (Or.inl ⟨by rfl, ?_⟩) ?_
          rotate_left
          · (intro w hSw; (try dsimp only at hSw); go_simp; try with_reducible rfl)
          simp only [Act.put, List.setIfInBounds_toArray, List.set_cons_zero, List.set_cons_succ]
          refine take_at 9 (v := ?_) rfl (by kernel_rfl) (by kernel_rfl) (by kernel_rfl) (fun _ _ _ h => h) hHeld (Or.inl ⟨by rfl, ?_⟩) ?_
          rotate_left
          · (intro w hSw; (try dsimp only at hSw); go_simp; try with_reducible rfl)
          simp only [Act.put, List.setIfInBounds_toArray, List.set_cons_zero, List.set_cons_succ]
          refine take_at 10 (v := ?_) rfl (by kernel_rfl) (by kernel_rfl) (by kernel_rfl) (fun _ _ _ h => h) hHeld (Or.inl ⟨by rfl, ?_⟩) ?_
          rotate_left
          · (intro w hSw; (try dsimp only at hSw); go_simp; try with_reducible rfl)
          simp only [Act.put, List.setIfInBounds_toArray, List.set_cons_zero, List.set_cons_succ]
          refine take_at 11 (v := ?_) rfl (by kernel_rfl) (by kernel_rfl) (by kernel_rfl) (fun _ _ _ h => h) hHeld (Or.inl ⟨by rfl, ?_⟩) ?_
          rotate_left
          · (intro w hSw; (try dsimp only at hSw); go_simp; try with_reducible rfl)
          simp only [Act.put, List.setIfInBounds_toArray, List.set_cons_zero, List.set_cons_succ]
          refine take_at 12 (v := ?_) rfl (by kernel_rfl) (by kernel_rfl) (by kernel_rfl) (fun _ _ _ h => h) hHeld (Or.inl ⟨by rfl, ?_⟩) ?_
          rotate_left
          · (intro w hSw; (try dsimp only at hSw); go_simp; try with_reducible rfl)
          simp only [Act.put, List.setIfInBounds_toArray, List.set_cons_zero, List.set_cons_succ]
          refine take_at 13 (v := ?_) rfl (by kernel_rfl) (by kernel_rfl) (by kernel_rfl) (fun _ _ _ h => h) hHeld (Or.inl ⟨by rfl, ?_⟩) ?_
          rotate_left
          · (intro w hSw; (try dsimp only at hSw); go_simp; try with_reducible rfl)
          simp only [Act.put, List.setIfInBounds_toArray, List.set_cons_zero, List.set_cons_succ]
          refine take_at 14 (v := ?_) rfl (by kernel_rfl) (by kernel_rfl) (by kernel_rfl) (fun _ _ _ h => h) hHeld (Or.inl ⟨by rfl, ?_⟩) ?_
          rotate_left
          · (intro w hSw; (try dsimp only at hSw); go_simp; try with_reducible rfl)
          simp only [Act.put, List.setIfInBounds_toArray, List.set_cons_zero, List.set_cons_succ]
          refine take_at 15 (v := ?_) rfl (by kernel_rfl) (by kernel_rfl) (by kernel_rfl) (fun _ _ _ h => h) hHeld (Or.inl ⟨by rfl, ?_⟩) ?_
          rotate_left
          · (intro w hSw; (try dsimp only at hSw); go_simp; try with_reducible rfl)
          simp only [Act.put, List.setIfInBounds_toArray, List.set_cons_zero, List.set_cons_succ]
          refine wpAnyH_done (by kernel_rfl) ?_ _
          have r0 := (HKR2.out.below by3).cell 0
          have r1 := (HKR2.out.below by3).fr 0
          gi_wp2
          exact ⟨((HKF.out.trans (keeps_below by3)).trans (KeepsOthers.setCell _ _ _)).from _, ⟨rfl, HST.out, (HKR2.out.below by3).set 0 _⟩, (chainB HBY.out by3).setCell (p := ⟨w.heap.size + 1, 0, none⟩) (Nat.le_add_right _ _) _⟩
        | false =>
          rw [hH, Bool.not_false] at HOK
          rw [HOK.out, if_pos rfl] at HST
          rw [hH] at HMV
          clear HOK hH
          have HX : Hid (∀ x, Below y.heap.size y x → (x.cell? ⟨w.heap.size, 0, none⟩ = some (.slice p lv.length cp) ∧ x.cell? ⟨w.heap.size, 1, none⟩ = some (.slice q rs.length cq) ∧ x.cell? ⟨w.heap.size, 2, none⟩ = some (.int .i64 now)) ∧ x.cell? ⟨W.heap.size, 0, none⟩ = some (.string t) ∧ x.cell? ⟨W.heap.size, 1, none⟩ = some (.int .i64 C) ∧ x.cell? ⟨W.heap.size, 2, none⟩ = some (.int .i64 (R : Int)) ∧ x.cell? ⟨W.heap.size, 3, none⟩ = some (.int .i64 (G : Int)) ∧ x.cell? ⟨W.heap.size, 4, none⟩ = some (.int .i64 n3) ∧ x.cell? ⟨W.heap.size, 5, none⟩ = some (.int .i64 n4) ∧ x.cell? ⟨W.heap.size, 6, none⟩ = some (.int .i64 (A : Int)) ∧ x.cell? ⟨w.heap.size + 3, R * 3 + G, none⟩ = some (.bool false)) := fun x hb => ⟨(HKW2.out.below hb).three, (HKL2.out.below hb).cell 0, (HKL2.out.below hb).cell 1, (HKL2.out.below hb).cell 2, (HKL2.out.below hb).cell 3, (HKL2.out.below hb).cell 4, (HKL2.out.below hb).cell 5, (HKL2.out.below hb).cell 6, ((HKS2.out.below hb).cell (R * 3 + G)).trans HMV.out⟩
          gi_wp2
          refine region_round (S := (fun w' => (w'.cell? ⟨w.heap.size, 0, none⟩ = some (.slice p lv.length cp) ∧ w'.cell? ⟨w.heap.size, 1, none⟩ = some (.slice q rs.length cq) ∧ w'.cell? ⟨w.heap.size, 2, none⟩ = some (.int .i64 now)) ∧ w'.cell? ⟨W.heap.size, 0, none⟩ = some (.string t) ∧ w'.cell? ⟨W.heap.size, 1, none⟩ = some (.int .i64 C) ∧ w'.cell? ⟨W.heap.size, 2, none⟩ = some (.int .i64 (R : Int)) ∧ w'.cell? ⟨W.heap.size, 3, none⟩ = some (.int .i64 (G : Int)) ∧ w'.cell? ⟨W.heap.size, 4, none⟩ = some (.int .i64 n3) ∧ w'.cell? ⟨W.heap.size, 5, none⟩ = some (.int .i64 n4) ∧ w'.cell? ⟨W.heap.size, 6, none⟩ = some (.int .i64 (A : Int)) ∧ w'.cell? ⟨w.heap.size + 3, R * 3 + G, none⟩ = some (.bool false))) (by kernel_rfl) (by rintro ⟨_, _, h⟩; exact h) (by kernel_rfl) (HX.out _ (Below.refl _ _).drew) (fun hHeld => ?_)
          refine take_at 0 (v := ?_) rfl (by kernel_rfl) (by kernel_rfl) (by kernel_rfl) (fun _ _ _ h => h) hHeld (Or.inl ⟨by rfl, ?_⟩) ?_
          rotate_left
          · (intro w hSw; (try dsimp only at hSw); go_simp; try with_reducible rfl)
          simp only [Act.put, List.setIfInBounds_toArray, List.set_cons_zero, List.set_cons_succ]
          refine take_at 1 (v := ?_) rfl (by kernel_rfl) (by kernel_rfl) (by kernel_rfl) (fun _ _ _ h => h) hHeld (Or.inl ⟨by rfl, ?_⟩) ?_
          rotate_left
          · (intro w hSw; (try dsimp only at hSw); go_simp; try with_reducible rfl)
          simp only [Act.put, List.setIfInBounds_toArray, List.set_cons_zero, List.set_cons_succ]
          refine ready_at 2 rfl (by kernel_rfl) (fun K hK => ?_)
          go_simp
          (go_at_call 178; with_reducible refine HTB3.mono ?_; rintro e y2 ⟨rfl, by2⟩; have by3 : Below y.heap.size y y2 := chainB (Below.refl _ _).drew by2)
          refine hK.out _ _ (HX.out _ by3) (fun hHeld => ?_)
          clear hK K
          try simp only [Act.put, List.setIfInBounds_toArray, List.set_cons_zero, List.set_cons_succ]
          refine take_at 3 (v := ?_) rfl (by kernel_rfl) (by kernel_rfl) (by kernel_rfl) (fun _ _ _ h => h) hHeld (Or.inl ⟨by rfl, ?_⟩) ?_
          rotate_left
          · (intro w hSw; (try dsimp only at hSw); go_simp; try with_reducible rfl)
          simp only [Act.put, List.setIfInBounds_toArray, List.set_cons_zero, List.set_cons_succ]
          refine take_at 4 (v := ?_) rfl (by kernel_rfl) (by kernel_rfl) (by kernel_rfl) (fun _ _ _ h => h) hHeld (Or.inl ⟨by rfl, ?_⟩) ?_
          rotate_left
          · (intro w hSw; (try dsimp only at hSw); go_simp; try with_reducible rfl)
          simp only [Act.put, List.setIfInBounds_toArray, List.set_cons_zero, List.set_cons_succ]
          refine take_at 5 (v := ?_) rfl (by kernel_rfl) (by kernel_rfl) (by kernel_rfl) (fun _ _ _ h => h) hHeld (Or.inl ⟨by rfl, ?_⟩) ?_
          rotate_left
          · (intro w hSw; (try dsimp only at hSw); go_simp; try with_reducible rfl)
          simp only [Act.put, List.setIfInBounds_toArray, List.set_cons_zero, List.set_cons_succ]
          refine take_at 6 (v := ?_) rfl (by kernel_rfl) (by kernel_rfl) (by kernel_rfl) (fun _ _ _ h => h) hHeld (Or.inl ⟨by rfl, ?_⟩) ?_
          rotate_left
          · (intro w hSw; (try dsimp only at hSw); go_simp; try with_reducible rfl)
          simp only [Act.put, List.setIfInBounds_toArray, List.set_cons_zero, List.set_cons_succ]
          refine take_at 7 (v := ?_) rfl (by kernel_rfl) (by kernel_rfl) (by kernel_rfl) (fun _ _ _ h => h) hHeld (Or.inl ⟨by rfl, ?_⟩) ?_
          rotate_left
          · (intro w hSw; (try dsimp only at hSw); go_simp; try with_reducible rfl)
          simp only [Act.put, List.setIfInBounds_toArray, List.set_cons_zero, List.set_cons_succ]
          refine take_at 8 (v := ?_) rfl (by kernel_rfl) (by kernel_rfl) (by kernel_rfl) (fun _ _ _ h => h) hHeld (Or.inl ⟨by rfl, ?_⟩) ?_
          rotate_left
          · (intro w hSw; (try dsimp only at hSw); go_simp; try with_reducible rfl)
          simp only [Act.put, List.setIfInBounds_toArray, List.set_cons_zero, List.set_cons_succ]
          refine take_at 9 (v := ?_) rfl (by kernel_rfl) (by kernel_rfl) (by kernel_rfl) (fun _ _ _ h => h) hHeld (Or.inl ⟨by rfl, ?_⟩) ?_
          rotate_left
          · (intro w hSw; (try dsimp only at hSw); go_simp; try with_reducible rfl)
          simp only [Act.put, List.setIfInBounds_toArray, List.set_cons_zero, List.set_cons_succ]
          refine take_at 10 (v := ?_) rfl (by kernel_rfl) (by kernel_rfl) (by kernel_rfl) (fun _ _ _ h => h) hHeld (Or.inl ⟨by rfl, ?_⟩) ?_
          rotate_left
          · (intro w hSw; (try dsimp only at hSw); go_simp; try with_reducible rfl)
          simp only [Act.put, List.setIfInBounds_toArray, List.set_cons_zero, List.set_cons_succ]
          refine take_at 11 (v := ?_) rfl (by kernel_rfl) (by kernel_rfl) (by kernel_rfl) (fun _ _ _ h => h) hHeld (Or.inl ⟨by rfl, ?_⟩) ?_
          rotate_left
          · (intro w hSw; (try dsimp only at hSw); go_simp; try with_reducible rfl)
          simp only [Act.put, List.setIfInBounds_toArray, List.set_cons_zero, List.set_cons_succ]
          refine take_at 12 (v := ?_) rfl (by kernel_rfl) (by kernel_rfl) (by kernel_rfl) (fun _ _ _ h => h) hHeld (Or.inl ⟨by rfl, ?_⟩) ?_
          rotate_left
          · (intro w hSw; (try dsimp only at hSw); go_simp; try with_reducible rfl)
          simp only [Act.put, List.setIfInBounds_toArray, List.set_cons_zero, List.set_cons_succ]
          refine take_at 13 (v := ?_) rfl (by kernel_rfl) (by kernel_rfl) (by kernel_rfl) (fun _ _ _ h => h) hHeld (Or.inl ⟨by rfl, ?_⟩) ?_
          rotate_left
          · (intro w hSw; (try dsimp only at hSw); go_simp; try with_reducible rfl)
          simp only [Act.put, List.setIfInBounds_toArray, List.set_cons_zero, List.set_cons_succ]
          refine take_at 14 (v := ?_) rfl (by kernel_rfl) (by kernel_rfl) (by kernel_rfl) (fun _ _ _ h => h) hHeld (Or.inl ⟨by rfl, ?_⟩) ?_
          rotate_left
          · (intro w hSw; (try dsimp only at hSw); go_simp; try with_reducible rfl)
          simp only [Act.put, List.setIfInBounds_toArray, List.set_cons_zero, List.set_cons_succ]
          refine take_at 15 (v := ?_) rfl (by kernel_rfl) (by kernel_rfl) (by kernel_rfl) (fun _ _ _ h => h) hHeld (Or.inl ⟨by rfl, ?_⟩) ?_
          rotate_left
          · (intro w hSw; (try dsimp only at hSw); go_simp; try with_reducible rfl)
          simp only [Act.put, List.setIfInBounds_toArray, List.set_cons_zero, List.set_cons_succ]
          refine wpAnyH_done (by kernel_rfl) ?_ _
          have HL9 : Hid (Bxs y2.drew W.heap.size 163 #[.string t, .int .i64 C, .int .i64 (R : Int), .int .i64 (G : Int), .int .i64 n3, .int .i64 n4, .int .i64 (A : Int)]) := (HKL2.out.below by3).drew
          have HS9 : Hid (Bxs y2.drew (w.heap.size + 3) 222 (mV (mrkOf (lv.take x)))) := (HKS2.out.below by3).drew
          have HX9 : Hid (y2.drew.cell? ⟨W.heap.size, 2, none⟩ = some (.int .i64 (R : Int)) ∧ y2.drew.cell? ⟨W.heap.size, 3, none⟩ = some (.int .i64 (G : Int)) ∧ y2.drew.cell? ⟨w.heap.size + 3, R * 3 + G, none⟩ = some (.bool false) ∧ y2.drew.frozen? ⟨w.heap.size + 3, R * 3 + G, none⟩ = false) := ⟨HL9.out.cell 2, HL9.out.cell 3, (HS9.out.cell (R * 3 + G)).trans HMV.out, HS9.out.fr _⟩
          gi_wp2
          refine region_round_till ((fun w' => w'.cell? ⟨W.heap.size, 2, none⟩ = some (.int .i64 (R : Int)) ∧ w'.cell? ⟨W.heap.size, 3, none⟩ = some (.int .i64 (G : Int)) ∧ w'.cell? ⟨w.heap.size + 3, R * 3 + G, none⟩ = some (.bool false) ∧ w'.frozen? ⟨w.heap.size + 3, R * 3 + G, none⟩ = false)) 8 (by kernel_rfl) (by rintro ⟨_, _, h⟩; exact h) (by kernel_rfl) (HX9.out) (fun hHeld => ?_)
          refine till_take 0 (v := ?_) rfl (by kernel_rfl) (by kernel_rfl) (by kernel_rfl) (by kernel_rfl) (fun _ _ _ h => h) hHeld (Or.inl ⟨by rfl, ?_⟩) ?_
          rotate_left
          · (intro w hSw; (try dsimp only at hSw); go_simp; try with_reducible rfl)
          simp only [Act.put, List.setIfInBounds_toArray, List.set_cons_zero, List.set_cons_succ]
          refine till_take 1 (v := ?_) rfl (by kernel_rfl) (by kernel_rfl) (by kernel_rfl) (by kernel_rfl) (fun _ _ _ h => h) hHeld (Or.inl ⟨by rfl, ?_⟩) ?_
          rotate_left
          · (intro w hSw; (try dsimp only at hSw); go_simp; try with_reducible rfl)
          simp only [Act.put, List.setIfInBounds_toArray, List.set_cons_zero, List.set_cons_succ]
          refine till_take 2 (v := ?_) rfl (by kernel_rfl) (by kernel_rfl) (by kernel_rfl) (by kernel_rfl) (fun _ _ _ h => h) hHeld (Or.inl ⟨by rfl, ?_⟩) ?_
          rotate_left
          · (intro w hSw; (try dsimp only at hSw); go_simp; try with_reducible rfl)
          simp only [Act.put, List.setIfInBounds_toArray, List.set_cons_zero, List.set_cons_succ]
          refine till_take 3 (v := ?_) rfl (by kernel_rfl) (by kernel_rfl) (by kernel_rfl) (by kernel_rfl) (fun _ _ _ h => h) hHeld (Or.inl ⟨by rfl, ?_⟩) ?_
          rotate_left
          · (intro w hSw; (try dsimp only at hSw); go_simp; try with_reducible rfl)
          simp only [Act.put, List.setIfInBounds_toArray, List.set_cons_zero, List.set_cons_succ]
          refine till_take 4 (v := ?_) rfl (by kernel_rfl) (by kernel_rfl) (by kernel_rfl) (by kernel_rfl) (fun _ _ _ h => h) hHeld (Or.inl ⟨by rfl, ?_⟩) ?_
          rotate_left
          · (intro w hSw; (try dsimp only at hSw); go_simp; try with_reducible rfl)
          simp only [Act.put, List.setIfInBounds_toArray, List.set_cons_zero, List.set_cons_succ]
          refine till_take 5 (v := ?_) rfl (by kernel_rfl) (by kernel_rfl) (by kernel_rfl) (by kernel_rfl) (fun _ _ _ h => h) hHeld (Or.inl ⟨by rfl, ?_⟩) ?_
          rotate_left
          · (intro w hSw; (try dsimp only at hSw); go_simp; try with_reducible rfl)
          simp only [Act.put, List.setIfInBounds_toArray, List.set_cons_zero, List.set_cons_succ]
          refine till_ready 6 rfl (by kernel_rfl) (fun K hK => ?_)
          go_simp
          refine hK.out _ _ (HX9.out) (fun hHeld => ?_)
          clear hK K
          try simp only [Act.put, List.setIfInBounds_toArray, List.set_cons_zero, List.set_cons_succ]
          refine till_take 7 (v := ?_) rfl (by kernel_rfl) (by kernel_rfl) (by kernel_rfl) (by kernel_rfl) (fun _ _ _ h => h) hHeld (Or.inl ⟨by rfl, ?_⟩) ?_
          rotate_left
          · (intro w hSw; (try dsimp only at hSw); go_simp; try with_reducible rfl)
          simp only [Act.put, List.setIfInBounds_toArray, List.set_cons_zero, List.set_cons_succ]
          refine till_last rfl (by kernel_rfl) (by kernel_rfl) (fun K hK => ?_)
          obtain ⟨s2, s3, s4, s5⟩ := HX9.out; go_simp
          refine hK.out _ _ ?_
          clear hK K
          have HFin : Hid (LvI w #[.slice p lv.length cp, .slice q rs.length cq, .int .i64 now] rs now lv (x + 1) (y2.drew.setCell ⟨w.heap.size + 3, R * 3 + G, none⟩ (.bool true))) := by
            refine ⟨by rw [HA1.out, H2A.out]; exact hle, by rw [HA1.out, H2A.out]; exact HST.out, (HKW2.out.below by3).drew.other _ _ (by omega) _, (HKR2.out.below by3).drew.other _ _ (by omega) _, ?_, ?_⟩
            · rw [HA1.out, H2A.out]; exact (HKM2.out.below by3).drew.other _ _ (by omega) _
            · rw [H2B.out, ← mV_set]; exact HS9.out.set _ _
          have HK9 : Hid (Below w.heap.size B (y2.drew.setCell ⟨w.heap.size + 3, R * 3 + G, none⟩ (.bool true))) := (HKp.out.trans (by3.mono HBY.out.size)).drew.setCell (p := ⟨w.heap.size + 3, R * 3 + G, none⟩) (Nat.le_add_right _ _) _
          have HF9 : Hid (KeepsOthers B (y2.drew.setCell ⟨w.heap.size + 3, R * 3 + G, none⟩ (.bool true))) := ((HKF.out.trans (keeps_below by3)).trans (KeepsOthers.drew _)).trans (KeepsOthers.setCell _ _ _)
          clear HX9 HL9 hHeld HST HA1 H2A H2B
          gi_wp2
          exact ⟨HF9.out.from _, HK9.out, by rw [HPL.out]; exact HFin.out, HBB.out.trans HK9.out⟩
  case done =>
    rintro D ys W hD hys ⟨hI, hB⟩ hK
    rw [hys] at hI
    obtain ⟨hle, hrun, hwk, hre, hmet, hmks⟩ := hI
    rw [List.take_length] at hrun hmks
    rw [List.drop_length, cGo] at hrun
    have hD2 : w.heap.size ≤ D := Nat.le_trans B5.out.size hD
    have HOK : Hid (lvOk rs now lv = (decide (aheadN lv lv.length = rs.length) && decide (mrkOf lv = goneM rs))) := by show _ = _; unfold lvOk; rw [hrun]
    gi_wp2
    refine wpIn_wide.2 (wp_only ?_)
    have HX : Hid (∀ x, Below W.heap.size W x → (x.cell? ⟨w.heap.size, 0, none⟩ = some (.slice p lv.length cp) ∧ x.cell? ⟨w.heap.size, 1, none⟩ = some (.slice q rs.length cq) ∧ x.cell? ⟨w.heap.size, 2, none⟩ = some (.int .i64 now)) ∧ x.cell? ⟨w.heap.size + 2, 0, none⟩ = some (.int .i64 (aheadN lv lv.length : Int)) ∧ Bxs x (w.heap.size + 3) 222 (mV (mrkOf lv))) := fun x hb => ⟨(hwk.below hb).three, (hmet.below hb).cell 0, hmks.below hb⟩
    have HRE : Hid (∀ x, Below W.heap.size W x → Bxs x (w.heap.size + 1) 4 #[.bool false]) := fun x hb => hre.below hb
    have HMl : (mrkOf lv).length = 18 := mrk_len lv
    have HGl : (goneM rs).length = 18 := goneM_len rs
    have HFinal : Hid (∀ (x : World) (b : Bool), Below w.heap.size w x → Bxs x (w.heap.size + 1) 4 #[.bool b] → x.heap[D]? = some (.deferred (some [])) → True) := fun _ _ _ _ _ => trivial
    have hGn := HGN.out W.drew hB.drew
    have HBW : Hid (Below w.heap.size w W) := hB
    clear hrun HQ HNX HTB HGN hys hwk hre hmet hmks hB HI5 hle HFinal
    generalize mrkOf lv = M at *
    generalize goneM rs = GM at *
    generalize aheadN lv lv.length = A at *
    have he := fun x => eq18 M GM HMl HGl x
    have hMl := HMl
    have hgd : Tryz.prog.eqGuardType Tryz.prog.depth 222 = false := by kernel_rfl
    cases hq : ((A : Int) == (rs.length : Int)) with
    | true =>
      refine region_till ((fun w' => (w'.cell? ⟨w.heap.size, 0, none⟩ = some (.slice p lv.length cp) ∧ w'.cell? ⟨w.heap.size, 1, none⟩ = some (.slice q rs.length cq) ∧ w'.cell? ⟨w.heap.size, 2, none⟩ = some (.int .i64 now)) ∧ w'.cell? ⟨w.heap.size + 2, 0, none⟩ = some (.int .i64 (A : Int)) ∧ Bxs w' (w.heap.size + 3) 222 (mV M))) 11 (by kernel_rfl) (HX.out _ (Below.refl _ _).drew) (fun hHeld => ?_)
      refine till_take 0 (v := ?_) rfl (by kernel_rfl) (by kernel_rfl) (by kernel_rfl) (by kernel_rfl) (fun _ _ _ h => h) hHeld (Or.inl ⟨by rfl, ?_⟩) ?_
      rotate_left
      · (intro w hSw; (try dsimp only at hSw); go_simp; try with_reducible rfl)
      simp only [Act.put, List.setIfInBounds_toArray, List.set_cons_zero, List.set_cons_succ]
      refine till_take 1 (v := ?_) rfl (by kernel_rfl) (by kernel_rfl) (by kernel_rfl) (by kernel_rfl) (fun _ _ _ h => h) hHeld (Or.inl ⟨by rfl, ?_⟩) ?_
      rotate_left
      · (intro w hSw; (try dsimp only at hSw); go_simp; try with_reducible rfl)
      simp only [Act.put, List.setIfInBounds_toArray, List.set_cons_zero, List.set_cons_succ]
      refine till_take 2 (v := ?_) rfl (by kernel_rfl) (by kernel_rfl) (by kernel_rfl) (by kernel_rfl) (fun _ _ _ h => h) hHeld (Or.inl ⟨by rfl, ?_⟩) ?_
      rotate_left
      · (intro w hSw; (try dsimp only at hSw); go_simp; try with_reducible rfl)
      simp only [Act.put, List.setIfInBounds_toArray, List.set_cons_zero, List.set_cons_succ]
      refine till_take 3 (v := ?_) rfl (by kernel_rfl) (by kernel_rfl) (by kernel_rfl) (by kernel_rfl) (fun _ _ _ h => h) hHeld (Or.inl ⟨by rfl, ?_⟩) ?_
      rotate_left
      · (intro w hSw; (try dsimp only at hSw); go_simp; try with_reducible rfl)
      simp only [Act.put, List.setIfInBounds_toArray, List.set_cons_zero, List.set_cons_succ]
      refine till_take 4 (v := ?_) rfl (by kernel_rfl) (by kernel_rfl) (by kernel_rfl) (by kernel_rfl) (fun _ _ _ h => h) hHeld (Or.inl ⟨by rfl, ?_⟩) ?_
      rotate_left
      · (intro w hSw; (try dsimp only at hSw); go_simp; try with_reducible rfl)
      simp only [Act.put, List.setIfInBounds_toArray, List.set_cons_zero, List.set_cons_succ]
      refine till_take 5 (v := ?_) rfl (by kernel_rfl) (by kernel_rfl) (by kernel_rfl) (by kernel_rfl) (fun _ _ _ h => h) hHeld (Or.inl ⟨by rfl, ?_⟩) ?_
      rotate_left
      · (intro w hSw; (try dsimp only at hSw); go_simp; try with_reducible rfl)
      simp only [Act.put, List.setIfInBounds_toArray, List.set_cons_zero, List.set_cons_succ]
      refine till_take 6 (v := .agg (mV M)) rfl (by kernel_rfl) (by kernel_rfl) (by kernel_rfl) (by kernel_rfl) (fun _ _ _ h => h) hHeld (Or.inl ⟨by rfl, ?_⟩) ?_
      · (intro wx hSw; exact yields_load rfl rfl (loadM hSw.2.2 hMl))
      simp only [Act.put, List.setIfInBounds_toArray, List.set_cons_zero, List.set_cons_succ]
      refine till_take 7 (v := ?_) rfl (by kernel_rfl) (by kernel_rfl) (by kernel_rfl) (by kernel_rfl) (fun _ _ _ h => h) hHeld (Or.inl ⟨by rfl, ?_⟩) ?_
      rotate_left
      · (intro w hSw; (try dsimp only at hSw); go_simp; try with_reducible rfl)
      simp only [Act.put, List.setIfInBounds_toArray, List.set_cons_zero, List.set_cons_succ]
      refine till_ready 8 rfl (by kernel_rfl) (fun K hK => ?_)
      go_simp
      (go_at_call 179; with_reducible refine hGn.mono ?_; rintro e y2 ⟨rfl, by2⟩)
      have by3 : Below W.heap.size W y2 := chainB (Below.refl _ _).drew by2
      refine hK.out _ _ (HX.out _ by3) (fun hHeld => ?_)
      clear hK K
      try simp only [Act.put, List.setIfInBounds_toArray, List.set_cons_zero, List.set_cons_succ]
      refine till_take 9 (v := ?_) rfl (by kernel_rfl) (by kernel_rfl) (by kernel_rfl) (by kernel_rfl) (fun _ _ _ h => h) hHeld (Or.inl ⟨by rfl, ?_⟩) ?_
      rotate_left
      · (intro w hSw; (try dsimp only at hSw); go_simp; try with_reducible rfl)
      simp only [Act.put, List.setIfInBounds_toArray, List.set_cons_zero, List.set_cons_succ]
      refine till_take 10 (v := ?_) rfl (by kernel_rfl) (by kernel_rfl) (by kernel_rfl) (by kernel_rfl) (fun _ _ _ h => h) hHeld (Or.inl ⟨by rfl, ?_⟩) ?_
      rotate_left
      · (intro w hSw; (try dsimp only at hSw); go_simp; try with_reducible rfl)
      simp only [Act.put, List.setIfInBounds_toArray, List.set_cons_zero, List.set_cons_succ]
      refine till_last rfl (by kernel_rfl) (by kernel_rfl) (fun K hK => ?_)
      have r0 := (HRE.out _ by3).cell 0; have r1 := (HRE.out _ by3).fr 0; go_simp
      refine hK.out _ _ ?_
      clear hK K
      unfold onlyN
      have HEq : Hid (lvOk rs now lv = decide (M = GM)) := by show _ = _; rw [HOK.out, decide_eq_true (by have := eq_of_beq hq; omega)]; rfl
      have by4 : Below w.heap.size w y2 := chainB HBW.out by3
      have hK2 : y2.heap[D]? = some (.deferred (some [])) := (by3.block D (lt_of_block hK)).trans hK
      have hK' : (y2.setCell ⟨w.heap.size + 1, 0, none⟩ (.bool (decide (M = GM)))).heap[D]? = _ := (KeepsOthers.setCell y2 ⟨w.heap.size + 1, 0, none⟩ (.bool (decide (M = GM)))).same D _ hK2 rfl
      gi_wp2
      refine ⟨by simp, .inl ⟨_, _, rfl, run_takeDeferred hK', ?_⟩⟩
      have hc5 := cell_kept (((HRE.out _ by3).set 0 (.bool (decide (M = GM)))).cell 0) (grownBy_putObj' _ D (.deferred none)) (fun r e => by cases e; exact ⟨_, hK', rfl⟩)
      refine ⟨.bool (decide (M = GM)), ?_, by rw [HEq.out], (by4.setCell (p := ⟨w.heap.size + 1, 0, none⟩) (by simp) _).trans (belowK_b (w := w) (Nat.le_refl _) _ D _ _ hD2 hK' rfl rfl)⟩
      simp [results, Tryz.f153, go_sem, hc5]
    | false =>
      refine region_till ((fun w' => (w'.cell? ⟨w.heap.size, 0, none⟩ = some (.slice p lv.length cp) ∧ w'.cell? ⟨w.heap.size, 1, none⟩ = some (.slice q rs.length cq) ∧ w'.cell? ⟨w.heap.size, 2, none⟩ = some (.int .i64 now)) ∧ w'.cell? ⟨w.heap.size + 2, 0, none⟩ = some (.int .i64 (A : Int)) ∧ Bxs w' (w.heap.size + 3) 222 (mV M))) 11 (by kernel_rfl) (HX.out _ (Below.refl _ _).drew) (fun hHeld => ?_)
      refine till_take 0 (v := ?_) rfl (by kernel_rfl) (by kernel_rfl) (by kernel_rfl) (by kernel_rfl) (fun _ _ _ h => h) hHeld (Or.inl ⟨by rfl, ?_⟩) ?_
      rotate_left
      · (intro w hSw; (try dsimp only at hSw); go_simp; try with_reducible rfl)
      simp only [Act.put, List.setIfInBounds_toArray, List.set_cons_zero, List.set_cons_succ]
      refine till_take 1 (v := ?_) rfl (by kernel_rfl) (by kernel_rfl) (by kernel_rfl) (by kernel_rfl) (fun _ _ _ h => h) hHeld (Or.inl ⟨by rfl, ?_⟩) ?_
      rotate_left
      · (intro w hSw; (try dsimp only at hSw); go_simp; try with_reducible rfl)
      simp only [Act.put, List.setIfInBounds_toArray, List.set_cons_zero, List.set_cons_succ]
      refine till_take 2 (v := ?_) rfl (by kernel_rfl) (by kernel_rfl) (by kernel_rfl) (by kernel_rfl) (fun _ _ _ h => h) hHeld (Or.inl ⟨by rfl, ?_⟩) ?_
      rotate_left
      · (intro w hSw; (try dsimp only at hSw); go_simp; try with_reducible rfl)
      simp only [Act.put, List.setIfInBounds_toArray, List.set_cons_zero, List.set_cons_succ]
      refine till_take 3 (v := ?_) rfl (by kernel_rfl) (by kernel_rfl) (by kernel_rfl) (by kernel_rfl) (fun _ _ _ h => h) hHeld (Or.inl ⟨by rfl, ?_⟩) ?_
      rotate_left
      · (intro w hSw; (try dsimp only at hSw); go_simp; try with_reducible rfl)
      simp only [Act.put, List.setIfInBounds_toArray, List.set_cons_zero, List.set_cons_succ]
      refine till_take 4 (v := ?_) rfl (by kernel_rfl) (by kernel_rfl) (by kernel_rfl) (by kernel_rfl) (fun _ _ _ h => h) hHeld (Or.inl ⟨by rfl, ?_⟩) ?_
      rotate_left
      · (intro w hSw; (try dsimp only at hSw); go_simp; try with_reducible rfl)
      simp only [Act.put, List.setIfInBounds_toArray, List.set_cons_zero, List.set_cons_succ]
      refine till_take 5 (v := ?_) rfl (by kernel_rfl) (by kernel_rfl) (by kernel_rfl) (by kernel_rfl) (fun _ _ _ h => h) hHeld (Or.inl ⟨by rfl, ?_⟩) ?_
      rotate_left
      · (intro w hSw; (try dsimp only at hSw); go_simp; try with_reducible rfl)
      simp only [Act.put, List.setIfInBounds_toArray, List.set_cons_zero, List.set_cons_succ]
      refine till_take 6 (v := undef) rfl (by kernel_rfl) (by kernel_rfl) (by kernel_rfl) (by kernel_rfl) (fun _ _ _ h => h) hHeld (Or.inr ⟨by rfl, rfl⟩) ?_
      simp only [Act.put, List.setIfInBounds_toArray, List.set_cons_zero, List.set_cons_succ]
      refine till_take 7 (v := undef) rfl (by kernel_rfl) (by kernel_rfl) (by kernel_rfl) (by kernel_rfl) (fun _ _ _ h => h) hHeld (Or.inr ⟨by rfl, rfl⟩) ?_
      simp only [Act.put, List.setIfInBounds_toArray, List.set_cons_zero, List.set_cons_succ]
      refine till_take 8 (v := undef) rfl (by kernel_rfl) (by kernel_rfl) (by kernel_rfl) (by kernel_rfl) (fun _ _ _ h => h) hHeld (Or.inr ⟨by rfl, rfl⟩) ?_
      simp only [Act.put, List.setIfInBounds_toArray, List.set_cons_zero, List.set_cons_succ]
      refine till_take 9 (v := undef) rfl (by kernel_rfl) (by kernel_rfl) (by kernel_rfl) (by kernel_rfl) (fun _ _ _ h => h) hHeld (Or.inr ⟨by rfl, rfl⟩) ?_
      simp only [Act.put, List.setIfInBounds_toArray, List.set_cons_zero, List.set_cons_succ]
      refine till_take 10 (v := ?_) rfl (by kernel_rfl) (by kernel_rfl) (by kernel_rfl) (by kernel_rfl) (fun _ _ _ h => h) hHeld (Or.inl ⟨by rfl, ?_⟩) ?_
      rotate_left
      · (intro w hSw; (try dsimp only at hSw); go_simp; try with_reducible rfl)
      simp only [Act.put, List.setIfInBounds_toArray, List.set_cons_zero, List.set_cons_succ]
      refine till_last rfl (by kernel_rfl) (by kernel_rfl) (fun K hK => ?_)
      have r0 := (HRE.out _ (Below.refl _ _).drew).cell 0; have r1 := (HRE.out _ (Below.refl _ _).drew).fr 0; go_simp
      refine hK.out _ _ ?_
      clear hK K
      unfold onlyN
      have HEq : Hid (lvOk rs now lv = false) := by show _ = _; rw [HOK.out, decide_eq_false (fun e => by rw [e] at hq; simp at hq)]; rfl
      have hK' : (W.setCell ⟨w.heap.size + 1, 0, none⟩ (.bool false)).drew.heap[D]? = _ := (KeepsOthers.setCell W ⟨w.heap.size + 1, 0, none⟩ (.bool false)).same D _ hK rfl
      gi_wp2
      refine ⟨by simp, .inl ⟨_, _, rfl, run_takeDeferred hK', ?_⟩⟩
      have hc5 := cell_kept (((HRE.out _ (Below.refl _ _)).set 0 (.bool false)).drew.cell 0) (grownBy_putObj' _ D (.deferred none)) (fun r e => by cases e; exact ⟨_, hK', rfl⟩)
      refine ⟨.bool false, ?_, by rw [HEq.out], (HBW.out.setCell (p := ⟨w.heap.size + 1, 0, none⟩) (by simp) _).drew.trans (belowK_b (w := w) (Nat.le_refl _) _ D _ _ hD2 hK' rfl rfl)⟩
      simp [results, Tryz.f153, go_sem, hc5]
  case stop =>
    rintro D c pre W hD - ⟨⟨rfl, hcr⟩, hB⟩ hK
    have hD2 : w.heap.size ≤ D := Nat.le_trans B5.out.size hD
    have HE : Hid (lvOk rs now lv = false) := by show _ = _; unfold lvOk; rw [hcr.1]
    gi_wp2
    refine ⟨by simp, .inl ⟨_, _, rfl, run_takeDeferred hK, ?_⟩⟩
    have hc5 := cell_kept (Bxs.cell hcr.2 0) (grownBy_putObj' _ D (.deferred none)) (fun r e => by cases e; exact ⟨_, hK, rfl⟩)
    refine ⟨.bool false, ?_, by rw [HE.out], hB.trans (belowK_b (w := w) (Nat.le_refl _) W D _ _ hD2 hK rfl rfl)⟩
    simp [results, Tryz.f153, go_sem, hc5]
end Go.Proofs.YtonleickhincgaaGreatDoor
