/-
  What the specification's l01Min and AreaRead answer.
  Conditions: the cells of Sectors and Pending hold the texts and the pendings.
-/
import Derived.Test.YtnppgldafhpchaaDoorRows
import Derived.Test.YtnppgldafhpchaaDoorBytes
import Derived.Test.YtnppgldafhpchaaDoorSlASlBOwnS
import Derived.Test.YtnppgldafhpchaaDoorDskMath
import Derived.Test.YtnppgldafhpchaaDoorDskR
import Derived.Test.YtnppgldafhpchaaDoorDskA
import Derived.Test.YtnppgldafhpchaaDoorDskC
import Derived.Test.YtnppgldafhpchaaDoorDskT
import Derived.Test.YtnppgldafhpchaaDoorDskLaw
import Derived.Test.YtnppgldafhpchaaDoorLawD
import Derived.Test.YtnppgldafhpchaaDoorSen3PutMath
import Derived.Test.YtnppgldafhpchaaDoorSealMathPutNum
import Derived.Test.YtnppgldafhpchaaDoorAreaA
import Derived.Test.YtnppgldafhpchaaDoorTcMathAreaF
import Derived.Test.YtnppgldafhpchaaDoorAreaMath
import Derived.Test.YtnppgldafhpchaaDoorAreaSeen
import Derived.Handy
import Derived.WalkSpells
import Derived.OwnWalk
import Derived.Lib.AppendStr
import Derived.Deep.RegionHeld3
import Derived.Deep.Cut
import Derived.Deep.CutRange
namespace Go.Proofs.YtnppgldafhpchaaDoor
open Go.RowKit Go.Lib
set_option linter.unusedVariables false
set_option maxRecDepth 20000

theorem l01Min_any (a b : Int) (w : World) : Calls Tryd.prog 24 #[.int .i64 a, .int .i64 b] w fun e w' => e = .returned (.int .i64 (if a < b then a else b)) ∧ w' = w := by
  by_cases h : a < b
  · have d : decide (a < b) = true := decide_eq_true h
    rw [if_pos h]
    clear h
    go_enter Tryd.func24, Tryd.ntmps24
    go_wp2_with fail
    go_ret
    exact ⟨rfl, rfl⟩
  · have d : decide (a < b) = false := decide_eq_false h
    rw [if_neg h]
    clear h
    go_enter Tryd.func24, Tryd.ntmps24
    go_wp2_with fail
    go_ret
    exact ⟨rfl, rfl⟩
theorem wpList_append_runS {P : Program} {w : World} {ops : Array Oper} {rest : List Oper} {o : Oper} {a : Act} {Q : Exit → Act → World → Prop} (hgd : o.guard = none) (s x : Operand) (t u : TypeId)
    (ho : o.op = .call { callee := .builtin .append, args := #[s, x], argTypes := #[t, u] }) (v1 v2 v' : Value) (w' : World) (hs : a.eval s = v1) (hx : a.eval x = v2)
    (hr : (Builtin.append_ #[t, u] o.type #[v1, v2]).run P w = .ok v' w') (h : wpList P ops Q rest (a.put o.dst v') w') : wpList P ops Q (o :: rest) a w :=
  wpList_plain hgd fun _ hK => by
    unfold Oper.wp execOp
    simp only [ho, resolve, invoke, builtin, Sem.run_bind, Sem.run_pure, Result.andThen_ok, List.map_toArray, List.map_cons, List.map_nil, hs, hx, hr]
    exact hK _ _ h
theorem infoU8r : (Tryd.prog.info? 5).map (fun i => (i.zero, i.size, i.bytes)) = some (some (.int .u8 0), 1, 1) := by kernel_rfl
theorem strCells_append (a b : ByteArray) : strCells (a ++ b) = strCells a ++ strCells b := by unfold strCells; simp
/-- A row of bytes of the call's own, read as a text. -/
theorem conv_own {w : World} {base : Nat} {p : Option Addr} {c : Nat} {s : ByteArray} (h : w.ownsRow base 5 1 (.slice p s.size c) s.size (strCells s)) (hp : p ≠ none) :
    (convert 59 9 (.slice p s.size c)).run Tryd.prog w = .ok (.string s) w := by
  have e : strCells s = (s.data.toList.map fun b => (b.toNat : Int)).map (Value.int .u8) := by unfold strCells; simp
  have hi : ((fun n : Int => UInt8.ofNat n.toNat) ∘ fun b : UInt8 => (b.toNat : Int)) = id := by funext b; simp
  have hn : strOfNums (s.data.toList.map fun b => (b.toNat : Int)) = s := by
    apply ByteArray.ext; apply Array.ext'
    rw [strOfNums_data, List.map_map, hi, List.map_id]
  rcases h.2 with ⟨h0, _⟩ | ⟨g, cap, cur, hv, _⟩
  · simp only [Value.slice.injEq] at h0; exact absurd h0.1 hp
  · simp only [Value.slice.injEq] at hv
    obtain ⟨rfl, -, rfl⟩ := hv
    rw [e] at h
    have := own_conv h (by rw [List.length_map, ← size_eq])
    rw [hn] at this
    exact this
/-- A row of bytes takes one text more. -/
theorem app_text {w : World} {base : Nat} {v : Value} {s : ByteArray} (h : w.ownsRow base 5 1 v s.size (strCells s)) (t : ByteArray) (hs : s.size + t.size ≤ 100000) (hb : base ≤ w.heap.size) (ty : TypeId) :
    ∃ v' w', (Builtin.append_ #[59, 9] ty #[v, .string t]).run Tryd.prog w = .ok v' w' ∧ w'.ownsRow base 5 1 v' (s ++ t).size (strCells (s ++ t)) ∧ w.grownBy w' v.ownBlock ∧ (v ≠ .slice none 0 0 → v' ≠ .slice none 0 0) := by
  obtain ⟨i, hi, he⟩ := Option.map_eq_some_iff.1 infoU8r
  simp only [Prod.mk.injEq] at he
  obtain ⟨v', w', h1, h2, h3, h4⟩ := run_append_own_string (P := Tryd.prog) w base 59 9 ty 5 i Tryd.underlying59 Tryd.underlying9 hi he.1 he.2.1 he.2.2 v s.size (strCells s) h t (by unfold maxLen; omega) (by omega) hb
  refine ⟨v', w', h1, ?_, h3, fun hv hv' => hv (h4.1 hv').1⟩
  rw [strCells_append, ByteArray.size_append]; exact h2
theorem grown_own {B : Nat} {a w w' : World} {row : Option Nat} (h : Below B a w) (hg : w.grownBy w' row) (hr : ∀ k, row = some k → B ≤ k) (hB : B ≤ w.heap.size) : Below B a w' :=
  h.trans ⟨hg.os, hg.tape, hg.output, hg.size, fun k hk => hg.block k (by omega) (fun e => by have := hr k e.symm; omega)⟩
theorem side_in {n s k z : Nat} (hs : s ≤ 1) (hz : z ≤ 64 * sideN n) (hk : k < needN z) (hn : 1 ≤ n) : 1 + s * sideN n + k < n := by
  have h1 : k < sideN n := Nat.lt_of_lt_of_le hk (by unfold needN; omega)
  have h2 : s * sideN n ≤ sideN n := by
    rcases Nat.le_one_iff_eq_zero_or_eq_one.1 hs with rfl | rfl <;> omega
  have h3 : 2 * sideN n ≤ n - 1 := by unfold sideN; omega
  omega
theorem own_set5 {x : World} {base : Nat} {e : TypeId} {z : Nat} {v : Value} {n : Nat} {xs : List Value} (h : x.ownsRow base e z v n xs) {g : Nat} (hg : g < base) (u0 u1 u2 u3 u4 : Value) : (((((x.setCell ⟨g, 0, none⟩ u0).setCell ⟨g, 1, none⟩ u1).setCell ⟨g, 2, none⟩ u2).setCell ⟨g, 3, none⟩ u3).setCell ⟨g, 4, none⟩ u4).ownsRow base e z v n xs :=
  ownsRow_setCell_below (a := ⟨g, 4, none⟩) (ownsRow_setCell_below (a := ⟨g, 3, none⟩) (ownsRow_setCell_below (a := ⟨g, 2, none⟩) (ownsRow_setCell_below (a := ⟨g, 1, none⟩) (ownsRow_setCell_below (a := ⟨g, 0, none⟩) h hg u0) hg u1) hg u2) hg u3) hg u4
/-- What the reading loop holds. -/
structure RdL (W : World) (v : Value) (s : ByteArray) (x : World) : Prop where
  own : x.ownsRow W.heap.size 5 1 v s.size (strCells s)
  bel : Below W.heap.size W x
  nn : v ≠ .slice none 0 0
theorem RdL.below {W : World} {v : Value} {s : ByteArray} {x x' : World} (h : RdL W v s x) (hb : Below x.heap.size x x') : RdL W v s x' := ⟨ownS_below h.own hb, chainB h.bel hb, h.nn⟩
theorem RdL.form {W : World} {v : Value} {s : ByteArray} {x : World} (h : RdL W v s x) : ∃ p c, v = .slice p s.size c ∧ s.size ≤ c ∧ p ≠ none := by
  rcases h.own.2 with ⟨rfl, h0⟩ | ⟨g, cap, cur, rfl, h2, h3, h4, h5⟩
  · exact absurd rfl h.nn
  · exact ⟨_, cap, rfl, h4, by simp⟩
theorem RdL.app {W : World} {v : Value} {s : ByteArray} {x : World} (h : RdL W v s x) (t : ByteArray) (hs : s.size + t.size ≤ 100000) (ty : TypeId) : ∃ v' x', (Builtin.append_ #[59, 9] ty #[v, .string t]).run Tryd.prog x = .ok v' x' ∧ RdL W v' (s ++ t) x' := by
  obtain ⟨v', x', h1, h2, h3, h4⟩ := app_text h.own t hs h.bel.size ty
  exact ⟨v', x', h1, h2, grown_own h.bel h3 (fun k hk => (h.own.lt k hk).1) h.bel.size, h4 h.nn⟩
set_option maxHeartbeats 8000000 in
theorem specAreaRead_any (q1 : Option Addr) (c1 : Nat) (ss : List ByteArray) (q2 : Option Addr) (c2 : Nat) (ps : List Pnd) (w : World) (h1 : TxtAt w q1 ss) (h2 : PndAt w q2 ps) (n1 : ss.length ≤ 1048576) (n2 : ps.length ≤ 1048576) (m1 : ss.length ≤ c1) (m2 : ps.length ≤ c2) :
    Calls Tryd.prog 11 #[.agg #[.slice q1 ss.length c1, .slice q2 ps.length c2]] w fun e w' => ∃ v1 v2, e = .returned (.agg #[v1, v2, .string (arT ss ps), .int .i64 (arG ss ps : Nat), .int .i64 (arC ss ps)]) ∧ DskO w.heap.size (arS ss ps) (arP ss ps) v1 v2 w' ∧ Below w.heap.size w w' := by
  obtain ⟨W2, hW2⟩ : ∃ W2, W2 = (w.alloc (.cells #[.slice q1 ss.length c1, .slice q2 ps.length c2] 30)).alloc (.cells #[.slice none 0 0, .slice none 0 0, .string ⟨#[]⟩, .int .i64 0, .int .i64 0] 37) := ⟨_, rfl⟩
  have HW2 : Hid (W2 = (w.alloc (.cells #[.slice q1 ss.length c1, .slice q2 ps.length c2] 30)).alloc (.cells #[.slice none 0 0, .slice none 0 0, .string ⟨#[]⟩, .int .i64 0, .int .i64 0] 37)) := hW2
  have hs1 : (w.alloc (.cells #[.slice q1 ss.length c1, .slice q2 ps.length c2] 30)).heap.size = w.heap.size + 1 := by simp
  have S2 : W2.heap.size = w.heap.size + 2 := by rw [hW2]; simp
  have R0 : Bxs W2 w.heap.size 30 #[.slice q1 ss.length c1, .slice q2 ps.length c2] := by rw [hW2]; exact (Bxs.new _ _ _).alloc _
  have R1 : Bxs W2 (w.heap.size + 1) 37 #[.slice none 0 0, .slice none 0 0, .string ByteArray.empty, .int .i64 0, .int .i64 0] := by rw [hW2, ← hs1]; exact Bxs.new _ _ _
  have B2 : Hid (Below w.heap.size w W2) := by rw [hW2]; exact ((Below.refl _ _).alloc (Nat.le_refl _) _).alloc (by rw [hs1]; omega) _
  have T1 : Hid (TxtAt W2 q1 ss) := h1.below B2.out
  have T2 : Hid (PndAt W2 q2 ps) := h2.below B2.out
  have HX : Hid (∀ x, Below W2.heap.size W2 x → x.cell? ⟨w.heap.size, 0, none⟩ = some (.slice q1 ss.length c1) ∧ x.cell? ⟨w.heap.size, 1, none⟩ = some (.slice q2 ps.length c2)) := fun x hb => ⟨(R0.below hb).cell 0, (R0.below hb).cell 1⟩
  have HR : Hid (∀ x, Below W2.heap.size W2 x → x.cell? ⟨w.heap.size + 1, 0, none⟩ = some (.slice none 0 0) ∧ x.cell? ⟨w.heap.size + 1, 1, none⟩ = some (.slice none 0 0) ∧ x.cell? ⟨w.heap.size + 1, 2, none⟩ = some (.string ByteArray.empty) ∧ x.cell? ⟨w.heap.size + 1, 3, none⟩ = some (.int .i64 0) ∧ x.cell? ⟨w.heap.size + 1, 4, none⟩ = some (.int .i64 0) ∧ x.frozen? ⟨w.heap.size + 1, 0, none⟩ = false ∧ x.frozen? ⟨w.heap.size + 1, 1, none⟩ = false ∧ x.frozen? ⟨w.heap.size + 1, 2, none⟩ = false ∧ x.frozen? ⟨w.heap.size + 1, 3, none⟩ = false ∧ x.frozen? ⟨w.heap.size + 1, 4, none⟩ = false) := fun x hb => by
    have k := R1.below hb
    exact ⟨k.cell 0, k.cell 1, k.cell 2, k.cell 3, k.cell 4, k.fr 0, k.fr 1, k.fr 2, k.fr 3, k.fr 4⟩
  have HEr : Hid (∀ (y : World) (c : Int) (x0 x1 x2 x3 x4 : Value), Below W2.heap.size W2 y → arC ss ps = c → c ≠ 0 → ∃ v1 v2, Ending.returned (.agg #[.slice none 0 0, .slice none 0 0, .string ByteArray.empty, .int .i64 0, .int .i64 c]) = .returned (.agg #[v1, v2, .string (arT ss ps), .int .i64 (arG ss ps : Nat), .int .i64 (arC ss ps)]) ∧ DskO w.heap.size (arS ss ps) (arP ss ps) v1 v2 (((((y.setCell ⟨w.heap.size + 1, 0, none⟩ x0).setCell ⟨w.heap.size + 1, 1, none⟩ x1).setCell ⟨w.heap.size + 1, 2, none⟩ x2).setCell ⟨w.heap.size + 1, 3, none⟩ x3).setCell ⟨w.heap.size + 1, 4, none⟩ x4) ∧ Below w.heap.size w (((((y.setCell ⟨w.heap.size + 1, 0, none⟩ x0).setCell ⟨w.heap.size + 1, 1, none⟩ x1).setCell ⟨w.heap.size + 1, 2, none⟩ x2).setCell ⟨w.heap.size + 1, 3, none⟩ x3).setCell ⟨w.heap.size + 1, 4, none⟩ x4)) := by
    intro y c x0 x1 x2 x3 x4 hb hc hn
    have hn' : ¬ arC ss ps = 0 := by rw [hc]; exact hn
    rw [show arS ss ps = [] from if_neg hn', show arP ss ps = [] from if_neg hn', show arT ss ps = ByteArray.empty from if_neg hn', show arG ss ps = 0 from if_neg hn', hc]
    exact ⟨_, _, rfl, DskO.nil _ _, below_set5 (chainB B2.out hb) (by omega) _ _ _ _ _⟩
  have hD := specDiskRight_any q1 c1 ss q2 c2 ps W2 T1.out T2.out n1 n2 m1 m2
  obtain ⟨t0, t1⟩ := HX.out W2 (Below.refl _ _)
  have HSz : Hid (W2.heap.size = w.heap.size + 2) := S2
  rw [HW2.out] at t0 t1
  clear hW2 R0 R1 h1 h2 hs1 S2
  cases hd : dskB ss ps with
  | false =>
    have hC : Hid (arC ss ps = 1) := if_neg (by rw [hd]; exact Bool.false_ne_true)
    have hC0 : Hid ((1 : Int) ≠ 0) := by show _ ≠ _; omega
    rw [hd] at hD
    clear hd T1 T2
    go_enter Tryd.func11, Tryd.ntmps11
    go_wp2_with fail
    rw [← HW2.out]
    refine hD.mono ?_
    rintro e y1 ⟨rfl, b1⟩
    clear t0 t1
    go_wp2_with fail
    refine (l06Ill_any 1 y1).mono ?_
    rintro e yi ⟨rfl, bi⟩
    have bi := chainB b1 bi
    have HE : Hid _ := fun x0 x1 x2 x3 x4 => HEr.out yi 1 x0 x1 x2 x3 x4 bi hC.out hC0.out
    obtain ⟨r0, r1, r2, r3, r4, f0, f1, f2, f3, f4⟩ := HR.out yi bi
    clear bi HEr HR HX b1
    go_wp2_with fail
    refine bodyPost_ret (v := .agg #[.slice none 0 0, .slice none 0 0, .string ByteArray.empty, .int .i64 0, .int .i64 1]) (by simp [results, Tryd.results11, go_sem, r0, r1, r2, r3, r4]) rfl ?_
    exact HE.out _ _ _ _ _
  | true =>
  rw [hd] at hD
  obtain ⟨⟨p1, p2⟩, p3, -, -⟩ := dskB_parts hd
  have hSeen := fun x hb => l06Seen_any q1 c1 ss q2 c2 ps x (T1.out.below hb) (T2.out.below hb) hd m1 m2
  have HSeen : Hid (∀ x, Below W2.heap.size W2 x → Calls Tryd.prog 22 #[.agg #[.slice q1 ss.length c1, .slice q2 ps.length c2]] x fun e w' => e = .returned (.tuple #[.int .i64 (seG (readB ss ps 0) (roomN ss) : Nat), .int .i64 (seS (readB ss ps 0) (roomN ss) : Nat), .int .i64 (seZ (readB ss ps 0) (roomN ss) : Nat), .int .i64 (seC (readB ss ps 0) (roomN ss))]) ∧ Below x.heap.size x w') := hSeen
  have hAr : arC ss ps = if seC (readB ss ps 0) (roomN ss) = 0 then (if sideOk (arRd ss ps (seS (readB ss ps 0) (roomN ss))) (seZ (readB ss ps 0) (roomN ss)) (needN (seZ (readB ss ps 0) (roomN ss))) = true then 0 else 5) else seC (readB ss ps 0) (roomN ss) := if_pos hd
  clear hSeen
  by_cases hsc : ¬ seC (readB ss ps 0) (roomN ss) = 0
  · rw [if_neg hsc] at hAr
    have hb1 : (seC (readB ss ps 0) (roomN ss) == 0) = false := beq_eq_false_iff_ne.2 hsc
    have hC0 : Hid (seC (readB ss ps 0) (roomN ss) ≠ 0) := hsc
    have hC : Hid (arC ss ps = seC (readB ss ps 0) (roomN ss)) := hAr
    clear hAr hsc
    generalize seC (readB ss ps 0) (roomN ss) = SC at *
    clear T1 T2 hd
    go_enter Tryd.func11, Tryd.ntmps11
    go_wp2_with fail
    rw [← HW2.out]
    refine hD.mono ?_
    rintro e y1 ⟨rfl, b1⟩
    clear t0 t1
    obtain ⟨t0, t1⟩ := HX.out y1 b1
    go_wp2_with fail
    refine (HSeen.out y1 b1).mono ?_
    rintro e y2 ⟨rfl, b2⟩
    have b2 := chainB b1 b2
    clear t0 t1
    go_wp2_with fail
    refine (l06Ill_any SC y2).mono ?_
    rintro e yi ⟨rfl, bi⟩
    have bi := chainB b2 bi
    have HE : Hid _ := fun x0 x1 x2 x3 x4 => HEr.out yi SC x0 x1 x2 x3 x4 bi hC.out hC0.out
    obtain ⟨r0, r1, r2, r3, r4, f0, f1, f2, f3, f4⟩ := HR.out yi bi
    clear bi HEr HR HX b1 b2
    go_wp2_with fail
    refine bodyPost_ret (v := .agg #[.slice none 0 0, .slice none 0 0, .string ByteArray.empty, .int .i64 0, .int .i64 SC]) (by simp [results, Tryd.results11, go_sem, r0, r1, r2, r3, r4]) rfl ?_
    exact HE.out _ _ _ _ _
  have hsc : seC (readB ss ps 0) (roomN ss) = 0 := Decidable.byContradiction hsc
  rw [if_pos hsc] at hAr
  obtain ⟨-, hG, hS, hZ⟩ := seC_ok hsc
  rw [hsc] at HSeen
  have hrd : ∀ i, arRd ss ps (seS (readB ss ps 0) (roomN ss)) i = readB ss ps ((1 + seS (readB ss ps 0) (roomN ss) * sideN ss.length + i : Nat) : Int) := fun i => rfl
  have HarT : Hid (arC ss ps = 0 → arT ss ps = sideB (arRd ss ps (seS (readB ss ps 0) (roomN ss))) (seZ (readB ss ps 0) (roomN ss)) (needN (seZ (readB ss ps 0) (roomN ss))) ∧ arG ss ps = seG (readB ss ps 0) (roomN ss) ∧ arS ss ps = ss ∧ arP ss ps = ps) := fun h => ⟨if_pos h, if_pos h, if_pos h, if_pos h⟩
  generalize seC (readB ss ps 0) (roomN ss) = SC at *
  generalize seG (readB ss ps 0) (roomN ss) = G at *
  generalize seS (readB ss ps 0) (roomN ss) = S at *
  generalize seZ (readB ss ps 0) (roomN ss) = Z at *
  have hZ : Z ≤ 64 * sideN ss.length := hZ
  have hHl : sideN ss.length ≤ 32 := by unfold sideN; omega
  have hRs : ∀ i, (arRd ss ps S i).size ≤ 64 := fun i => by rw [hrd]; exact readB_small hd _
  obtain ⟨rd, hrdE⟩ : ∃ rd, rd = arRd ss ps S := ⟨_, rfl⟩
  rw [← hrdE] at hAr HarT hRs hrd
  have HRs : Hid (∀ i, (rd i).size ≤ 64) := hRs
  have QF : Hid (∀ x, Below W2.heap.size W2 x → Calls Tryd.prog 23 #[.agg #[.slice q1 ss.length c1, .slice q2 ps.length c2], .int .i64 (S : Int)] x fun e x1 => e = .returned (.int .i64 ((1 + S * sideN ss.length : Nat) : Int)) ∧ Below W2.heap.size W2 x1 ∧ Below x.heap.size x x1) := fun x hb => (l06First_any q1 ss.length c1 q2 ps.length c2 S x p1 n1 hS).mono (by rintro e x1 ⟨rfl, b⟩; exact ⟨rfl, chainB hb b, b⟩)
  have QR : Hid (∀ x k, Below W2.heap.size W2 x → k < needN Z → Calls Tryd.prog 13 #[.agg #[.slice q1 ss.length c1, .slice q2 ps.length c2], .int .i64 (((1 + S * sideN ss.length : Nat) : Int) + (k : Int))] x fun e x1 => ∃ p1 d1 p2 d2, e = .returned (.agg #[.slice p1 ss.length d1, .slice p2 ps.length d2, .string (rd k), .int .i64 0]) ∧ Below W2.heap.size W2 x1 ∧ Below x.heap.size x x1) := fun x k hb hk => by
    have hin := side_in hS hZ hk p1
    have e1 : ((1 + S * sideN ss.length : Nat) : Int) + (k : Int) = ((1 + S * sideN ss.length + k : Nat) : Int) := by omega
    rw [e1]
    have hc : rdC ss ps ((1 + S * sideN ss.length + k : Nat) : Int) = 0 := by unfold rdC; rw [if_pos hd, if_pos (inB_of ss _ hin)]
    have h := specDiskRead_any q1 c1 ss q2 c2 ps ((1 + S * sideN ss.length + k : Nat) : Int) x (T1.out.below hb) (T2.out.below hb) n1 n2 m1 m2
    rw [show rdT ss ps ((1 + S * sideN ss.length + k : Nat) : Int) = rd k from by rw [hrd]; exact if_pos hc, hc, show rdS ss ps ((1 + S * sideN ss.length + k : Nat) : Int) = ss from if_pos hc, show rdP ss ps ((1 + S * sideN ss.length + k : Nat) : Int) = ps from if_pos hc] at h
    refine h.mono ?_
    rintro e x1 ⟨v1, v2, rfl, ho, hb1⟩
    obtain ⟨p1, d1, rfl, -, -⟩ := ownS_form ho.own1
    obtain ⟨p2, d2, rfl, -, -⟩ := ownP_form ho.own2
    exact ⟨p1, d1, p2, d2, rfl, chainB hb hb1, hb1⟩
  have QC : Hid (∀ x, Below W2.heap.size W2 x → Calls Tryd.prog 25 #[.agg #[.slice q1 ss.length c1, .slice q2 ps.length c2]] x fun e x1 => ∃ p1 d1 p2 d2, e = .returned (.agg #[.slice p1 ss.length d1, .slice p2 ps.length d2]) ∧ DskO W2.heap.size ss ps (.slice p1 ss.length d1) (.slice p2 ps.length d2) x1 ∧ Below W2.heap.size W2 x1 ∧ Below x.heap.size x x1) := fun x hb => (l05Copy_any q1 c1 ss q2 c2 ps x (T1.out.below hb) (T2.out.below hb) n1 n2 m1 m2).mono (by
    rintro e x1 ⟨v1, v2, rfl, ho, hb1⟩
    obtain ⟨p1, d1, rfl, -, -⟩ := ownS_form ho.own1
    obtain ⟨p2, d2, rfl, -, -⟩ := ownP_form ho.own2
    exact ⟨p1, d1, p2, d2, rfl, ho.mono hb.size, chainB hb hb1, hb1⟩)
  have HAr : Hid (arC ss ps = if sideOk rd Z (needN Z) = true then 0 else 5) := hAr
  have hST : 1 + S * sideN ss.length ≤ 33 := by
    have : S * sideN ss.length ≤ sideN ss.length := by rcases Nat.le_one_iff_eq_zero_or_eq_one.1 hS with e | e <;> rw [e] <;> omega
    omega
  generalize hF : 1 + S * sideN ss.length = F at *
  have hZl : Z ≤ 2048 := by omega
  clear hAr hrd hrdE hRs T1 T2 hd hsc hF hZ hHl
  go_enter Tryd.func11, Tryd.ntmps11
  go_wp2_with fail
  rw [← HW2.out]
  refine hD.mono ?_
  rintro e y1 ⟨rfl, b1⟩
  clear t0 t1
  obtain ⟨t0, t1⟩ := HX.out y1 b1
  go_wp2_with fail
  refine (HSeen.out y1 b1).mono ?_
  rintro e y2 ⟨rfl, b2⟩
  have b2 := chainB b1 b2
  have F0 : Hid (RdL W2 (.slice (some ⟨y2.heap.size, 0, none⟩) 0 0) (sideB rd Z 0) (y2.alloc (.cells #[] 5))) := ⟨⟨by simp [sideB, strCells], .inr ⟨y2.heap.size, 0, #[], rfl, b2.size, (MapKept.heap_alloc y2 _).1, by simp [sideB], by omega, by simp, by simp [sideB, strCells]⟩⟩, alB b2 _, by simp⟩
  clear t0 t1 b1 b2 hD HSeen
  go_wp2_with fail
  go_loopw [7, 8] (fun v i wr => ∃ (k : Nat) (B : ByteArray), k ≤ needN Z ∧ i = .int .i64 k ∧ Hid (B = sideB rd Z k) ∧ Hid (sideOk rd Z k = true) ∧ Hid (RdL W2 v B wr)) (fun _ i _ => needN Z - (intOf i).toNat)
  case atStart => exact ⟨0, sideB rd Z 0, by omega, rfl, rfl, rfl, F0⟩
  case round =>
    clear F0
    obtain ⟨k, B, hk, rfl, HBk, HO, HL⟩ := hrel
    obtain ⟨p, c, rfl, hpc, hpn⟩ := HL.out.form
    have hsz := sideB_size rd Z k HO.out
    rw [← HBk.out] at hsz
    have HPn : Hid (p ≠ none) := hpn
    have HRk : Hid ((rd k).size ≤ 64) := HRs.out k
    have HSt : Hid (sideB rd Z (k + 1) = B ++ (rd k).extract 0 (wantN Z k)) := by
      show sideB rd Z (k + 1) = _
      rw [HBk.out]; rfl
    have HSo : Hid (sideOk rd Z (k + 1) = (sideOk rd Z k && decide (wantN Z k ≤ (rd k).size))) := rfl
    by_cases hlt : k < needN Z
    · have hlt2 : 64 * k < Z := by unfold needN at hlt; omega
      have hsz2 : B.size = 64 * k := by rw [hsz]; omega
      obtain ⟨Wn, hWn⟩ : ∃ Wn, Wn = wantN Z k := ⟨_, rfl⟩
      rw [← hWn] at HSt HSo
      have hWv : Wn = min 64 (Z - 64 * k) := hWn
      have hMin := fun x => l01Min_any 64 ((Z : Int) - (B.size : Int)) x
      have hIf : (if (64 : Int) < (Z : Int) - (B.size : Int) then (64 : Int) else (Z : Int) - (B.size : Int)) = (Wn : Int) := by
        rw [hsz2, hWv]; split <;> omega
      rw [hIf] at hMin
      have HMin : Hid (∀ x, Calls Tryd.prog 24 #[.int .i64 64, .int .i64 ((Z : Int) - (B.size : Int))] x fun e w' => e = .returned (.int .i64 (Wn : Int)) ∧ w' = x) := hMin
      have d1 : decide ((B.size : Int) < (Z : Int)) = true := decide_eq_true (by omega)
      have d1' : decide (B.size < Z) = true := decide_eq_true (by omega)
      have hw1 : IntKind.i64.wrap ((F : Int) + (k : Int)) = (F : Int) + (k : Int) := by rw [IntKind.wrap_i64]; unfold needN at hlt; omega
      have hw2 : IntKind.i64.wrap ((Z : Int) - (B.size : Int)) = (Z : Int) - (B.size : Int) := by rw [IntKind.wrap_i64]; omega
      have HBs : Hid (B.size ≤ 2048 ∧ B.size = 64 * k) := ⟨by omega, hsz2⟩
      have HWn : Hid (Wn ≤ 64 ∧ Wn = wantN Z k) := ⟨by omega, hWn⟩
      have HLt : Hid (k < needN Z) := hlt
      have HNL : Hid (needN Z ≤ 32) := by show needN Z ≤ 32; unfold needN; omega
      obtain ⟨t0, t1⟩ := HX.out _ HL.out.bel
      obtain ⟨rk, hrk⟩ : ∃ rk, rk = rd k := ⟨_, rfl⟩
      have HRD : Hid (∀ x, RdL W2 (.slice p B.size c) B x → Calls Tryd.prog 13 #[.agg #[.slice q1 ss.length c1, .slice q2 ps.length c2], .int .i64 ((F : Int) + (k : Int))] x fun e x1 => ∃ p1 d1 p2 d2, e = .returned (.agg #[.slice p1 ss.length d1, .slice p2 ps.length d2, .string rk, .int .i64 0]) ∧ RdL W2 (.slice p B.size c) B x1) := fun x h => (QR.out x k h.bel HLt.out).mono (by rintro e x1 ⟨p1, d1, p2, d2, rfl, -, b⟩; exact ⟨p1, d1, p2, d2, by rw [hrk], h.below b⟩)
      have HFD : Hid (∀ x, RdL W2 (.slice p B.size c) B x → Calls Tryd.prog 23 #[.agg #[.slice q1 ss.length c1, .slice q2 ps.length c2], .int .i64 (S : Int)] x fun e x1 => e = .returned (.int .i64 (F : Int)) ∧ RdL W2 (.slice p B.size c) B x1) := fun x h => (QF.out x h.bel).mono (by rintro e x1 ⟨rfl, -, b⟩; exact ⟨rfl, h.below b⟩)
      rw [← hrk] at HRk HSt HSo
      have HXR : Hid (∀ x, RdL W2 (.slice p B.size c) B x → x.cell? ⟨w.heap.size, 0, none⟩ = some (.slice q1 ss.length c1) ∧ x.cell? ⟨w.heap.size, 1, none⟩ = some (.slice q2 ps.length c2)) := fun x h => HX.out x h.bel
      have HDr : Hid (RdL W2 (.slice p B.size c) B wr.drew) := HL.out.below (Below.refl _ _).drew
      clear hMin hIf hWn hWv hsz hsz2 hlt hlt2 hrk hZl hST hG
      go_upto_region 10 with fail
      go_cut [9] from 33 to 40 (fun s9 wx => s9 = .string rk ∧ Hid (RdL W2 (.slice p B.size c) B wx))
      case first =>
        go_region_held3 (fun w' => w'.cell? ⟨w.heap.size, 0, none⟩ = some (.slice q1 ss.length c1) ∧ w'.cell? ⟨w.heap.size, 1, none⟩ = some (.slice q2 ps.length c2)) ((first | exact HXR.out _ HDr.out | exact HXR.out _ y2 | exact HXR.out _ y1)) (first
          | (go_at_call 23; with_reducible refine (HFD.out _ ?hB).mono ?_; (case hB => first | exact HL.out | exact HDr.out); rintro e x1 ⟨rfl, y1⟩)
          | (go_at_call 13; with_reducible refine (HRD.out _ ?hB).mono ?_; (case hB => exact y1); rintro e x2 ⟨p1, d1, p2, d2, rfl, y2⟩; have fd := field_dataS p1 ss.length d1 p2 ps.length d2 rk 0))
        all_goals (go_wp2_with fail; go_meet; exact ⟨rfl, y2⟩)
      case rest =>
      obtain ⟨rfl, HL2⟩ := hcut
      clear HL HRD HFD HXR HDr t0 t1
      by_cases hq : rk.size < Wn
      · have d2 : decide ((rk.size : Int) < (Wn : Int)) = true := decide_eq_true (by omega)
        have d2' : decide (rk.size < Wn) = true := decide_eq_true hq
        have hno : sideOk rd Z (needN Z) = false := by
          cases h : sideOk rd Z (needN Z) with
          | false => rfl
          | true =>
            have h1 := (sideOk_iff rd Z (needN Z)).1 h
            have h2 : sideOk rd Z (k + 1) = true := (sideOk_iff rd Z (k + 1)).2 fun i hi => h1 i (by have := HLt.out; omega)
            rw [HSo.out, Bool.and_eq_true, decide_eq_true_iff] at h2
            omega
        have hC : Hid (arC ss ps = 5) := by
          show arC ss ps = 5
          rw [HAr.out, hno]; rfl
        have hC0 : Hid ((5 : Int) ≠ 0) := by show _ ≠ _; omega
        have HB2 : Hid (Below W2.heap.size W2 wc) := HL2.out.bel
        clear hno HSo HSt hq HL2
        go_wp2_with fail
        refine (HMin.out _).mono ?_
        rintro e wd ⟨rfl, rfl⟩
        go_wp2_with fail
        refine (l06Ill_any 5 _).mono ?_
        rintro e yi ⟨rfl, bi⟩
        have bi := chainB HB2.out bi
        have HE : Hid _ := fun x0 x1 x2 x3 x4 => HEr.out yi 5 x0 x1 x2 x3 x4 bi hC.out hC0.out
        obtain ⟨r0, r1, r2, r3, r4, f0, f1, f2, f3, f4⟩ := HR.out yi bi
        clear bi HEr HR HX HB2
        go_wp2_with fail
        refine bodyPost_ret (v := .agg #[.slice none 0 0, .slice none 0 0, .string ByteArray.empty, .int .i64 0, .int .i64 5]) (by simp [results, Tryd.results11, go_sem, r0, r1, r2, r3, r4]) rfl ?_
        exact HE.out _ _ _ _ _
      · have d2 : decide ((rk.size : Int) < (Wn : Int)) = false := decide_eq_false (by omega)
        have d2' : decide (rk.size < Wn) = false := decide_eq_false hq
        have i0 : (0 : Int) ≤ (Wn : Int) := by omega
        have i1 : (Wn : Int) ≤ (rk.size : Int) := by omega
        obtain ⟨v', x', hrun, HL3⟩ := HL2.out.app (rk.extract 0 Wn) (by have := HBs.out.1; have := HRk.out; simp; omega) 59
        rw [← HSt.out] at HL3
        have HO2 : Hid (sideOk rd Z (k + 1) = true) := by
          show sideOk rd Z (k + 1) = true
          rw [HSo.out, HO.out, Bool.true_and, decide_eq_true_iff]; omega
        have HL4 : Hid (RdL W2 v' (sideB rd Z (k + 1)) x') := HL3
        have hk3 : k < 32 := Nat.lt_of_lt_of_le HLt.out HNL.out
        clear HSo HSt hq HL2 HL3
        go_wp2_with fail
        refine (HMin.out _).mono ?_
        rintro e wd ⟨rfl, rfl⟩
        go_wp2_with (at_builtin; refine wpList_append_runS rfl _ _ _ _ rfl _ _ _ _ rfl rfl hrun ?_)
        go_roundw
        case rel => exact ⟨k + 1, _, HLt.out, by go_num, rfl, HO2, HL4⟩
        case measure => have hk4 := HLt.out; simp [intOf]; omega
    · obtain rfl : k = needN Z := by omega
      have hsz2 : B.size = Z := by rw [hsz]; unfold needN; omega
      have hC : arC ss ps = 0 := by rw [HAr.out, HO.out]; rfl
      obtain ⟨e1, e2, e3, e4⟩ := HarT.out hC
      have HV : Hid (arC ss ps = 0 ∧ arT ss ps = sideB rd Z (needN Z) ∧ arG ss ps = G ∧ arS ss ps = ss ∧ arP ss ps = ps) := ⟨hC, e1, e2, e3, e4⟩
      rw [← HBk.out] at HV
      have d1 : decide ((B.size : Int) < (Z : Int)) = false := decide_eq_false (by omega)
      have d1' : decide (B.size < Z) = false := decide_eq_false (by omega)
      have hS3 : ∀ x, RdL W2 (.slice p B.size c) B x → x.cell? ⟨w.heap.size, 0, none⟩ = some (.slice q1 ss.length c1) ∧ x.cell? ⟨w.heap.size, 1, none⟩ = some (.slice q2 ps.length c2) ∧ (convert 59 9 (.slice p B.size c)).run Tryd.prog x = .ok (.string B) x := fun x h => ⟨(HX.out x h.bel).1, (HX.out x h.bel).2, conv_own h.own HPn.out⟩
      have HS3 : Hid (∀ x, RdL W2 (.slice p B.size c) B x → x.cell? ⟨w.heap.size, 0, none⟩ = some (.slice q1 ss.length c1) ∧ x.cell? ⟨w.heap.size, 1, none⟩ = some (.slice q2 ps.length c2) ∧ (convert 59 9 (.slice p B.size c)).run Tryd.prog x = .ok (.string B) x) := hS3
      have HS5 : Hid (∀ x (u0 u1 u2 u3 u4 : Value), RdL W2 (.slice p B.size c) B x → (((((x.setCell ⟨w.heap.size + 1, 0, none⟩ u0).setCell ⟨w.heap.size + 1, 1, none⟩ u1).setCell ⟨w.heap.size + 1, 2, none⟩ u2).setCell ⟨w.heap.size + 1, 3, none⟩ u3).setCell ⟨w.heap.size + 1, 4, none⟩ u4).cell? ⟨w.heap.size, 0, none⟩ = some (.slice q1 ss.length c1) ∧ (((((x.setCell ⟨w.heap.size + 1, 0, none⟩ u0).setCell ⟨w.heap.size + 1, 1, none⟩ u1).setCell ⟨w.heap.size + 1, 2, none⟩ u2).setCell ⟨w.heap.size + 1, 3, none⟩ u3).setCell ⟨w.heap.size + 1, 4, none⟩ u4).cell? ⟨w.heap.size, 1, none⟩ = some (.slice q2 ps.length c2) ∧ (convert 59 9 (.slice p B.size c)).run Tryd.prog (((((x.setCell ⟨w.heap.size + 1, 0, none⟩ u0).setCell ⟨w.heap.size + 1, 1, none⟩ u1).setCell ⟨w.heap.size + 1, 2, none⟩ u2).setCell ⟨w.heap.size + 1, 3, none⟩ u3).setCell ⟨w.heap.size + 1, 4, none⟩ u4) = .ok (.string B) (((((x.setCell ⟨w.heap.size + 1, 0, none⟩ u0).setCell ⟨w.heap.size + 1, 1, none⟩ u1).setCell ⟨w.heap.size + 1, 2, none⟩ u2).setCell ⟨w.heap.size + 1, 3, none⟩ u3).setCell ⟨w.heap.size + 1, 4, none⟩ u4)) := fun x u0 u1 u2 u3 u4 h => by
        have hz := HSz.out
        have ho := own_set5 h.own (show w.heap.size + 1 < W2.heap.size by omega) u0 u1 u2 u3 u4
        have hc := HX.out x h.bel
        refine ⟨?_, ?_, conv_own ho HPn.out⟩
        · simpa [World.cell?, World.setCell, Array.getElem?_modify] using hc.1
        · simpa [World.cell?, World.setCell, Array.getElem?_modify] using hc.2
      have HCp : Hid (∀ x, RdL W2 (.slice p B.size c) B x → Calls Tryd.prog 25 #[.agg #[.slice q1 ss.length c1, .slice q2 ps.length c2]] x fun e x1 => ∃ p1 d1 p2 d2, e = .returned (.agg #[.slice p1 ss.length d1, .slice p2 ps.length d2]) ∧ DskO W2.heap.size ss ps (.slice p1 ss.length d1) (.slice p2 ps.length d2) x1 ∧ RdL W2 (.slice p B.size c) B x1) := fun x h => (QC.out x h.bel).mono (by rintro e x1 ⟨p1, d1, p2, d2, rfl, ho, -, b⟩; exact ⟨p1, d1, p2, d2, rfl, ho, h.below b⟩)
      have HDr : Hid (RdL W2 (.slice p B.size c) B wr.drew) := HL.out.below (Below.refl _ _).drew
      obtain ⟨t0, t1, t2⟩ := hS3 wr HL.out
      clear hS3 hsz hsz2 e1 e2 e3 e4 hC QF QR QC HAr HarT HRk HSt HSo
      go_wp2_with fail
      go_region_held3 (fun w' => w'.cell? ⟨w.heap.size, 0, none⟩ = some (.slice q1 ss.length c1) ∧ w'.cell? ⟨w.heap.size, 1, none⟩ = some (.slice q2 ps.length c2) ∧ (convert 59 9 (.slice p B.size c)).run Tryd.prog w' = .ok (.string B) w') ((first | with_reducible exact HS5.out _ _ _ _ _ _ y1 | exact HS3.out _ HDr.out | exact HS3.out _ y1)) (first
        | (go_at_call 25; with_reducible refine (HCp.out _ ?hB).mono ?_; (case hB => first | exact HL.out | exact HDr.out); rintro e x1 ⟨p1, d1, p2, d2, rfl, ho, y1⟩; obtain ⟨r0, r1, r2, r3, r4, f0, f1, f2, f3, f4⟩ := HR.out _ y1.bel))
      all_goals
        have hz := HSz.out
        have HVV : Hid (∀ u0 u1 u2 u3 u4 : Value, DskO w.heap.size ss ps (.slice p1 ss.length d1) (.slice p2 ps.length d2) (((((x1.setCell ⟨w.heap.size + 1, 0, none⟩ u0).setCell ⟨w.heap.size + 1, 1, none⟩ u1).setCell ⟨w.heap.size + 1, 2, none⟩ u2).setCell ⟨w.heap.size + 1, 3, none⟩ u3).setCell ⟨w.heap.size + 1, 4, none⟩ u4) ∧ Below w.heap.size w (((((x1.setCell ⟨w.heap.size + 1, 0, none⟩ u0).setCell ⟨w.heap.size + 1, 1, none⟩ u1).setCell ⟨w.heap.size + 1, 2, none⟩ u2).setCell ⟨w.heap.size + 1, 3, none⟩ u3).setCell ⟨w.heap.size + 1, 4, none⟩ u4)) := fun u0 u1 u2 u3 u4 => ⟨(ho.set5 (by omega) u0 u1 u2 u3 u4).mono (by omega), below_set5 (chainB B2.out y1.bel) (by omega) _ _ _ _ _⟩
        go_wp2_with fail
        refine bodyPost_ret (v := .agg #[.slice p1 ss.length d1, .slice p2 ps.length d2, .string B, .int .i64 (G : Int), .int .i64 0]) (by simp [results, Tryd.results11, go_sem, r0, r1, r2, r3, r4]) rfl ?_
        rw [HV.out.1, HV.out.2.1, HV.out.2.2.1, HV.out.2.2.2.1, HV.out.2.2.2.2]
        exact ⟨_, _, rfl, HVV.out _ _ _ _ _⟩
end Go.Proofs.YtnppgldafhpchaaDoor
