/-
  Parts of one proof, laid as one text: As2, CodeOf, GetNumI; what each says stands at its head.
-/
import Derived.Test.YtkhffoailfnepajDoorGetValAsD
import Derived.Test.YtkhffoailfnepajDoorBytes
import Derived.Test.YtkhffoailfnepajDoorRows
import Derived.Test.YtkhffoailfnepajDoorScanMath
import Derived.Test.YtkhffoailfnepajDoorReadBits
import Derived.Handy
/-
  errors.As at the target *wrongBytes, and what codeOf answers. After the guide's worked example of errors.As.
  Conditions: the variable errors.errorType holds the handle of the type error; the target's cell is there and may be written.
-/
namespace Go.Proofs.YtkhffoailfnepajDoor
open Go.RowKit Go.Extern.Stop Go.Stop Go.Extern

def etv : Value := .iface 114 (.agg #[.pointer (some ⟨5, 57, none⟩)])

set_option maxHeartbeats 4000000 in
theorem as_hit (c : Int) (tb : Nat) (old : Value) (w : World) (hg : w.cell? ⟨4, 0, none⟩ = some (.iface 114 (.agg #[.pointer (some ⟨5, 57, none⟩)]))) (ht0 : w.cell? ⟨tb, 0, none⟩ = some old) (hf0 : w.frozen? ⟨tb, 0, none⟩ = false) :
    Calls Tryd.prog 65 #[.iface 99 (.agg #[.int .i64 c]), .iface 107 (.pointer (some ⟨tb, 0, none⟩))] w fun ev w' => ev = .returned (.bool true) ∧ w' = ((((w.alloc (.cells #[.pointer (some ⟨tb, 0, none⟩)] 107)).alloc (.cells #[.pointer (some ⟨5, 107, none⟩), .pointer (some ⟨w.heap.size, 0, none⟩), .int .u64 150] 127)).alloc (.cells #[.pointer (some ⟨5, 107, none⟩), .pointer (some ⟨w.heap.size, 0, none⟩), .int .u64 150] 127)).alloc (.cells #[.int .i64 c] 99)).setCell ⟨tb, 0, none⟩ (.int .i64 c) := by
  have h6 := @run_callFunc_extern Tryd.prog 69 _ (fun args => ReflectliteValue.unpack (args.getD 0 (.tuple #[]))) Tryd.func69 (by kernel_rfl) (by kernel_rfl) (by kernel_rfl) (by kernel_rfl)
  have h7 := @run_callFunc_extern Tryd.prog 70 _ (ReflectliteValue.methodAny (ReflectliteValue.valueError "reflectlite.Value.Type" 0) (fun t _ _ _ => ReflectliteType.toType t)) Tryd.func70 (by kernel_rfl) (by kernel_rfl) (by kernel_rfl) (by kernel_rfl)
  have h8 := @run_callFunc_extern Tryd.prog 71 _ (ReflectliteValue.method (ReflectliteValue.valueError "reflectlite.Value.IsNil" 0) ReflectliteValue.isNil) Tryd.func71 (by kernel_rfl) (by kernel_rfl) (by kernel_rfl) (by kernel_rfl)
  have h27 := @run_callFunc_extern Tryd.prog 93 _ (ReflectliteType.abiMethod fun t => do pure (.int .u8 (← Rtype.kind t))) Tryd.func93 (by kernel_rfl) (by kernel_rfl) (by kernel_rfl) (by kernel_rfl)
  have h37 := @run_callFunc_extern Tryd.prog 102 _ (ReflectliteType.method ReflectliteType.elem) Tryd.func102 (by kernel_rfl) (by kernel_rfl) (by kernel_rfl) (by kernel_rfl)
  have h38 := @run_callFunc_extern Tryd.prog 103 _ (ReflectliteType.relation "Implements" ReflectliteType.implements_) Tryd.func103 (by kernel_rfl) (by kernel_rfl) (by kernel_rfl) (by kernel_rfl)
  have h10 := @run_callFunc_extern Tryd.prog 63 _ ReflectliteType.typeOf Tryd.func63 (by kernel_rfl) (by kernel_rfl) (by kernel_rfl) (by kernel_rfl)
  have h35 := @run_callFunc_extern Tryd.prog 100 _ (ReflectliteType.relation "AssignableTo" ReflectliteType.assignableTo) Tryd.func100 (by kernel_rfl) (by kernel_rfl) (by kernel_rfl) (by kernel_rfl)
  have h11 := @run_callFunc_extern Tryd.prog 75 _ (ReflectliteValue.method (ReflectliteValue.valueError "reflectlite.Value.Elem" 0) ReflectliteValue.elem) Tryd.func75 (by kernel_rfl) (by kernel_rfl) (by kernel_rfl) (by kernel_rfl)
  have h12 := @run_callFunc_extern Tryd.prog 76 _ ReflectliteValue.set Tryd.func76 (by kernel_rfl) (by kernel_rfl) (by kernel_rfl) (by kernel_rfl)
  have tO := typeOfE
  have aE := assignableE
  have vE := valueOfE
  have f6 := valueOfP
  have f7 := typeP
  have kP := kindP
  have kE := kindE
  have eP := elemTP
  have iE := implementsE
  have n8 := isNilP ⟨w.heap.size, 0, none⟩ ⟨tb, 0, none⟩ ((w.alloc (.cells #[.pointer (some ⟨tb, 0, none⟩)] 107)).alloc (.cells #[.pointer (some ⟨5, 107, none⟩), .pointer (some ⟨w.heap.size, 0, none⟩), .int .u64 150] 127)) (by simp)
  have hlt : 4 < w.heap.size := World.block_lt_of_cell? w _ hg
  have hg2 : ((w.alloc (.cells #[.pointer (some ⟨tb, 0, none⟩)] 107)).alloc (.cells #[.pointer (some ⟨5, 107, none⟩), .pointer (some ⟨w.heap.size, 0, none⟩), .int .u64 150] 127)).cell? ⟨4, 0, none⟩ = some (.iface 114 (.agg #[.pointer (some ⟨5, 57, none⟩)])) := by
    rw [World.cell?_alloc_lt _ _ ⟨4, 0, none⟩ (by simp <;> omega), World.cell?_alloc_lt _ _ ⟨4, 0, none⟩ hlt]; exact hg
  have htl : tb < w.heap.size := by
    rcases Nat.lt_or_ge tb w.heap.size with h | h
    · exact h
    · simp [World.cell?, Array.getElem?_eq_none h] at ht0
  have el := elemVP ⟨w.heap.size, 0, none⟩ ⟨tb, 0, none⟩ (((w.alloc (.cells #[.pointer (some ⟨tb, 0, none⟩)] 107)).alloc (.cells #[.pointer (some ⟨5, 107, none⟩), .pointer (some ⟨w.heap.size, 0, none⟩), .int .u64 150] 127)).alloc (.cells #[.pointer (some ⟨5, 107, none⟩), .pointer (some ⟨w.heap.size, 0, none⟩), .int .u64 150] 127)) (by rw [World.cell?_alloc_lt _ _ ⟨w.heap.size, 0, none⟩ (by simp; omega)]; simp)
  have st := setE tb (w.heap.size + 1 + 1 + 1) c old ((((w.alloc (.cells #[.pointer (some ⟨tb, 0, none⟩)] 107)).alloc (.cells #[.pointer (some ⟨5, 107, none⟩), .pointer (some ⟨w.heap.size, 0, none⟩), .int .u64 150] 127)).alloc (.cells #[.pointer (some ⟨5, 107, none⟩), .pointer (some ⟨w.heap.size, 0, none⟩), .int .u64 150] 127)).alloc (.cells #[.int .i64 c] 99))
    (by rw [World.cell?_alloc_at _ _ _ _ (by simp)]; rfl)
    (by rw [World.cell?_alloc_lt _ _ ⟨tb, 0, none⟩ (by simp; omega), World.cell?_alloc_lt _ _ ⟨tb, 0, none⟩ (by simp; omega), World.cell?_alloc_lt _ _ ⟨tb, 0, none⟩ (by simp; omega), World.cell?_alloc_lt _ _ ⟨tb, 0, none⟩ htl]; exact ht0)
    (by rw [World.frozen?_alloc_old _ _ ⟨tb, 0, none⟩ (by simp; omega), World.frozen?_alloc_old _ _ ⟨tb, 0, none⟩ (by simp; omega), World.frozen?_alloc_old _ _ ⟨tb, 0, none⟩ (by simp; omega), World.frozen?_alloc_old _ _ ⟨tb, 0, none⟩ (Nat.ne_of_lt htl)]; exact hf0)
  go_enter Tryd.func65, Tryd.ntmps65
  go_wp2
  refine wp_loop_rounds 1 ?_
  rw [rounds_succ]
  go_wp2
  go_ret
  exact ⟨rfl, rfl⟩
end Go.Proofs.YtkhffoailfnepajDoor
/-
  What codeOf answers: 0 of a nil error, the code of a wrongBytes. Nothing that was there turns.
  Conditions: the variable errors.errorType holds the handle of the type error.
-/
namespace Go.Proofs.YtkhffoailfnepajDoor
open Go.RowKit Go.Extern.Stop Go.Stop Go.Extern

/-- The variable errors.errorType as the program's text lays it. -/
def Laid (w : World) : Prop := w.cell? ⟨4, 0, none⟩ = some (.iface 114 (.agg #[.pointer (some ⟨5, 57, none⟩)]))
theorem Laid.pos {w : World} (h : Laid w) : 4 < w.heap.size := World.block_lt_of_cell? w _ h
theorem Laid.below {w w' : World} (h : Laid w) (hb : Below w.heap.size w w') : Laid w' := by
  unfold Laid; rw [hb.cell (p := ⟨4, 0, none⟩) h.pos]; exact h

def errV (c : Int) : Value := .iface 99 (.agg #[.int .i64 c])

set_option maxHeartbeats 1000000 in
theorem codeOf_nil (w : World) :
    Calls Tryd.prog 46 #[.nilIface] w fun e w' => e = .returned (.int .i64 0) ∧ Below w.heap.size w w' := by
  go_enter Tryd.func46, Tryd.ntmps46
  go_wp2_with (go_at_call 65; refine (as_nil _ _).mono ?_; rintro e w' ⟨rfl, hw⟩; subst hw)
  go_ret
  exact ⟨rfl, (Below.refl _ _).alloc (Nat.le_refl _) _⟩

set_option maxHeartbeats 1000000 in
theorem codeOf_hit (c : Int) (w : World) (hg : Laid w) :
    Calls Tryd.prog 46 #[.iface 99 (.agg #[.int .i64 c])] w fun e w' => e = .returned (.int .i64 c) ∧ Below w.heap.size w w' := by
  have hlt := hg.pos
  have hgA : (w.alloc (.cells #[.int .i64 0] 99)).cell? ⟨4, 0, none⟩ = some (.iface 114 (.agg #[.pointer (some ⟨5, 57, none⟩)])) := by
    rw [World.cell?_alloc_lt _ _ ⟨4, 0, none⟩ hlt]; exact hg
  have htA : (w.alloc (.cells #[.int .i64 0] 99)).cell? ⟨w.heap.size, 0, none⟩ = some (.int .i64 0) := by simp
  have hfA : (w.alloc (.cells #[.int .i64 0] 99)).frozen? ⟨w.heap.size, 0, none⟩ = false := by simp
  have HA : Hid (Laid w) := hg
  clear hg
  go_enter Tryd.func46, Tryd.ntmps46
  go_wp2_with (go_at_call 65; refine (as_hit _ _ (.int .i64 0) _ hgA htA hfA).mono ?_; rintro e w' ⟨rfl, hw⟩; subst hw)
  go_ret
  exact ⟨rfl, by go_grown⟩
end Go.Proofs.YtkhffoailfnepajDoor
/-
  What the program's readNum and GetNum answer: 'getN' of the text and the place.
  Conditions: the string fits the form's own reach; the place is an int64; for GetNum: the variable errors.errorType holds the handle of the type error.
-/
namespace Go.Proofs.YtkhffoailfnepajDoor
open Go.RowKit Go.Extern.Stop Go.Stop Go.Extern
set_option linter.unusedVariables false

def rnBad (c : Int) : Value := .tuple #[.int .i64 0, .int .i64 0, .iface 99 (.agg #[.int .i64 c])]
def rnOk (n a : Int) : Value := .tuple #[.int .i64 n, .int .i64 a, .nilIface]
def rnV (s : ByteArray) (a : Int) : Value := if (getN s a).2.2 = 0 then rnOk (getN s a).1 (getN s a).2.1 else rnBad (getN s a).2.2

theorem rnV_of {s : ByteArray} {a c : Int} (h : getN s a = (0, 0, c)) (hc : c ≠ 0) : rnV s a = rnBad c := by unfold rnV; rw [h, if_neg hc]
theorem rnV_okk {s : ByteArray} {a n b : Int} (h : getN s a = (n, b, 0)) : rnV s a = rnOk n b := by unfold rnV; rw [h, if_pos rfl]
set_option maxRecDepth 20000 in
set_option maxHeartbeats 2000000 in
theorem readNum_any (s : ByteArray) (at0 : Int) (w : World) (hs : s.size ≤ maxLen) (h1 : at0 ≤ 9223372036854775807) :
    Calls Tryd.prog 68 #[.string s, .int .i64 at0] w fun e w' => e = .returned (rnV s at0) ∧ w' = w := by
  unfold maxLen at hs
  by_cases hb : 8000 < s.size
  · have H : Hid (rnV s at0 = rnBad 2) := rnV_of (by unfold getN; rw [if_pos hb]) (by decide)
    go_enter Tryd.func68, Tryd.ntmps68
    go_wp2_with fail
    go_ret3
    exact ⟨ret_valN (H.out.trans rfl).symm, rfl⟩
  by_cases h0 : at0 < 0
  · have H : Hid (rnV s at0 = rnBad 1) := rnV_of (by unfold getN; rw [if_neg hb, if_pos h0]) (by decide)
    go_enter Tryd.func68, Tryd.ntmps68
    go_wp2_with fail
    go_ret3
    exact ⟨ret_valN (H.out.trans rfl).symm, rfl⟩
  obtain ⟨a, ha⟩ : ∃ a : Nat, at0 = a := ⟨at0.toNat, by omega⟩
  subst ha
  rcases scanAt_bd s a with hbd | hbd
  · obtain ⟨c, u, k, hsc⟩ : ∃ c u k, scanAt s a = (c, u, k) := ⟨_, _, _, rfl⟩
    rw [hsc] at hbd
    have hc0 : c = 0 := hbd.1
    subst hc0
    have u0' : 0 ≤ u := hbd.2.1
    have u1' : u ≤ 18446744073709551615 := hbd.2.2.1
    have HRB : Hid (rbV s a = .tuple #[.int .u64 u, .int .i64 ((a : Int) + (k : Int)), .nilIface]) := rbV_ok hsc
    have H : Hid (rnV s (a : Int) = rnOk (unfoldN u) ((a : Int) + (k : Int))) := rnV_okk (by unfold getN; rw [if_neg hb, if_neg h0, Int.toNat_natCast, hsc, if_pos rfl])
    have HA : Hid (bits .and .u64 u 1 = u % 2) := and1 u u0' (by omega)
    clear hbd hsc
    cases hp : (bits .and .u64 u 1 == 1)
    · have HU : Hid (unfoldN u = u / 2) := if_neg (by rw [HA.out] at hp; simp at hp; omega)
      go_enter Tryd.func68, Tryd.ntmps68
      go_wp2_with (go_at_call 74; refine (readBits_any _ _ _ (by omega) h1).mono ?_; rintro e w1 ⟨rfl, hw⟩; rw [HRB.out]; subst hw)
      go_ret3
      exact ⟨ret_valN (by rw [H.out, HU.out]; rfl), rfl⟩
    · have HU : Hid (unfoldN u = -(u / 2) - 1) := if_pos (by rw [HA.out] at hp; simpa using hp)
      have HN : Hid (bits .xor .i64 (-1) (u / 2) = -(u / 2) - 1) := not64 (u / 2) (by omega) (by omega)
      go_enter Tryd.func68, Tryd.ntmps68
      go_wp2_with (go_at_call 74; refine (readBits_any _ _ _ (by omega) h1).mono ?_; rintro e w1 ⟨rfl, hw⟩; rw [HRB.out]; subst hw)
      go_ret3
      exact ⟨ret_valN (by rw [H.out, HU.out, ← HN.out]; rfl), rfl⟩
  · obtain ⟨c, u, k, hsc⟩ : ∃ c u k, scanAt s a = (c, u, k) := ⟨_, _, _, rfl⟩
    rw [hsc] at hbd
    obtain ⟨hc34, hu0, hk0⟩ := hbd
    have e1 : u = 0 := hu0
    have e2 : k = 0 := hk0
    subst e1 e2
    have hc : c ≠ 0 := by have : c = 3 ∨ c = 4 := hc34; omega
    have HRB : Hid (rbV s a = .tuple #[.int .u64 0, .int .i64 0, .iface 99 (.agg #[.int .i64 c])]) := rbV_bad ⟨hc, hsc⟩
    have H : Hid (rnV s (a : Int) = rnBad c) := rnV_of (by unfold getN; rw [if_neg hb, if_neg h0, Int.toNat_natCast, hsc, if_neg hc]) hc
    clear hsc hc34 hu0 hk0 hc
    go_enter Tryd.func68, Tryd.ntmps68
    go_wp2_with (go_at_call 74; refine (readBits_any _ _ _ (by omega) h1).mono ?_; rintro e w1 ⟨rfl, hw⟩; rw [HRB.out]; subst hw)
    go_ret3
    exact ⟨ret_valN (H.out.trans rfl).symm, rfl⟩

theorem getN_cases (s : ByteArray) (a : Int) : (∃ n b, getN s a = (n, b, 0)) ∨ (∃ c, c ≠ 0 ∧ getN s a = (0, 0, c)) := by
  unfold getN
  split
  · exact .inr ⟨2, by decide, rfl⟩
  · split
    · exact .inr ⟨1, by decide, rfl⟩
    · split
      · exact .inl ⟨_, _, rfl⟩
      · rename_i h; exact .inr ⟨_, h, rfl⟩

end Go.Proofs.YtkhffoailfnepajDoor
