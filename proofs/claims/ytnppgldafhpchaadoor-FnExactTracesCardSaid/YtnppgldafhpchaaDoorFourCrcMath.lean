/-
  Parts of one proof, laid as one text: Four, CrcMath; what each says stands at its head.
-/
import Derived.Test.YtnppgldafhpchaaDoorRows
import Derived.Test.YtnppgldafhpchaaDoorBytes
import Derived.Test.YtnppgldafhpchaaDoorCrc
import Derived.Handy
import Derived.Laws.BytesArg
import Derived.Laws.BitsAllLaws
/-
  The four bytes of a number below 2^32, as the specification's l01Four and the program's sumOf make them: 'four n', in new memory; nothing that was there turns.
  Conditions: the number is from 0 to 2^32 - 1; the string fits the form's own reach.
-/
namespace Go.Proofs.YtnppgldafhpchaaDoor
open Go.RowKit Go.Lib
set_option linter.unusedVariables false

def fourN (n : Int) : List Int := [n % 256, n / 256 % 256, n / 65536 % 256, n / 16777216]
def fourV (n : Int) : Array Value := #[.int .u8 (n % 256), .int .u8 (n / 256 % 256), .int .u8 (n / 65536 % 256), .int .u8 (n / 16777216)]
def four (n : Int) : ByteArray := strOfNums (fourN n)
theorem four_size (n : Int) : (four n).size = 4 := strOfNums_size _

theorem four_cells (w : World) (n : Int) (t : TypeId) : ∀ i, i < 4 → (w.alloc (.cells (fourV n) t)).cell? ⟨w.heap.size, 0 + i, none⟩ = some (.int .u8 ((fourN n).getD i 0)) := by
  intro i hi
  rw [World.cell?_alloc_mark]
  match i, hi with
  | 0, _ => rfl
  | 1, _ => rfl
  | 2, _ => rfl
  | 3, _ => rfl

theorem four_conv (w : World) (n : Int) (t : TypeId) :
    (convert 59 9 (.slice (some ⟨w.heap.size, 0, none⟩) 4 4)).run Tryd.prog (w.alloc (.cells (fourV n) t)) = .ok (.string (four n)) (w.alloc (.cells (fourV n) t)) :=
  run_convert_bytes_arg (P := Tryd.prog) (w.alloc (.cells (fourV n) t)) 59 5 Tryd.underlying59 Tryd.underlying5 w.heap.size 0 4 4 (fourN n) rfl (four_cells w n t) 9 Tryd.underlying9

set_option maxHeartbeats 1000000 in
theorem specFour_any (n : Int) (w : World) (h0 : 0 ≤ n) (h1 : n ≤ 4294967295) :
    Calls Tryd.prog 43 #[.int .i64 n] w fun e w' => e = .returned (.string (four n)) ∧ Below w.heap.size w w' := by
  have hconv := four_conv w n 5
  unfold fourV at hconv
  go_enter Tryd.func43, Tryd.ntmps43
  go_wp2
  go_ret
  exact ⟨rfl, (Below.refl _ _).alloc (Nat.le_refl _) _⟩

set_option maxHeartbeats 1000000 in
theorem sumOf_any (s : ByteArray) (w : World) (hs : s.size ≤ maxLen)  :
    Calls Tryd.prog 52 #[.string s] w fun e w' => e = .returned (.string (four (crcB 0 s))) ∧ Below w.heap.size w w' := by
  have hb := crcB_bd 0 s
  go_enter Tryd.func52, Tryd.ntmps52
  go_wp2_with (go_at_call 54; refine (implCrc_any _ _ hs).mono ?_; rintro e w1 ⟨rfl, hw⟩)
  subst hw
  generalize hN : crcB 0 s = n at *
  have HN : Hid (crcB 0 s = n) := hN
  clear hN
  obtain ⟨n0, n1⟩ := hb
  have hconv := four_conv w1 n 103
  unfold fourV at hconv
  go_rounds 5
  go_ret
  exact ⟨ret_str (by rw [HN.out]), (Below.refl _ _).alloc (Nat.le_refl _) _⟩
end Go.Proofs.YtnppgldafhpchaaDoor
/-
  The CRC in plain mathematics: one step is one to one, so a byte that is turned turns the CRC; the CRC of two texts behind one another goes on from the first.
-/
namespace Go.Proofs.YtnppgldafhpchaaDoor
open Go.RowKit Go.Lib
set_option linter.unusedVariables false

theorem xorN (a b : Nat) (ha : a < 4294967296) (hb : b < 4294967296) : bits .xor .u32 (a : Int) (b : Int) = ((a ^^^ b : Nat) : Int) := by
  show IntKind.u32.wrap ((BitVec.ofInt 32 (a : Int) ^^^ BitVec.ofInt 32 (b : Int)).toNat : Int) = _
  rw [BitVec.ofInt_natCast, BitVec.ofInt_natCast, BitVec.toNat_xor, BitVec.toNat_ofNat, BitVec.toNat_ofNat, Nat.mod_eq_of_lt (by omega), Nat.mod_eq_of_lt (by omega), IntKind.wrap_u32]
  have h : a ^^^ b < 2 ^ 32 := Nat.xor_lt_two_pow (by omega) (by omega)
  omega

theorem xor_inj {x y c : Int} (x0 : 0 ≤ x) (x1 : x ≤ 4294967295) (y0 : 0 ≤ y) (y1 : y ≤ 4294967295) (c0 : 0 ≤ c) (c1 : c ≤ 4294967295) (h : bits .xor .u32 x c = bits .xor .u32 y c) : x = y := by
  obtain ⟨a, rfl⟩ := Int.eq_ofNat_of_zero_le x0
  obtain ⟨b, rfl⟩ := Int.eq_ofNat_of_zero_le y0
  obtain ⟨d, rfl⟩ := Int.eq_ofNat_of_zero_le c0
  rw [xorN a d (by omega) (by omega), xorN b d (by omega) (by omega)] at h
  have h' : a ^^^ d = b ^^^ d := by omega
  have : a = b := by have e := congrArg (fun z => z ^^^ d) h'; simpa [Nat.xor_assoc] using e
  rw [this]

theorem xor_inj_right {r x y : Int} (r0 : 0 ≤ r) (r1 : r ≤ 4294967295) (x0 : 0 ≤ x) (x1 : x ≤ 4294967295) (y0 : 0 ≤ y) (y1 : y ≤ 4294967295) (h : bits .xor .u32 r x = bits .xor .u32 r y) : x = y := by
  obtain ⟨a, rfl⟩ := Int.eq_ofNat_of_zero_le x0
  obtain ⟨b, rfl⟩ := Int.eq_ofNat_of_zero_le y0
  obtain ⟨d, rfl⟩ := Int.eq_ofNat_of_zero_le r0
  rw [xorN d a (by omega) (by omega), xorN d b (by omega) (by omega)] at h
  have h' : d ^^^ a = d ^^^ b := by omega
  have : a = b := by have e := congrArg (fun z => d ^^^ z) h'; simpa [← Nat.xor_assoc] using e
  rw [this]

theorem and1_u32 (x : Int) (h0 : 0 ≤ x) (h1 : x ≤ 4294967295) : bits .and .u32 x 1 = x % 2 := by
  obtain ⟨a, rfl⟩ := Int.eq_ofNat_of_zero_le h0
  show IntKind.u32.wrap ((BitVec.ofInt 32 (a : Int) &&& BitVec.ofInt 32 1).toNat : Int) = _
  have h2 : BitVec.ofInt 32 1 = BitVec.ofNat 32 1 := by decide
  rw [h2, BitVec.ofInt_natCast, BitVec.toNat_and, BitVec.toNat_ofNat, BitVec.toNat_ofNat, Nat.mod_eq_of_lt (by omega)]
  rw [show 1 % 2 ^ 32 = 1 from rfl, Nat.and_one_is_mod, IntKind.wrap_u32]; omega

theorem xor_top {x : Int} (x0 : 0 ≤ x) (x1 : x < 2147483648) : 2147483648 ≤ bits .xor .u32 x 3988292384 := by
  obtain ⟨a, rfl⟩ := Int.eq_ofNat_of_zero_le x0
  have e := xorN a 3988292384 (by omega) (by omega)
  rw [show ((3988292384 : Nat) : Int) = 3988292384 from rfl] at e
  rw [e]
  have ht : (a ^^^ 3988292384).testBit 31 = true := by
    rw [Nat.testBit_xor, Nat.testBit_lt_two_pow (show a < 2 ^ 31 by omega)]; decide
  have := Nat.ge_two_pow_of_testBit ht
  omega

theorem cStep_inj {x y : Int} (x0 : 0 ≤ x) (x1 : x ≤ 4294967295) (y0 : 0 ≤ y) (y1 : y ≤ 4294967295) (h : cStep x = cStep y) : x = y := by
  unfold cStep at h
  rw [and1_u32 x x0 x1, and1_u32 y y0 y1] at h
  split at h
  · rename_i hx
    split at h
    · rename_i hy
      have := xor_inj (by omega) (by omega) (by omega) (by omega) (by omega) (by omega) h
      simp at hx hy; omega
    · rename_i hy
      have := xor_top (x := x / 2) (by omega) (by omega)
      omega
  · rename_i hx
    split at h
    · rename_i hy
      have := xor_top (x := y / 2) (by omega) (by omega)
      omega
    · rename_i hy
      simp at hx hy; omega

theorem cSteps_inj : ∀ (k : Nat) {x y : Int}, 0 ≤ x → x ≤ 4294967295 → 0 ≤ y → y ≤ 4294967295 → cSteps k x = cSteps k y → x = y
  | 0, _, _, _, _, _, _, h => h
  | k + 1, x, y, x0, x1, y0, y1, h => by
    have a := cSteps_bd x0 x1 k
    have b := cSteps_bd y0 y1 k
    exact cSteps_inj k x0 x1 y0 y1 (cStep_inj a.1 a.2 b.1 b.2 h)

theorem cByte_inj {x y c : Int} (x0 : 0 ≤ x) (x1 : x ≤ 4294967295) (y0 : 0 ≤ y) (y1 : y ≤ 4294967295) (c0 : 0 ≤ c) (c1 : c ≤ 255) (h : cByte x c = cByte y c) : x = y :=
  xor_inj x0 x1 y0 y1 c0 (by omega) (cSteps_inj 8 (xor_bd _ _).1 (xor_bd _ _).2 (xor_bd _ _).1 (xor_bd _ _).2 h)
theorem cByte_inj_right {r c d : Int} (r0 : 0 ≤ r) (r1 : r ≤ 4294967295) (c0 : 0 ≤ c) (c1 : c ≤ 255) (d0 : 0 ≤ d) (d1 : d ≤ 255) (h : cByte r c = cByte r d) : c = d :=
  xor_inj_right r0 r1 c0 (by omega) d0 (by omega) (cSteps_inj 8 (xor_bd _ _).1 (xor_bd _ _).2 (xor_bd _ _).1 (xor_bd _ _).2 h)

theorem cText_inj : ∀ (l : List UInt8) {x y : Int}, 0 ≤ x → x ≤ 4294967295 → 0 ≤ y → y ≤ 4294967295 → cText x l = cText y l → x = y
  | [], _, _, _, _, _, _, h => h
  | c :: l, x, y, x0, x1, y0, y1, h => by
    have hc : (c.toNat : Int) ≤ 255 := by have := c.toNat_lt; omega
    exact cByte_inj x0 x1 y0 y1 (by omega) hc (cText_inj l (cByte_bd _ _).1 (cByte_bd _ _).2 (cByte_bd _ _).1 (cByte_bd _ _).2 h)
theorem cText_append (r : Int) (l m : List UInt8) : cText r (l ++ m) = cText (cText r l) m := by unfold cText; rw [List.foldl_append]

/-- One byte turned: another register. -/
theorem cText_turned (r : Int) (l m : List UInt8) (c d : UInt8) (r0 : 0 ≤ r) (r1 : r ≤ 4294967295) (h : cText r (l ++ c :: m) = cText r (l ++ d :: m)) : c = d := by
  rw [cText_append, cText_append] at h
  have hb := cText_bd l r0 r1
  have h2 : cText (cByte (cText r l) (c.toNat : Int)) m = cText (cByte (cText r l) (d.toNat : Int)) m := h
  have h3 := cText_inj m (cByte_bd _ _).1 (cByte_bd _ _).2 (cByte_bd _ _).1 (cByte_bd _ _).2 h2
  have hc : (c.toNat : Int) ≤ 255 := by have := c.toNat_lt; omega
  have hd : (d.toNat : Int) ≤ 255 := by have := d.toNat_lt; omega
  have h4 := cByte_inj_right hb.1 hb.2 (by omega) hc (by omega) hd h3
  exact UInt8.toNat_inj.1 (by omega)

theorem cNot_inj {x y : Int} (x0 : 0 ≤ x) (x1 : x ≤ 4294967295) (y0 : 0 ≤ y) (y1 : y ≤ 4294967295) (h : cNot x = cNot y) : x = y :=
  xor_inj x0 x1 y0 y1 (by omega) (by omega) h
theorem cNot_not {x : Int} (x0 : 0 ≤ x) (x1 : x ≤ 4294967295) : cNot (cNot x) = x := by
  obtain ⟨a, rfl⟩ := Int.eq_ofNat_of_zero_le x0
  have e := xorN a 4294967295 (by omega) (by omega)
  rw [show ((4294967295 : Nat) : Int) = 4294967295 from rfl] at e
  have hlt : a ^^^ 4294967295 < 4294967296 := Nat.xor_lt_two_pow (n := 32) (by omega) (by omega)
  have e2 := xorN (a ^^^ 4294967295) 4294967295 hlt (by omega)
  rw [show ((4294967295 : Nat) : Int) = 4294967295 from rfl] at e2
  unfold cNot
  rw [e, e2, Nat.xor_assoc, Nat.xor_self, Nat.xor_zero]

theorem crcV_turned (l m : List UInt8) (c d : UInt8) (h : crcV 0 ⟨(l ++ c :: m).toArray⟩ = crcV 0 ⟨(l ++ d :: m).toArray⟩) : c = d := by
  unfold crcV at h
  have hn := cNot_bd 0
  have a := cText_bd (l ++ c :: m) hn.1 hn.2
  have b := cText_bd (l ++ d :: m) hn.1 hn.2
  exact cText_turned _ l m c d hn.1 hn.2 (cNot_inj a.1 a.2 b.1 b.2 (by simpa using h))

theorem crcB_more (t u : ByteArray) (h : t.size + u.size ≤ 8000) : crcB (crcB 0 t) u = crcB 0 (t ++ u) := by
  have hv := crcV_bd 0 t
  have hb := crcB_bd 0 t
  have hn := cNot_bd 0
  have e1 : crcB 0 t = crcV 0 t := if_neg (by omega)
  have e2 : crcB 0 (t ++ u) = crcV 0 (t ++ u) := if_neg (by simp; omega)
  have e3 : crcB (crcV 0 t) u = crcV (crcV 0 t) u := if_neg (by omega)
  rw [e1, e2, e3]
  unfold crcV
  have ht := cText_bd t.data.toList hn.1 hn.2
  rw [cNot_not ht.1 ht.2]
  have : (t ++ u).data.toList = t.data.toList ++ u.data.toList := by simp
  rw [this, cText_append]

theorem four_inj {x y : Int} (x0 : 0 ≤ x) (x1 : x ≤ 4294967295) (y0 : 0 ≤ y) (y1 : y ≤ 4294967295) (h : four x = four y) : x = y := by
  have h2 : (four x).data.toList = (four y).data.toList := by rw [h]
  unfold four fourN at h2
  rw [strOfNums_data, strOfNums_data] at h2
  simp only [List.map_cons, List.map_nil, List.cons.injEq, and_true] at h2
  obtain ⟨a, b, c, d⟩ := h2
  have key : ∀ m n : Int, 0 ≤ m → m ≤ 255 → 0 ≤ n → n ≤ 255 → UInt8.ofNat m.toNat = UInt8.ofNat n.toNat → m = n := by
    intro m n m0 m1 n0 n1 e
    have := congrArg UInt8.toNat e
    simp at this
    omega
  have a' := key _ _ (by omega) (by omega) (by omega) (by omega) a
  have b' := key _ _ (by omega) (by omega) (by omega) (by omega) b
  have c' := key _ _ (by omega) (by omega) (by omega) (by omega) c
  have d' := key _ _ (by omega) (by omega) (by omega) (by omega) d
  omega
end Go.Proofs.YtnppgldafhpchaaDoor
