/-
  Parts of one proof, laid as one text: CrcMath, UnsealI, SealMath, Scopes; what each says stands at its head.
-/
import Derived.Test.YtkhffoailfnepabGreatDoorJoinedPutTextCrc
import Derived.Test.YtkhffoailfnepabGreatDoorFourSealAreaAAreaF
import Derived.Laws.BitsAllLaws
import Derived.Test.YtkhffoailfnepabGreatDoorRows
import Derived.Test.YtkhffoailfnepabGreatDoorBytesDigMath
import Derived.Handy
import Derived.Deep.QuietTactic
import Derived.BigQuiet
import Derived.WalkSpells
import Derived.Deep.RegionWith
import Derived.ScopeJumps
import Derived.WalkMore
/-
  The CRC in plain mathematics: one step is one to one, so a byte that is turned turns the CRC; the CRC of two texts behind one another goes on from the first.
-/
namespace Go.Proofs.YtkhffoailfnepabGreatDoor
open Go.RowKit Go.Lib
set_option linter.unusedVariables false

theorem xorN (a b : Nat) (ha : a < 4294967296) (hb : b < 4294967296) : bits .xor .u32 (a : Int) (b : Int) = ((a ^^^ b : Nat) : Int) := by
  show IntKind.u32.wrap ((BitVec.ofInt 32 (a : Int) ^^^ BitVec.ofInt 32 (b : Int)).toNat : Int) = _
  rw [BitVec.ofInt_natCast, BitVec.ofInt_natCast, BitVec.toNat_xor, BitVec.toNat_ofNat, BitVec.toNat_ofNat, Nat.mod_eq_of_lt (by omega), Nat.mod_eq_of_lt (by omega), IntKind.wrap_u32]
  have h : a ^^^ b < 2 ^ 32 := Nat.xor_lt_two_pow (by omega) (by omega)
  omega

theorem xor_inj {x y c : Int} (x0 : 0 ≤ x) (x1 : x ≤ 4294967295) (y0 : 0 ≤ y) (y1 : y ≤ 4294967295) (c0 : 0 ≤ c) (c1 : c ≤ 4294967295) (h : bits .xor .u32 x c = bits .xor .u32 y c) : x = y := by
  obtain ⟨a, rfl⟩ := Int.eq_ofNat_of_zero_le x0
  obtain ⟨b, rfl⟩ := Int.eq_ofNat_of_zero_le y0
  obtain ⟨d, rfl⟩ := Int.eq_ofNat_of_zero_le c0
  rw [xorN a d (by omega) (by omega), xorN b d (by omega) (by omega)] at h
  have h' : a ^^^ d = b ^^^ d := by omega
  have : a = b := by have e := congrArg (fun z => z ^^^ d) h'; simpa [Nat.xor_assoc] using e
  rw [this]

theorem xor_inj_right {r x y : Int} (r0 : 0 ≤ r) (r1 : r ≤ 4294967295) (x0 : 0 ≤ x) (x1 : x ≤ 4294967295) (y0 : 0 ≤ y) (y1 : y ≤ 4294967295) (h : bits .xor .u32 r x = bits .xor .u32 r y) : x = y := by
  obtain ⟨a, rfl⟩ := Int.eq_ofNat_of_zero_le x0
  obtain ⟨b, rfl⟩ := Int.eq_ofNat_of_zero_le y0
  obtain ⟨d, rfl⟩ := Int.eq_ofNat_of_zero_le r0
  rw [xorN d a (by omega) (by omega), xorN d b (by omega) (by omega)] at h
  have h' : d ^^^ a = d ^^^ b := by omega
  have : a = b := by have e := congrArg (fun z => d ^^^ z) h'; simpa [← Nat.xor_assoc] using e
  rw [this]

theorem and1_u32 (x : Int) (h0 : 0 ≤ x) (h1 : x ≤ 4294967295) : bits .and .u32 x 1 = x % 2 := by
  obtain ⟨a, rfl⟩ := Int.eq_ofNat_of_zero_le h0
  show IntKind.u32.wrap ((BitVec.ofInt 32 (a : Int) &&& BitVec.ofInt 32 1).toNat : Int) = _
  have h2 : BitVec.ofInt 32 1 = BitVec.ofNat 32 1 := by decide
  rw [h2, BitVec.ofInt_natCast, BitVec.toNat_and, BitVec.toNat_ofNat, BitVec.toNat_ofNat, Nat.mod_eq_of_lt (by omega)]
  rw [show 1 % 2 ^ 32 = 1 from rfl, Nat.and_one_is_mod, IntKind.wrap_u32]; omega

theorem xor_top {x : Int} (x0 : 0 ≤ x) (x1 : x < 2147483648) : 2147483648 ≤ bits .xor .u32 x 3988292384 := by
  obtain ⟨a, rfl⟩ := Int.eq_ofNat_of_zero_le x0
  have e := xorN a 3988292384 (by omega) (by omega)
  rw [show ((3988292384 : Nat) : Int) = 3988292384 from rfl] at e
  rw [e]
  have ht : (a ^^^ 3988292384).testBit 31 = true := by
    rw [Nat.testBit_xor, Nat.testBit_lt_two_pow (show a < 2 ^ 31 by omega)]; decide
  have := Nat.ge_two_pow_of_testBit ht
  omega

theorem cStep_inj {x y : Int} (x0 : 0 ≤ x) (x1 : x ≤ 4294967295) (y0 : 0 ≤ y) (y1 : y ≤ 4294967295) (h : cStep x = cStep y) : x = y := by
  unfold cStep at h
  rw [and1_u32 x x0 x1, and1_u32 y y0 y1] at h
  split at h
  · rename_i hx
    split at h
    · rename_i hy
      have := xor_inj (by omega) (by omega) (by omega) (by omega) (by omega) (by omega) h
      simp at hx hy; omega
    · rename_i hy
      have := xor_top (x := x / 2) (by omega) (by omega)
      omega
  · rename_i hx
    split at h
    · rename_i hy
      have := xor_top (x := y / 2) (by omega) (by omega)
      omega
    · rename_i hy
      simp at hx hy; omega

theorem cSteps_inj : ∀ (k : Nat) {x y : Int}, 0 ≤ x → x ≤ 4294967295 → 0 ≤ y → y ≤ 4294967295 → cSteps k x = cSteps k y → x = y
  | 0, _, _, _, _, _, _, h => h
  | k + 1, x, y, x0, x1, y0, y1, h => by
    have a := cSteps_bd x0 x1 k
    have b := cSteps_bd y0 y1 k
    exact cSteps_inj k x0 x1 y0 y1 (cStep_inj a.1 a.2 b.1 b.2 h)

theorem cByte_inj {x y c : Int} (x0 : 0 ≤ x) (x1 : x ≤ 4294967295) (y0 : 0 ≤ y) (y1 : y ≤ 4294967295) (c0 : 0 ≤ c) (c1 : c ≤ 255) (h : cByte x c = cByte y c) : x = y :=
  xor_inj x0 x1 y0 y1 c0 (by omega) (cSteps_inj 8 (xor_bd _ _).1 (xor_bd _ _).2 (xor_bd _ _).1 (xor_bd _ _).2 h)
theorem cByte_inj_right {r c d : Int} (r0 : 0 ≤ r) (r1 : r ≤ 4294967295) (c0 : 0 ≤ c) (c1 : c ≤ 255) (d0 : 0 ≤ d) (d1 : d ≤ 255) (h : cByte r c = cByte r d) : c = d :=
  xor_inj_right r0 r1 c0 (by omega) d0 (by omega) (cSteps_inj 8 (xor_bd _ _).1 (xor_bd _ _).2 (xor_bd _ _).1 (xor_bd _ _).2 h)

theorem cText_inj : ∀ (l : List UInt8) {x y : Int}, 0 ≤ x → x ≤ 4294967295 → 0 ≤ y → y ≤ 4294967295 → cText x l = cText y l → x = y
  | [], _, _, _, _, _, _, h => h
  | c :: l, x, y, x0, x1, y0, y1, h => by
    have hc : (c.toNat : Int) ≤ 255 := by have := c.toNat_lt; omega
    exact cByte_inj x0 x1 y0 y1 (by omega) hc (cText_inj l (cByte_bd _ _).1 (cByte_bd _ _).2 (cByte_bd _ _).1 (cByte_bd _ _).2 h)
theorem cText_append (r : Int) (l m : List UInt8) : cText r (l ++ m) = cText (cText r l) m := by unfold cText; rw [List.foldl_append]

/-- One byte turned: another register. -/
theorem cText_turned (r : Int) (l m : List UInt8) (c d : UInt8) (r0 : 0 ≤ r) (r1 : r ≤ 4294967295) (h : cText r (l ++ c :: m) = cText r (l ++ d :: m)) : c = d := by
  rw [cText_append, cText_append] at h
  have hb := cText_bd l r0 r1
  have h2 : cText (cByte (cText r l) (c.toNat : Int)) m = cText (cByte (cText r l) (d.toNat : Int)) m := h
  have h3 := cText_inj m (cByte_bd _ _).1 (cByte_bd _ _).2 (cByte_bd _ _).1 (cByte_bd _ _).2 h2
  have hc : (c.toNat : Int) ≤ 255 := by have := c.toNat_lt; omega
  have hd : (d.toNat : Int) ≤ 255 := by have := d.toNat_lt; omega
  have h4 := cByte_inj_right hb.1 hb.2 (by omega) hc (by omega) hd h3
  exact UInt8.toNat_inj.1 (by omega)

theorem cNot_inj {x y : Int} (x0 : 0 ≤ x) (x1 : x ≤ 4294967295) (y0 : 0 ≤ y) (y1 : y ≤ 4294967295) (h : cNot x = cNot y) : x = y :=
  xor_inj x0 x1 y0 y1 (by omega) (by omega) h
theorem cNot_not {x : Int} (x0 : 0 ≤ x) (x1 : x ≤ 4294967295) : cNot (cNot x) = x := by
  obtain ⟨a, rfl⟩ := Int.eq_ofNat_of_zero_le x0
  have e := xorN a 4294967295 (by omega) (by omega)
  rw [show ((4294967295 : Nat) : Int) = 4294967295 from rfl] at e
  have hlt : a ^^^ 4294967295 < 4294967296 := Nat.xor_lt_two_pow (n := 32) (by omega) (by omega)
  have e2 := xorN (a ^^^ 4294967295) 4294967295 hlt (by omega)
  rw [show ((4294967295 : Nat) : Int) = 4294967295 from rfl] at e2
  unfold cNot
  rw [e, e2, Nat.xor_assoc, Nat.xor_self, Nat.xor_zero]

theorem crcV_turned (l m : List UInt8) (c d : UInt8) (h : crcV 0 ⟨(l ++ c :: m).toArray⟩ = crcV 0 ⟨(l ++ d :: m).toArray⟩) : c = d := by
  unfold crcV at h
  have hn := cNot_bd 0
  have a := cText_bd (l ++ c :: m) hn.1 hn.2
  have b := cText_bd (l ++ d :: m) hn.1 hn.2
  exact cText_turned _ l m c d hn.1 hn.2 (cNot_inj a.1 a.2 b.1 b.2 (by simpa using h))

theorem crcB_more (t u : ByteArray) (h : t.size + u.size ≤ 8000) : crcB (crcB 0 t) u = crcB 0 (t ++ u) := by
  have hv := crcV_bd 0 t
  have hb := crcB_bd 0 t
  have hn := cNot_bd 0
  have e1 : crcB 0 t = crcV 0 t := if_neg (by omega)
  have e2 : crcB 0 (t ++ u) = crcV 0 (t ++ u) := if_neg (by simp; omega)
  have e3 : crcB (crcV 0 t) u = crcV (crcV 0 t) u := if_neg (by omega)
  rw [e1, e2, e3]
  unfold crcV
  have ht := cText_bd t.data.toList hn.1 hn.2
  rw [cNot_not ht.1 ht.2]
  have : (t ++ u).data.toList = t.data.toList ++ u.data.toList := by simp
  rw [this, cText_append]

theorem four_inj {x y : Int} (x0 : 0 ≤ x) (x1 : x ≤ 4294967295) (y0 : 0 ≤ y) (y1 : y ≤ 4294967295) (h : four x = four y) : x = y := by
  have h2 : (four x).data.toList = (four y).data.toList := by rw [h]
  unfold four fourN at h2
  rw [strOfNums_data, strOfNums_data] at h2
  simp only [List.map_cons, List.map_nil, List.cons.injEq, and_true] at h2
  obtain ⟨a, b, c, d⟩ := h2
  have key : ∀ m n : Int, 0 ≤ m → m ≤ 255 → 0 ≤ n → n ≤ 255 → UInt8.ofNat m.toNat = UInt8.ofNat n.toNat → m = n := by
    intro m n m0 m1 n0 n1 e
    have := congrArg UInt8.toNat e
    simp at this
    omega
  have a' := key _ _ (by omega) (by omega) (by omega) (by omega) a
  have b' := key _ _ (by omega) (by omega) (by omega) (by omega) b
  have c' := key _ _ (by omega) (by omega) (by omega) (by omega) c
  have d' := key _ _ (by omega) (by omega) (by omega) (by omega) d
  omega
end Go.Proofs.YtkhffoailfnepabGreatDoor
/-
  What Unseal answers, in the program and in the specification.
  Conditions: the string fits the form's own reach.
-/
namespace Go.Proofs.YtkhffoailfnepabGreatDoor
open Go.RowKit Go.Lib
set_option linter.unusedVariables false

def textOut (t : ByteArray) (a c : Int) : Value := .agg #[.string t, .int .i64 a, .int .i64 c]
def body (s : ByteArray) : ByteArray := s.extract 0 (s.size - 4)
def tail4 (s : ByteArray) : ByteArray := s.extract (s.size - 4) s.size
theorem tail_run (s : ByteArray) (h4 : ¬ s.size < 4) (wx : World) :
    (Instr.slice 9 (.string s) (some (.int .i64 ((s.size : Int) - 4))) none none).run Tryz.prog wx = .ok (.string (tail4 s)) wx := by
  have := run_slice_string_from_if (P := Tryz.prog) wx 9 s .i64 ((s.size : Int) - 4) Tryz.underlying9
  rw [if_pos (by omega)] at this
  rw [this, show ((s.size : Int) - 4).toNat = s.size - 4 by omega]; rfl
theorem ret_val {a b : Value} (h : a = b) : Ending.returned a = .returned b := by rw [h]
def unsealB (s : ByteArray) : Value :=
  if 8000 < s.size then textOut ByteArray.empty 0 2 else if s.size < 4 then textOut ByteArray.empty 0 4 else
  if ((four (crcV 0 (body s))).toList == (tail4 s).toList) = true then textOut (body s) 0 0 else textOut ByteArray.empty 0 5

theorem unsealB_form (s : ByteArray) : ∃ t a c, unsealB s = .agg #[.string t, .int .i64 a, .int .i64 c] := by
  unfold unsealB; split
  · exact ⟨_, _, _, rfl⟩
  · split
    · exact ⟨_, _, _, rfl⟩
    · split
      · exact ⟨_, _, _, rfl⟩
      · exact ⟨_, _, _, rfl⟩

theorem below_box {w w2 : World} {o : Obj} (h : Below (w.alloc o).drew.heap.size (w.alloc o).drew w2) : Below w.heap.size w w2 :=
  ((Below.refl _ _).alloc (Nat.le_refl _) o).drew.trans (h.mono (by simp))

theorem head_run (s : ByteArray) (h4 : ¬ s.size < 4) (wx : World) :
    (Instr.slice 9 (.string s) none (some (.int .i64 ((s.size : Int) - 4))) none).run Tryz.prog wx = .ok (.string (body s)) wx := by
  have := run_slice_string_to_if (P := Tryz.prog) wx 9 s .i64 ((s.size : Int) - 4) Tryz.underlying9
  rw [if_pos (by omega)] at this
  rw [this, show ((s.size : Int) - 4).toNat = s.size - 4 by omega]; rfl

set_option maxHeartbeats 1000000 in
theorem implUnseal_any (s : ByteArray) (w : World) (hs : s.size ≤ maxLen) :
    Calls Tryz.prog 74 #[.string s] w fun e w' => e = .returned (unsealB s) ∧ Below w.heap.size w w' := by
  have hs' := hs
  unfold maxLen at hs'
  by_cases h : 8000 < s.size
  · have H : Hid (unsealB s = textOut ByteArray.empty 0 2) := if_pos h
    go_enter Tryz.func74, Tryz.ntmps74
    go_wp2_with fail
    go_returns
    exact ⟨ret_val (H.out.trans rfl).symm, (Below.refl _ _).alloc (Nat.le_refl _) _⟩
  by_cases h4 : s.size < 4
  · have H : Hid (unsealB s = textOut ByteArray.empty 0 4) := by unfold unsealB; rw [if_neg h, if_pos h4]; rfl
    go_enter Tryz.func74, Tryz.ntmps74
    go_wp2_with fail
    go_returns
    exact ⟨ret_val (H.out.trans rfl).symm, (Below.refl _ _).alloc (Nat.le_refl _) _⟩
  · have HU : Hid (unsealB s = if ((four (crcV 0 (body s))).toList == (tail4 s).toList) = true then textOut (body s) 0 0 else textOut ByteArray.empty 0 5) := by unfold unsealB; rw [if_neg h, if_neg h4]; rfl
    have i4 : (4 : Int) ≤ (s.size : Int) := by omega
    have hbs : (body s).size ≤ 8000 := by unfold body; simp; omega
    have hb1 : (body s).size ≤ maxLen := by unfold maxLen; omega
    have HB : Hid (crcB 0 (body s) = crcV 0 (body s)) := if_neg (by omega)
    have hwr : IntKind.i64.wrap ((s.size : Int) - 4) = (s.size : Int) - 4 := by rw [IntKind.wrap_i64]; omega
    have hsl := tail_run s h4
    have hsh := head_run s h4
    go_enter Tryz.func74, Tryz.ntmps74
    go_wp2_with fail
    go_region_with (go_at_call 86; refine (sumOf_any _ _ hb1).mono ?_; rintro e w2 ⟨rfl, hbel⟩)
    obtain ⟨hc, hf⟩ := bcell hbel
    have hz : w.heap.size + 1 ≤ w2.heap.size := by have := hbel.size; simp at this; omega
    cases hq : ((four (crcB 0 (body s))).toList == (tail4 s).toList)
    · have HV : Hid (unsealB s = textOut ByteArray.empty 0 5) := HU.out.trans (if_neg (by rw [← HB.out, hq]; simp))
      clear HU
      go_wp2_with fail
      refine bodyPost_ret (v := textOut ByteArray.empty 0 5) (by simp [textOut, results, Tryz.results74, go_sem, hc]; rfl) rfl ⟨ret_val HV.out.symm, (((below_box hbel).setCell (Nat.le_refl _) _).setCell (Nat.le_refl _) _).setCell (Nat.le_refl _) _⟩
    · have HV : Hid (unsealB s = textOut (body s) 0 0) := HU.out.trans (if_pos (by rw [← HB.out, hq]))
      clear HU
      go_wp2_with fail
      refine (joined_one _ _ (by omega)).mono ?_
      rintro e w3 ⟨rfl, hbel3⟩
      have hb3 := hbel.trans (hbel3.mono hbel.size)
      clear hc hf hbel hbel3 hz hsl hsh
      obtain ⟨hc, hf⟩ := bcell hb3
      have hz : w.heap.size + 1 ≤ w3.heap.size := by have := hb3.size; simp at this; omega
      go_wp2_with fail
      refine bodyPost_ret (v := textOut (body s) 0 0) (by simp [textOut, results, Tryz.results74, go_sem, hc]) rfl ⟨ret_val HV.out.symm, (((below_box hb3).setCell (Nat.le_refl _) _).setCell (Nat.le_refl _) _).setCell (Nat.le_refl _) _⟩
end Go.Proofs.YtkhffoailfnepabGreatDoor
/-
  A sealed text comes back; with one byte turned it is refused: in plain mathematics, over what Seal and Unseal answer.
-/
namespace Go.Proofs.YtkhffoailfnepabGreatDoor
open Go.RowKit Go.Lib
set_option linter.unusedVariables false

theorem unsealB_of (lt lf : List UInt8) (h4 : lf.length = 4) (h8 : lt.length + 4 ≤ 8000) :
    unsealB ⟨(lt ++ lf).toArray⟩ = if (four (crcV 0 ⟨lt.toArray⟩)).data.toList = lf then textOut ⟨lt.toArray⟩ 0 0 else textOut ByteArray.empty 0 5 := by
  have hsz : (⟨(lt ++ lf).toArray⟩ : ByteArray).size = lt.length + 4 := by simp [ByteArray.size, h4]
  have hbody : body ⟨(lt ++ lf).toArray⟩ = ⟨lt.toArray⟩ := by
    unfold body; rw [hsz, extract_eq]
    simp
  have htail : (tail4 ⟨(lt ++ lf).toArray⟩).toList = lf := by
    unfold tail4; rw [hsz, extract_toList]
    simp
    exact List.take_of_length_le (by omega)
  unfold unsealB
  rw [if_neg (by rw [hsz]; omega), if_neg (by rw [hsz]; omega), hbody, htail, toList_data]
  by_cases e : (four (crcV 0 ⟨lt.toArray⟩)).data.toList = lf
  · rw [if_pos e, if_pos (by rw [e]; simp)]
  · rw [if_neg e, if_neg (by simpa using e)]

theorem sealB_list (t : ByteArray) (h : t.size ≤ 7996) : sealB t = ⟨(t.data.toList ++ (four (crcV 0 t)).data.toList).toArray⟩ := by
  unfold sealB; rw [if_neg (by omega)]
  apply ByteArray.ext; simp
theorem four_len (n : Int) : (four n).data.toList.length = 4 := by rw [← size_eq]; exact four_size n
theorem sealB_size (t : ByteArray) (h : t.size ≤ 7996) : (sealB t).size = t.size + 4 := by
  unfold sealB; rw [if_neg (by omega)]; simp [four_size]

theorem unseal_seal (t : ByteArray) (h : t.size ≤ 7996) : unsealB (sealB t) = textOut t 0 0 := by
  rw [sealB_list t h, unsealB_of _ _ (four_len _) (by rw [← size_eq]; omega)]
  rw [mk_data, if_pos rfl]

theorem unseal_turned (t : ByteArray) (h : t.size ≤ 7996) (i : Nat) (x : UInt8) (hi : i < (sealB t).size) (hx : x ≠ (sealB t)[i]) :
    unsealB ⟨((sealB t).data.toList.set i x).toArray⟩ = textOut ByteArray.empty 0 5 := by
  have hsz := sealB_size t h
  have hl := sealB_list t h
  have hxl : ∀ y, (t.data.toList ++ (four (crcV 0 t)).data.toList)[i]? = some y → x ≠ y := by
    intro y hy e
    apply hx
    have h1 : (sealB t).data.toList[i]? = some y := by rw [hl]; simpa using hy
    have h2 : (sealB t).data.toList[i]? = some (sealB t)[i] := by
      rw [List.getElem?_eq_getElem (by simpa using hi)]; rfl
    rw [e]
    exact Option.some.inj (h1.symm.trans h2)
  have hdata : (sealB t).data.toList = t.data.toList ++ (four (crcV 0 t)).data.toList := by rw [hl]
  rw [hdata]
  have htl : t.data.toList.length = t.size := (size_eq t).symm
  by_cases hlt : i < t.size
  · rw [List.set_append_left _ _ (by omega), unsealB_of _ _ (four_len _) (by rw [List.length_set]; omega), if_neg]
    intro e
    have e1 : four (crcV 0 ⟨(t.data.toList.set i x).toArray⟩) = four (crcV 0 t) := by
      apply ByteArray.ext; exact Array.toList_inj.1 e
    have b1 := crcV_bd 0 ⟨(t.data.toList.set i x).toArray⟩
    have b2 := crcV_bd 0 t
    have e2 := four_inj b1.1 b1.2 b2.1 b2.2 e1
    have hil : i < t.data.toList.length := by omega
    have s1 : t.data.toList.set i x = t.data.toList.take i ++ x :: t.data.toList.drop (i + 1) := List.set_eq_take_append_cons_drop.trans (if_pos hil)
    have s2 : t.data.toList = t.data.toList.take i ++ t.data.toList[i] :: t.data.toList.drop (i + 1) := by rw [← List.drop_eq_getElem_cons hil, List.take_append_drop]
    have e3 : crcV 0 ⟨(t.data.toList.take i ++ x :: t.data.toList.drop (i + 1)).toArray⟩ = crcV 0 ⟨(t.data.toList.take i ++ t.data.toList[i] :: t.data.toList.drop (i + 1)).toArray⟩ := by
      rw [← s1, ← s2, mk_data]; exact e2
    exact hxl t.data.toList[i] (by rw [List.getElem?_append_left hil, List.getElem?_eq_getElem hil]) (crcV_turned _ _ _ _ e3)
  · rw [List.set_append_right _ _ (by omega), unsealB_of _ _ (by rw [List.length_set]; exact four_len _) (by omega), if_neg]
    rw [mk_data]
    intro e
    have hj : i - t.data.toList.length < (four (crcV 0 t)).data.toList.length := by rw [four_len]; omega
    have h1 : ((four (crcV 0 t)).data.toList.set (i - t.data.toList.length) x)[i - t.data.toList.length]? = some x := List.getElem?_set_self hj
    rw [← e] at h1
    exact hxl x (by rw [List.getElem?_append_right (by omega)]; exact h1) rfl

theorem xor8 (c d : Int) (c0 : 0 ≤ c) (c1 : c ≤ 255) (d0 : 1 ≤ d) (d1 : d ≤ 255) : 0 ≤ bits .xor .u8 c d ∧ bits .xor .u8 c d ≤ 255 ∧ bits .xor .u8 c d ≠ c := by
  obtain ⟨a, rfl⟩ := Int.eq_ofNat_of_zero_le c0
  obtain ⟨b, rfl⟩ := Int.eq_ofNat_of_zero_le (show 0 ≤ d by omega)
  have hx : a ^^^ b < 2 ^ 8 := Nat.xor_lt_two_pow (by omega) (by omega)
  have e : bits .xor .u8 (a : Int) (b : Int) = ((a ^^^ b : Nat) : Int) := by
    show IntKind.u8.wrap ((BitVec.ofInt 8 (a : Int) ^^^ BitVec.ofInt 8 (b : Int)).toNat : Int) = _
    rw [BitVec.ofInt_natCast, BitVec.ofInt_natCast, BitVec.toNat_xor, BitVec.toNat_ofNat, BitVec.toNat_ofNat, Nat.mod_eq_of_lt (by omega), Nat.mod_eq_of_lt (by omega), IntKind.wrap_u8]
    omega
  rw [e]
  refine ⟨by omega, by omega, fun h => ?_⟩
  have h' : a ^^^ b = a := by omega
  have : b = 0 := by
    have e2 := congrArg (fun z => a ^^^ z) h'
    simpa [← Nat.xor_assoc] using e2
  omega
end Go.Proofs.YtkhffoailfnepabGreatDoor
/-
  A scope with several labels: what holds at each jump ('J l'), and a measure that every pass lowers. After the guide's law for one label (Derived/ScopeJumps).
-/
namespace Go.Proofs.YtkhffoailfnepabGreatDoor
open Go

/-- As Q; by a goto to label l: J l. -/
def jumps (J : Nat → Act → World → Prop) (Q : Exit → Act → World → Prop) : Exit → Act → World → Prop
  | .goto l, a, w => J l a w
  | e, a, w => Q e a w

theorem wp_scope_many {P : Program} {a : Act} {w : World} {Q : Exit → Act → World → Prop} {c : Code} (R : Nat → Code) (J : Nat → Act → World → Prop) (μ : Nat → Act → World → Nat)
    (hf : ∀ l a w, J l a w → findLabel c l = some (R l))
    (N : Nat) (first : c.wp P (jumps (fun l' a' w' => J l' a' w' ∧ μ l' a' w' < N) Q) a w)
    (pass : ∀ l a w, J l a w → (R l).wp P (jumps (fun l' a' w' => J l' a' w' ∧ μ l' a' w' < μ l a w) Q) a w) : (Code.scope c).wp P Q a w := by
  intro b k cs
  have hg : ∀ l a w, J l a w → gotoIn l (.inScope c :: k) = some (.code (R l) :: .inScope c :: k) := fun l a w h => by simp [gotoIn, hf l a w h]
  have key : ∀ n l a w, μ l a w = n → J l a w → ∃ e a' w', Q e a' w' ∧ Arrives P (lone (b.at a (.code (R l) :: .inScope c :: k)) cs w) b k cs e a' w' := by
    intro n
    induction n using Nat.strongRecOn with
    | _ n ih =>
      intro l a w hn hJ
      obtain ⟨e, a₁, w₁, hq, harr⟩ := pass l a w hJ b (.inScope c :: k) cs
      cases e with
      | normal => exact ⟨.normal, a₁, w₁, hq, Steps.trans harr (.one step_inScope)⟩
      | exit id => exact ⟨.exit id, a₁, w₁, hq, fun k' hk => harr k' (by simp [exitTo, hk])⟩
      | goto l' =>
        obtain ⟨hJ', hlt⟩ := hq
        obtain ⟨e₂, a₂, w₂, hq₂, harr₂⟩ := ih _ (by omega) l' a₁ w₁ rfl hJ'
        exact ⟨e₂, a₂, w₂, hq₂, .of_steps (harr _ (hg l' a₁ w₁ hJ')) harr₂⟩
      | ret => exact ⟨_, a₁, w₁, hq, harr⟩
      | panic ch => exact ⟨_, a₁, w₁, hq, harr⟩
      | outgrown => exact ⟨_, a₁, w₁, hq, harr⟩
  obtain ⟨e, a₁, w₁, hq, harr⟩ := first b (.inScope c :: k) cs
  cases e with
  | normal => exact ⟨.normal, a₁, w₁, hq, .head step_scope (Steps.trans harr (.one step_inScope))⟩
  | exit id => exact ⟨.exit id, a₁, w₁, hq, fun k' hk => .head step_scope (harr k' (by simp [exitTo, hk]))⟩
  | goto l' =>
    obtain ⟨e₂, a₂, w₂, hq₂, harr₂⟩ := key _ l' a₁ w₁ rfl hq.1
    exact ⟨e₂, a₂, w₂, hq₂, .of_steps (.head step_scope (harr _ (hg l' a₁ w₁ hq.1))) harr₂⟩
  | ret => exact ⟨_, a₁, w₁, hq, .of_steps (.one step_scope) harr⟩
  | panic ch => exact ⟨_, a₁, w₁, hq, .of_steps (.one step_scope) harr⟩
  | outgrown => exact ⟨_, a₁, w₁, hq, .of_steps (.one step_scope) harr⟩

/-- Three labels, 0, 1 and 2. -/
def three {α : Type} (x0 x1 x2 z : α) : Nat → α
  | 0 => x0
  | 1 => x1
  | 2 => x2
  | _ => z

theorem wp_scope_three {P : Program} {a : Act} {w : World} {Q : Exit → Act → World → Prop} {c r0 r1 r2 : Code} (J0 J1 J2 : Act → World → Prop) (μ : Nat → Act → World → Nat) (N : Nat)
    (h0 : findLabel c 0 = some r0) (h1 : findLabel c 1 = some r1) (h2 : findLabel c 2 = some r2)
    (first : c.wp P (jumps (fun l' a' w' => three J0 J1 J2 (fun _ _ => False) l' a' w' ∧ μ l' a' w' < N) Q) a w)
    (pass0 : ∀ a w, J0 a w → r0.wp P (jumps (fun l' a' w' => three J0 J1 J2 (fun _ _ => False) l' a' w' ∧ μ l' a' w' < μ 0 a w) Q) a w)
    (pass1 : ∀ a w, J1 a w → r1.wp P (jumps (fun l' a' w' => three J0 J1 J2 (fun _ _ => False) l' a' w' ∧ μ l' a' w' < μ 1 a w) Q) a w)
    (pass2 : ∀ a w, J2 a w → r2.wp P (jumps (fun l' a' w' => three J0 J1 J2 (fun _ _ => False) l' a' w' ∧ μ l' a' w' < μ 2 a w) Q) a w) : (Code.scope c).wp P Q a w := by
  refine wp_scope_many (three r0 r1 r2 .skip) (three J0 J1 J2 (fun _ _ => False)) μ ?_ N first ?_
  · intro l a w h
    match l, h with
    | 0, _ => exact h0
    | 1, _ => exact h1
    | 2, _ => exact h2
    | l + 3, h => exact False.elim h
  · intro l a w h
    match l, h with
    | 0, h => exact pass0 a w h
    | 1, h => exact pass1 a w h
    | 2, h => exact pass2 a w h
    | l + 3, h => exact False.elim h
end Go.Proofs.YtkhffoailfnepabGreatDoor
