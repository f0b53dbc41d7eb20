/-
  What readBits answers: what 'scan' finds from the place on; the world stands.
  Conditions: the text is at most 8000 bytes long; the place is from 0 to the greatest int64.
-/
import Derived.Test.YtnppgldafhpchaaDoorRows
import Derived.Test.YtnppgldafhpchaaDoorBytes
import Derived.Test.YtnppgldafhpchaaDoorScanMath
import Derived.Test.YtnppgldafhpchaaDoorPutTextGetValGetTxtScopes
import Derived.Handy
namespace Go.Proofs.YtnppgldafhpchaaDoor
open Go.RowKit
set_option linter.unusedVariables false

def rbV (s : ByteArray) (a : Nat) : Value :=
  if (scanAt s a).1 = 0 then .tuple #[.int .u64 (scanAt s a).2.1, .int .i64 ((a : Int) + ((scanAt s a).2.2 : Int)), .nilIface]
  else .tuple #[.int .u64 0, .int .i64 0, .iface 95 (.agg #[.int .i64 (scanAt s a).1])]
theorem rbV_bad {s : ByteArray} {a : Nat} {c : Int} (h : c ≠ 0 ∧ scanAt s a = (c, 0, 0)) : rbV s a = .tuple #[.int .u64 0, .int .i64 0, .iface 95 (.agg #[.int .i64 c])] := by
  unfold rbV; rw [h.2, if_neg h.1]
theorem rbV_ok {s : ByteArray} {a k : Nat} {u : Int} (h : scanAt s a = (0, u, k)) : rbV s a = .tuple #[.int .u64 u, .int .i64 ((a : Int) + (k : Int)), .nilIface] := by
  unfold rbV; rw [h, if_pos rfl]
theorem ret_valB {a b : Value} (h : a = b) : Ending.returned a = .returned b := by rw [h]

def rbM (l : Nat) (a : Act) : Nat := if l = 1 then 2 + (10 - (intOf (a.tmps.getD 9 undef)).toNat) else if l = 2 then 1 else 0

def BitAt (s : ByteArray) (i k : Nat) (b : Int) : Prop := ∃ h : i < s.size, b = (s[i].toNat : Int) ∧ (b < 128 ∨ k = 9)

def rbJ0 (s : ByteArray) (a : Nat) (w : World) (a' : Act) (w' : World) : Prop :=
  w' = w ∧ ∃ (at' u b cnt cc : Int) (x11 x12 x13 x14 x15 x16 x17 x18 x19 x20 x21 x22 x23 x24 x25 x26 x27 x28 x29 x30 x31 x32 x33 x34 x35 x36 x37 x38 x39 x40 x41 x42 x43 x44 x45 x46 x47 x48 x49 x50 x51 x52 x53 x54 x55 x56 x57 x58 x59 x60 x61 x62 : Value), a' = { tmps := #[.string s, .int .i64 (at'), undef, undef, .int .u64 0, .int .i64 0, .nilIface, .int .u64 (u), .int .u8 (b), .int .u64 (cnt), .int .i64 (cc), x11, x12, x13, x14, x15, x16, x17, x18, x19, x20, x21, x22, x23, x24, x25, x26, x27, x28, x29, x30, x31, x32, x33, x34, x35, x36, x37, x38, x39, x40, x41, x42, x43, x44, x45, x46, x47, x48, x49, x50, x51, x52, x53, x54, x55, x56, x57, x58, x59, x60, x61, x62], defers := [] } ∧ Hid (cc ≠ 0 ∧ scanAt s a = (cc, 0, 0))
theorem rbJ0_mk {s : ByteArray} {a : Nat} {w : World} {at' u b cnt cc : Int} {x11 x12 x13 x14 x15 x16 x17 x18 x19 x20 x21 x22 x23 x24 x25 x26 x27 x28 x29 x30 x31 x32 x33 x34 x35 x36 x37 x38 x39 x40 x41 x42 x43 x44 x45 x46 x47 x48 x49 x50 x51 x52 x53 x54 x55 x56 x57 x58 x59 x60 x61 x62 : Value} (h : Hid (cc ≠ 0 ∧ scanAt s a = (cc, 0, 0))) : rbJ0 s a w { tmps := #[.string s, .int .i64 (at'), undef, undef, .int .u64 0, .int .i64 0, .nilIface, .int .u64 (u), .int .u8 (b), .int .u64 (cnt), .int .i64 (cc), x11, x12, x13, x14, x15, x16, x17, x18, x19, x20, x21, x22, x23, x24, x25, x26, x27, x28, x29, x30, x31, x32, x33, x34, x35, x36, x37, x38, x39, x40, x41, x42, x43, x44, x45, x46, x47, x48, x49, x50, x51, x52, x53, x54, x55, x56, x57, x58, x59, x60, x61, x62], defers := [] } w :=
  ⟨rfl, at', u, b, cnt, cc, x11, x12, x13, x14, x15, x16, x17, x18, x19, x20, x21, x22, x23, x24, x25, x26, x27, x28, x29, x30, x31, x32, x33, x34, x35, x36, x37, x38, x39, x40, x41, x42, x43, x44, x45, x46, x47, x48, x49, x50, x51, x52, x53, x54, x55, x56, x57, x58, x59, x60, x61, x62, rfl, h⟩
def rbJ1 (s : ByteArray) (a : Nat) (w : World) (a' : Act) (w' : World) : Prop :=
  w' = w ∧ ∃ (k : Nat) (u b : Int) (x11 x12 x13 x14 x15 x16 x17 x18 x19 x20 x21 x22 x23 x24 x25 x26 x27 x28 x29 x30 x31 x32 x33 x34 x35 x36 x37 x38 x39 x40 x41 x42 x43 x44 x45 x46 x47 x48 x49 x50 x51 x52 x53 x54 x55 x56 x57 x58 x59 x60 x61 x62 : Value), a' = { tmps := #[.string s, .int .i64 ((a : Int) + (k : Int)), undef, undef, .int .u64 0, .int .i64 0, .nilIface, .int .u64 (u), .int .u8 (b), .int .u64 ((k : Int)), .int .i64 (4), x11, x12, x13, x14, x15, x16, x17, x18, x19, x20, x21, x22, x23, x24, x25, x26, x27, x28, x29, x30, x31, x32, x33, x34, x35, x36, x37, x38, x39, x40, x41, x42, x43, x44, x45, x46, x47, x48, x49, x50, x51, x52, x53, x54, x55, x56, x57, x58, x59, x60, x61, x62], defers := [] } ∧ Hid (GetTo s a k u) ∧ k ≤ 9 ∧ 0 ≤ u ∧ (0 < k → a + k ≤ 8000)
theorem rbJ1_mk {s : ByteArray} {a : Nat} {w : World} {k : Nat} {at' u' cnt u b : Int} {x11 x12 x13 x14 x15 x16 x17 x18 x19 x20 x21 x22 x23 x24 x25 x26 x27 x28 x29 x30 x31 x32 x33 x34 x35 x36 x37 x38 x39 x40 x41 x42 x43 x44 x45 x46 x47 x48 x49 x50 x51 x52 x53 x54 x55 x56 x57 x58 x59 x60 x61 x62 : Value} (e1 : at' = (a : Int) + (k : Int)) (e2 : u' = u) (e3 : cnt = (k : Int)) (h : Hid (GetTo s a k u)) (h1 : k ≤ 9) (h2 : 0 ≤ u) (h3 : 0 < k → a + k ≤ 8000) : rbJ1 s a w { tmps := #[.string s, .int .i64 (at'), undef, undef, .int .u64 0, .int .i64 0, .nilIface, .int .u64 (u'), .int .u8 (b), .int .u64 (cnt), .int .i64 (4), x11, x12, x13, x14, x15, x16, x17, x18, x19, x20, x21, x22, x23, x24, x25, x26, x27, x28, x29, x30, x31, x32, x33, x34, x35, x36, x37, x38, x39, x40, x41, x42, x43, x44, x45, x46, x47, x48, x49, x50, x51, x52, x53, x54, x55, x56, x57, x58, x59, x60, x61, x62], defers := [] } w := by
  subst e1 e2 e3
  exact ⟨rfl, k, u', b, x11, x12, x13, x14, x15, x16, x17, x18, x19, x20, x21, x22, x23, x24, x25, x26, x27, x28, x29, x30, x31, x32, x33, x34, x35, x36, x37, x38, x39, x40, x41, x42, x43, x44, x45, x46, x47, x48, x49, x50, x51, x52, x53, x54, x55, x56, x57, x58, x59, x60, x61, x62, rfl, h, h1, h2, h3⟩
def rbJ2 (s : ByteArray) (a : Nat) (w : World) (a' : Act) (w' : World) : Prop :=
  w' = w ∧ ∃ (k : Nat) (u b : Int) (x11 x12 x13 x14 x15 x16 x17 x18 x19 x20 x21 x22 x23 x24 x25 x26 x27 x28 x29 x30 x31 x32 x33 x34 x35 x36 x37 x38 x39 x40 x41 x42 x43 x44 x45 x46 x47 x48 x49 x50 x51 x52 x53 x54 x55 x56 x57 x58 x59 x60 x61 x62 : Value), a' = { tmps := #[.string s, .int .i64 ((a : Int) + (k : Int) + 1), undef, undef, .int .u64 0, .int .i64 0, .nilIface, .int .u64 (u), .int .u8 (b), .int .u64 ((k : Int) + 1), .int .i64 (4), x11, x12, x13, x14, x15, x16, x17, x18, x19, x20, x21, x22, x23, x24, x25, x26, x27, x28, x29, x30, x31, x32, x33, x34, x35, x36, x37, x38, x39, x40, x41, x42, x43, x44, x45, x46, x47, x48, x49, x50, x51, x52, x53, x54, x55, x56, x57, x58, x59, x60, x61, x62], defers := [] } ∧ Hid (GetTo s a k u) ∧ k ≤ 9 ∧ 0 ≤ u ∧ a + k ≤ 8000 ∧ 0 ≤ b ∧ b ≤ 255 ∧ BitAt s (a + k) k b
theorem rbJ2_mk {s : ByteArray} {a : Nat} {w : World} {k : Nat} {at' cnt u b : Int} {x11 x12 x13 x14 x15 x16 x17 x18 x19 x20 x21 x22 x23 x24 x25 x26 x27 x28 x29 x30 x31 x32 x33 x34 x35 x36 x37 x38 x39 x40 x41 x42 x43 x44 x45 x46 x47 x48 x49 x50 x51 x52 x53 x54 x55 x56 x57 x58 x59 x60 x61 x62 : Value} (e1 : at' = (a : Int) + (k : Int) + 1) (e3 : cnt = (k : Int) + 1) (h : Hid (GetTo s a k u)) (h1 : k ≤ 9) (h2 : 0 ≤ u) (h3 : a + k ≤ 8000) (h4 : 0 ≤ b) (h5 : b ≤ 255) (h6 : BitAt s (a + k) k b) : rbJ2 s a w { tmps := #[.string s, .int .i64 (at'), undef, undef, .int .u64 0, .int .i64 0, .nilIface, .int .u64 (u), .int .u8 (b), .int .u64 (cnt), .int .i64 (4), x11, x12, x13, x14, x15, x16, x17, x18, x19, x20, x21, x22, x23, x24, x25, x26, x27, x28, x29, x30, x31, x32, x33, x34, x35, x36, x37, x38, x39, x40, x41, x42, x43, x44, x45, x46, x47, x48, x49, x50, x51, x52, x53, x54, x55, x56, x57, x58, x59, x60, x61, x62], defers := [] } w := by
  subst e1 e3
  exact ⟨rfl, k, u, b, x11, x12, x13, x14, x15, x16, x17, x18, x19, x20, x21, x22, x23, x24, x25, x26, x27, x28, x29, x30, x31, x32, x33, x34, x35, x36, x37, x38, x39, x40, x41, x42, x43, x44, x45, x46, x47, x48, x49, x50, x51, x52, x53, x54, x55, x56, x57, x58, x59, x60, x61, x62, rfl, h, h1, h2, h3, h4, h5, h6⟩

set_option maxRecDepth 20000 in
set_option maxHeartbeats 4000000 in
theorem readBits_any (s : ByteArray) (a : Nat) (w : World) (hs : s.size ≤ 8000) (h1 : (a : Int) ≤ 9223372036854775807) :
    Calls Tryd.prog 55 #[.string s, .int .i64 a] w fun e w' => e = .returned (rbV s a) ∧ w' = w := by
  go_enter Tryd.func55, Tryd.ntmps55
  go_wp2
  refine wp_scope_three (rbJ0 s a w) (rbJ1 s a w) (rbJ2 s a w) (fun l a' _ => rbM l a') 13 rfl rfl rfl ?_ ?_ ?_ ?_
  · have HT : Hid (GetTo s a 0 0) := getTo_start s a
    by_cases hl : s.size ≤ a
    · have H4 : Hid ((4 : Int) ≠ 0 ∧ scanAt s a = (4, 0, 0)) := ⟨by decide, getTo_short HT.out (by omega)⟩
      go_wp2
      go_step3
      go_wp2
      go_step3
      exact ⟨rbJ0_mk H4, by simp [rbM]⟩
    · have hin : a < s.size := by omega
      have hcb : (s[a].toNat : Int) ≤ 255 := by have := s[a].toNat_lt; omega
      by_cases hc : (s[a].toNat : Int) < 128
      · have HB : BitAt s (a + 0) 0 (s[a].toNat : Int) := ⟨hin, rfl, .inl hc⟩
        go_wp2
        go_step3
        go_wp2
        go_step3
        exact ⟨rbJ2_mk (k := 0) (by simp) (by simp) HT (by omega) (by omega) (by omega) (by omega) hcb HB, by simp [rbM]⟩
      · have HM : Hid (GetTo s a 1 (0 + ((s[a].toNat : Int) - 128) * 2 ^ (7 * 0))) := getTo_more HT.out hin (by omega) (show 128 ≤ (s[a].toNat : Int) by omega)
        have HE : Hid (bits .or .u64 0 (IntKind.u64.wrap (IntKind.u64.wrap (bits .and .u8 (s[a].toNat : Int) 127))) = 0 + ((s[a].toNat : Int) - 128) * 2 ^ (7 * 0)) := by
          show _ = _
          have e := impl_or (k := 0) (u := 0) (x := (s[a].toNat : Int) % 128) (by omega) (by omega) (by decide) (by omega) (by omega) (by omega)
          have e1 : (s[a].toNat : Int) % 128 * 2 ^ (7 * 0) = (s[a].toNat : Int) % 128 := by simp
          have e2 : ((s[a].toNat : Int) - 128) * 2 ^ (7 * 0) = (s[a].toNat : Int) - 128 := by simp
          rw [e1] at e
          rw [and127 _ (by omega) hcb, wrap_small ((s[a].toNat : Int) % 128) (by omega) (by omega), e, e2]
          omega
        go_wp2
        go_step3
        go_wp2
        go_step3
        exact ⟨rbJ1_mk (k := 1) (by go_num) HE.out (by go_num) HM (by omega) HM.out.2.1 (fun _ => by omega), by simp [rbM, intOf]⟩
  · rintro a' w' ⟨rfl, at', u, b, cnt, cc, x11, x12, x13, x14, x15, x16, x17, x18, x19, x20, x21, x22, x23, x24, x25, x26, x27, x28, x29, x30, x31, x32, x33, x34, x35, x36, x37, x38, x39, x40, x41, x42, x43, x44, x45, x46, x47, x48, x49, x50, x51, x52, x53, x54, x55, x56, x57, x58, x59, x60, x61, x62, rfl, HS⟩
    have HR : Hid (rbV s a = .tuple #[.int .u64 0, .int .i64 0, .iface 95 (.agg #[.int .i64 cc])]) := rbV_bad HS.out
    go_wp2
    simp only [jumps]
    go_ret3
    exact ⟨ret_valB HR.out.symm, rfl⟩
  · rintro a' w' ⟨rfl, k, u, b, x11, x12, x13, x14, x15, x16, x17, x18, x19, x20, x21, x22, x23, x24, x25, x26, x27, x28, x29, x30, x31, x32, x33, x34, x35, x36, x37, x38, x39, x40, x41, x42, x43, x44, x45, x46, x47, x48, x49, x50, x51, x52, x53, x54, x55, x56, x57, x58, x59, x60, x61, x62, rfl, HT, hk, hu0, hak⟩
    by_cases hl : s.size ≤ a + k
    · have H4 : Hid ((4 : Int) ≠ 0 ∧ scanAt s a = (4, 0, 0)) := ⟨by decide, getTo_short HT.out hl⟩
      go_wp2
      go_step3
      exact ⟨rbJ0_mk H4, by simp [rbM, intOf]; try omega⟩
    · have hin : a + k < s.size := by omega
      have hcb : (s[a + k].toNat : Int) ≤ 255 := by have := s[a + k].toNat_lt; omega
      by_cases hc : (s[a + k].toNat : Int) < 128
      · have HB : BitAt s (a + k) k (s[a + k].toNat : Int) := ⟨hin, rfl, .inl hc⟩
        go_wp2
        go_step3
        exact ⟨rbJ2_mk rfl rfl HT hk hu0 (by omega) (by omega) hcb HB, by simp [rbM, intOf]; try omega⟩
      · cases k9 : ((k : Int) + 1 == 10)
        · have hk8 : k ≤ 8 := by simp at k9; omega
          have HM : Hid (GetTo s a (k + 1) (u + ((s[a + k].toNat : Int) - 128) * 2 ^ (7 * k))) := getTo_more HT.out hin hk8 (by omega)
          have HE : Hid (bits .or .u64 u (IntKind.u64.wrap (IntKind.u64.wrap (bits .and .u8 (s[a + k].toNat : Int) 127) * 2 ^ (7 * k))) = u + ((s[a + k].toNat : Int) - 128) * 2 ^ (7 * k)) := by
            show _ = _
            rw [and127 _ (by omega) hcb, wrap_small ((s[a + k].toNat : Int) % 128) (by omega) (by omega), impl_or hk hu0 HT.out.2.2.1 (by omega) (by omega) (by omega), show (s[a + k].toNat : Int) % 128 = (s[a + k].toNat : Int) - 128 by omega]
          go_wp2
          go_step3
          exact ⟨rbJ1_mk (by go_num) HE.out (by go_num) HM (by omega) HM.out.2.1 (fun _ => by omega), by simp [rbM, intOf]; omega⟩
        · have HB : BitAt s (a + k) k (s[a + k].toNat : Int) := ⟨hin, rfl, .inr (by simp at k9; omega)⟩
          go_wp2
          go_step3
          exact ⟨rbJ2_mk rfl rfl HT hk hu0 (by omega) (by omega) hcb HB, by simp [rbM, intOf]; try omega⟩
  · rintro a' w' ⟨rfl, k, u, b, x11, x12, x13, x14, x15, x16, x17, x18, x19, x20, x21, x22, x23, x24, x25, x26, x27, x28, x29, x30, x31, x32, x33, x34, x35, x36, x37, x38, x39, x40, x41, x42, x43, x44, x45, x46, x47, x48, x49, x50, x51, x52, x53, x54, x55, x56, x57, x58, x59, x60, x61, x62, rfl, HT, hk, hu0, hak, hb0, hb1, HB⟩
    obtain ⟨hin, hbe, hbk⟩ := HB
    have HBE : Hid (b = (s[a + k].toNat : Int)) := hbe
    clear hbe
    by_cases hbig : k = 9 ∧ 1 < b
    · have H3 : Hid ((3 : Int) ≠ 0 ∧ scanAt s a = (3, 0, 0)) := ⟨by decide, getTo_big HT.out hin hbig.1 (by rw [← HBE.out]; exact hbig.2)⟩
      have k9 : ((k : Int) + 1 == 10) = true := by simp; omega
      have hb2 : 1 < b := hbig.2
      clear hbig hbk
      go_wp2
      go_step3
      exact ⟨rbJ0_mk H3, by simp [rbM]⟩
    have h9 : k = 9 → b ≤ 1 := fun e => by omega
    have h128 : b < 128 := by omega
    have H9 : Hid (k = 9 → b ≤ 1) := h9
    have k9i : ((k : Int) + 1 == 10) = true → b ≤ 1 := fun e => h9 (by simp at e; omega)
    have K9 : Hid (((k : Int) + 1 == 10) = true → b ≤ 1) := k9i
    clear hbig hbk h9 k9i
    by_cases hz : b = 0 ∧ 0 < k
    · have H3 : Hid ((3 : Int) ≠ 0 ∧ scanAt s a = (3, 0, 0)) := ⟨by decide, getTo_zero HT.out hin (by rw [← HBE.out]; exact hz.1) hz.2⟩
      have b0 : (b == 0) = true := by simp; omega
      have hb2 : b ≤ 0 := by omega
      have hkp : 0 < k := hz.2
      clear hz
      cases k9 : ((k : Int) + 1 == 10)
      · go_wp2
        go_step3
        exact ⟨rbJ0_mk H3, by simp [rbM]⟩
      · go_wp2
        go_step3
        exact ⟨rbJ0_mk H3, by simp [rbM]⟩
    · have hsc := getTo_ok HT.out hin (by rw [← HBE.out]; exact h128) (fun e => by rw [← HBE.out]; exact H9.out e) (fun hp hc0 => hz ⟨by rw [HBE.out]; exact hc0, hp⟩)
      have HO : Hid (bits .or .u64 u (IntKind.u64.wrap (b * 2 ^ (7 * k))) = u + b * 2 ^ (7 * k)) := impl_or hk hu0 HT.out.2.2.1 hb0 (by omega) H9.out
      have HR : Hid (rbV s a = .tuple #[.int .u64 (bits .or .u64 u (IntKind.u64.wrap (b * 2 ^ (7 * k)))), .int .i64 ((a : Int) + (k : Int) + 1), .nilIface]) := by
        show _ = _
        rw [rbV_ok hsc, ← HBE.out, HO.out]
        rfl
      have Hz : Hid ((b == 0) = true → (k : Int) ≤ 0) := fun e => by simp at e; omega
      clear hz hsc
      cases k9 : ((k : Int) + 1 == 10)
      · cases b0 : (b == 0)
        · go_wp2
          all_goals simp only [jumps]
          all_goals go_ret3
          all_goals exact ⟨ret_valB HR.out.symm, rfl⟩
        · have hk0 := Hz.out b0
          go_wp2
          all_goals simp only [jumps]
          all_goals go_ret3
          all_goals exact ⟨ret_valB HR.out.symm, rfl⟩
      · have hb2 := K9.out k9
        cases b0 : (b == 0)
        · go_wp2
          all_goals simp only [jumps]
          all_goals go_ret3
          all_goals exact ⟨ret_valB HR.out.symm, rfl⟩
        · have hk0 := Hz.out b0
          exfalso
          simp at k9; omega
end Go.Proofs.YtnppgldafhpchaaDoor
