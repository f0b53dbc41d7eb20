/-
  What DrawPutNum and DrawPutText answer: some int64; some text (short, or of 19999 to 20001 bytes).
  Conditions: the code's bytes are there, at most 2^20 of them.
-/
import Derived.Test.YtfjiidicnimeeaaDoorRows
import Derived.Test.YtfjiidicnimeeaaDoorBytes
import Derived.Test.YtfjiidicnimeeaaDoorSrc
import Derived.Test.YtfjiidicnimeeaaDoorDraws
import Derived.Handy
import Derived.WalkSpells
import Derived.Laws.BytesArg
namespace Go.Proofs.YtfjiidicnimeeaaDoor
open Go.RowKit Go.Lib
set_option linter.unusedVariables false

theorem infoU8s : (Tryd.prog.info? 5).map (fun i => (i.zero, i.size, i.bytes)) = some (some (.int .u8 0), 1, 1) := by kernel_rfl
theorem run_make_u8s (n : Nat) (hn : n ≤ 281474976710656) (w : World) :
    (Instr.makeSlice 22 (.int .i64 (n : Int)) (.int .i64 (n : Int))).run Tryd.prog w = .ok (.slice (some ⟨w.heap.size, 0, none⟩) n n) (w.alloc (.cells (zrow n).toArray 5)) := by
  obtain ⟨i0, hi, hz0, hz1, hz2⟩ := info_parts infoU8s
  have := run_make (P := Tryd.prog) w 22 5 i0 (.int .u8 0) Tryd.underlying22 hi hz0 .i64 .i64 (n : Int) (n : Int) (by omega) (by omega) (by rw [hz2]; omega) (by omega)
  rw [this, hz1]
  simp only [Int.toNat_natCast, Nat.mul_one]
  rw [← madeZ]; rfl
theorem zconv (n : Nat) (w : World) :
    (convert 22 9 (.slice (some ⟨w.heap.size, 0, none⟩) n n)).run Tryd.prog (w.alloc (.cells (zrow n).toArray 5)) = .ok (.string (strOfNums (List.replicate n 0))) (w.alloc (.cells (zrow n).toArray 5)) :=
  run_convert_bytes_arg (P := Tryd.prog) _ 22 5 Tryd.underlying22 Tryd.underlying5 w.heap.size 0 n n (List.replicate n 0) (by simp) (fun i hi => by
    rw [World.cell?_alloc_mark]; simp [zrow, hi]) 9 Tryd.underlying9

/-- The code's bytes lie there, below B. -/
def CodeAt (B : Nat) (a : Option Addr) (len : Nat) (w : World) : Prop :=
  len = 0 ∨ ∃ xb xo, a = some ⟨xb, xo, none⟩ ∧ xb < B ∧ ∀ i, i < len → ∃ c : Int, 0 ≤ c ∧ c ≤ 255 ∧ w.cell? ⟨xb, xo + i, none⟩ = some (.int .u8 c)
theorem CodeAt.below {B : Nat} {a : Option Addr} {len : Nat} {w w' : World} (h : CodeAt B a len w) (hb : Below B w w') : CodeAt B a len w' := by
  rcases h with h | ⟨xb, xo, ha, hx, hc⟩
  · exact .inl h
  · refine .inr ⟨xb, xo, ha, hx, fun i hi => ?_⟩
    obtain ⟨c, c0, c1, hci⟩ := hc i hi
    exact ⟨c, c0, c1, by rw [hb.cell (p := ⟨xb, xo + i, none⟩) hx]; exact hci⟩
/-- What a step on a source of the call's own leaves. -/
theorem below_touch {w w1 w2 : World} {p : Nat} (h : Below w.heap.size w w1) (k : w1.grownBy w2 (some p)) (hp : w.heap.size ≤ p) : Below w.heap.size w w2 :=
  h.grown k h.size (fun j hj => by cases hj; exact hp)

set_option maxHeartbeats 2000000 in
theorem l01Any_any (B p : Nat) (a : Option Addr) (len cap : Nat) (w : World) (hs : Src 52 B p a len cap w) :
    Calls Tryd.prog 13 #[.pointer (some ⟨p, 0, none⟩)] w fun e w' =>
      (∃ r, e = .returned (.int .i64 r) ∧ -9223372036854775808 ≤ r ∧ r ≤ 9223372036854775807) ∧ Src 52 B p a len cap w' ∧ w.grownBy w' (some p) := by
  have HS : Hid (Src 52 B p a len cap w) := hs
  clear hs
  go_enter Tryd.func13, Tryd.ntmps13
  go_wp2_with fail
  refine (one_any B p a len cap 4 _ HS.out (by omega)).mono ?_
  rintro e w1 ⟨⟨q, rfl⟩, hs1, hg1⟩
  have H1 : Hid (Src 52 B p a len cap w1) := hs1
  clear hs1
  cases q
  · go_wp2_with fail
    refine (n_any B p a len cap 1099511627776 _ H1.out (by omega)).mono ?_
    rintro e w2 ⟨⟨r, rfl, hr0, hr1, _⟩, hs2, hg2⟩
    have hr2 : r < 1099511627776 := hr1 (by omega)
    have H2 : Hid (Src 52 B p a len cap w2) := hs2
    have hg3 := touch_trans hg1 hg2
    clear hs2 hg1 hg2 hr1 H1
    go_wp2_with fail
    go_ret
    exact ⟨⟨_, rfl, by omega, by omega⟩, H2.out, hg3⟩
  · go_wp2_with fail
    refine (edge_any B p a len cap _ H1.out).mono ?_
    rintro e w2 ⟨⟨r, rfl, hr0, hr1⟩, hs2, hg2⟩
    have H2 : Hid (Src 52 B p a len cap w2) := hs2
    have hg3 := touch_trans hg1 hg2
    clear hs2 hg1 hg2 H1
    go_wp2_with fail
    go_ret
    exact ⟨⟨_, rfl, hr0, hr1⟩, H2.out, hg3⟩

set_option maxHeartbeats 2000000 in
theorem drawPutNum_any (B : Nat) (a : Option Addr) (len cap : Nat) (w : World) (hlen : len ≤ 1048576) (hB : B ≤ w.heap.size) (hc : CodeAt B a len w) :
    Calls Tryd.prog 4 #[.slice a len cap] w fun e w' => (∃ r, e = .returned (.int .i64 r) ∧ -9223372036854775808 ≤ r ∧ r ≤ 9223372036854775807) ∧ Below w.heap.size w w' := by
  have HC : Hid (CodeAt B a len w) := hc
  clear hc
  go_enter Tryd.func4, Tryd.ntmps4
  go_wp2_with fail
  refine (source_any B a len cap w hlen hB HC.out).mono ?_
  rintro e w1 ⟨rfl, hs1, hb1⟩
  have H1 : Hid (Src 52 B w.heap.size a len cap w1) := hs1
  clear hs1
  go_wp2_with fail
  refine (l01Any_any B w.heap.size a len cap _ H1.out).mono ?_
  rintro e w2 ⟨⟨r, rfl, hr0, hr1⟩, hs2, hg2⟩
  have hb2 := below_touch hb1 hg2 (Nat.le_refl _)
  clear hs2 hg2 hb1 H1
  go_wp2_with fail
  go_ret
  exact ⟨⟨_, rfl, hr0, hr1⟩, hb2⟩

set_option maxHeartbeats 2000000 in
theorem drawPutText_any (B : Nat) (a : Option Addr) (len cap : Nat) (w : World) (hlen : len ≤ 1048576) (hB : B ≤ w.heap.size) (hc : CodeAt B a len w) :
    Calls Tryd.prog 8 #[.slice a len cap] w fun e w' => (∃ t : ByteArray, e = .returned (.string t) ∧ (t.size ≤ 19 ∨ 8000 < t.size) ∧ t.size ≤ 20001) ∧ Below w.heap.size w w' := by
  have HC : Hid (CodeAt B a len w) := hc
  clear hc
  go_enter Tryd.func8, Tryd.ntmps8
  go_wp2_with fail
  refine (source_any B a len cap w hlen hB HC.out).mono ?_
  rintro e w1 ⟨rfl, hs1, hb1⟩
  have H1 : Hid (Src 52 B w.heap.size a len cap w1) := hs1
  clear hs1
  go_wp2_with fail
  refine (one_any B w.heap.size a len cap 8 _ H1.out (by omega)).mono ?_
  rintro e w2 ⟨⟨r, rfl⟩, hs2, hg2⟩
  have H2 : Hid (Src 52 B w.heap.size a len cap w2) := hs2
  have hb2 := below_touch hb1 hg2 (Nat.le_refl _)
  clear hs2 hg2 hb1 H1
  cases r
  · go_wp2_with fail
    refine (n_any B w.heap.size a len cap 20 _ H2.out (by omega)).mono ?_
    rintro e w3 ⟨⟨r, rfl, hr0, hr1, _⟩, hs3, hg3⟩
    have hr2 : r < 20 := hr1 (by omega)
    have H3 : Hid (Src 52 B w.heap.size a len cap w3) := hs3
    have hb3 := below_touch hb2 hg3 (Nat.le_refl _)
    clear hs3 hg3 hb2 H2 hr1
    go_wp2_with fail
    refine (bytes_any B w.heap.size a len cap r _ H3.out (by omega)).mono ?_
    rintro e w4 ⟨⟨t, rfl, ht⟩, hs4, hg4⟩
    have HT : Hid (t.size = r.toNat) := ht
    have hb4 := below_touch hb3 hg4 (Nat.le_refl _)
    clear hs4 hg4 hb3 H3 ht
    go_wp2_with fail
    go_ret
    exact ⟨⟨t, rfl, by have := HT.out; omega, by have := HT.out; omega⟩, hb4⟩
  · go_wp2_with fail
    refine (n_any B w.heap.size a len cap 3 _ H2.out (by omega)).mono ?_
    rintro e w3 ⟨⟨r, rfl, hr0, hr1, _⟩, hs3, hg3⟩
    have hr2 : r < 3 := hr1 (by omega)
    have hb3 := below_touch hb2 hg3 (Nat.le_refl _)
    clear hs3 hg3 hb2 H2 hr1
    obtain ⟨k, rfl⟩ := Int.eq_ofNat_of_zero_le hr0
    have hmk : ∀ W : World, (Instr.makeSlice 22 (.int .i64 (19999 + (k : Int))) (.int .i64 (19999 + (k : Int)))).run Tryd.prog W = .ok (.slice (some ⟨W.heap.size, 0, none⟩) (19999 + k) (19999 + k)) (W.alloc (.cells (zrow (19999 + k)).toArray 5)) := by
      intro W
      have := run_make_u8s (19999 + k) (by omega) W
      rw [show (((19999 + k : Nat)) : Int) = 19999 + (k : Int) by omega] at this
      exact this
    have hzc := zconv (19999 + k) w3
    go_wp2_with fail
    go_ret
    exact ⟨⟨_, rfl, by rw [strOfNums_size, List.length_replicate]; omega, by rw [strOfNums_size, List.length_replicate]; omega⟩, hb3.alloc hb3.size _⟩
end Go.Proofs.YtfjiidicnimeeaaDoor
