/-
  The specification's l02Block.
-/
import Derived.Test.YtonleickhincgaaGreatDoorRows
import Derived.Test.YtonleickhincgaaGreatDoorBytesDigMath
import Derived.Test.YtonleickhincgaaGreatDoorShwKOwnBPadIMacMathSgnBDigITurn2
import Derived.Handy
import Derived.BigRegion
import Derived.Deep.QuietTactic
import Derived.BigQuiet
import Derived.Deep.RegionWith
import Derived.StillTailTactics
import Derived.WalkSmall
import Derived.WalkSpells
import Derived.Deep.AppendLies
import Derived.Deep.RegionLaw
namespace Go.Proofs.YtonleickhincgaaGreatDoor
open Go.RowKit Go.Lib
set_option linter.unusedVariables false

theorem infoU32 : (Tryz.prog.info? 198).map (fun i => (i.zero, i.size, i.bytes)) = some (some (.int .u32 0), 1, 4) := by kernel_rfl
theorem run_idx (b : ByteArray) (i : Nat) (h : i < b.size) (x : Int) (hx : x = (i : Int)) (w : World) :
    (Instr.index 9 (.string b) (.int .i64 x)).run Tryz.prog w = .ok (.int .u8 (byteAt b i)) w := by
  subst hx
  rw [run_index_string (P := Tryz.prog) w 9 b .i64 i Tryz.underlying9]
  have h2 : (0 : Int) ≤ (i : Int) ∧ (i : Int) < (b.size : Int) := by omega
  rw [dif_pos h2]
  have e : b[(i : Int).toNat]'(by omega) = b.data.toList.getD i 0 := by
    rw [List.getD_eq_getElem?_getD, List.getElem?_eq_getElem (show i < b.data.toList.length from by rw [← size_eq]; exact h)]; rfl
  rw [e]; rfl
theorem run_make_u32 (w : World) :
    (Instr.makeSlice 197 (.int .i64 64) (.int .i64 64)).run Tryz.prog w = .ok (.slice (some ⟨w.heap.size, 0, none⟩) 64 64) (w.alloc (.cells (uRow []).toArray 198)) := by
  obtain ⟨i0, hi, hz0, hz1, hz2⟩ := info_parts infoU32
  have := run_make (P := Tryz.prog) w 197 198 i0 (.int .u32 0) Tryz.underlying197 hi hz0 .i64 .i64 64 64 (by omega) (by omega) (by rw [hz2]; omega) (by omega)
  rw [this, hz1]
  have e : madeCells (Value.int IntKind.u32 0).cells (Int.toNat 64 * 1) = (uRow []).toArray := by
    apply Array.ext
    · simp [madeCells, uRow]
    · intro i h1 h2
      have e2 : (uRow []).toArray = Array.replicate 64 (Value.int .u32 0) := rfl
      simp only [e2, Array.getElem_replicate]
      simp [madeCells, Nat.mod_one, Value.cells]
  rw [e]; rfl

theorem size_alloc (w : World) (o : Obj) : (w.alloc o).heap.size = w.heap.size + 1 := by simp
theorem own_start (w : World) (o : Obj) (T : TypeId) : ((w.alloc o).alloc (.cells #[] T)).ownsRow (w.heap.size + 1) T 1 (.slice (some ⟨w.heap.size + 1, 0, none⟩) 0 0) 0 [] := by
  have h := World.ownsRow_made (base := w.heap.size + 1) (e := T) (size := 1) (w.alloc o) #[] 0 (by simp) (by unfold maxLen; omega) rfl
  rwa [size_alloc] at h
theorem own_drew {w : World} {base : Nat} {e : TypeId} {size n : Nat} {v : Value} {xs : List Value} (h : w.ownsRow base e size v n xs) : w.drew.ownsRow base e size v n xs := h
theorem w64_u32 (x y : Int) : IntKind.i64.wrap (IntKind.u32.wrap (IntKind.u32.wrap x + y)) = (x % 4294967296 + y) % 4294967296 := by simp only [IntKind.wrap_u32, IntKind.wrap_i64]; omega
theorem infoI64 : (Tryz.prog.info? 2).map (fun i => (i.zero, i.size, i.bytes)) = some (some (.int .i64 0), 1, 8) := by kernel_rfl
theorem cell_st {w wr : World} {g0 : Nat} {st : List Int} (hn : Below w.heap.size w wr) (hg : g0 < w.heap.size) (hc : ∀ i (h : i < st.length), w.cell? ⟨g0, 0 + i, none⟩ = some (.int .i64 st[i])) (hl : st.length = 8) (i : Nat) (hi : i < 8) :
    wr.cell? ⟨g0, i, none⟩ = some (.int .i64 (st.getD i 0)) := by
  have := hc i (by omega)
  rw [Nat.zero_add] at this
  rw [hn.cell hg, this, List.getD_eq_getElem?_getD, List.getElem?_eq_getElem (by omega)]; rfl
set_option maxHeartbeats 1000000 in
set_option maxRecDepth 20000 in
theorem specBlock_any (w : World) (g0 cap : Nat) (st : List Int) (b : ByteArray) (hb : b.size = 64) (hst : st.length = 8) (hg : g0 < w.heap.size)
   (hc : ∀ i (h : i < st.length), w.cell? ⟨g0, 0 + i, none⟩ = some (.int .i64 st[i])) :
    Calls Tryz.prog 100 #[.slice (some ⟨g0, 0, none⟩) 8 cap, .string b] w fun e w' => ∃ g cap', e = .returned (.slice (some ⟨g, 0, none⟩) 8 cap') ∧ g < w'.heap.size ∧ (∀ i (h : i < (blockN st b).length), w'.cell? ⟨g, 0 + i, none⟩ = some (.int .i64 (blockN st b)[i])) ∧ Below w.heap.size w w' := by
  have HC : Hid (∀ i (h : i < st.length), w.cell? ⟨g0, 0 + i, none⟩ = some (.int .i64 st[i])) := hc
  have HB : Hid (b.size = 64) := hb
  clear hc hb
  have hmk := run_make_u32
  go_enter Tryz.func100, Tryz.ntmps100
  go_wp2
  go_loopw [6] (fun i wr => ∃ k : Nat, k ≤ 16 ∧ i = .int .i64 k ∧ Hid (wr.heap[w.heap.size]? = some (.cells (uRow (wordsTo b k)).toArray 198 (0, 0))) ∧ Below w.heap.size w wr) (fun i _ => 16 - (Go.RowKit.intOf i).toNat)
  case atStart => exact ⟨0, by omega, rfl, (MapKept.heap_alloc w _).1, (Below.refl _ _).alloc (Nat.le_refl _) _⟩
  case round =>
    obtain ⟨k, hk, rfl, hrow, hnx⟩ := hrel
    have hsz : w.heap.size < wr.heap.size := lt_of_block hrow.out
    by_cases hlt : k < 16
    · --<A
      have hck := uRow_cell hrow.out (by rw [wordsTo_len]; omega) k (by omega)
      have hfk := uRow_free hrow.out k
      generalize (wordsTo b k).getD k 0 = v0 at hck
      have HW : Hid (∀ c1 c2 c3 c4, c1 = byteAt b (4 * k) → c2 = byteAt b (4 * k + 1) → c3 = byteAt b (4 * k + 2) → c4 = byteAt b (4 * k + 3) →
          (wr.setCell ⟨w.heap.size, k, none⟩ (.int .u32 (word4 c1 c2 c3 c4))).drew.heap[w.heap.size]? = some (.cells (uRow (wordsTo b (k + 1))).toArray 198 (0, 0))) := by
        show ∀ _, _
        intro c1 c2 c3 c4 e1 e2 e3 e4
        show (wr.setCell ⟨w.heap.size, k, none⟩ (.int .u32 (word4 c1 c2 c3 c4))).heap[w.heap.size]? = _
        rw [blk_set hrow.out]
        have := uRow_set (wordsTo b k) (word4 c1 c2 c3 c4) (by rw [wordsTo_len]; omega)
        rw [wordsTo_len] at this
        rw [this, e1, e2, e3, e4]; rfl
      have i1 := run_idx b (4 * k) (by have := HB.out; omega) (4 * (k : Int)) (by omega)
      have i2 := run_idx b (4 * k + 1) (by have := HB.out; omega) (4 * (k : Int) + 1) (by omega)
      have i3 := run_idx b (4 * k + 2) (by have := HB.out; omega) (4 * (k : Int) + 2) (by omega)
      have i4 := run_idx b (4 * k + 3) (by have := HB.out; omega) (4 * (k : Int) + 3) (by omega)
      have b1 := byteAt_bd b (4 * k)
      have b2 := byteAt_bd b (4 * k + 1)
      have b3 := byteAt_bd b (4 * k + 2)
      have b4 := byteAt_bd b (4 * k + 3)
      have HW' := HW.out _ _ _ _ rfl rfl rfl rfl
      generalize byteAt b (4 * k) = c1 at *
      generalize byteAt b (4 * k + 1) = c2 at *
      generalize byteAt b (4 * k + 2) = c3 at *
      generalize byteAt b (4 * k + 3) = c4 at *
      have HR : Hid ((wr.setCell ⟨w.heap.size, k, none⟩ (.int .u32 (word4 c1 c2 c3 c4))).drew.heap[w.heap.size]? = some (.cells (uRow (wordsTo b (k + 1))).toArray 198 (0, 0))) := HW'
      have HBl : Hid (Below w.heap.size w (wr.setCell ⟨w.heap.size, k, none⟩ (.int .u32 (word4 c1 c2 c3 c4))).drew) := (hnx.setCell (Nat.le_refl _) _).drew
      clear HW HW'
      go_wp2
      go_region
      go_wp2
      go_roundw
      case rel => exact ⟨k + 1, by omega, by go_num, HR, HBl.out⟩
      case measure => simp [Go.RowKit.intOf]; omega
      --A>
    · have hk16 : k = 16 := by omega
      subst hk16
      rw [show ((16 : Nat) : Int) = (16 : Int) from rfl]
      clear hlt hk
      go_wp2

      go_loopw [7] (fun i wr => ∃ m : Nat, 16 ≤ m ∧ m ≤ 64 ∧ i = .int .i64 m ∧ Hid (wr.heap[w.heap.size]? = some (.cells (uRow (schedTo b (m - 16))).toArray 198 (0, 0))) ∧ Below w.heap.size w wr) (fun i _ => 64 - (Go.RowKit.intOf i).toNat)
      case atStart => exact ⟨16, by omega, by omega, rfl, hrow, hnx⟩
      case round =>
        clear hrow hnx hsz
        obtain ⟨m, hm, hk, rfl, hrow, hnx⟩ := hrel
        have hsz : w.heap.size < wr.heap.size := lt_of_block hrow.out
        by_cases hlt : m < 64
        · --<B
          have hx := uRow_cell hrow.out (by rw [schedTo_len]; omega) (m - 15) (by omega)
          have hy := uRow_cell hrow.out (by rw [schedTo_len]; omega) (m - 2) (by omega)
          have hz := uRow_cell hrow.out (by rw [schedTo_len]; omega) (m - 16) (by omega)
          have hu := uRow_cell hrow.out (by rw [schedTo_len]; omega) (m - 7) (by omega)
          have hv := uRow_cell hrow.out (by rw [schedTo_len]; omega) m (by omega)
          have hf := uRow_free hrow.out m
          have bx := schedTo_in b (m - 16) (m - 15)
          have bY := schedTo_in b (m - 16) (m - 2)
          have bz := schedTo_in b (m - 16) (m - 16)
          have bu := schedTo_in b (m - 16) (m - 7)
          have hq : Hid (schedTo b ((m - 16) + 1) = schedTo b (m - 16) ++ [((schedTo b (m - 16)).getD (m - 16) 0 + sigA ((schedTo b (m - 16)).getD (m - 15) 0) + (schedTo b (m - 16)).getD (m - 7) 0 + sigB ((schedTo b (m - 16)).getD (m - 2) 0)) % 4294967296]) := by
            show schedTo b ((m - 16) + 1) = _
            show _ ++ [nextW _ (16 + (m - 16))] = _
            rw [show 16 + (m - 16) = m from by omega]; rfl
          generalize (schedTo b (m - 16)).getD (m - 15) 0 = x at *
          generalize (schedTo b (m - 16)).getD (m - 2) 0 = y at *
          generalize (schedTo b (m - 16)).getD (m - 16) 0 = z at *
          generalize (schedTo b (m - 16)).getD (m - 7) 0 = u at *
          generalize (schedTo b (m - 16)).getD m 0 = v at *
          obtain ⟨x0, x1⟩ := bx
          obtain ⟨y0, y1⟩ := bY
          obtain ⟨z0, z1⟩ := bz
          obtain ⟨u0, u1⟩ := bu
          have HW : Hid ((wr.setCell ⟨w.heap.size, m, none⟩ (.int .u32 ((z + sigA x + u + sigB y) % 4294967296))).drew.heap[w.heap.size]? = some (.cells (uRow (schedTo b (m + 1 - 16))).toArray 198 (0, 0))) := by
            show (wr.setCell ⟨w.heap.size, m, none⟩ (.int .u32 ((z + sigA x + u + sigB y) % 4294967296))).heap[w.heap.size]? = _
            rw [blk_set hrow.out]
            have := uRow_set (schedTo b (m - 16)) ((z + sigA x + u + sigB y) % 4294967296) (by rw [schedTo_len]; omega)
            rw [schedTo_len, show 16 + (m - 16) = m from by omega] at this
            rw [this, show m + 1 - 16 = (m - 16) + 1 from by omega, hq.out]
          have HBl : Hid (Below w.heap.size w (wr.setCell ⟨w.heap.size, m, none⟩ (.int .u32 ((z + sigA x + u + sigB y) % 4294967296))).drew) := (hnx.setCell (Nat.le_refl _) _).drew
          clear hq
          have j1 : (16 : Int) ≤ (m : Int) := by omega
          have j2 : (m : Int) - 16 < 64 := by omega
          have j3 : (7 : Int) ≤ (m : Int) := by omega
          have j4 : (m : Int) - 7 < 64 := by omega
          have j5 : (m : Int) < 64 := by omega
          have t1 : ((m : Int) - 16).toNat = m - 16 := by omega
          have t2 : ((m : Int) - 7).toNat = m - 7 := by omega
          have jw1 : IntKind.i64.wrap ((m : Int) - 16) = (m : Int) - 16 := by rw [IntKind.wrap_i64]; omega
          have jw2 : IntKind.i64.wrap ((m : Int) - 7) = (m : Int) - 7 := by rw [IntKind.wrap_i64]; omega
          go_wp2
          refine wp_region_still_tail 32 (by kernel_rfl) (by kernel_rfl) ?_
          simp only [List.take_succ_cons, List.take_zero, List.drop_succ_cons, List.drop_zero]
          repeat first
            | still_step
            | still_call (specTurn_c _ _ _ (by assumption) (by assumption) (by decide) (by decide))
          refine wpStill_nil ?_
          go_wp2
          go_roundw
          case rel => exact ⟨m + 1, by omega, by omega, by go_num, HW, HBl.out⟩
          case measure => simp [Go.RowKit.intOf]; omega
          --B>
        · have hm64 : m = 64 := by omega
          subst hm64
          rw [show ((64 : Nat) : Int) = (64 : Int) from rfl]
          clear hlt hk hm
          have HW : Hid (wr.heap[w.heap.size]? = some (.cells (uRow (schedTo b 48)).toArray 198 (0, 0))) := hrow
          clear hrow
          have c0 := cell_st hnx hg HC.out hst 0 (by omega)
          have c1 := cell_st hnx hg HC.out hst 1 (by omega)
          have c2 := cell_st hnx hg HC.out hst 2 (by omega)
          have c3 := cell_st hnx hg HC.out hst 3 (by omega)
          have c4 := cell_st hnx hg HC.out hst 4 (by omega)
          have c5 := cell_st hnx hg HC.out hst 5 (by omega)
          have c6 := cell_st hnx hg HC.out hst 6 (by omega)
          have c7 := cell_st hnx hg HC.out hst 7 (by omega)
          have HS : Hid (s8Of st = ⟨st.getD 0 0 % 4294967296, st.getD 1 0 % 4294967296, st.getD 2 0 % 4294967296, st.getD 3 0 % 4294967296, st.getD 4 0 % 4294967296, st.getD 5 0 % 4294967296, st.getD 6 0 % 4294967296, st.getD 7 0 % 4294967296⟩) := rfl
          generalize st.getD 0 0 = x0 at *
          generalize st.getD 1 0 = x1 at *
          generalize st.getD 2 0 = x2 at *
          generalize st.getD 3 0 = x3 at *
          generalize st.getD 4 0 = x4 at *
          generalize st.getD 5 0 = x5 at *
          generalize st.getD 6 0 = x6 at *
          generalize st.getD 7 0 = x7 at *
          go_wp2
          go_quiet (fail)
          go_wp2
          go_quiet (fail)
          go_wp2_with (go_at_call 150; refine (specKeys_any _).mono ?_; rintro e w' ⟨rfl, rfl⟩)
          go_loopw [19, 10, 11, 12, 13, 14, 15, 16, 17] (fun i a1 b1 c1 d1 e1 f1 g1 h1 w3 => ∃ k : Nat, k ≤ 64 ∧ i = .int .i64 k ∧ (∃ s : S8, s.In ∧ s = rounds (schedTo b 48) (s8Of st) k ∧ a1 = .int .u32 s.a ∧ b1 = .int .u32 s.b ∧ c1 = .int .u32 s.c ∧ d1 = .int .u32 s.d ∧ e1 = .int .u32 s.e ∧ f1 = .int .u32 s.f ∧ g1 = .int .u32 s.g ∧ h1 = .int .u32 s.h) ∧
              Hid (w3.heap[w.heap.size]? = some (.cells (uRow (schedTo b 48)).toArray 198 (0, 0))) ∧ Hid (w3.heap[wr.heap.size]? = some (.cells (keysN.map (Value.int .u32)).toArray 198 (0, 0))) ∧ Below w.heap.size w w3) (fun i _ _ _ _ _ _ _ _ _ => 64 - (Go.RowKit.intOf i).toNat)
          case atStart =>
            refine ⟨0, by omega, rfl, ⟨s8Of st, s8Of_in st, rfl, ?_⟩, ?_, ?_, ?_⟩
            · rw [HS.out]; exact ⟨rfl, rfl, rfl, rfl, rfl, rfl, rfl, rfl⟩
            · show (World.alloc _ _).heap[w.heap.size]? = _
              rw [Below.heap_alloc _ _ _ (by simpa using hsz)]
              simpa using HW.out
            · show (World.alloc _ _).heap[wr.heap.size]? = _
              simp [World.alloc]
            · exact (below_drewN hnx _).alloc (by simp; omega) _
          case round =>
            clear HW HS c0 c1 c2 c3 c4 c5 c6 c7
            obtain ⟨k, hk, rfl, ⟨s, hs, hsr, rfl, rfl, rfl, rfl, rfl, rfl, rfl, rfl⟩, hrow, hkey, hnx3⟩ := hrel
            by_cases hlt : k < 64
            · --<C
              have c1 := uRow_cell hrow.out (by rw [schedTo_len]; omega) k (by omega)
              have c2 := keysRow hkey.out k (by omega)
              have b1 := schedTo_in b 48 k
              have b2 := keys_in k
              have HR : Hid (rounds (schedTo b 48) (s8Of st) (k + 1) = rnd (keysN.getD k 0) ((schedTo b 48).getD k 0) s) := by
                show _ = _
                rw [hsr]; rfl
              have HI : Hid ((rnd (keysN.getD k 0) ((schedTo b 48).getD k 0) s).In) := rnd_in hs
              generalize (schedTo b 48).getD k 0 = x at *
              generalize keysN.getD k 0 = y at *
              obtain ⟨x0, x1⟩ := b1
              obtain ⟨y0, y1⟩ := b2
              clear hsr
              obtain ⟨A, B, C, D, E, F, G, H⟩ := s
              obtain ⟨⟨a0, a1⟩, ⟨b0, b1⟩, ⟨c0, c1'⟩, ⟨d0, d1⟩, ⟨e0, e1⟩, ⟨f0, f1⟩, ⟨g0', g1⟩, ⟨h0, h1⟩⟩ := hs
              dsimp only at *
              have j5 : (k : Int) < 64 := by omega
              go_wp2
              refine wp_region_still_tail 29 (by kernel_rfl) (by kernel_rfl) ?_
              simp only [List.take_succ_cons, List.take_zero, List.drop_succ_cons, List.drop_zero]
              repeat first
                | still_step
                | still_call (specTurn_c _ _ _ (by assumption) (by assumption) (by decide) (by decide))
              refine wpStill_nil ?_
              go_wp2_with (go_at_call 149; refine (specTurn_c _ _ _ (by assumption) (by assumption) (by decide) (by decide)).mono ?_; rintro e w' ⟨rfl, rfl⟩)
              go_roundw
              case rel => exact ⟨k + 1, by omega, by go_num, ⟨_, HI.out, HR.out.symm, rfl, rfl, rfl, rfl, rfl, rfl, rfl, rfl⟩, hrow, hkey, hnx3.drew⟩
              case measure => simp [Go.RowKit.intOf]; omega
              --C>
            · have hk64 : k = 64 := by omega
              subst hk64
              rw [show ((64 : Nat) : Int) = (64 : Int) from rfl]
              rename World => W3
              clear hlt hk hrow hkey
              have HR : Hid (blockN st b = blkOf st s) := by show _ = _; rw [hsr]; rfl
              clear hsr
              have hw3 := hnx3.size
              obtain ⟨i0, hi, hz0, hz1, hz2⟩ := info_parts infoI64
              go_wp2
              go_loopw [24, 23] (fun i v w4 => ∃ (k g cap : Nat), k ≤ 8 ∧ i = .int .i64 k ∧ v = .slice (some ⟨g, 0, none⟩) k cap ∧ w4.ownsRow (W3.heap.size + 1) 2 1 (.slice (some ⟨g, 0, none⟩) k cap) k (((blkOf st s).take k).map (Value.int .i64)) ∧ Below (W3.heap.size + 1) (W3.alloc (.cells ((s8L s).map (Value.int .u32)).toArray 198)) w4) (fun i _ _ => 8 - (Go.RowKit.intOf i).toNat)
              case atStart =>
                exact ⟨0, W3.heap.size + 1, 0, by omega, rfl, by simp, own_start W3 _ _, (Below.refl _ _).alloc (by rw [size_alloc]; exact Nat.le_refl _) _⟩
              case round =>
                obtain ⟨k, g, cap', hk, rfl, rfl, hown, hnx4⟩ := hrel
                have hsz4 := hnx4.size
                rw [size_alloc] at hsz4
                have hb4 := (hnx3.alloc hw3 (.cells ((s8L s).map (Value.int .u32)).toArray 198)).trans (hnx4.mono (Nat.le_succ_of_le hw3))
                by_cases hlt : k < 8
                · --<D
                  have c1 := cell_st hb4 hg HC.out hst k hlt
                  have c2 : wr.cell? ⟨W3.heap.size, k, none⟩ = some (.int .u32 ((s8L s).getD k 0)) := (hnx4.cell (p := ⟨_, k, none⟩) (Nat.lt_succ_self _)).trans ((World.cell?_alloc_mark _ _ _ _ _).trans (s8L_at s k hlt))
                  have HT : Hid ((blkOf st s).take (k + 1) = (blkOf st s).take k ++ [(st.getD k 0 % 4294967296 + (s8L s).getD k 0) % 4294967296]) := blkOf_take st s k hlt
                  obtain ⟨y0, y1⟩ := s8L_in hs k hlt
                  generalize st.getD k 0 = x at *
                  generalize (s8L s).getD k 0 = y at *
                  have j5 : (k : Int) < 8 := by omega
                  go_wp2
                  go_region_law (refine step_append_lies _ rfl _ _ 85 rfl (W3.heap.size + 1) 2 i0 (.int .i64 0) 1 8 Tryz.underlying85 hi hz0 hz1 hz2 rfl (by omega) _ k _ rfl (own_drew (hown.alloc _)) ⟨wr.heap.size, 0, none⟩ 1 1 [.int .i64 (IntKind.i64.wrap (IntKind.u32.wrap (IntKind.u32.wrap x + y)))] rfl rfl (World.news_of_block (cs := #[.int .i64 (IntKind.i64.wrap (IntKind.u32.wrap (IntKind.u32.wrap x + y)))]) (t := 2) (fr := (0, 0)) (heap_alloc_new wr _)) (by simp [Value.oneCell']) (by omega) (by unfold maxLen; omega) (by omega) (by simp; omega) (wr.heap.size + 1) (by simp) ?_; intro g2 cap2 w2 hown2 hgrow hat hltg)
                  all_goals (
                    have hb2 : Below (W3.heap.size + 1) (W3.alloc (.cells ((s8L s).map (Value.int .u32)).toArray 198)) w2 := (hnx4.alloc hsz4 _).drew.grown hgrow (Nat.le_trans (Nat.le_succ_of_le hsz4) (Nat.le_of_eq (size_alloc wr _).symm)) (fun j hj => (hown.lt j hj).1)
                    have ho2 : w2.ownsRow (W3.heap.size + 1) 2 1 (.slice (some ⟨g2, 0, none⟩) (k + 1) cap2) (k + 1) (((blkOf st s).take (k + 1)).map (Value.int .i64)) := by rw [HT.out, List.map_append]; rw [w64_u32] at hown2; exact hown2
                    go_wp2
                    go_roundw
                    case rel => exact ⟨k + 1, g2, cap2, by omega, by go_num, rfl, ho2, hb2⟩
                    case measure => simp [Go.RowKit.intOf]; omega)
                  --D>
                · have hk8 : k = 8 := by omega
                  subst hk8
                  clear hlt
                  go_wp2
                  go_ret
                  refine ⟨g, cap', rfl, (hown.lt g rfl).2, ?_, hb4⟩
                  intro i hi
                  have hi8 := hi
                  rw [HR.out, blkOf_len] at hi8
                  have hh := hown.cellAt i (by omega)
                  rw [Nat.zero_add, hh, List.take_of_length_le (by rw [blkOf_len]; omega), List.getElem?_map]
                  simp only [HR.out]
                  rw [List.getElem?_eq_getElem (by rw [blkOf_len]; omega)]; rfl

end Go.Proofs.YtonleickhincgaaGreatDoor
