/-
  The program's takeBlock: a state of eight numbers and a block of 64 bytes: the state behind it, 'blockN'.
  Conditions: the state's numbers are from 0 to 2^32 - 1; the slice holds the block's bytes; the table of the rounds' numbers lies as the program's text lays it.
-/
import Derived.Test.YtonleickhincgaaGreatDoorRows
import Derived.Test.YtonleickhincgaaGreatDoorBytesDigMath
import Derived.Test.YtonleickhincgaaGreatDoorTurnI
import Derived.Test.YtonleickhincgaaGreatDoorWholeR
import Derived.Test.YtonleickhincgaaGreatDoorNumsI
import Derived.Handy
import Derived.BigRegion
import Derived.Deep.QuietTactic
import Derived.BigQuiet
import Derived.StillTailTactics
import Derived.WalkSmall
namespace Go.Proofs.YtonleickhincgaaGreatDoor
open Go.RowKit Go.Lib
set_option linter.unusedVariables false

def Tabs (w : World) : Prop := 1 < w.heap.size ∧ (∀ i, i < 64 → w.cell? ⟨1, i, none⟩ = some (.int .u32 (keysN.getD i 0))) ∧ (∀ i, i < 8 → w.cell? ⟨0, i, none⟩ = some (.int .u32 (startN.getD i 0)))
theorem Tabs.below {w w' : World} {B : Nat} (h : Tabs w) (hb : Below B w w') (hB : 1 < B) : Tabs w' :=
  ⟨Nat.lt_of_lt_of_le h.1 hb.size, fun i hi => (hb.cell (p := ⟨1, i, none⟩) hB).trans (h.2.1 i hi), fun i hi => (hb.cell (p := ⟨0, i, none⟩) (Nat.lt_of_le_of_lt (show 0 ≤ 1 by decide) hB)).trans (h.2.2 i hi)⟩
theorem under8 : Tryz.prog.underlying 233 = some (.array (Tryz.prog.arrayLen 233) (Tryz.prog.elem 233)) := by kernel_rfl
theorem len8 : Tryz.prog.arrayLen 233 = 8 := by kernel_rfl
theorem info8 : (Tryz.prog.info? 233).map (·.size) = some 8 := by kernel_rfl
def u8Row (l : List Int) : Array Value := (l.map (Value.int .u32)).toArray
theorem u8Row_size (l : List Int) : (u8Row l).size = l.length := by simp [u8Row]
theorem u8Row_one (l : List Int) : (u8Row l).all (·.oneCell') = true := by simp [u8Row, Value.oneCell']
theorem u8Row_cell {w : World} {g : Nat} {l : List Int} {T : TypeId} (h : w.heap[g]? = some (.cells (u8Row l) T (0, 0))) (i : Nat) (hi : i < l.length) : w.cell? ⟨g, i, none⟩ = some (.int .u32 (l.getD i 0)) := by
  simp [World.cell?, h, u8Row, List.getElem?_eq_getElem hi, List.getD_eq_getElem?_getD]
def partS (st : List Int) (s : S8) (k : Nat) : List Int := (blkOf st s).take k ++ st.drop k
theorem partS_len (st : List Int) (s : S8) (k : Nat) (h : st.length = 8) (hk : k ≤ 8) : (partS st s k).length = 8 := by
  simp [partS, blkOf_len]; omega
theorem partS_at (st : List Int) (s : S8) (k : Nat) (h : st.length = 8) (hk : k < 8) : (partS st s k).getD k 0 = st.getD k 0 := by
  unfold partS
  rw [List.getD_eq_getElem?_getD, List.getElem?_append_right (by simp [blkOf_len]; omega)]
  simp [blkOf_len, Nat.min_eq_left (show k ≤ 8 by omega), List.getD_eq_getElem?_getD]
theorem partS_set (st : List Int) (s : S8) (k : Nat) (h : st.length = 8) (hk : k < 8) (v : Int) (hv : v = (st.getD k 0 % 4294967296 + (s8L s).getD k 0) % 4294967296) :
    (u8Row (partS st s k)).setIfInBounds k (.int .u32 v) = u8Row (partS st s (k + 1)) := by
  have e1 : st.drop k = st.getD k 0 :: st.drop (k + 1) := by
    rw [List.drop_eq_getElem_cons (by omega), List.getD_eq_getElem?_getD, List.getElem?_eq_getElem (by omega)]; rfl
  have e2 : ((blkOf st s).take k).length = k := by rw [List.length_take, blkOf_len]; omega
  unfold u8Row partS
  rw [e1, blkOf_take st s k hk, ← hv]
  have e3 : (List.map (Value.int .u32) ((blkOf st s).take k)).length = k := by rw [List.length_map, e2]
  rw [List.map_append, List.map_append, List.map_append, List.map_cons, List.map_cons, List.map_nil, List.append_assoc, List.setIfInBounds_toArray]
  rw [List.set_append_right k _ (by omega), e3, Nat.sub_self]
  rfl

theorem World.cell?_two {w : World} (o1 o2 : Obj) (g i : Nat) (h : g < w.heap.size) : ((w.alloc o1).alloc o2).cell? ⟨g, i, none⟩ = w.cell? ⟨g, i, none⟩ := by
  have h1 : ((w.alloc o1).alloc o2).heap[g]? = w.heap[g]? := (Below.heap_alloc _ o2 g (by simp; omega)).trans (Below.heap_alloc _ o1 g h)
  exact World.cell?_of_block h1
theorem uRow_size (b : ByteArray) : (uRow (schedTo b 48)).toArray.size = 64 := by rw [List.size_toArray, uRow_len _ (by rw [schedTo_len]; omega)]
theorem tOne_eq (key x : Int) (s : S8) : tOne key x s = (s.h + sumE s.e + chE s.e s.f s.g + key + x) % 4294967296 := by unfold tOne; omega
theorem idx8 (s : S8) (k : Nat) (hk : k < 8) (w : World) : (Instr.index 233 (.agg #[.int .u32 s.a, .int .u32 s.b, .int .u32 s.c, .int .u32 s.d, .int .u32 s.e, .int .u32 s.f, .int .u32 s.g, .int .u32 s.h]) (.int .i64 (k : Int))).run Tryz.prog w = .ok (.int .u32 ((s8L s).getD k 0)) w := by
  have h2 : (0 : Int) ≤ (k : Int) ∧ (k : Int) < 8 := by omega
  match k, hk with
  | 0, _ => simp [Instr.index, run_underlying under8, asIntOf, go_sem, s8L]
  | 1, _ => simp [Instr.index, run_underlying under8, asIntOf, go_sem, s8L]
  | 2, _ => simp [Instr.index, run_underlying under8, asIntOf, go_sem, s8L]
  | 3, _ => simp [Instr.index, run_underlying under8, asIntOf, go_sem, s8L]
  | 4, _ => simp [Instr.index, run_underlying under8, asIntOf, go_sem, s8L]
  | 5, _ => simp [Instr.index, run_underlying under8, asIntOf, go_sem, s8L]
  | 6, _ => simp [Instr.index, run_underlying under8, asIntOf, go_sem, s8L]
  | 7, _ => simp [Instr.index, run_underlying under8, asIntOf, go_sem, s8L]
theorem store64 (w3 : World) (row : Array Value) (h : row.size = 64) (h1 : row.all (·.oneCell') = true) :
    (storeVar 252 ⟨w3.heap.size, 0, none⟩ (.agg row)).run Tryz.prog (w3.alloc (.cells #[.int .u32 0, .int .u32 0, .int .u32 0, .int .u32 0, .int .u32 0, .int .u32 0, .int .u32 0, .int .u32 0, .int .u32 0, .int .u32 0, .int .u32 0, .int .u32 0, .int .u32 0, .int .u32 0, .int .u32 0, .int .u32 0, .int .u32 0, .int .u32 0, .int .u32 0, .int .u32 0, .int .u32 0, .int .u32 0, .int .u32 0, .int .u32 0, .int .u32 0, .int .u32 0, .int .u32 0, .int .u32 0, .int .u32 0, .int .u32 0, .int .u32 0, .int .u32 0, .int .u32 0, .int .u32 0, .int .u32 0, .int .u32 0, .int .u32 0, .int .u32 0, .int .u32 0, .int .u32 0, .int .u32 0, .int .u32 0, .int .u32 0, .int .u32 0, .int .u32 0, .int .u32 0, .int .u32 0, .int .u32 0, .int .u32 0, .int .u32 0, .int .u32 0, .int .u32 0, .int .u32 0, .int .u32 0, .int .u32 0, .int .u32 0, .int .u32 0, .int .u32 0, .int .u32 0, .int .u32 0, .int .u32 0, .int .u32 0, .int .u32 0, .int .u32 0] 252)) = .ok () (w3.alloc (.cells row 252)) :=
  run_storeVar_new (P := Tryz.prog) w3 252 _ row (by rw [h]; exact info64) (by rw [h]; rfl) h1
set_option maxHeartbeats 1000000 in
set_option maxRecDepth 20000 in
theorem blockI_any (w : World) (st : List Int) (gb off cap : Nat) (b : ByteArray) (hcap : 64 ≤ cap) (hg : gb < w.heap.size) (ht : Tabs w) (hst : st.length = 8) (hin : ∀ i, i < 8 → 0 ≤ st.getD i 0 ∧ st.getD i 0 ≤ 4294967295)
   (hc : ∀ i, i < 64 → w.cell? ⟨gb, off + i, none⟩ = some (.int .u8 (byteAt b i))) :
    Calls Tryz.prog 196 #[.agg (u8Row st), .slice (some ⟨gb, off, none⟩) 64 cap] w fun e w' => e = .returned (.agg (u8Row (blockN st b))) ∧ Below w.heap.size w w' := by
  have HC : Hid (∀ i, i < 64 → w.cell? ⟨gb, off + i, none⟩ = some (.int .u8 (byteAt b i))) := hc
  have HT : Hid (Tabs w) := ht
  have HI : Hid (∀ i, i < 8 → 0 ≤ st.getD i 0 ∧ st.getD i 0 ≤ 4294967295) := hin
  have HL : Hid (st.length = 8) := hst
  clear hc ht hin hst
  have h64 : Hid ((uRow (schedTo b 48)).toArray.size = 64) := uRow_size b
  have h1 : Hid ((uRow (schedTo b 48)).toArray.all (·.oneCell') = true) := uRow_one _
  obtain ⟨row, hrowE⟩ : ∃ row, row = (uRow (schedTo b 48)).toArray := ⟨_, rfl⟩
  have HRE : Hid (row = (uRow (schedTo b 48)).toArray) := hrowE
  have hnum := fun w gb off cap hcap hg hc => numsI_any w gb off cap b hcap hg hc
  rw [← hrowE] at h64 h1
  simp only [← hrowE] at hnum
  have HNum : Hid _ := hnum
  clear hrowE hnum
  go_enter Tryz.func196, Tryz.ntmps196
  go_wp2_with (first
    | (go_at_call 213; refine (HNum.out _ gb off cap hcap (by simp; omega) (fun i hi => (World.cell?_two _ _ _ _ hg).trans (HC.out i hi))).mono ?_; rintro e w3 ⟨rfl, hb3⟩)
    | refine wpList_store_row rfl 252 _ _ rfl rfl ⟨w3.heap.size, 0, none⟩ _ _ rfl rfl (store64 w3 _ h64.out h1.out) ?_)
  have e49 : (w.alloc (.cells (u8Row st) 233)).heap.size = w.heap.size + 1 := size_allocN _ _
  have e50 : ((w.alloc (.cells (u8Row st) 233)).alloc (.cells #[.int .u32 0, .int .u32 0, .int .u32 0, .int .u32 0, .int .u32 0, .int .u32 0, .int .u32 0, .int .u32 0] 233)).heap.size = w.heap.size + 2 := by rw [size_allocN, size_allocN]
  rw [e50] at hb3
  have hs3 : w.heap.size + 2 ≤ w3.heap.size := by have := hb3.size; rw [e50] at this; exact this
  have F0 : w3.heap[w.heap.size]? = some (.cells (u8Row st) 233 (0, 0)) := (hb3.block _ (by omega)).trans ((Below.heap_alloc _ _ _ (by rw [e49]; omega)).trans (heap_alloc_new w _))
  have F1 : w3.heap[w.heap.size + 1]? = some (.cells (u8Row [0, 0, 0, 0, 0, 0, 0, 0]) 233 (0, 0)) := (hb3.block _ (by omega)).trans (by rw [← e49]; exact heap_alloc_new _ _)
  have FB : Below w.heap.size w w3 := (((Below.refl _ _).alloc (Nat.le_refl _) _).alloc (by rw [e49]; omega) _).trans (hb3.mono (by omega))
  clear hb3 e49 e50
  obtain ⟨W4, hW4⟩ : ∃ W4, W4 = w3.alloc (.cells row 252) := ⟨_, rfl⟩
  have G0 : Hid (W4.heap[w.heap.size]? = some (.cells (u8Row st) 233 (0, 0))) := by show _ = _; rw [hW4]; exact (Below.heap_alloc _ _ _ (by omega)).trans F0
  have G1 : Hid (W4.heap[w.heap.size + 1]? = some (.cells (u8Row [0, 0, 0, 0, 0, 0, 0, 0]) 233 (0, 0))) := by show _ = _; rw [hW4]; exact (Below.heap_alloc _ _ _ (by omega)).trans F1
  have G2 : Hid (W4.heap[w3.heap.size]? = some (.cells (uRow (schedTo b 48)).toArray 252 (0, 0))) := by show _ = _; rw [hW4, HRE.out]; exact heap_alloc_new _ _
  have GB : Hid (Below w.heap.size w W4) := by show Below _ _ _; rw [hW4]; exact FB.alloc (by omega) _
  rw [← hW4]
  clear hW4 F0 F1 FB HRE h64 h1 HNum
  have c0 := u8Row_cell G0.out 0 (by rw [HL.out]; omega)
  have c1 := u8Row_cell G0.out 1 (by rw [HL.out]; omega)
  have c2 := u8Row_cell G0.out 2 (by rw [HL.out]; omega)
  have c3 := u8Row_cell G0.out 3 (by rw [HL.out]; omega)
  have c4 := u8Row_cell G0.out 4 (by rw [HL.out]; omega)
  have c5 := u8Row_cell G0.out 5 (by rw [HL.out]; omega)
  have c6 := u8Row_cell G0.out 6 (by rw [HL.out]; omega)
  have c7 := u8Row_cell G0.out 7 (by rw [HL.out]; omega)
  have HS : Hid (s8Of st = ⟨st.getD 0 0, st.getD 1 0, st.getD 2 0, st.getD 3 0, st.getD 4 0, st.getD 5 0, st.getD 6 0, st.getD 7 0⟩) := by
    show _ = _
    have d0 := HI.out 0 (by omega); have d1 := HI.out 1 (by omega); have d2 := HI.out 2 (by omega); have d3 := HI.out 3 (by omega)
    have d4 := HI.out 4 (by omega); have d5 := HI.out 5 (by omega); have d6 := HI.out 6 (by omega); have d7 := HI.out 7 (by omega)
    unfold s8Of
    rw [Int.emod_eq_of_lt d0.1 (by omega), Int.emod_eq_of_lt d1.1 (by omega), Int.emod_eq_of_lt d2.1 (by omega), Int.emod_eq_of_lt d3.1 (by omega),
      Int.emod_eq_of_lt d4.1 (by omega), Int.emod_eq_of_lt d5.1 (by omega), Int.emod_eq_of_lt d6.1 (by omega), Int.emod_eq_of_lt d7.1 (by omega)]
  generalize st.getD 0 0 = x0 at c0 HS
  generalize st.getD 1 0 = x1 at c1 HS
  generalize st.getD 2 0 = x2 at c2 HS
  generalize st.getD 3 0 = x3 at c3 HS
  generalize st.getD 4 0 = x4 at c4 HS
  generalize st.getD 5 0 = x5 at c5 HS
  generalize st.getD 6 0 = x6 at c6 HS
  generalize st.getD 7 0 = x7 at c7 HS
  go_quiet (fail)
  go_wp2
  go_quiet (fail)
  go_wp2
  go_loopw [39, 6, 7, 8, 9, 10, 11, 12, 13] (fun i a1 b1 c1 d1 e1 f1 g1 h1 w5 => ∃ k n : Nat, k ≤ 64 ∧ i = .int .i64 k ∧ (∃ s : S8, s.In ∧ s = rounds (schedTo b 48) (s8Of st) k ∧ a1 = .int .u32 s.a ∧ b1 = .int .u32 s.b ∧ c1 = .int .u32 s.c ∧ d1 = .int .u32 s.d ∧ e1 = .int .u32 s.e ∧ f1 = .int .u32 s.f ∧ g1 = .int .u32 s.g ∧ h1 = .int .u32 s.h) ∧ w5 = W4.drewN n) (fun i _ _ _ _ _ _ _ _ _ => 64 - (Go.RowKit.intOf i).toNat)
  case atStart =>
    refine ⟨0, _, by omega, rfl, ⟨s8Of st, s8Of_in st, rfl, ?_⟩, World.drewN_drewN _ _ _⟩
    rw [HS.out]; exact ⟨rfl, rfl, rfl, rfl, rfl, rfl, rfl, rfl⟩
  case round =>
    clear HS c0 c1 c2 c3 c4 c5 c6 c7
    obtain ⟨k, n, hk, rfl, ⟨s, hs, hsr, rfl, rfl, rfl, rfl, rfl, rfl, rfl, rfl⟩, rfl⟩ := hrel
    by_cases hlt : k < 64
    · --<A
      have c1 := uRow_cell G2.out (by rw [schedTo_len]; omega) k (by omega)
      have c2 := (GB.out.cell (p := ⟨1, k, none⟩) HT.out.1).trans (HT.out.2.1 k hlt)
      have b1 := schedTo_in b 48 k
      have b2 := keys_in k
      have HR : Hid (rounds (schedTo b 48) (s8Of st) (k + 1) = rnd (keysN.getD k 0) ((schedTo b 48).getD k 0) s) := by
        show _ = _
        rw [hsr]; rfl
      have HIn : Hid ((rnd (keysN.getD k 0) ((schedTo b 48).getD k 0) s).In) := rnd_in hs
      generalize (schedTo b 48).getD k 0 = x at *
      generalize keysN.getD k 0 = y at *
      obtain ⟨x0, x1⟩ := b1
      obtain ⟨y0, y1⟩ := b2
      clear hsr
      obtain ⟨A, B, C, D, E, F, G, H⟩ := s
      obtain ⟨⟨a0, a1⟩, ⟨b0, b1⟩, ⟨c0, c1'⟩, ⟨d0, d1⟩, ⟨e0, e1⟩, ⟨f0, f1⟩, ⟨g0', g1⟩, ⟨h0, h1⟩⟩ := hs
      dsimp only at *
      have j5 : (k : Int) < 64 := by omega
      go_wp2_with (go_at_call 214; refine (turnI_c _ _ _ (by assumption) (by assumption) (by decide) (by decide)).mono ?_; rintro e w' ⟨rfl, rfl⟩)
      go_quiet (fail)
      go_wp2_with (go_at_call 214; refine (turnI_c _ _ _ (by assumption) (by assumption) (by decide) (by decide)).mono ?_; rintro e w' ⟨rfl, rfl⟩)
      go_roundw
      case rel => exact ⟨k + 1, _, by omega, by go_num, ⟨_, HIn.out, HR.out.symm, by show Value.int .u32 _ = Value.int .u32 ((tOne y x _ + tTwo _) % 4294967296); rw [tOne_eq]; rfl, rfl, rfl, rfl, by show Value.int .u32 _ = Value.int .u32 ((_ + tOne y x _) % 4294967296); rw [tOne_eq]; rfl, rfl, rfl, rfl⟩, rfl⟩
      case measure => simp [Go.RowKit.intOf]; omega
      --A>
    · have hk64 : k = 64 := by omega
      subst hk64
      rw [show ((64 : Nat) : Int) = (64 : Int) from rfl]
      clear hlt hk
      have HR : Hid (blockN st b = blkOf st s) := by show _ = _; rw [hsr]; rfl
      clear hsr
      have K0 : Hid ((W4.drewN n).heap[w.heap.size]? = some (.cells (u8Row (partS st s 0)) 233 (0, 0))) := by show W4.heap[w.heap.size]? = _; rw [show partS st s 0 = st from rfl]; exact G0.out
      have K1 : Hid ((W4.drewN n).heap[w.heap.size + 1]? = some (.cells (u8Row [0, 0, 0, 0, 0, 0, 0, 0]) 233 (0, 0))) := G1
      have KB : Hid (Below w.heap.size w (W4.drewN n)) := below_drewN GB.out n
      generalize W4.drewN n = W5 at *
      clear G0 G1 G2 GB
      go_wp2
      go_loopw [113] (fun i wr => ∃ k : Nat, k ≤ 8 ∧ i = .int .i64 k ∧ Hid (wr.heap[w.heap.size]? = some (.cells (u8Row (partS st s k)) 233 (0, 0))) ∧ Hid (wr.heap[w.heap.size + 1]? = some (.cells (u8Row [0, 0, 0, 0, 0, 0, 0, 0]) 233 (0, 0))) ∧ Hid (Below w.heap.size w wr)) (fun i _ => 8 - (Go.RowKit.intOf i).toNat)
      case atStart => exact ⟨0, by omega, rfl, K0, K1, KB⟩
      case round =>
        clear K0 K1 KB
        obtain ⟨k, hk, rfl, K0, K1, KB⟩ := hrel
        by_cases hlt : k < 8
        · have c1 := u8Row_cell K0.out k (by rw [partS_len _ _ _ HL.out (by omega)]; exact hlt)
          have f1 := uRow_free K0.out k
          rw [partS_at st s k HL.out hlt] at c1
          obtain ⟨z0, z1⟩ := HI.out k hlt
          obtain ⟨y0, y1⟩ := s8L_in hs k hlt
          have HT2 : Hid (∀ x y, x = st.getD k 0 → y = (s8L s).getD k 0 → (wr.setCell ⟨w.heap.size, k, none⟩ (.int .u32 ((x + y) % 4294967296))).heap[w.heap.size]? = some (.cells (u8Row (partS st s (k + 1))) 233 (0, 0))) := by
            show ∀ _, _
            rintro x y rfl rfl
            rw [blk_set K0.out, partS_set st s k HL.out hlt _ (by rw [Int.emod_eq_of_lt z0 (by omega)])]
          have HT3 := HT2.out _ _ rfl rfl
          have hidx := idx8 s k hlt
          generalize st.getD k 0 = x at *
          generalize (s8L s).getD k 0 = y at *
          have L0 : Hid ((wr.setCell ⟨w.heap.size, k, none⟩ (.int .u32 ((x + y) % 4294967296))).heap[w.heap.size]? = some (.cells (u8Row (partS st s (k + 1))) 233 (0, 0))) := HT3
          have L1 : Hid ((wr.setCell ⟨w.heap.size, k, none⟩ (.int .u32 ((x + y) % 4294967296))).heap[w.heap.size + 1]? = some (.cells (u8Row [0, 0, 0, 0, 0, 0, 0, 0]) 233 (0, 0))) := (Below.heap_setCell _ _ _ _ (by show w.heap.size + 1 ≠ w.heap.size; omega)).trans K1.out
          have LB : Hid (Below w.heap.size w (wr.setCell ⟨w.heap.size, k, none⟩ (.int .u32 ((x + y) % 4294967296)))) := KB.out.setCell (Nat.le_refl _) _
          clear HT2 HT3 K0 K1 KB
          have j5 : (k : Int) < 8 := by omega
          go_wp2
          go_roundw
          case rel => exact ⟨k + 1, by omega, by go_num, L0, L1, LB⟩
          case measure => simp [Go.RowKit.intOf]; omega
        · have hk8 : k = 8 := by omega
          subst hk8
          have e8 : partS st s 8 = blockN st b := by rw [HR.out]; unfold partS; rw [List.take_of_length_le (by rw [blkOf_len]; omega), List.drop_of_length_le (by rw [HL.out]; omega), List.append_nil]
          rw [e8] at K0
          have h8 : (u8Row (blockN st b)).size = 8 := by rw [u8Row_size, HR.out, blkOf_len]
          have hld := run_loadVar_row (P := Tryz.prog) wr w.heap.size 233 233 _ (0, 0) _ K0.out under8 rfl (by rw [h8]; exact info8)
          have hst := run_storeVar_row (P := Tryz.prog) wr (w.heap.size + 1) 233 233 _ (u8Row (blockN st b)) K1.out (by rw [h8]; exact info8) (by rw [h8]; rfl) (u8Row_one _)
          have hR1 := setRow_heap wr (w.heap.size + 1) _ (u8Row (blockN st b)) 233 _ K1.out
          have hld2 := run_loadVar_row (P := Tryz.prog) (wr.setRow (w.heap.size + 1) (u8Row (blockN st b))) (w.heap.size + 1) 233 233 _ (0, 0) _ hR1 under8 rfl (by rw [h8]; exact info8)
          have hbe : Hid (Below w.heap.size w (wr.setRow (w.heap.size + 1) (u8Row (blockN st b)))) := below_setRow KB.out (Nat.le_succ _) _
          generalize hRE : u8Row (blockN st b) = row8 at *
          have HRE : Hid (u8Row (blockN st b) = row8) := hRE
          have XL : Hid ((loadVar 233 ⟨w.heap.size, 0, none⟩).run Tryz.prog wr = .ok (.agg row8) wr) := hld
          have XT : Hid ((storeVar 233 ⟨w.heap.size + 1, 0, none⟩ (.agg row8)).run Tryz.prog wr = .ok () (wr.setRow (w.heap.size + 1) row8)) := hst
          have XL2 : Hid ((loadVar 233 ⟨w.heap.size + 1, 0, none⟩).run Tryz.prog (wr.setRow (w.heap.size + 1) row8) = .ok (.agg row8) (wr.setRow (w.heap.size + 1) row8)) := hld2
          generalize wr.setRow (w.heap.size + 1) row8 = wz at *
          clear hld hst hld2 hR1 h8 K0 K1 KB hRE e8
          go_wp2_with (first | refine wpList_load_row rfl 233 _ rfl ⟨w.heap.size, 0, none⟩ _ rfl XL.out ?_ | refine wpList_store_row rfl 233 _ _ rfl rfl ⟨w.heap.size + 1, 0, none⟩ _ wz rfl rfl XT.out ?_)
          refine bodyPost_cell rfl rfl rfl XL2.out ⟨ret_agg HRE.out.symm, hbe.out⟩
end Go.Proofs.YtonleickhincgaaGreatDoor
