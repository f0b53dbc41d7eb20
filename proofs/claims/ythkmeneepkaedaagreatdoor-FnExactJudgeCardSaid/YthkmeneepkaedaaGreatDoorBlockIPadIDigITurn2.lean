/-
  Parts of one proof, laid as one text: BlockI, PadI, DigI, Turn2; what each says stands at its head.
-/
import Derived.Test.YthkmeneepkaedaaGreatDoorRows
import Derived.Test.YthkmeneepkaedaaGreatDoorBytesDigMath
import Derived.Test.YthkmeneepkaedaaGreatDoorOwnBTurnIWholeRNumsI
import Derived.Handy
import Derived.BigRegion
import Derived.Deep.QuietTactic
import Derived.BigQuiet
import Derived.StillTailTactics
import Derived.WalkSmall
import Derived.WalkSpells
import Derived.Deep.AppendLies
/-
  The program's takeBlock: a state of eight numbers and a block of 64 bytes: the state behind it, 'blockN'.
  Conditions: the state's numbers are from 0 to 2^32 - 1; the slice holds the block's bytes; the table of the rounds' numbers lies as the program's text lays it.
-/
namespace Go.Proofs.YthkmeneepkaedaaGreatDoor
open Go.RowKit Go.Lib
set_option linter.unusedVariables false

def Tabs (w : World) : Prop := 1 < w.heap.size ∧ (∀ i, i < 64 → w.cell? ⟨1, i, none⟩ = some (.int .u32 (keysN.getD i 0))) ∧ (∀ i, i < 8 → w.cell? ⟨0, i, none⟩ = some (.int .u32 (startN.getD i 0)))
theorem Tabs.below {w w' : World} {B : Nat} (h : Tabs w) (hb : Below B w w') (hB : 1 < B) : Tabs w' :=
  ⟨Nat.lt_of_lt_of_le h.1 hb.size, fun i hi => (hb.cell (p := ⟨1, i, none⟩) hB).trans (h.2.1 i hi), fun i hi => (hb.cell (p := ⟨0, i, none⟩) (Nat.lt_of_le_of_lt (show 0 ≤ 1 by decide) hB)).trans (h.2.2 i hi)⟩
theorem under8 : Tryz.prog.underlying 220 = some (.array (Tryz.prog.arrayLen 220) (Tryz.prog.elem 220)) := by kernel_rfl
theorem len8 : Tryz.prog.arrayLen 220 = 8 := by kernel_rfl
theorem info8 : (Tryz.prog.info? 220).map (·.size) = some 8 := by kernel_rfl
def u8Row (l : List Int) : Array Value := (l.map (Value.int .u32)).toArray
theorem u8Row_size (l : List Int) : (u8Row l).size = l.length := by simp [u8Row]
theorem u8Row_one (l : List Int) : (u8Row l).all (·.oneCell') = true := by simp [u8Row, Value.oneCell']
theorem u8Row_cell {w : World} {g : Nat} {l : List Int} {T : TypeId} (h : w.heap[g]? = some (.cells (u8Row l) T (0, 0))) (i : Nat) (hi : i < l.length) : w.cell? ⟨g, i, none⟩ = some (.int .u32 (l.getD i 0)) := by
  simp [World.cell?, h, u8Row, List.getElem?_eq_getElem hi, List.getD_eq_getElem?_getD]
def partS (st : List Int) (s : S8) (k : Nat) : List Int := (blkOf st s).take k ++ st.drop k
theorem partS_len (st : List Int) (s : S8) (k : Nat) (h : st.length = 8) (hk : k ≤ 8) : (partS st s k).length = 8 := by
  simp [partS, blkOf_len]; omega
theorem partS_at (st : List Int) (s : S8) (k : Nat) (h : st.length = 8) (hk : k < 8) : (partS st s k).getD k 0 = st.getD k 0 := by
  unfold partS
  rw [List.getD_eq_getElem?_getD, List.getElem?_append_right (by simp [blkOf_len]; omega)]
  simp [blkOf_len, Nat.min_eq_left (show k ≤ 8 by omega), List.getD_eq_getElem?_getD]
theorem partS_set (st : List Int) (s : S8) (k : Nat) (h : st.length = 8) (hk : k < 8) (v : Int) (hv : v = (st.getD k 0 % 4294967296 + (s8L s).getD k 0) % 4294967296) :
    (u8Row (partS st s k)).setIfInBounds k (.int .u32 v) = u8Row (partS st s (k + 1)) := by
  have e1 : st.drop k = st.getD k 0 :: st.drop (k + 1) := by
    rw [List.drop_eq_getElem_cons (by omega), List.getD_eq_getElem?_getD, List.getElem?_eq_getElem (by omega)]; rfl
  have e2 : ((blkOf st s).take k).length = k := by rw [List.length_take, blkOf_len]; omega
  unfold u8Row partS
  rw [e1, blkOf_take st s k hk, ← hv]
  have e3 : (List.map (Value.int .u32) ((blkOf st s).take k)).length = k := by rw [List.length_map, e2]
  rw [List.map_append, List.map_append, List.map_append, List.map_cons, List.map_cons, List.map_nil, List.append_assoc, List.setIfInBounds_toArray]
  rw [List.set_append_right k _ (by omega), e3, Nat.sub_self]
  rfl

theorem World.cell?_two {w : World} (o1 o2 : Obj) (g i : Nat) (h : g < w.heap.size) : ((w.alloc o1).alloc o2).cell? ⟨g, i, none⟩ = w.cell? ⟨g, i, none⟩ := by
  have h1 : ((w.alloc o1).alloc o2).heap[g]? = w.heap[g]? := (Below.heap_alloc _ o2 g (by simp; omega)).trans (Below.heap_alloc _ o1 g h)
  exact World.cell?_of_block h1
theorem uRow_size (b : ByteArray) : (uRow (schedTo b 48)).toArray.size = 64 := by rw [List.size_toArray, uRow_len _ (by rw [schedTo_len]; omega)]
theorem tOne_eq (key x : Int) (s : S8) : tOne key x s = (s.h + sumE s.e + chE s.e s.f s.g + key + x) % 4294967296 := by unfold tOne; omega
theorem idx8 (s : S8) (k : Nat) (hk : k < 8) (w : World) : (Instr.index 220 (.agg #[.int .u32 s.a, .int .u32 s.b, .int .u32 s.c, .int .u32 s.d, .int .u32 s.e, .int .u32 s.f, .int .u32 s.g, .int .u32 s.h]) (.int .i64 (k : Int))).run Tryz.prog w = .ok (.int .u32 ((s8L s).getD k 0)) w := by
  have h2 : (0 : Int) ≤ (k : Int) ∧ (k : Int) < 8 := by omega
  match k, hk with
  | 0, _ => simp [Instr.index, run_underlying under8, asIntOf, go_sem, s8L]
  | 1, _ => simp [Instr.index, run_underlying under8, asIntOf, go_sem, s8L]
  | 2, _ => simp [Instr.index, run_underlying under8, asIntOf, go_sem, s8L]
  | 3, _ => simp [Instr.index, run_underlying under8, asIntOf, go_sem, s8L]
  | 4, _ => simp [Instr.index, run_underlying under8, asIntOf, go_sem, s8L]
  | 5, _ => simp [Instr.index, run_underlying under8, asIntOf, go_sem, s8L]
  | 6, _ => simp [Instr.index, run_underlying under8, asIntOf, go_sem, s8L]
  | 7, _ => simp [Instr.index, run_underlying under8, asIntOf, go_sem, s8L]
theorem store64 (w3 : World) (row : Array Value) (h : row.size = 64) (h1 : row.all (·.oneCell') = true) :
    (storeVar 231 ⟨w3.heap.size, 0, none⟩ (.agg row)).run Tryz.prog (w3.alloc (.cells #[.int .u32 0, .int .u32 0, .int .u32 0, .int .u32 0, .int .u32 0, .int .u32 0, .int .u32 0, .int .u32 0, .int .u32 0, .int .u32 0, .int .u32 0, .int .u32 0, .int .u32 0, .int .u32 0, .int .u32 0, .int .u32 0, .int .u32 0, .int .u32 0, .int .u32 0, .int .u32 0, .int .u32 0, .int .u32 0, .int .u32 0, .int .u32 0, .int .u32 0, .int .u32 0, .int .u32 0, .int .u32 0, .int .u32 0, .int .u32 0, .int .u32 0, .int .u32 0, .int .u32 0, .int .u32 0, .int .u32 0, .int .u32 0, .int .u32 0, .int .u32 0, .int .u32 0, .int .u32 0, .int .u32 0, .int .u32 0, .int .u32 0, .int .u32 0, .int .u32 0, .int .u32 0, .int .u32 0, .int .u32 0, .int .u32 0, .int .u32 0, .int .u32 0, .int .u32 0, .int .u32 0, .int .u32 0, .int .u32 0, .int .u32 0, .int .u32 0, .int .u32 0, .int .u32 0, .int .u32 0, .int .u32 0, .int .u32 0, .int .u32 0, .int .u32 0] 231)) = .ok () (w3.alloc (.cells row 231)) :=
  run_storeVar_new (P := Tryz.prog) w3 231 _ row (by rw [h]; exact info64) (by rw [h]; rfl) h1
set_option maxHeartbeats 1000000 in
set_option maxRecDepth 20000 in
theorem blockI_any (w : World) (st : List Int) (gb off cap : Nat) (b : ByteArray) (hcap : 64 ≤ cap) (hg : gb < w.heap.size) (ht : Tabs w) (hst : st.length = 8) (hin : ∀ i, i < 8 → 0 ≤ st.getD i 0 ∧ st.getD i 0 ≤ 4294967295)
   (hc : ∀ i, i < 64 → w.cell? ⟨gb, off + i, none⟩ = some (.int .u8 (byteAt b i))) :
    Calls Tryz.prog 169 #[.agg (u8Row st), .slice (some ⟨gb, off, none⟩) 64 cap] w fun e w' => e = .returned (.agg (u8Row (blockN st b))) ∧ Below w.heap.size w w' := by
  have HC : Hid (∀ i, i < 64 → w.cell? ⟨gb, off + i, none⟩ = some (.int .u8 (byteAt b i))) := hc
  have HT : Hid (Tabs w) := ht
  have HI : Hid (∀ i, i < 8 → 0 ≤ st.getD i 0 ∧ st.getD i 0 ≤ 4294967295) := hin
  have HL : Hid (st.length = 8) := hst
  clear hc ht hin hst
  have h64 : Hid ((uRow (schedTo b 48)).toArray.size = 64) := uRow_size b
  have h1 : Hid ((uRow (schedTo b 48)).toArray.all (·.oneCell') = true) := uRow_one _
  obtain ⟨row, hrowE⟩ : ∃ row, row = (uRow (schedTo b 48)).toArray := ⟨_, rfl⟩
  have HRE : Hid (row = (uRow (schedTo b 48)).toArray) := hrowE
  have hnum := fun w gb off cap hcap hg hc => numsI_any w gb off cap b hcap hg hc
  rw [← hrowE] at h64 h1
  simp only [← hrowE] at hnum
  have HNum : Hid _ := hnum
  clear hrowE hnum
  go_enter Tryz.func169, Tryz.ntmps169
  go_wp2_with (first
    | (go_at_call 180; refine (HNum.out _ gb off cap hcap (by simp; omega) (fun i hi => (World.cell?_two _ _ _ _ hg).trans (HC.out i hi))).mono ?_; rintro e w3 ⟨rfl, hb3⟩)
    | refine wpList_store_row rfl 231 _ _ rfl rfl ⟨w3.heap.size, 0, none⟩ _ _ rfl rfl (store64 w3 _ h64.out h1.out) ?_)
  have e49 : (w.alloc (.cells (u8Row st) 220)).heap.size = w.heap.size + 1 := size_allocN _ _
  have e50 : ((w.alloc (.cells (u8Row st) 220)).alloc (.cells #[.int .u32 0, .int .u32 0, .int .u32 0, .int .u32 0, .int .u32 0, .int .u32 0, .int .u32 0, .int .u32 0] 220)).heap.size = w.heap.size + 2 := by rw [size_allocN, size_allocN]
  rw [e50] at hb3
  have hs3 : w.heap.size + 2 ≤ w3.heap.size := by have := hb3.size; rw [e50] at this; exact this
  have F0 : w3.heap[w.heap.size]? = some (.cells (u8Row st) 220 (0, 0)) := (hb3.block _ (by omega)).trans ((Below.heap_alloc _ _ _ (by rw [e49]; omega)).trans (heap_alloc_new w _))
  have F1 : w3.heap[w.heap.size + 1]? = some (.cells (u8Row [0, 0, 0, 0, 0, 0, 0, 0]) 220 (0, 0)) := (hb3.block _ (by omega)).trans (by rw [← e49]; exact heap_alloc_new _ _)
  have FB : Below w.heap.size w w3 := (((Below.refl _ _).alloc (Nat.le_refl _) _).alloc (by rw [e49]; omega) _).trans (hb3.mono (by omega))
  clear hb3 e49 e50
  obtain ⟨W4, hW4⟩ : ∃ W4, W4 = w3.alloc (.cells row 231) := ⟨_, rfl⟩
  have G0 : Hid (W4.heap[w.heap.size]? = some (.cells (u8Row st) 220 (0, 0))) := by show _ = _; rw [hW4]; exact (Below.heap_alloc _ _ _ (by omega)).trans F0
  have G1 : Hid (W4.heap[w.heap.size + 1]? = some (.cells (u8Row [0, 0, 0, 0, 0, 0, 0, 0]) 220 (0, 0))) := by show _ = _; rw [hW4]; exact (Below.heap_alloc _ _ _ (by omega)).trans F1
  have G2 : Hid (W4.heap[w3.heap.size]? = some (.cells (uRow (schedTo b 48)).toArray 231 (0, 0))) := by show _ = _; rw [hW4, HRE.out]; exact heap_alloc_new _ _
  have GB : Hid (Below w.heap.size w W4) := by show Below _ _ _; rw [hW4]; exact FB.alloc (by omega) _
  rw [← hW4]
  clear hW4 F0 F1 FB HRE h64 h1 HNum
  have c0 := u8Row_cell G0.out 0 (by rw [HL.out]; omega)
  have c1 := u8Row_cell G0.out 1 (by rw [HL.out]; omega)
  have c2 := u8Row_cell G0.out 2 (by rw [HL.out]; omega)
  have c3 := u8Row_cell G0.out 3 (by rw [HL.out]; omega)
  have c4 := u8Row_cell G0.out 4 (by rw [HL.out]; omega)
  have c5 := u8Row_cell G0.out 5 (by rw [HL.out]; omega)
  have c6 := u8Row_cell G0.out 6 (by rw [HL.out]; omega)
  have c7 := u8Row_cell G0.out 7 (by rw [HL.out]; omega)
  have HS : Hid (s8Of st = ⟨st.getD 0 0, st.getD 1 0, st.getD 2 0, st.getD 3 0, st.getD 4 0, st.getD 5 0, st.getD 6 0, st.getD 7 0⟩) := by
    show _ = _
    have d0 := HI.out 0 (by omega); have d1 := HI.out 1 (by omega); have d2 := HI.out 2 (by omega); have d3 := HI.out 3 (by omega)
    have d4 := HI.out 4 (by omega); have d5 := HI.out 5 (by omega); have d6 := HI.out 6 (by omega); have d7 := HI.out 7 (by omega)
    unfold s8Of
    rw [Int.emod_eq_of_lt d0.1 (by omega), Int.emod_eq_of_lt d1.1 (by omega), Int.emod_eq_of_lt d2.1 (by omega), Int.emod_eq_of_lt d3.1 (by omega),
      Int.emod_eq_of_lt d4.1 (by omega), Int.emod_eq_of_lt d5.1 (by omega), Int.emod_eq_of_lt d6.1 (by omega), Int.emod_eq_of_lt d7.1 (by omega)]
  generalize st.getD 0 0 = x0 at c0 HS
  generalize st.getD 1 0 = x1 at c1 HS
  generalize st.getD 2 0 = x2 at c2 HS
  generalize st.getD 3 0 = x3 at c3 HS
  generalize st.getD 4 0 = x4 at c4 HS
  generalize st.getD 5 0 = x5 at c5 HS
  generalize st.getD 6 0 = x6 at c6 HS
  generalize st.getD 7 0 = x7 at c7 HS
  go_quiet (fail)
  go_wp2
  go_quiet (fail)
  go_wp2
  go_loopw [39, 6, 7, 8, 9, 10, 11, 12, 13] (fun i a1 b1 c1 d1 e1 f1 g1 h1 w5 => ∃ k n : Nat, k ≤ 64 ∧ i = .int .i64 k ∧ (∃ s : S8, s.In ∧ s = rounds (schedTo b 48) (s8Of st) k ∧ a1 = .int .u32 s.a ∧ b1 = .int .u32 s.b ∧ c1 = .int .u32 s.c ∧ d1 = .int .u32 s.d ∧ e1 = .int .u32 s.e ∧ f1 = .int .u32 s.f ∧ g1 = .int .u32 s.g ∧ h1 = .int .u32 s.h) ∧ w5 = W4.drewN n) (fun i _ _ _ _ _ _ _ _ _ => 64 - (intOf i).toNat)
  case atStart =>
    refine ⟨0, _, by omega, rfl, ⟨s8Of st, s8Of_in st, rfl, ?_⟩, World.drewN_drewN _ _ _⟩
    rw [HS.out]; exact ⟨rfl, rfl, rfl, rfl, rfl, rfl, rfl, rfl⟩
  case round =>
    clear HS c0 c1 c2 c3 c4 c5 c6 c7
    obtain ⟨k, n, hk, rfl, ⟨s, hs, hsr, rfl, rfl, rfl, rfl, rfl, rfl, rfl, rfl⟩, rfl⟩ := hrel
    by_cases hlt : k < 64
    · --<A
      have c1 := uRow_cell G2.out (by rw [schedTo_len]; omega) k (by omega)
      have c2 := (GB.out.cell (p := ⟨1, k, none⟩) HT.out.1).trans (HT.out.2.1 k hlt)
      have b1 := schedTo_in b 48 k
      have b2 := keys_in k
      have HR : Hid (rounds (schedTo b 48) (s8Of st) (k + 1) = rnd (keysN.getD k 0) ((schedTo b 48).getD k 0) s) := by
        show _ = _
        rw [hsr]; rfl
      have HIn : Hid ((rnd (keysN.getD k 0) ((schedTo b 48).getD k 0) s).In) := rnd_in hs
      generalize (schedTo b 48).getD k 0 = x at *
      generalize keysN.getD k 0 = y at *
      obtain ⟨x0, x1⟩ := b1
      obtain ⟨y0, y1⟩ := b2
      clear hsr
      obtain ⟨A, B, C, D, E, F, G, H⟩ := s
      obtain ⟨⟨a0, a1⟩, ⟨b0, b1⟩, ⟨c0, c1'⟩, ⟨d0, d1⟩, ⟨e0, e1⟩, ⟨f0, f1⟩, ⟨g0', g1⟩, ⟨h0, h1⟩⟩ := hs
      dsimp only at *
      have j5 : (k : Int) < 64 := by omega
      go_wp2_with (go_at_call 181; refine (turnI_c _ _ _ (by assumption) (by assumption) (by decide) (by decide)).mono ?_; rintro e w' ⟨rfl, rfl⟩)
      go_quiet (fail)
      go_wp2_with (go_at_call 181; refine (turnI_c _ _ _ (by assumption) (by assumption) (by decide) (by decide)).mono ?_; rintro e w' ⟨rfl, rfl⟩)
      go_roundw
      case rel => exact ⟨k + 1, _, by omega, by go_num, ⟨_, HIn.out, HR.out.symm, by show Value.int .u32 _ = Value.int .u32 ((tOne y x _ + tTwo _) % 4294967296); rw [tOne_eq]; rfl, rfl, rfl, rfl, by show Value.int .u32 _ = Value.int .u32 ((_ + tOne y x _) % 4294967296); rw [tOne_eq]; rfl, rfl, rfl, rfl⟩, rfl⟩
      case measure => simp [intOf]; omega
      --A>
    · have hk64 : k = 64 := by omega
      subst hk64
      rw [show ((64 : Nat) : Int) = (64 : Int) from rfl]
      clear hlt hk
      have HR : Hid (blockN st b = blkOf st s) := by show _ = _; rw [hsr]; rfl
      clear hsr
      have K0 : Hid ((W4.drewN n).heap[w.heap.size]? = some (.cells (u8Row (partS st s 0)) 220 (0, 0))) := by show W4.heap[w.heap.size]? = _; rw [show partS st s 0 = st from rfl]; exact G0.out
      have K1 : Hid ((W4.drewN n).heap[w.heap.size + 1]? = some (.cells (u8Row [0, 0, 0, 0, 0, 0, 0, 0]) 220 (0, 0))) := G1
      have KB : Hid (Below w.heap.size w (W4.drewN n)) := below_drewN GB.out n
      generalize W4.drewN n = W5 at *
      clear G0 G1 G2 GB
      go_wp2
      go_loopw [113] (fun i wr => ∃ k : Nat, k ≤ 8 ∧ i = .int .i64 k ∧ Hid (wr.heap[w.heap.size]? = some (.cells (u8Row (partS st s k)) 220 (0, 0))) ∧ Hid (wr.heap[w.heap.size + 1]? = some (.cells (u8Row [0, 0, 0, 0, 0, 0, 0, 0]) 220 (0, 0))) ∧ Hid (Below w.heap.size w wr)) (fun i _ => 8 - (intOf i).toNat)
      case atStart => exact ⟨0, by omega, rfl, K0, K1, KB⟩
      case round =>
        clear K0 K1 KB
        obtain ⟨k, hk, rfl, K0, K1, KB⟩ := hrel
        by_cases hlt : k < 8
        · have c1 := u8Row_cell K0.out k (by rw [partS_len _ _ _ HL.out (by omega)]; exact hlt)
          have f1 := uRow_free K0.out k
          rw [partS_at st s k HL.out hlt] at c1
          obtain ⟨z0, z1⟩ := HI.out k hlt
          obtain ⟨y0, y1⟩ := s8L_in hs k hlt
          have HT2 : Hid (∀ x y, x = st.getD k 0 → y = (s8L s).getD k 0 → (wr.setCell ⟨w.heap.size, k, none⟩ (.int .u32 ((x + y) % 4294967296))).heap[w.heap.size]? = some (.cells (u8Row (partS st s (k + 1))) 220 (0, 0))) := by
            show ∀ _, _
            rintro x y rfl rfl
            rw [blk_set K0.out, partS_set st s k HL.out hlt _ (by rw [Int.emod_eq_of_lt z0 (by omega)])]
          have HT3 := HT2.out _ _ rfl rfl
          have hidx := idx8 s k hlt
          generalize st.getD k 0 = x at *
          generalize (s8L s).getD k 0 = y at *
          have L0 : Hid ((wr.setCell ⟨w.heap.size, k, none⟩ (.int .u32 ((x + y) % 4294967296))).heap[w.heap.size]? = some (.cells (u8Row (partS st s (k + 1))) 220 (0, 0))) := HT3
          have L1 : Hid ((wr.setCell ⟨w.heap.size, k, none⟩ (.int .u32 ((x + y) % 4294967296))).heap[w.heap.size + 1]? = some (.cells (u8Row [0, 0, 0, 0, 0, 0, 0, 0]) 220 (0, 0))) := (Below.heap_setCell _ _ _ _ (by show w.heap.size + 1 ≠ w.heap.size; omega)).trans K1.out
          have LB : Hid (Below w.heap.size w (wr.setCell ⟨w.heap.size, k, none⟩ (.int .u32 ((x + y) % 4294967296)))) := KB.out.setCell (Nat.le_refl _) _
          clear HT2 HT3 K0 K1 KB
          have j5 : (k : Int) < 8 := by omega
          go_wp2
          go_roundw
          case rel => exact ⟨k + 1, by omega, by go_num, L0, L1, LB⟩
          case measure => simp [intOf]; omega
        · have hk8 : k = 8 := by omega
          subst hk8
          have e8 : partS st s 8 = blockN st b := by rw [HR.out]; unfold partS; rw [List.take_of_length_le (by rw [blkOf_len]; omega), List.drop_of_length_le (by rw [HL.out]; omega), List.append_nil]
          rw [e8] at K0
          have h8 : (u8Row (blockN st b)).size = 8 := by rw [u8Row_size, HR.out, blkOf_len]
          have hld := run_loadVar_row (P := Tryz.prog) wr w.heap.size 220 220 _ (0, 0) _ K0.out under8 rfl (by rw [h8]; exact info8)
          have hst := run_storeVar_row (P := Tryz.prog) wr (w.heap.size + 1) 220 220 _ (u8Row (blockN st b)) K1.out (by rw [h8]; exact info8) (by rw [h8]; rfl) (u8Row_one _)
          have hR1 := setRow_heap wr (w.heap.size + 1) _ (u8Row (blockN st b)) 220 _ K1.out
          have hld2 := run_loadVar_row (P := Tryz.prog) (wr.setRow (w.heap.size + 1) (u8Row (blockN st b))) (w.heap.size + 1) 220 220 _ (0, 0) _ hR1 under8 rfl (by rw [h8]; exact info8)
          have hbe : Hid (Below w.heap.size w (wr.setRow (w.heap.size + 1) (u8Row (blockN st b)))) := below_setRow KB.out (Nat.le_succ _) _
          generalize hRE : u8Row (blockN st b) = row8 at *
          have HRE : Hid (u8Row (blockN st b) = row8) := hRE
          have XL : Hid ((loadVar 220 ⟨w.heap.size, 0, none⟩).run Tryz.prog wr = .ok (.agg row8) wr) := hld
          have XT : Hid ((storeVar 220 ⟨w.heap.size + 1, 0, none⟩ (.agg row8)).run Tryz.prog wr = .ok () (wr.setRow (w.heap.size + 1) row8)) := hst
          have XL2 : Hid ((loadVar 220 ⟨w.heap.size + 1, 0, none⟩).run Tryz.prog (wr.setRow (w.heap.size + 1) row8) = .ok (.agg row8) (wr.setRow (w.heap.size + 1) row8)) := hld2
          generalize wr.setRow (w.heap.size + 1) row8 = wz at *
          clear hld hst hld2 hR1 h8 K0 K1 KB hRE e8
          go_wp2_with (first | refine wpList_load_row rfl 220 _ rfl ⟨w.heap.size, 0, none⟩ _ rfl XL.out ?_ | refine wpList_store_row rfl 220 _ _ rfl rfl ⟨w.heap.size + 1, 0, none⟩ _ wz rfl rfl XT.out ?_)
          refine bodyPost_cell rfl rfl rfl XL2.out ⟨ret_agg HRE.out.symm, hbe.out⟩
end Go.Proofs.YthkmeneepkaedaaGreatDoor
/-
  The program's padded: a text filled up to whole blocks: 'padN', in new memory.
  Conditions: the text is at most 2^40 bytes long.
-/
namespace Go.Proofs.YthkmeneepkaedaaGreatDoor
open Go.RowKit Go.Lib
set_option linter.unusedVariables false
set_option maxRecDepth 20000

theorem infoU8q : (Tryz.prog.info? 5).map (fun i => (i.zero, i.size, i.bytes)) = some (some (.int .u8 0), 1, 1) := by kernel_rfl
theorem sizeU8q : (Tryz.prog.info? 5).map (·.size) = some 1 := by kernel_rfl
theorem run_make_u8q (n : Nat) (hn : n ≤ 281474976710656) (w : World) :
    (Instr.makeSlice 159 (.int .i64 (n : Int)) (.int .i64 (n : Int))).run Tryz.prog w = .ok (.slice (some ⟨w.heap.size, 0, none⟩) n n) (w.alloc (.cells (zrow n).toArray 5)) := by
  obtain ⟨i0, hi, hz0, hz1, hz2⟩ := info_parts infoU8q
  have := run_make (P := Tryz.prog) w 159 5 i0 (.int .u8 0) Tryz.underlying159 hi hz0 .i64 .i64 (n : Int) (n : Int) (by omega) (by omega) (by rw [hz2]; omega) (by omega)
  rw [this, hz1]
  simp only [Int.toNat_natCast, Nat.mul_one]
  rw [← madeZ]; rfl

def rowN (xs : List Int) : List Value := xs.map (Value.int .u8)
theorem ownB_of_heap {w : World} {base g : Nat} {xs : List Int} {T : TypeId} (h : w.heap[g]? = some (.cells (rowN xs).toArray T (0, 0))) (hb : base ≤ g) (hl : xs.length ≤ maxLen) : OwnB w base g xs.length xs := by
  refine ⟨hb, lt_of_block h, Nat.le_refl _, hl, fun j hj => ?_, fun j hj => ?_⟩
  · simp [World.cell?, World.frozen?, h, rowN, hj]
  · simp [World.cell?, h, rowN, hj]
theorem bytesRowN (t : ByteArray) : Go.Lib.byteCells t.data.toList = rowN (bytesN t) := by simp [Go.Lib.byteCells, rowN, bytesN]
theorem pad_zero (t : ByteArray) (L : Nat) (h : t.size ≤ L) : splice (zrow L) 0 (Go.Lib.byteCells t.data.toList) = rowN (bytesN t ++ List.replicate (L - t.size) 0) := by
  have e : (Go.Lib.byteCells t.data.toList).length = t.size := by rw [Go.Lib.byteCells_length, ← size_eq]
  unfold splice
  rw [e, bytesRowN]
  simp [rowN, zrow]
theorem row_set (A B : List Int) (u v : Int) (n : Nat) (h : A.length = n) : (rowN (A ++ u :: B)).toArray.setIfInBounds n (.int .u8 v) = (rowN (A ++ v :: B)).toArray := by
  subst h
  unfold rowN
  rw [List.map_append, List.map_append, List.map_cons, List.map_cons, List.setIfInBounds_toArray, List.set_append_right _ _ (by simp)]
  simp
def padP (t : ByteArray) (i : Nat) : List Int := bytesN t ++ [128] ++ List.replicate (zN t.size + 8 - i) 0 ++ (be8To (8 * (t.size : Int)) 8).drop (8 - i)
theorem padP_eight (t : ByteArray) : padP t 8 = padN t := by simp [padP, padN]
theorem padP_start (t : ByteArray) (L : Nat) (hL : L = 64 * nB t) : (rowN (bytesN t ++ List.replicate (L - t.size) 0)).toArray.setIfInBounds t.size (.int .u8 128) = (rowN (padP t 0)).toArray := by
  have e : L - t.size = (zN t.size + 8) + 1 := by subst hL; unfold nB zN; omega
  rw [e, List.replicate_succ, row_set (bytesN t) _ 0 128 t.size (bytesN_len t)]
  congr 2
  unfold padP
  rw [List.drop_of_length_le (by rw [be8To_len]; omega)]
  simp
theorem padP_step (t : ByteArray) (L : Nat) (hL : L = 64 * nB t) (i : Nat) (hi : i < 8) (n : Nat) (hn : n + 1 + i = L) :
    (rowN (padP t i)).toArray.setIfInBounds n (.int .u8 ((t.size : Int) * 8 / 2 ^ (8 * i) % 256)) = (rowN (padP t (i + 1))).toArray := by
  have e1 : zN t.size + 8 - i = (zN t.size + 8 - (i + 1)) + 1 := by omega
  have e2 : (be8To (8 * (t.size : Int)) 8).drop (8 - (i + 1)) = ((t.size : Int) * 8 / 2 ^ (8 * i) % 256) :: (be8To (8 * (t.size : Int)) 8).drop (8 - i) := by
    rw [List.drop_eq_getElem_cons (by rw [be8To_len]; omega)]
    congr 1
    · simp only [be8To, List.getElem_map, List.getElem_range, bePart]
      rw [Int.mul_comm, show 56 - 8 * (8 - (i + 1)) = 8 * i by omega]
    · congr 1; omega
  have e3 : padP t i = (bytesN t ++ [128] ++ List.replicate (zN t.size + 8 - (i + 1)) 0) ++ 0 :: (be8To (8 * (t.size : Int)) 8).drop (8 - i) := by
    unfold padP; rw [e1, List.replicate_succ']; simp
  rw [e3, row_set _ _ 0 _ n (by
    simp only [List.length_append, bytesN_len, List.length_replicate, List.length_cons, List.length_nil]
    subst hL; unfold nB zN at hn; unfold zN; omega)]
  congr 2
  unfold padP; rw [e2]
theorem padP_len (t : ByteArray) (i : Nat) (hi : i ≤ 8) : (padP t i).length = 64 * nB t := by
  simp only [padP, List.length_append, bytesN_len, List.length_replicate, List.length_cons, List.length_nil, List.length_drop, be8To_len, nB]
  unfold zN; omega
theorem row_cellN {w : World} {g : Nat} {xs : List Int} {T : TypeId} (h : w.heap[g]? = some (.cells (rowN xs).toArray T (0, 0))) (j : Nat) (hj : j < xs.length) : (∃ v, w.cell? ⟨g, j, none⟩ = some v) ∧ w.frozen? ⟨g, j, none⟩ = false := by
  simp [World.cell?, World.frozen?, h, rowN, hj]

set_option maxHeartbeats 1000000 in
theorem padI_any (t : ByteArray) (w : World) (ht : t.size ≤ 1099511627776) :
    Calls Tryz.prog 168 #[.string t] w fun e w' => ∃ g, e = .returned (.slice (some ⟨g, 0, none⟩) (64 * nB t) (64 * nB t)) ∧ OwnB w' w.heap.size g (64 * nB t) (padN t) ∧ Below w.heap.size w w' := by
  obtain ⟨L, hL⟩ : ∃ L, L = 64 * nB t := ⟨_, rfl⟩
  have HL : Hid (L = 64 * nB t) := hL
  have hLb : L ≤ 1099511627900 := by subst hL; unfold nB zN; omega
  have hLs : t.size + 9 ≤ L := by subst hL; unfold nB zN; omega
  have HE : Hid ((t.size : Int) + 1 + 8 + -(((t.size : Int) + 1 + 8) % 64) % 64 = (L : Int)) := by show _ = _; subst hL; unfold nB zN; omega
  have hmk := run_make_u8q L (by omega)
  obtain ⟨w2, hcp, hrow2, hbel⟩ := copy_str (P := Tryz.prog) (w.alloc (.cells (zrow L).toArray 5)) 159 9 3 5 Tryz.underlying159 sizeU8q w.heap.size 0 L L t (zrow L) 5 (heap_alloc_new w _) (by omega) (by simp [zrow]; omega)
  have hb2 := hbel w.heap.size w ((Below.refl _ _).alloc (Nat.le_refl _) _) (Nat.le_refl _)
  rw [pad_zero t L (by omega)] at hrow2
  have hc2 := row_cellN hrow2 t.size (by rw [List.length_append, bytesN_len, List.length_replicate]; omega)
  have HRow : Hid ((w2.setCell ⟨w.heap.size, t.size, none⟩ (.int .u8 128)).heap[w.heap.size]? = some (.cells (rowN (padP t 0)).toArray 5 (0, 0))) := by show _ = _; rw [blk_set hrow2, padP_start t L hL]
  have HB2 : Hid (Below w.heap.size w (w2.setCell ⟨w.heap.size, t.size, none⟩ (.int .u8 128))) := hb2.setCell (Nat.le_refl _) _
  obtain ⟨⟨v0, hc2⟩, hf2⟩ := hc2
  clear hrow2 hbel hb2 hL
  rw [← HL.out]
  go_enter Tryz.func168, Tryz.ntmps168
  go_wp2
  rw [HE.out, hmk]
  simp only [Result.andThen]
  rw [Oper.upon_value]
  go_wp2
  go_loopw [28] (fun x wr => ∃ i : Nat, i ≤ 8 ∧ x = .int .i64 i ∧ Hid (wr.heap[w.heap.size]? = some (.cells (rowN (padP t i)).toArray 5 (0, 0))) ∧ Hid (Below w.heap.size w wr)) (fun x _ => 8 - (Go.RowKit.intOf x).toNat)
  case atStart => exact ⟨0, by omega, rfl, HRow, HB2⟩
  case round =>
    clear HRow HB2 hmk hcp hc2 hf2 HE
    obtain ⟨i, hi, rfl, hrow, hnx⟩ := hrel
    by_cases hlt : i < 8
    · obtain ⟨n, hn⟩ : ∃ n, n + 1 + i = L := ⟨L - 1 - i, by omega⟩
      obtain ⟨⟨v1, hc⟩, hf⟩ := row_cellN hrow.out n (by rw [padP_len t i hi, ← HL.out]; omega)
      have HR : Hid ((wr.setCell ⟨w.heap.size, n, none⟩ (.int .u8 ((t.size : Int) * 8 / 2 ^ (8 * i) % 256))).heap[w.heap.size]? = some (.cells (rowN (padP t (i + 1))).toArray 5 (0, 0))) := by show _ = _; rw [blk_set hrow.out, padP_step t L HL.out i hlt n hn]
      have HB : Hid (Below w.heap.size w (wr.setCell ⟨w.heap.size, n, none⟩ (.int .u8 ((t.size : Int) * 8 / 2 ^ (8 * i) % 256)))) := hnx.out.setCell (Nat.le_refl _) _
      have q1 : ((L : Int) - 1 - (i : Int)).toNat = n := by omega
      have q2 : (i : Int) ≤ (L : Int) - 1 := by omega
      have q3 : (L : Int) - 1 - (i : Int) < (L : Int) := by omega
      have q4 : IntKind.i64.wrap ((L : Int) - 1 - (i : Int)) = (L : Int) - 1 - (i : Int) := by rw [IntKind.wrap_i64]; omega
      have q5 : ((8 : Int) * (i : Int)).toNat = 8 * i := by omega
      have q6 : (0 : Int) ≤ (L : Int) - 1 - (i : Int) := by omega
      clear hn
      go_wp2
      go_roundw
      case rel => exact ⟨i + 1, by omega, by go_num, HR, HB⟩
      case measure => simp [Go.RowKit.intOf]; omega
    · have hi8 : i = 8 := by omega
      subst hi8
      rw [padP_eight] at hrow
      go_wp2
      go_ret
      refine ⟨w.heap.size, rfl, ?_, hnx.out⟩
      have := ownB_of_heap hrow.out (Nat.le_refl w.heap.size) (by rw [padN_len, ← HL.out]; unfold maxLen; omega)
      rw [padN_len, ← HL.out] at this
      exact this
end Go.Proofs.YthkmeneepkaedaaGreatDoor
/-
  The program's digestOf: the digest of a text, 'digB', in new memory.
  Conditions: the text is at most 2^40 bytes long; the two tables lie as the program's text lays them.
-/
namespace Go.Proofs.YthkmeneepkaedaaGreatDoor
open Go.RowKit Go.Lib
set_option linter.unusedVariables false
set_option maxRecDepth 20000

theorem padN_in (t : ByteArray) : ∀ x ∈ padN t, 0 ≤ x ∧ x ≤ 255 := by
  intro x hx
  simp only [padN, bytesN, be8To, bePart, List.mem_append, List.mem_map, List.mem_replicate, List.mem_cons, List.not_mem_nil, or_false] at hx
  rcases hx with ((⟨b, _, rfl⟩ | rfl) | ⟨_, rfl⟩) | ⟨i, _, rfl⟩
  · have := b.toNat_lt; omega
  · omega
  · omega
  · omega
theorem byteAt_nums (xs : List Int) (i : Nat) (hi : i < xs.length) (h : 0 ≤ xs[i] ∧ xs[i] ≤ 255) : byteAt (strOfNums xs) i = xs[i] := by
  unfold byteAt
  rw [strOfNums_data, List.getD_eq_getElem?_getD, List.getElem?_map, List.getElem?_eq_getElem hi]
  simp
  omega
theorem load_cells (w : World) (g : Nat) (l : List Int) (hl : l.length = 8) (h : ∀ i, i < 8 → w.cell? ⟨g, i, none⟩ = some (.int .u32 (l.getD i 0))) :
    (loadVar 220 ⟨g, 0, none⟩).run Tryz.prog w = .ok (.agg (u8Row l)) w := by
  have hc := run_loadCells_list (P := Tryz.prog) w ⟨g, 0, none⟩ (l.map (Value.int .u32)) (fun j v hv => by
    have hj : j < l.length := by
      rcases Nat.lt_or_ge j l.length with hh | hh
      · exact hh
      · rw [List.getElem?_eq_none (by simpa using hh)] at hv; cases hv
    have hadd : (⟨g, 0, none⟩ : Addr).add j = ⟨g, j, none⟩ := by unfold Addr.add; split <;> simp_all
    rw [hadd, h j (by omega)]
    simp [List.getElem?_eq_getElem hj] at hv
    simp [List.getD_eq_getElem?_getD, List.getElem?_eq_getElem hj, hv])
  rw [List.length_map, hl] at hc
  cases hq : Tryz.prog.info? 220 with
  | none => have := info8; simp [hq] at this
  | some i =>
    have hs : i.size = 8 := by have := info8; simpa [hq] using this
    simp [loadVar, sizeOf, typeInfo, isAgg, hq, run_underlying under8, hs, hc, u8Row]
theorem store8 (w3 : World) (row : Array Value) (h : row.size = 8) (h1 : row.all (·.oneCell') = true) :
    (storeVar 220 ⟨w3.heap.size, 0, none⟩ (.agg row)).run Tryz.prog (w3.alloc (.cells #[.int .u32 0, .int .u32 0, .int .u32 0, .int .u32 0, .int .u32 0, .int .u32 0, .int .u32 0, .int .u32 0] 220)) = .ok () (w3.alloc (.cells row 220)) :=
  run_storeVar_new (P := Tryz.prog) w3 220 _ row (by rw [h]; exact info8) (by rw [h]; rfl) h1

theorem wpStill_load_row {P : Program} {w : World} {ops : Array Oper} {rest : List Oper} {o : Oper} {a : Act} {Q : Act → Prop} (hgd : o.guard = none) (t : TypeId) (x : Operand)
    (ho : o.op = .load t x) (g : Addr) (v : Value) (hx : a.eval x = .pointer (some g)) (hl : (loadVar t g).run P w = .ok v w)
    (h : wpStill P ops w Q rest (a.put o.dst v)) : wpStill P ops w Q (o :: rest) a :=
  wpStill_step fun K hK => by
    have hw : Region.wanted o (yielded ops a.tmps) = true := by simp [Region.wanted, hgd]
    rw [if_pos hw]
    unfold Oper.still execOp
    simp only [ho, hx, Instr.loadAt, Instr.sureAddr, Sem.run_bind, Sem.run_pure, Result.andThen_ok, hl]
    rw [Oper.stillUpon_value]
    exact hK _ h
theorem idxR (l : List Int) (hl : l.length = 8) (k : Nat) (hk : k < 8) (w : World) : (Instr.index 220 (.agg (u8Row l)) (.int .i64 (k : Int))).run Tryz.prog w = .ok (.int .u32 (l.getD k 0)) w := by
  match l, hl with
  | [a, b, c, d, e, f, g, h], _ => exact idx8 ⟨a, b, c, d, e, f, g, h⟩ k hk w
theorem run_make_32 (w : World) : (Instr.makeSlice 159 (.int .i64 0) (.int .i64 32)).run Tryz.prog w = .ok (.slice (some ⟨w.heap.size, 0, none⟩) 0 32) (w.alloc (.cells (zrow 32).toArray 5)) := by
  obtain ⟨i0, hi, hz0, hz1, hz2⟩ := info_parts infoU8q
  have := run_make (P := Tryz.prog) w 159 5 i0 (.int .u8 0) Tryz.underlying159 hi hz0 .i64 .i64 0 32 (by omega) (by omega) (by rw [hz2]; omega) (by omega)
  rw [this, hz1]
  rw [show (Value.int .u8 0).cells = #[.int .u8 0] from rfl, show Int.toNat 32 * 1 = 32 from rfl, madeZ]; rfl
theorem four4_eqI {y : Int} (h0 : 0 ≤ y) (h1 : y ≤ 4294967295) : four4 y = [y / 16777216, y / 65536 % 256, y / 256 % 256, y % 256] := by unfold four4; rw [show y / 16777216 % 256 = y / 16777216 by omega]

theorem stS (w3 : World) (g : Nat) (l l' : List Int) (h : w3.heap[g]? = some (.cells (u8Row l) 220 (0, 0))) (hl : l.length = 8) (hl' : l'.length = 8) :
    Hid ((storeVar 220 ⟨g, 0, none⟩ (.agg (u8Row l'))).run Tryz.prog w3 = .ok () (w3.setRow g (u8Row l'))) :=
  run_storeVar_row (P := Tryz.prog) w3 g 220 220 _ (u8Row l') h (by rw [u8Row_size, hl']; exact info8) (by rw [u8Row_size, u8Row_size, hl, hl']) (u8Row_one _)
set_option maxHeartbeats 1000000 in
set_option maxRecDepth 20000 in
theorem digI_any (t : ByteArray) (w : World) (ht : t.size ≤ 1099511627776) (htab : Tabs w) :
    Calls Tryz.prog 154 #[.string t] w fun e w' => e = .returned (.string (digB t)) ∧ Below w.heap.size w w' := by
  have HT : Hid (Tabs w) := htab
  clear htab
  have X0 : Hid ((loadVar 220 ⟨0, 0, none⟩).run Tryz.prog w = .ok (.agg (u8Row startN)) w) := load_cells w _ startN rfl HT.out.2.2
  have X1 := store8 w (u8Row startN) rfl (u8Row_one _)
  obtain ⟨W1, hW1⟩ : ∃ W1, W1 = w.alloc (.cells (u8Row startN) 220) := ⟨_, rfl⟩
  rw [← hW1] at X1
  have X2 : Hid _ := X1
  clear X1
  have R1 : Hid (W1.heap[w.heap.size]? = some (.cells (u8Row startN) 220 (0, 0))) := by show _ = _; rw [hW1]; exact heap_alloc_new w _
  have B1 : Hid (Below w.heap.size w W1) := by show Below _ _ _; rw [hW1]; exact (Below.refl _ _).alloc (Nat.le_refl _) _
  have S1 : Hid (W1.heap.size = w.heap.size + 1) := by show _ = _; rw [hW1, size_allocN]
  clear hW1
  go_enter Tryz.func154, Tryz.ntmps154
  go_wp2_with (first
    | (go_at_call 168; refine (padI_any t _ ht).mono ?_; rintro e w2 ⟨gb, rfl, ho2, hb2⟩)
    | refine wpList_load_row rfl 220 _ rfl ⟨0, 0, none⟩ _ rfl X0.out ?_
    | refine wpList_store_row rfl 220 _ _ rfl rfl ⟨w.heap.size, 0, none⟩ _ W1 rfl rfl X2.out ?_)
  have Z2 : Hid (Below w.heap.size w w2) := B1.out.trans (hb2.mono B1.out.size)
  have R2 : Hid (w2.heap[w.heap.size]? = some (.cells (u8Row (stN (padN t) 0)) 220 (0, 0))) := (hb2.block _ (by have := S1.out; omega)).trans R1.out
  have O2 : Hid (OwnB w2 W1.heap.size gb (64 * nB t) (padN t)) := ho2
  have hnb : nB t ≤ 17179869200 := by unfold nB zN; omega
  clear hb2 ho2 X0 X2 R1 B1
  go_loopw [5] (fun x wr => ∃ k : Nat, k ≤ nB t ∧ x = .int .i64 (64 * (k : Int)) ∧ Hid (wr.heap[w.heap.size]? = some (.cells (u8Row (stN (padN t) k)) 220 (0, 0))) ∧ Hid (OwnB wr W1.heap.size gb (64 * nB t) (padN t)) ∧ Hid (Below w.heap.size w wr)) (fun x _ => nB t * 64 - (Go.RowKit.intOf x).toNat)
  case atStart => exact ⟨0, by omega, rfl, R2, O2, Z2⟩
  case round =>
    clear R2 O2 Z2
    obtain ⟨k, hk, rfl, hrow, hown, hnx⟩ := hrel
    have hGlt : w.heap.size < wr.heap.size := lt_of_block hrow.out
    by_cases hlt : k < nB t
    · have hl64 : ((padN t).drop (64 * k) |>.take 64).length = 64 := by simp [padN_len]; omega
      have hcb : ∀ i, i < 64 → wr.drew.cell? ⟨gb, 64 * k + i, none⟩ = some (.int .u8 (byteAt (strOfNums ((padN t).drop (64 * k) |>.take 64)) i)) := by
        intro i hi
        have e1 : (((padN t).drop (64 * k)).take 64)[i]'(by omega) = (padN t)[64 * k + i]'(by rw [padN_len]; omega) := by simp
        rw [byteAt_nums _ i (by omega) (by rw [e1]; exact padN_in t _ (List.getElem_mem _)), e1]
        exact hown.out.cells (64 * k + i) (by rw [padN_len]; omega)
      have h8 : (u8Row (stN (padN t) k)).size = 8 := by rw [u8Row_size, stN_len]
      have hld := run_loadVar_row (P := Tryz.prog) wr.drew w.heap.size 220 220 _ (0, 0) _ hrow.out under8 rfl (by rw [h8]; exact info8)
      have hcall := blockI_any wr.drew (stN (padN t) k) gb (64 * k) (64 * nB t - 64 * k) _ (by omega) hown.out.hi (HT.out.below hnx.out.drew HT.out.1) (stN_len _ _) (stN_in _ _) hcb
      have HE : Hid (blockN (stN (padN t) k) (strOfNums ((padN t).drop (64 * k) |>.take 64)) = stN (padN t) (k + 1)) := rfl
      rw [HE.out] at hcall
      have XL : Hid ((loadVar 220 ⟨w.heap.size, 0, none⟩).run Tryz.prog wr.drew = .ok (.agg (u8Row (stN (padN t) k))) wr.drew) := hld
      clear hld hcb hl64 h8 HE
      have q0 : IntKind.i64.wrap ((64 : Int) * k + 64) = (64 : Int) * k + 64 := by rw [IntKind.wrap_i64]; omega
      have q1 : (64 : Int) * k + 64 ≤ 64 * nB t := by omega
      have q2 : ((64 : Int) * k).toNat = 64 * k := by omega
      have q3 : ((64 : Int) * k + 64).toNat = 64 * k + 64 := by omega
      have q4 : ¬ nB t = k := by omega
      have q5 : (64 : Int) * k < 64 * nB t := by omega
      have q6 : ¬ 64 * nB t = 64 * k := by omega
      have q7 : (0 : Int) ≤ 64 * k + 64 := by omega
      have q8 : (0 : Int) ≤ 64 * k := by omega
      have q9 : (64 : Int) * k ≤ 64 * k + 64 := by omega
      go_wp2
      refine wp_region_still_tail 6 (by kernel_rfl) (by kernel_rfl) ?_
      simp only [List.take_succ_cons, List.take_zero, List.drop_succ_cons, List.drop_zero]
      refine wpStill_load_row rfl 220 _ rfl ⟨w.heap.size, 0, none⟩ _ rfl XL.out ?_
      repeat still_step
      refine wpStill_nil ?_
      go_wp2_with (first
        | (go_at_call 169; refine hcall.mono ?_; rintro e w3 ⟨rfl, hb3⟩; have X3 := stS w3 w.heap.size _ (stN (padN t) (k + 1)) ((hb3.block _ hGlt).trans hrow.out) (stN_len _ _) (stN_len _ _))
        | refine wpList_store_row rfl 220 _ _ rfl rfl ⟨w.heap.size, 0, none⟩ _ _ rfl rfl X3.out ?_)
      have hr3 : w3.heap[w.heap.size]? = some (.cells (u8Row (stN (padN t) k)) 220 (0, 0)) := (hb3.block _ hGlt).trans hrow.out
      have hR : Hid ((w3.setRow w.heap.size (u8Row (stN (padN t) (k + 1)))).heap[w.heap.size]? = some (.cells (u8Row (stN (padN t) (k + 1))) 220 (0, 0))) := setRow_heap w3 w.heap.size _ _ 220 _ hr3
      have hO : Hid (OwnB (w3.setRow w.heap.size (u8Row (stN (padN t) (k + 1)))) W1.heap.size gb (64 * nB t) (padN t)) :=
        (hown.out.drew.below hb3).carry (Nat.le_of_eq (by simp)) (setRow_other w3 w.heap.size gb _ (by have := hown.out.lo; have := S1.out; omega))
      have hN : Hid (Below w.heap.size w (w3.setRow w.heap.size (u8Row (stN (padN t) (k + 1))))) := below_setRow (hnx.out.drew.trans (hb3.mono (Nat.le_of_lt hGlt))) (Nat.le_refl _) _
      go_roundw
      case rel => exact ⟨k + 1, by omega, by go_num, hR, hO, hN⟩
      case measure => simp [Go.RowKit.intOf]; omega
    · have hkk : k = nB t := by omega
      subst hkk
      have HD : Hid (digB t = strOfNums (outN (stN (padN t) (nB t)) 8)) := rfl
      have hin := stN_in (padN t) (nB t)
      have hl8 := stN_len (padN t) (nB t)
      generalize stN (padN t) (nB t) = st at *
      have h8 : (u8Row st).size = 8 := by rw [u8Row_size, hl8]
      have HI : Hid (∀ i, i < 8 → 0 ≤ st.getD i 0 ∧ st.getD i 0 ≤ 4294967295) := hin
      have HL8 : Hid (st.length = 8) := hl8
      clear hin hl8 hown hk hlt
      rename World => W3
      have XL : Hid ((loadVar 220 ⟨w.heap.size, 0, none⟩).run Tryz.prog (W3.alloc (.cells (zrow 32).toArray 5)) = .ok (.agg (u8Row st)) (W3.alloc (.cells (zrow 32).toArray 5))) :=
        run_loadVar_row (P := Tryz.prog) (W3.alloc (.cells (zrow 32).toArray 5)) w.heap.size 220 220 _ (0, 0) _ ((Below.heap_alloc _ _ _ hGlt).trans hrow.out) under8 rfl (by rw [h8]; exact info8)
      clear h8
      obtain ⟨i0, hi, hz0, hz1, hz2⟩ := info_parts infoU8q
      have hmk := run_make_32
      go_wp2_with (refine wpList_load_row rfl 220 _ rfl ⟨w.heap.size, 0, none⟩ _ rfl XL.out ?_)
      clear XL
      go_loopw [27, 6] (fun x v wr => ∃ (k g cap : Nat), k ≤ 8 ∧ x = .int .i64 k ∧ v = .slice (some ⟨g, 0, none⟩) (4 * k) cap ∧ wr.ownsRow W3.heap.size 5 1 (.slice (some ⟨g, 0, none⟩) (4 * k) cap) (4 * k) ((outN st k).map (Value.int .u8)) ∧ Below W3.heap.size W3 wr) (fun x _ _ => 8 - (Go.RowKit.intOf x).toNat)
      case atStart => exact ⟨0, W3.heap.size, 32, by omega, rfl, rfl, World.ownsRow_made W3 (zrow 32).toArray 32 (Nat.le_refl _) (by unfold maxLen; omega) rfl, (Below.refl _ _).alloc (Nat.le_refl _) _⟩
      case round =>
        obtain ⟨k, g, cap, hk, rfl, rfl, hown, hnx4⟩ := hrel
        have hsz := hnx4.size
        by_cases hlt : k < 8
        · have hidx := idxR st HL8.out k hlt
          obtain ⟨y0, y1⟩ := HI.out k hlt
          have HT2 : Hid (outN st (k + 1) = outN st k ++ four4 (st.getD k 0)) := rfl
          generalize st.getD k 0 = y at *
          have j5 : (k : Int) < 8 := by omega
          go_wp2_with (at_builtin; refine wpList_append_lies _ rfl _ _ 159 rfl W3.heap.size 5 i0 (.int .u8 0) 1 1 Tryz.underlying159 hi hz0 hz1 hz2 rfl (by omega) _ (4 * k) _ rfl (hown.alloc _) ⟨wr.heap.size, 0, none⟩ 4 4 [.int .u8 (y / 16777216), .int .u8 (y / 65536 % 256), .int .u8 (y / 256 % 256), .int .u8 (y % 256)] rfl rfl (World.news_of_block (cs := #[.int .u8 (y / 16777216), .int .u8 (y / 65536 % 256), .int .u8 (y / 256 % 256), .int .u8 (y % 256)]) (t := 5) (fr := (0, 0)) (heap_alloc_new wr _)) (by simp [Value.oneCell']) (by omega) (by unfold maxLen; omega) (by omega) (by simp; omega) (wr.heap.size + 1) (by simp) ?_; intro g2 cap2 w2 hown2 hgrow hat hltg)
          have hb2 : Below W3.heap.size W3 w2 := (hnx4.alloc hsz _).grown hgrow (by rw [size_allocN]; omega) (fun j hj => (hown.lt j hj).1)
          have ho2 : w2.ownsRow W3.heap.size 5 1 (.slice (some ⟨g2, 0, none⟩) (4 * (k + 1)) cap2) (4 * (k + 1)) ((outN st (k + 1)).map (Value.int .u8)) := by rw [HT2.out, four4_eqI y0 y1, List.map_append]; exact hown2
          go_roundw
          case rel => exact ⟨k + 1, g2, cap2, by omega, by go_num, rfl, ho2, hb2⟩
          case measure => simp [Go.RowKit.intOf]; omega
        · have hk8 : k = 8 := by omega
          subst hk8
          have hconv := conv_b (ownB_of_row hown (outN_len st 8)) 0 32 cap (by rw [outN_len]; omega)
          rw [List.drop_zero, List.take_of_length_le (by rw [outN_len]; omega)] at hconv
          rw [← HD.out] at hconv
          go_wp2
          go_ret
          exact ⟨rfl, hnx.out.trans (hnx4.mono hnx.out.size)⟩
end Go.Proofs.YthkmeneepkaedaaGreatDoor
/-
  The specification's small parts of SHA-256: a number of 32 bits turned right ('turnR x k'), the keys of the rounds and the first state, each in new memory.
  Conditions: the number is from 0 to 2^32 - 1, k from 0 to 32.
-/
namespace Go.Proofs.YthkmeneepkaedaaGreatDoor
open Go.RowKit Go.Lib
set_option linter.unusedVariables false

set_option maxHeartbeats 400000 in
theorem specTurn_any (x : Int) (k : Nat) (w : World) (h0 : 0 ≤ x) (h1 : x ≤ 4294967295) (hk : k ≤ 32) :
    Calls Tryz.prog 149 #[.int .u32 x, .int .u64 k] w fun e w' => e = .returned (.int .u32 (turnR x k)) ∧ w' = w := by
  go_enter Tryz.func149, Tryz.ntmps149
  go_wp2
  go_ret
  exact ⟨rfl, rfl⟩

theorem specTurn_c (x c : Int) (w : World) (h0 : 0 ≤ x) (h1 : x ≤ 4294967295) (c0 : 0 ≤ c) (c1 : c ≤ 32) :
    Calls Tryz.prog 149 #[.int .u32 x, .int .u64 c] w fun e w' => e = .returned (.int .u32 (turnR x c.toNat)) ∧ w' = w := by
  obtain ⟨k, rfl⟩ : ∃ k : Nat, c = k := ⟨c.toNat, by omega⟩
  exact specTurn_any x k w h0 h1 (by omega)

set_option maxHeartbeats 1000000 in
set_option maxRecDepth 20000 in
theorem specStart_any (w : World) :
    Calls Tryz.prog 127 #[] w fun e w' => e = .returned (.slice (some ⟨w.heap.size, 0, none⟩) 8 8) ∧ w' = w.alloc (.cells (startN.map (Value.int .i64)).toArray 2) := by
  go_enter Tryz.func127, Tryz.ntmps127
  go_wp2
  go_ret
  exact ⟨rfl, rfl⟩

set_option maxHeartbeats 4000000 in
set_option maxRecDepth 20000 in
theorem specKeys_any (w : World) :
    Calls Tryz.prog 150 #[] w fun e w' => e = .returned (.slice (some ⟨w.heap.size, 0, none⟩) 64 64) ∧ w' = w.alloc (.cells (keysN.map (Value.int .u32)).toArray 195) := by
  go_enter Tryz.func150, Tryz.ntmps150
  go_wp2
  go_ret
  exact ⟨rfl, rfl⟩
end Go.Proofs.YthkmeneepkaedaaGreatDoor
