/-
  What l03Some draws: at most 30 texts of at most 101 bytes each, in a row that the call owns. The source's block alone is written.
  Conditions: the source is one ('Src').
-/
import Derived.Test.YtlmkfjlaakmmpaaDoorRows
import Derived.Test.YtlmkfjlaakmmpaaDoorBytes
import Derived.Test.YtlmkfjlaakmmpaaDoorSlA
import Derived.Test.YtlmkfjlaakmmpaaDoorSlBOwnS
import Derived.Test.YtlmkfjlaakmmpaaDoorAppS
import Derived.Test.YtlmkfjlaakmmpaaDoorSrcDrawsDrawKit
import Derived.Handy
import Derived.WalkSpells
import Derived.OwnWalk
namespace Go.Proofs.YtlmkfjlaakmmpaaDoor
open Go.RowKit Go.Lib
set_option linter.unusedVariables false
set_option maxRecDepth 20000

theorem BlkS.touch {w w' : World} {g p : Nat} {l : List ByteArray} (h : BlkS w g l) (hg : w.grownBy w' (some p)) (hne : g ≠ p) : BlkS w' g l := by
  unfold BlkS at *; rw [hg.block g (lt_of_block h) (fun e => hne (by cases e; rfl))]; exact h
theorem append_size (s t : ByteArray) : (s ++ t).size = s.size + t.size := by simp

set_option maxHeartbeats 1000000 in
theorem pick_any (B p : Nat) (a : Option Addr) (len cap : Nat) (g : Nat) (ss : List ByteArray) (w : World) (hs : Src 117 B p a len cap w) (hb : BlkS w g ss) (hne : g ≠ p) (h0 : 0 < ss.length) (hn : ss.length ≤ 1048576) :
    Calls Tryd.prog 111 #[.pointer (some ⟨p, 0, none⟩), .slice (some ⟨g, 0, none⟩) ss.length ss.length] w fun e w' =>
      (∃ t ∈ ss, e = .returned (.string t)) ∧ Src 117 B p a len cap w' ∧ w.grownBy w' (some p) := by
  have HS : Hid (Src 117 B p a len cap w) := hs
  have HB : Hid (BlkS w g ss) := hb
  clear hs hb
  go_enter Tryd.func111, Tryd.ntmps111
  go_wp2_with fail
  refine (n_any B p a len cap _ _ HS.out (by omega)).mono ?_
  rintro e w1 ⟨⟨r, rfl, hr0, hr1, hr2⟩, hs1, hg1⟩
  obtain ⟨k, rfl⟩ := Int.eq_ofNat_of_zero_le hr0
  have hk : k < ss.length := by
    by_cases h1 : (1 : Int) < ss.length
    · have := hr1 h1; omega
    · have := hr2 (by omega); omega
  have hc := ((HB.out.touch hg1 hne).cell k hk).1
  have HM : Hid (ss[k] ∈ ss) := List.getElem_mem hk
  have H1 : Hid (Src 117 B p a len cap w1) := hs1
  clear hs1 hr1 hr2
  generalize ss[k] = t at *
  have i1 : (k : Int) < ss.length := by omega
  go_wp2
  go_ret
  exact ⟨⟨t, HM.out, rfl⟩, H1.out, hg1⟩

theorem app_one (w : World) (base : Nat) (v : Value) (l : List ByteArray) (own : w.ownsRow base 9 1 v l.length (strRow l)) (T : ByteArray) (hl : l.length + 1 ≤ 1048576) (hbase : base ≤ w.heap.size) :
    ∃ v' w', (Builtin.append_ #[41, 41] 41 #[v, .slice (some ⟨w.heap.size, 0, none⟩) 1 1]).run Tryd.prog (w.alloc (.cells #[.string T] 9)) = .ok v' w' ∧ w'.ownsRow base 9 1 v' (l ++ [T]).length (strRow (l ++ [T])) ∧ (w.alloc (.cells #[.string T] 9)).grownBy w' v.ownBlock :=
  app_texts (w.alloc (.cells #[.string T] 9)) base v l (own.alloc _) (some ⟨w.heap.size, 0, none⟩) 1 [T] (alloc_str w [T]).txt hl (by simp; omega)
/-- What an append to an own row leaves of a source and of what was there. -/
theorem app_leaves {T : TypeId} {B p : Nat} {a : Option Addr} {len cap : Nat} {w0 w w' : World} {e : TypeId} {v : Value} {n : Nat} {xs : List Value} {x : Obj} (own : w.ownsRow w0.heap.size e 1 v n xs) (hs : Src T B p a len cap w) (hp : p < w0.heap.size) (hg : w0.grownBy w (some p)) (h : (w.alloc x).grownBy w' v.ownBlock) :
    Src T B p a len cap w' ∧ w0.grownBy w' (some p) := by
  have hrow : ∀ j, v.ownBlock = some j → w0.heap.size ≤ j := fun j hj => (own.lt j hj).1
  exact ⟨(hs.below ((Below.refl _ _).alloc (Nat.le_refl _) _)).other h (fun j hj => by have := hrow j hj; omega), touch_own (touch_below hg ((Below.refl _ _).alloc (Nat.le_refl _) _)) h hrow⟩

def fourS : List ByteArray := [⟨#[97]⟩, ⟨#[98]⟩, ⟨#[]⟩, ⟨#[101, 110, 116, 114, 121]⟩]
theorem fourS_small : ∀ t ∈ fourS, t.size ≤ 5 := by decide

set_option maxHeartbeats 4000000 in
theorem some_any (B p : Nat) (a : Option Addr) (len cap : Nat) (w : World) (hs : Src 117 B p a len cap w) :
    Calls Tryd.prog 74 #[.pointer (some ⟨p, 0, none⟩)] w fun e w' =>
      (∃ (v : Value) (L : List ByteArray), e = .returned v ∧ w'.ownsRow w.heap.size 9 1 v L.length (strRow L) ∧ L.length ≤ 30 ∧ ∀ x ∈ L, x.size ≤ 101) ∧ Src 117 B p a len cap w' ∧ w.grownBy w' (some p) := by
  have hp := hs.lt
  obtain ⟨i0, hi, hy0, hy1, hy2⟩ := info_parts infoStr
  obtain ⟨z, z0, z1, hz⟩ := hs.size
  have HS : Hid (Src 117 B p a len cap (w.alloc (.cells #[] 9))) := hs.below ((Below.refl _ _).alloc (Nat.le_refl _) _)
  have hz2 : (w.alloc (.cells #[] 9)).cell? ⟨p, 3, none⟩ = some (.int .i64 z) := by rw [World.cell?_alloc_old _ _ _ (by show p ≠ _; omega)]; exact hz
  clear hs
  go_enter Tryd.func74, Tryd.ntmps74
  go_wp2_with fail
  refine (n_any B p a len cap _ _ HS.out (by go_num)).mono ?_
  rintro e w1 ⟨⟨r, rfl, hr0, hr1, hr2⟩, hs1, hg1⟩
  have hr : r ≤ 29 := by
    have := hr1 (by go_num)
    go_num
  have HS1 : Hid (Src 117 B p a len cap w1) := hs1
  have hg0 := hg1
  have hg1 := touch_trans (World.grownBy_alloc w (.cells #[] 9) (some p)) hg1
  have hsz1 := hg1.size
  have ho1 : w1.ownsRow w.heap.size 9 1 (.slice (some ⟨w.heap.size, 0, none⟩) 0 0) ([] : List ByteArray).length (strRow []) := (ownS_none w).kept hg0 (.inr (by show some w.heap.size ≠ some p; simp; omega))
  obtain ⟨k1, rfl⟩ := Int.eq_ofNat_of_zero_le hr0
  clear hs1 HS hz hz2 hr1 hr2 hg0
  go_wp2_with fail
  go_loopw [3, 4] (fun v i wr => ∃ (k : Nat) (L : List ByteArray) (v0 : Value), v0 = v ∧ i = .int .i64 k ∧ L.length + k ≤ 29 ∧ Hid (wr.ownsRow w.heap.size 9 1 v L.length (strRow L)) ∧ Hid (∀ x ∈ L, x.size ≤ 101) ∧ Hid (Src 117 B p a len cap wr) ∧ Hid (w.grownBy wr (some p))) (fun _ i _ => (intOf i).toNat)
  case atStart => exact ⟨k1, [], _, rfl, rfl, by simp; omega, ho1, (fun x hx => by simp at hx), HS1, hg1⟩
  case round =>
    clear ho1 HS1 hg1 hsz1
    obtain ⟨k, L, v, rfl, rfl, hk, HO, HL, HS, HG⟩ := hrel
    have hsz := HG.out.size
    obtain ⟨q, cq, rfl, hcq, _⟩ := ownS_form HO.out
    by_cases hlt : 0 < (k : Int)
    · have HB4 : Hid (BlkS (wr.alloc (.cells (strRow fourS).toArray 9)) wr.heap.size fourS) := alloc_str wr fourS
      have HS4 : Hid (Src 117 B p a len cap (wr.alloc (.cells (strRow fourS).toArray 9))) := HS.out.below ((Below.refl _ _).alloc (Nat.le_refl _) _)
      go_wp2_with fail
      refine (pick_any B p a len cap wr.heap.size fourS _ HS4.out HB4.out (by omega) (by decide) (by decide)).mono ?_
      rintro e w2 ⟨⟨t, ht, rfl⟩, hs2, hg2⟩
      have hg2 := touch_trans (World.grownBy_alloc wr _ (some p)) hg2
      have t5 := fourS_small t ht
      clear HB4 HS4 ht
      go_wp2_with fail
      refine (n_any B p a len cap 2 _ hs2 (by omega)).mono ?_
      rintro e w3 ⟨⟨r, rfl, r0, r1, _⟩, hs3, hg3⟩
      have r2 := r1 (by omega)
      have hg3 := touch_trans hg2 hg3
      clear hs2 hg2 r1
      go_wp2_with fail
      refine (bytes_any B p a len cap r _ hs3 (by omega)).mono ?_
      rintro e w4 ⟨⟨u, rfl, hu⟩, hs4, hg4⟩
      have hg4 := touch_trans hg3 hg4
      have hgw := touch_trans HG.out hg4
      have HO4 := HO.out.kept hg4 (.inr (fun e => by have := (HO.out.lt p e).1; omega))
      have HT : Hid ((t ++ u).size ≤ 101) := by show _ ≤ _; rw [append_size]; omega
      have hsz4 := hgw.size
      have HGW : Hid (w.grownBy w4 (some p)) := hgw
      have HS4 : Hid (Src 117 B p a len cap w4) := hs4
      clear hs4 hs3 hg3 hg4 hgw hg2
      go_wp2_with (at_builtin; refine wpList_append_lies _ rfl _ _ 41 rfl w.heap.size 9 i0 (.string ByteArray.empty) 1 16 Tryd.underlying41 hi hy0 hy1 hy2 rfl (by omega) _ L.length (strRow L) rfl (HO4.alloc _) ⟨w4.heap.size, 0, none⟩ 1 1 [.string (t ++ u)] rfl rfl (World.news_of_block (cs := #[.string (t ++ u)]) (t := 9) (fr := (0, 0)) (MapKept.heap_alloc w4 _).1) (by simp [Value.oneCell']) (by omega) (by unfold maxLen; omega) (by omega) (by simp; omega) (w4.heap.size + 1) (by simp) ?_; intro g2 cap2 w5 hown2 hgrow hat hltg)
      obtain ⟨hs5, hg6⟩ := app_leaves HO4 HS4.out hp HGW.out hgrow
      have e1 : (L ++ [t ++ u]).length = L.length + 1 := by simp
      have e2 : strRow (L ++ [t ++ u]) = strRow L ++ [.string (t ++ u)] := by simp [strRow]
      go_roundw
      case rel => exact ⟨k - 1, L ++ [t ++ u], _, rfl, by go_num, by simp; omega, by show World.ownsRow _ _ _ _ _ _ _; rw [e1, e2]; exact hown2, (fun x hx => by
        rcases List.mem_append.1 hx with h | h
        · exact HL.out x h
        · obtain rfl := List.mem_singleton.1 h; exact HT.out), hs5, hg6⟩
      case measure => simp [intOf]; omega
    · go_wp2_with fail
      refine (one_any B p a len cap 25 _ HS.out (by omega)).mono ?_
      rintro e w2 ⟨⟨b, rfl⟩, hs2, hg2⟩
      have hgw := touch_trans HG.out hg2
      have HO2 := HO.out.kept hg2 (.inr (fun e => by have := (HO.out.lt p e).1; omega))
      have hsz2 := hgw.size
      have HGW : Hid (w.grownBy w2 (some p)) := hgw
      have HS2 : Hid (Src 117 B p a len cap w2) := hs2
      clear hs2 hgw hg2 HG HS
      cases b
      · go_wp2
        go_ret
        exact ⟨⟨_, L, rfl, HO2, by omega, HL.out⟩, HS2.out, HGW.out⟩
      · go_wp2_with fail
        refine (n_any B p a len cap 2 _ HS2.out (by omega)).mono ?_
        rintro e w3 ⟨⟨r, rfl, r0, r1, _⟩, hs3, hg3⟩
        have r2 := r1 (by omega)
        clear r1
        obtain ⟨m, rfl⟩ := Int.eq_ofNat_of_zero_le r0
        have hgw := touch_trans HGW.out hg3
        have HO3 := HO2.kept hg3 (.inr (fun e => by have := (HO2.lt p e).1; omega))
        have hsz3 := hgw.size
        have HS3 : Hid (Src 117 B p a len cap w3) := hs3
        have hgw := touch_below hgw ((Below.refl _ _).alloc (Nat.le_refl _) (.cells (zrow (100 + m)).toArray 5))
        have HO4 := HO3.alloc (.cells (zrow (100 + m)).toArray 5)
        have HS4 : Hid (Src 117 B p a len cap (w3.alloc (.cells (zrow (100 + m)).toArray 5))) := HS3.out.below ((Below.refl _ _).alloc (Nat.le_refl _) _)
        have HGW : Hid (w.grownBy (w3.alloc (.cells (zrow (100 + m)).toArray 5)) (some p)) := hgw
        have hmk := run_make_u8s (100 + m) (by omega) w3
        have hcv := zconv (100 + m) w3
        have HT : Hid ((strOfNums (List.replicate (100 + m) 0)).size ≤ 101) := by show _ ≤ _; rw [strOfNums_size]; simp; omega
        have hsz4 : w.heap.size ≤ (w3.alloc (.cells (zrow (100 + m)).toArray 5)).heap.size := hgw.size
        generalize hW : w3.alloc (.cells (zrow (100 + m)).toArray 5) = w4 at *
        generalize strOfNums (List.replicate (100 + m) 0) = T at *
        have hc1 : ((100 + m : Nat) : Int) = 100 + (m : Int) := by omega
        rw [hc1] at hmk
        clear hs3 hgw hg3
        go_wp2_with (at_builtin; refine wpList_append_lies _ rfl _ _ 41 rfl w.heap.size 9 i0 (.string ByteArray.empty) 1 16 Tryd.underlying41 hi hy0 hy1 hy2 rfl (by omega) _ L.length (strRow L) rfl (HO4.alloc _) ⟨w4.heap.size, 0, none⟩ 1 1 [.string T] rfl rfl (World.news_of_block (cs := #[.string T]) (t := 9) (fr := (0, 0)) (MapKept.heap_alloc w4 _).1) (by simp [Value.oneCell']) (by omega) (by unfold maxLen; omega) (by omega) (by simp; omega) (w4.heap.size + 1) (by simp) ?_; intro g2 cap2 w5 hown2 hgrow hat hltg)
        obtain ⟨hs5, hg6⟩ := app_leaves HO4 HS4.out hp HGW.out hgrow
        have HS5 : Hid (Src 117 B p a len cap w5) := hs5
        have e1 : (L ++ [T]).length = L.length + 1 := by simp
        have e2 : strRow (L ++ [T]) = strRow L ++ [.string T] := by simp [strRow]
        clear hs5
        go_wp2
        go_ret
        exact ⟨⟨_, L ++ [T], rfl, by rw [e1, e2]; exact hown2, by simp; omega, (fun x hx => by
          rcases List.mem_append.1 hx with h | h
          · exact HL.out x h
          · obtain rfl := List.mem_singleton.1 h; exact HT.out)⟩, HS5.out, hg6⟩
end Go.Proofs.YtlmkfjlaakmmpaaDoor
