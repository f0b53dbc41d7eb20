/-
  Parts of one proof, laid as one text: SealMath, Scopes; what each says stands at its head.
-/
import Derived.Test.YtkhffoailfnepakGreatDoorCrcMathUnsealI
import Derived.Test.YtkhffoailfnepakGreatDoorFourJoinedSealOwnB
import Derived.ScopeJumps
import Derived.WalkMore
/-
  A sealed text comes back; with one byte turned it is refused: in plain mathematics, over what Seal and Unseal answer.
-/
namespace Go.Proofs.YtkhffoailfnepakGreatDoor
open Go.RowKit Go.Lib
set_option linter.unusedVariables false

theorem unsealB_of (lt lf : List UInt8) (h4 : lf.length = 4) (h8 : lt.length + 4 ≤ 8000) :
    unsealB ⟨(lt ++ lf).toArray⟩ = if (four (crcV 0 ⟨lt.toArray⟩)).data.toList = lf then textOut ⟨lt.toArray⟩ 0 0 else textOut ByteArray.empty 0 5 := by
  have hsz : (⟨(lt ++ lf).toArray⟩ : ByteArray).size = lt.length + 4 := by simp [ByteArray.size, h4]
  have hbody : body ⟨(lt ++ lf).toArray⟩ = ⟨lt.toArray⟩ := by
    unfold body; rw [hsz, extract_eq]
    simp
  have htail : (tail4 ⟨(lt ++ lf).toArray⟩).toList = lf := by
    unfold tail4; rw [hsz, extract_toList]
    simp
    exact List.take_of_length_le (by omega)
  unfold unsealB
  rw [if_neg (by rw [hsz]; omega), if_neg (by rw [hsz]; omega), hbody, htail, toList_data]
  by_cases e : (four (crcV 0 ⟨lt.toArray⟩)).data.toList = lf
  · rw [if_pos e, if_pos (by rw [e]; simp)]
  · rw [if_neg e, if_neg (by simpa using e)]

theorem sealB_list (t : ByteArray) (h : t.size ≤ 7996) : sealB t = ⟨(t.data.toList ++ (four (crcV 0 t)).data.toList).toArray⟩ := by
  unfold sealB; rw [if_neg (by omega)]
  apply ByteArray.ext; simp
theorem four_len (n : Int) : (four n).data.toList.length = 4 := by rw [← size_eq]; exact four_size n
theorem sealB_size (t : ByteArray) (h : t.size ≤ 7996) : (sealB t).size = t.size + 4 := by
  unfold sealB; rw [if_neg (by omega)]; simp [four_size]

theorem unseal_seal (t : ByteArray) (h : t.size ≤ 7996) : unsealB (sealB t) = textOut t 0 0 := by
  rw [sealB_list t h, unsealB_of _ _ (four_len _) (by rw [← size_eq]; omega)]
  rw [mk_data, if_pos rfl]

theorem unseal_turned (t : ByteArray) (h : t.size ≤ 7996) (i : Nat) (x : UInt8) (hi : i < (sealB t).size) (hx : x ≠ (sealB t)[i]) :
    unsealB ⟨((sealB t).data.toList.set i x).toArray⟩ = textOut ByteArray.empty 0 5 := by
  have hsz := sealB_size t h
  have hl := sealB_list t h
  have hxl : ∀ y, (t.data.toList ++ (four (crcV 0 t)).data.toList)[i]? = some y → x ≠ y := by
    intro y hy e
    apply hx
    have h1 : (sealB t).data.toList[i]? = some y := by rw [hl]; simpa using hy
    have h2 : (sealB t).data.toList[i]? = some (sealB t)[i] := by
      rw [List.getElem?_eq_getElem (by simpa using hi)]; rfl
    rw [e]
    exact Option.some.inj (h1.symm.trans h2)
  have hdata : (sealB t).data.toList = t.data.toList ++ (four (crcV 0 t)).data.toList := by rw [hl]
  rw [hdata]
  have htl : t.data.toList.length = t.size := (size_eq t).symm
  by_cases hlt : i < t.size
  · rw [List.set_append_left _ _ (by omega), unsealB_of _ _ (four_len _) (by rw [List.length_set]; omega), if_neg]
    intro e
    have e1 : four (crcV 0 ⟨(t.data.toList.set i x).toArray⟩) = four (crcV 0 t) := by
      apply ByteArray.ext; exact Array.toList_inj.1 e
    have b1 := crcV_bd 0 ⟨(t.data.toList.set i x).toArray⟩
    have b2 := crcV_bd 0 t
    have e2 := four_inj b1.1 b1.2 b2.1 b2.2 e1
    have hil : i < t.data.toList.length := by omega
    have s1 : t.data.toList.set i x = t.data.toList.take i ++ x :: t.data.toList.drop (i + 1) := List.set_eq_take_append_cons_drop.trans (if_pos hil)
    have s2 : t.data.toList = t.data.toList.take i ++ t.data.toList[i] :: t.data.toList.drop (i + 1) := by rw [← List.drop_eq_getElem_cons hil, List.take_append_drop]
    have e3 : crcV 0 ⟨(t.data.toList.take i ++ x :: t.data.toList.drop (i + 1)).toArray⟩ = crcV 0 ⟨(t.data.toList.take i ++ t.data.toList[i] :: t.data.toList.drop (i + 1)).toArray⟩ := by
      rw [← s1, ← s2, mk_data]; exact e2
    exact hxl t.data.toList[i] (by rw [List.getElem?_append_left hil, List.getElem?_eq_getElem hil]) (crcV_turned _ _ _ _ e3)
  · rw [List.set_append_right _ _ (by omega), unsealB_of _ _ (by rw [List.length_set]; exact four_len _) (by omega), if_neg]
    rw [mk_data]
    intro e
    have hj : i - t.data.toList.length < (four (crcV 0 t)).data.toList.length := by rw [four_len]; omega
    have h1 : ((four (crcV 0 t)).data.toList.set (i - t.data.toList.length) x)[i - t.data.toList.length]? = some x := List.getElem?_set_self hj
    rw [← e] at h1
    exact hxl x (by rw [List.getElem?_append_right (by omega)]; exact h1) rfl

theorem xor8 (c d : Int) (c0 : 0 ≤ c) (c1 : c ≤ 255) (d0 : 1 ≤ d) (d1 : d ≤ 255) : 0 ≤ bits .xor .u8 c d ∧ bits .xor .u8 c d ≤ 255 ∧ bits .xor .u8 c d ≠ c := by
  obtain ⟨a, rfl⟩ := Int.eq_ofNat_of_zero_le c0
  obtain ⟨b, rfl⟩ := Int.eq_ofNat_of_zero_le (show 0 ≤ d by omega)
  have hx : a ^^^ b < 2 ^ 8 := Nat.xor_lt_two_pow (by omega) (by omega)
  have e : bits .xor .u8 (a : Int) (b : Int) = ((a ^^^ b : Nat) : Int) := by
    show IntKind.u8.wrap ((BitVec.ofInt 8 (a : Int) ^^^ BitVec.ofInt 8 (b : Int)).toNat : Int) = _
    rw [BitVec.ofInt_natCast, BitVec.ofInt_natCast, BitVec.toNat_xor, BitVec.toNat_ofNat, BitVec.toNat_ofNat, Nat.mod_eq_of_lt (by omega), Nat.mod_eq_of_lt (by omega), IntKind.wrap_u8]
    omega
  rw [e]
  refine ⟨by omega, by omega, fun h => ?_⟩
  have h' : a ^^^ b = a := by omega
  have : b = 0 := by
    have e2 := congrArg (fun z => a ^^^ z) h'
    simpa [← Nat.xor_assoc] using e2
  omega
end Go.Proofs.YtkhffoailfnepakGreatDoor
/-
  A scope with several labels: what holds at each jump ('J l'), and a measure that every pass lowers. After the guide's law for one label (Derived/ScopeJumps).
-/
namespace Go.Proofs.YtkhffoailfnepakGreatDoor
open Go

/-- As Q; by a goto to label l: J l. -/
def jumps (J : Nat → Act → World → Prop) (Q : Exit → Act → World → Prop) : Exit → Act → World → Prop
  | .goto l, a, w => J l a w
  | e, a, w => Q e a w

theorem wp_scope_many {P : Program} {a : Act} {w : World} {Q : Exit → Act → World → Prop} {c : Code} (R : Nat → Code) (J : Nat → Act → World → Prop) (μ : Nat → Act → World → Nat)
    (hf : ∀ l a w, J l a w → findLabel c l = some (R l))
    (N : Nat) (first : c.wp P (jumps (fun l' a' w' => J l' a' w' ∧ μ l' a' w' < N) Q) a w)
    (pass : ∀ l a w, J l a w → (R l).wp P (jumps (fun l' a' w' => J l' a' w' ∧ μ l' a' w' < μ l a w) Q) a w) : (Code.scope c).wp P Q a w := by
  intro b k cs
  have hg : ∀ l a w, J l a w → gotoIn l (.inScope c :: k) = some (.code (R l) :: .inScope c :: k) := fun l a w h => by simp [gotoIn, hf l a w h]
  have key : ∀ n l a w, μ l a w = n → J l a w → ∃ e a' w', Q e a' w' ∧ Arrives P (lone (b.at a (.code (R l) :: .inScope c :: k)) cs w) b k cs e a' w' := by
    intro n
    induction n using Nat.strongRecOn with
    | _ n ih =>
      intro l a w hn hJ
      obtain ⟨e, a₁, w₁, hq, harr⟩ := pass l a w hJ b (.inScope c :: k) cs
      cases e with
      | normal => exact ⟨.normal, a₁, w₁, hq, Steps.trans harr (.one step_inScope)⟩
      | exit id => exact ⟨.exit id, a₁, w₁, hq, fun k' hk => harr k' (by simp [exitTo, hk])⟩
      | goto l' =>
        obtain ⟨hJ', hlt⟩ := hq
        obtain ⟨e₂, a₂, w₂, hq₂, harr₂⟩ := ih _ (by omega) l' a₁ w₁ rfl hJ'
        exact ⟨e₂, a₂, w₂, hq₂, .of_steps (harr _ (hg l' a₁ w₁ hJ')) harr₂⟩
      | ret => exact ⟨_, a₁, w₁, hq, harr⟩
      | panic ch => exact ⟨_, a₁, w₁, hq, harr⟩
      | outgrown => exact ⟨_, a₁, w₁, hq, harr⟩
  obtain ⟨e, a₁, w₁, hq, harr⟩ := first b (.inScope c :: k) cs
  cases e with
  | normal => exact ⟨.normal, a₁, w₁, hq, .head step_scope (Steps.trans harr (.one step_inScope))⟩
  | exit id => exact ⟨.exit id, a₁, w₁, hq, fun k' hk => .head step_scope (harr k' (by simp [exitTo, hk]))⟩
  | goto l' =>
    obtain ⟨e₂, a₂, w₂, hq₂, harr₂⟩ := key _ l' a₁ w₁ rfl hq.1
    exact ⟨e₂, a₂, w₂, hq₂, .of_steps (.head step_scope (harr _ (hg l' a₁ w₁ hq.1))) harr₂⟩
  | ret => exact ⟨_, a₁, w₁, hq, .of_steps (.one step_scope) harr⟩
  | panic ch => exact ⟨_, a₁, w₁, hq, .of_steps (.one step_scope) harr⟩
  | outgrown => exact ⟨_, a₁, w₁, hq, .of_steps (.one step_scope) harr⟩

/-- Three labels, 0, 1 and 2. -/
def three {α : Type} (x0 x1 x2 z : α) : Nat → α
  | 0 => x0
  | 1 => x1
  | 2 => x2
  | _ => z

theorem wp_scope_three {P : Program} {a : Act} {w : World} {Q : Exit → Act → World → Prop} {c r0 r1 r2 : Code} (J0 J1 J2 : Act → World → Prop) (μ : Nat → Act → World → Nat) (N : Nat)
    (h0 : findLabel c 0 = some r0) (h1 : findLabel c 1 = some r1) (h2 : findLabel c 2 = some r2)
    (first : c.wp P (jumps (fun l' a' w' => three J0 J1 J2 (fun _ _ => False) l' a' w' ∧ μ l' a' w' < N) Q) a w)
    (pass0 : ∀ a w, J0 a w → r0.wp P (jumps (fun l' a' w' => three J0 J1 J2 (fun _ _ => False) l' a' w' ∧ μ l' a' w' < μ 0 a w) Q) a w)
    (pass1 : ∀ a w, J1 a w → r1.wp P (jumps (fun l' a' w' => three J0 J1 J2 (fun _ _ => False) l' a' w' ∧ μ l' a' w' < μ 1 a w) Q) a w)
    (pass2 : ∀ a w, J2 a w → r2.wp P (jumps (fun l' a' w' => three J0 J1 J2 (fun _ _ => False) l' a' w' ∧ μ l' a' w' < μ 2 a w) Q) a w) : (Code.scope c).wp P Q a w := by
  refine wp_scope_many (three r0 r1 r2 .skip) (three J0 J1 J2 (fun _ _ => False)) μ ?_ N first ?_
  · intro l a w h
    match l, h with
    | 0, _ => exact h0
    | 1, _ => exact h1
    | 2, _ => exact h2
    | l + 3, h => exact False.elim h
  · intro l a w h
    match l, h with
    | 0, h => exact pass0 a w h
    | 1, h => exact pass1 a w h
    | 2, h => exact pass2 a w h
    | l + 3, h => exact False.elim h
end Go.Proofs.YtkhffoailfnepakGreatDoor
