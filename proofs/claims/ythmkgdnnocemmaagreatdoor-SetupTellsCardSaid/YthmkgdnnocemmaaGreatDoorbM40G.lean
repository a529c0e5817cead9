/- Layer 40: numbers of base 16, told and read. Conditions: none. -/
import Derived.Test.YthmkgdnnocemmaaGreatDoorbLP
import Derived.Test.YthmkgdnnocemmaaGreatDoorbLD
import Derived.Test.YthmkgdnnocemmaaGreatDoorbA6
namespace Go.Proofs.YthmkgdnnocemmaaGreatDoor
set_option linter.unusedVariables false
set_option linter.unusedSimpArgs false
open Go Go.RowKit
def Gb (k : Nat) : UInt8 := if k < 10 then UInt8.ofNat (48 + k) else UInt8.ofNat (87 + k)
def GI : Nat → Nat → List UInt8
  | 0, _ => []
  | k + 1, n => if n < 16 then [Gb n] else GI k (n / 16) ++ [Gb (n % 16)]
def GB (b : UInt8) : Option Nat := if 48 ≤ b.toNat ∧ b.toNat ≤ 57 then some (b.toNat - 48) else if 97 ≤ b.toNat ∧ b.toNat ≤ 102 then some (b.toNat - 87) else if 65 ≤ b.toNat ∧ b.toNat ≤ 70 then some (b.toNat - 55) else none
def D8 : Nat → List UInt8 → Int ⊕ Int
  | n, [] => .inl n
  | n, b :: t => match GB b with | none => .inr 0 | some d => if 18446744073709551616 ≤ 16 * n + d then .inr 18446744073709551615 else D8 (16 * n + d) t
theorem GP {x : Int} (h0 : 0 ≤ x) (h1 : x < 18446744073709551616) : IntKind.u64.wrap x = x := by rw [IntKind.wrap_u64]; omega
theorem R8 {u : Nat} (h : u < 18446744073709551616) : Mv .u64 (u : Int) 15 = ((u % 16 : Nat) : Int) := by
  unfold Mv
  have h1 : (BitVec.ofInt IntKind.u64.bits (u : Int)).toNat = u := by
    show (BitVec.ofInt 64 (u : Int)).toNat = u
    rw [BitVec.ofInt_natCast, BitVec.toNat_ofNat]; exact Nat.mod_eq_of_lt (by omega)
  rw [BitVec.toNat_and, h1, show (BitVec.ofInt IntKind.u64.bits (15 : Int)).toNat = 2 ^ 4 - 1 from by decide, Nat.and_two_pow_sub_one_eq_mod, GP (by omega) (by omega)]
theorem SQ (u : Nat) : Og .u64 (u : Int) 4 = ((u / 16 : Nat) : Int) := by
  unfold Og
  rw [show (2 : Int) ^ (min (4 : Int).toNat IntKind.u64.bits) = 16 from by decide, Int.fdiv_eq_ediv_of_nonneg _ (by decide)]
  omega
abbrev RO : List UInt8 := [48, 49, 50, 51, 52, 53, 54, 55, 56, 57, 97, 98, 99, 100, 101, 102, 103, 104, 105, 106, 107, 108, 109, 110, 111, 112, 113, 114, 115, 116, 117, 118, 119, 120, 121, 122]
theorem Qn : ∀ d : Fin 16, RO[d.val]? = some (Gb d.val) := by decide +kernel
theorem M7 {d : Nat} (h : d < 16) : ix RO (d : Int) = some (Gb d) := AQ (Qn ⟨d, h⟩)
theorem HN {α : Type} {a : List α} {i : Nat} {x : α} (h1 : 1 ≤ i) (h2 : i ≤ a.length) : (a.set (i - 1) x).drop (i - 1) = x :: a.drop i := by
  rw [List.drop_eq_getElem_cons (by rw [List.length_set]; omega), List.getElem_set_self, List.drop_set_of_lt (by omega)]
  congr 2; omega
theorem Pp : ∀ (k u i : Nat) (a : List Int) (tl : List UInt8), u < 16 ^ (k + 1) → u < 18446744073709551616 → k + 1 ≤ i → i ≤ 65 → a.length = 65 → a.drop i = tl.map (fun b => (b.toNat : Int)) →
    ∃ (u' i' : Nat) (a' : List Int) (tl' : List UInt8), Av (AO 16 4) ((u : Int), (i : Int), a) = some ((u' : Int), (i' : Int), a') ∧ u' < 16 ∧ 1 ≤ i' ∧ i' ≤ 65 ∧ a'.length = 65 ∧ a'.drop i' = tl'.map (fun b => (b.toNat : Int)) ∧ Gb u' :: tl' = GI (k + 1) u ++ tl := fun k => by
  induction k with
  | zero =>
    intro u i a tl hu hu2 hi hi2 ha hd
    have hu : u < 16 := by simpa using hu
    refine ⟨u, i, a, tl, AN ?_, hu, hi, hi2, ha, hd, by unfold GI; rw [if_pos hu]; rfl⟩
    rw [AO, show IntKind.u64.wrap 16 = 16 from by decide, if_neg (by omega)]
  | succ k ih =>
    intro u i a tl hu hu2 hi hi2 ha hd
    by_cases c : u < 16
    · refine ⟨u, i, a, tl, AN ?_, c, by omega, hi2, ha, hd, by unfold GI; rw [if_pos c]; rfl⟩
      rw [AO, show IntKind.u64.wrap 16 = 16 from by decide, if_neg (by omega)]
    · have hd2 : (a.set (i - 1) ((Gb (u % 16)).toNat : Int)).drop (i - 1) = (Gb (u % 16) :: tl).map (fun b => (b.toNat : Int)) := by
        rw [HN (by omega) (by omega), hd]; rfl
      obtain ⟨u', i', a', tl', h1, h2, h3, h4, h5, h6, h7⟩ := ih (u / 16) (i - 1) (a.set (i - 1) ((Gb (u % 16)).toNat : Int)) (Gb (u % 16) :: tl) (by rw [Nat.pow_succ] at hu; omega) (by omega) (by omega) (by omega) (by rw [List.length_set]; exact ha) hd2
      refine ⟨u', i', a', tl', ?_, h2, h3, h4, h5, h6, ?_⟩
      · refine (BZ ?_).trans h1
        have e1 : BD ((i : Int) - 1) = ((i - 1 : Nat) : Int) := by rw [Bx (by omega)]; omega
        have e2 : MB 65 a ((i - 1 : Nat) : Int) = some (a[i - 1]'(by omega)) := by
          unfold MB
          rw [if_pos ha]
          exact AQ (List.getElem?_eq_getElem (by omega))
        rw [AO, show IntKind.u64.wrap 16 = 16 from by decide, if_pos (by omega), show IntKind.u64.wrap (16 - 1) = 15 from by decide, R8 hu2, M7 (Nat.mod_lt _ (by decide)), Option.bind_some, e1, e2, Option.bind_some, show IntKind.u64.wrap 4 = 4 from by decide, SQ, Pi (by decide), Option.bind_some]
        rfl
      · rw [h7]
        rw [show GI (k + 1 + 1) u = GI (k + 1) (u / 16) ++ [Gb (u % 16)] from by rw [GI, if_neg c]]
        simp
theorem N8 (l : List UInt8) : HQ (l.map fun b => (b.toNat : Int)) = l := by
  unfold HQ
  rw [List.map_map]
  conv => rhs; rw [← List.map_id l]
  refine List.map_congr_left fun b _ => ?_
  simp
theorem P0 {v : Int} (h0 : 0 ≤ v) (h1 : v < 18446744073709551616) : B7 v 16 = some (GI 16 v.toNat) := by
  obtain ⟨u, rfl⟩ : ∃ u : Nat, v = (u : Int) := ⟨v.toNat, by omega⟩
  obtain ⟨u', i', a', tl', g1, g2, g3, g4, g5, g6, g7⟩ := Pp 15 u 65 (List.replicate 65 (0 : Int)) [] (by simp; omega) (by omega) (by decide) (by decide) (by simp) (by simp)
  have e1 : BD ((i' : Int) - 1) = ((i' - 1 : Nat) : Int) := by rw [Bx (by omega)]; omega
  have e2 : MB 65 a' ((i' - 1 : Nat) : Int) = some (a'[i' - 1]'(by omega)) := by
    unfold MB
    rw [if_pos g5]
    exact AQ (List.getElem?_eq_getElem (by omega))
  have e3 : Oe 65 (EX a' ((i' - 1 : Nat) : Int) ((Gb u').toNat : Int)) ((i' - 1 : Nat) : Int) = some ((Gb u' :: tl').map fun b => (b.toNat : Int)) := by
    unfold Oe EX
    rw [if_pos (by rw [List.length_set]; exact g5), Ix ⟨by omega, by omega, by rw [List.length_set]; omega⟩, Int.toNat_natCast]
    rw [List.take_of_length_le (by rw [List.length_set]; omega), HN g3 (by omega), g6]; rfl
  unfold B7 BI BJ
  rw [if_neg (by decide), if_neg (by decide), if_neg (by decide), Option.bind_some]
  dsimp only
  rw [if_pos (by decide), show IntKind.u64.wrap 16 = 16 from by decide, show Sf 16 = some 4 from rfl, Option.bind_some, show Av (AO 16 4) ((u : Int), 65, List.replicate 65 (0 : Int)) = _ from g1, Option.bind_some]
  dsimp only
  rw [show ix _ (u' : Int) = some (Gb u') from M7 g2, Option.bind_some, e1, e2, Option.bind_some, Option.bind_some]
  dsimp only
  rw [if_neg (by decide), Option.bind_some]
  dsimp only
  rw [if_neg (by decide), e3, Option.bind_some, Option.bind_some, Option.bind_some, N8, g7]
  simp
def OP (c : Int) : Option Int := if (decide (48 ≤ c) && decide (c ≤ 57)) = true then (if 16 ≤ IntKind.u8.wrap (c - 48) then none else some (IntKind.u8.wrap (c - 48)))
  else if (decide (97 ≤ Ad c) && decide (Ad c ≤ 122)) = true then (if 16 ≤ IntKind.u8.wrap (IntKind.u8.wrap (Ad c - 97) + 10) then none else some (IntKind.u8.wrap (IntKind.u8.wrap (Ad c - 97) + 10))) else none
theorem Kv : ∀ b : Fin 256, OP (b.val : Int) = (GB (UInt8.ofNat b.val)).map (fun d : Nat => (d : Int)) ∧ ∀ d, GB (UInt8.ofNat b.val) = some d → d < 16 := by decide +kernel
theorem Ov (b : UInt8) : OP (b.toNat : Int) = (GB b).map (fun d : Nat => (d : Int)) := by
  have := (Kv ⟨b.toNat, b.toNat_lt⟩).1
  simpa using this
theorem Pe {b : UInt8} {d : Nat} (h : GB b = some d) : d < 16 := (Kv ⟨b.toNat, b.toNat_lt⟩).2 d (by simpa using h)
abbrev Pt : Type := (Bool × Int) ⊕ ((Int × Int) ⊕ Int)
def Sg : Int ⊕ Int → Pt
  | .inl v => .inl (false, v)
  | .inr e => .inr (.inl (e, if e = 0 then 2 else 1))
def Nt (n i : Nat) : Option Nat → Option ((Bool × Int × Int) ⊕ Pt)
  | none => some (.inr (.inr (.inl (0, 2))))
  | some d => if 18446744073709551616 ≤ 16 * n + d then some (.inr (.inr (.inl (18446744073709551615, 1)))) else some (.inl (false, ((16 * n + d : Nat) : Int), ((i + 1 : Nat) : Int)))
theorem PR {s : List UInt8} {n i : Nat} {b : UInt8} (hb : s[i]? = some b) (hn : n < 18446744073709551616) (hs : s.length ≤ 1000000) :
    AP s 16 false 1152921504606846976 0 (false, (n : Int), (i : Int)) = Nt n i (GB b) := by
  have hil : i < s.length := (List.getElem?_eq_some_iff.1 hb).1
  have hmb : (List.map (fun b => (b.toNat : Int)) s)[i]? = some (b.toNat : Int) := by rw [List.getElem?_map, hb]; rfl
  have hw : BD ((i : Int) + 1) = ((i + 1 : Nat) : Int) := by rw [Bx (by omega)]; omega
  have hst := Ov b
  have key : ∀ (x : Int) (o : Option Nat), (if 16 ≤ x then none else some x) = o.map (fun d : Nat => (d : Int)) → (∀ d, o = some d → d < 16) →
      (ES (if IntKind.u8.wrap 16 ≤ x then some (.inr (.inr (.inr (.inl (0, 2)))))
        else if (1152921504606846976 : Int) ≤ (n : Int) then some (.inr (.inr (.inr (.inl (IntKind.u64.wrap (0 - 1), 1)))))
        else if (decide (IntKind.u64.wrap (IntKind.u64.wrap ((n : Int) * IntKind.u64.wrap 16) + IntKind.u64.wrap x) < IntKind.u64.wrap ((n : Int) * IntKind.u64.wrap 16)) || decide (IntKind.u64.wrap (0 - 1) < IntKind.u64.wrap (IntKind.u64.wrap ((n : Int) * IntKind.u64.wrap 16) + IntKind.u64.wrap x))) = true then some (.inr (.inr (.inr (.inl (IntKind.u64.wrap (0 - 1), 1)))))
        else some (.inl (false, IntKind.u64.wrap (IntKind.u64.wrap ((n : Int) * IntKind.u64.wrap 16) + IntKind.u64.wrap x))) : Option ((Bool × Int) ⊕ ((Bool × Int × Int) ⊕ Pt)))
        fun y => some (.inl (y.1, y.2, BD ((i : Int) + 1)))) = Nt n i o := by
    intro x o ho hlt
    rw [show IntKind.u8.wrap 16 = 16 from by decide, show IntKind.u64.wrap (0 - 1) = 18446744073709551615 from by decide, show IntKind.u64.wrap 16 = 16 from by decide]
    cases o with
    | none =>
      by_cases c : 16 ≤ x
      · rw [if_pos c]; rfl
      · rw [if_neg c] at ho; cases ho
    | some d =>
      have hd := hlt d rfl
      by_cases c : 16 ≤ x
      · rw [if_pos c] at ho; cases ho
      · rw [if_neg c] at ho
        have hx : x = (d : Int) := Option.some.inj ho
        subst hx
        rw [if_neg c]
        rw [Nt]
        by_cases c2 : (1152921504606846976 : Int) ≤ (n : Int)
        · rw [if_pos c2, if_pos (by omega)]; rfl
        · rw [if_neg c2, GP (x := (d : Int)) (by omega) (by omega), GP (x := (n : Int) * 16) (by omega) (by omega), GP (by omega) (by omega), if_neg (by simp only [Bool.or_eq_true, decide_eq_true_iff]; omega), if_neg (by omega)]
          show some (Sum.inl (false, (n : Int) * 16 + (d : Int), BD ((i : Int) + 1))) = _
          rw [hw, show (n : Int) * 16 + (d : Int) = ((16 * n + d : Nat) : Int) from by omega]
  rw [AP, if_pos (by rw [List.length_map]; omega), AQ hmb, Option.bind_some, if_neg (by simp)]
  have hl := fun d (h : GB b = some d) => Pe h
  unfold OP at hst
  by_cases hB : (decide (48 ≤ (b.toNat : Int)) && decide ((b.toNat : Int) ≤ 57)) = true
  · rw [if_pos hB] at hst ⊢
    exact key _ _ hst hl
  · rw [if_neg hB] at hst ⊢
    by_cases hC : (decide (97 ≤ Ad (b.toNat : Int)) && decide (Ad (b.toNat : Int) ≤ 122)) = true
    · rw [if_pos hC] at hst ⊢
      exact key _ _ hst hl
    · rw [if_neg hC] at hst ⊢
      cases ho : GB b with
      | none => rfl
      | some d => rw [ho] at hst; cases hst
theorem ND {s : List UInt8} (hs : s.length ≤ 1000000) : ∀ (k i n : Nat), i + k = s.length → n < 18446744073709551616 →
    Av (AP s 16 false 1152921504606846976 0) (false, (n : Int), (i : Int)) = some (Sg (D8 n (s.drop i)))
  | 0, i, n, hi, hn => by
    rw [List.drop_eq_nil_of_le (by omega)]
    exact AN (by rw [AP, if_neg (by rw [List.length_map]; omega)]; rfl)
  | k + 1, i, n, hi, hn => by
    have hil : i < s.length := by omega
    have hst := PR (List.getElem?_eq_getElem hil) hn hs
    rw [List.drop_eq_getElem_cons hil, D8]
    cases hd : GB s[i] with
    | none => rw [hd] at hst; exact AN hst
    | some d =>
      rw [hd] at hst
      rw [Nt] at hst
      simp only
      by_cases c : 18446744073709551616 ≤ 16 * n + d
      · rw [if_pos c] at hst ⊢; exact AN hst
      · rw [if_neg c] at hst ⊢
        exact (BZ hst).trans (ND hs k (i + 1) (16 * n + d) (by omega) (by omega))
def swap {α β : Type} : α ⊕ β → β ⊕ α
  | .inl x => .inr x
  | .inr x => .inl x
theorem C0 {α β : Type} (t : α) (k : α → Option β) : ES (some (.inl t)) k = k t := rfl
theorem PN {s : List UInt8} (h : s.length ≤ 1000000) : CD s 16 64 = some (swap (if s = [] then .inr 0 else D8 0 s)) := by
  have hp : Bw s 16 64 = some (match (if s = [] then .inr 0 else D8 0 s : Int ⊕ Int) with | .inl v => .inr v | .inr e => .inl (e, if e = 0 then 2 else 1)) := by
    unfold Bw
    by_cases c : s = []
    · rw [if_pos c, if_pos c]; rfl
    · rw [if_neg c, if_neg c, if_pos (show (decide ((2 : Int) ≤ 16) && decide ((16 : Int) ≤ 36)) = true from by decide)]
      rw [C0]
      dsimp only
      rw [if_neg (show ¬ (64 : Int) = 0 from by decide), if_neg (show ¬ (decide ((64 : Int) < 0) || decide ((64 : Int) < 64)) = true from by decide), C0, if_neg (show ¬ (16 : Int) = 10 from by decide), if_pos (show (16 : Int) = 16 from rfl), Option.bind_some, show IntKind.u64.wrap 64 = 64 from by decide, Pi (by decide), Option.bind_some, show OZ .u64 1 64 = 0 from by decide]
      rw [show Av (AP s 16 (decide ((16 : Int) = 0)) 1152921504606846976 0) (false, 0, 0) = _ from ND h s.length 0 0 (by omega) (by decide), List.drop_zero]
      cases D8 0 s with
      | inl v => rfl
      | inr e => rfl
  unfold CD
  rw [hp, Option.bind_some]
  cases (if s = [] then .inr 0 else D8 0 s : Int ⊕ Int) with
  | inl v => rfl
  | inr e =>
    show (IY _ s 16 64 (if e = 0 then 2 else 1)).bind _ = _
    unfold IY
    rw [if_pos ⟨by by_cases q : e = 0 <;> simp [q], h⟩]; rfl
end Go.Proofs.YthmkgdnnocemmaaGreatDoor
