/- Layer 40: numbers of base 16, told and read. Conditions: none. -/
import Derived.Test.YthmkgdnnocemmaaDoorbLP
import Derived.Test.YthmkgdnnocemmaaDoorbLD
import Derived.Test.YthmkgdnnocemmaaDoorbA5
namespace Go.Proofs.YthmkgdnnocemmaaDoor
set_option linter.unusedVariables false
set_option linter.unusedSimpArgs false
open Go Go.RowKit
def GM (k : Nat) : UInt8 := if k < 10 then UInt8.ofNat (48 + k) else UInt8.ofNat (87 + k)
def F5 : Nat → Nat → List UInt8
  | 0, _ => []
  | k + 1, n => if n < 16 then [GM n] else F5 k (n / 16) ++ [GM (n % 16)]
def FV (b : UInt8) : Option Nat := if 48 ≤ b.toNat ∧ b.toNat ≤ 57 then some (b.toNat - 48) else if 97 ≤ b.toNat ∧ b.toNat ≤ 102 then some (b.toNat - 87) else if 65 ≤ b.toNat ∧ b.toNat ≤ 70 then some (b.toNat - 55) else none
def DF : Nat → List UInt8 → Int ⊕ Int
  | n, [] => .inl n
  | n, b :: t => match FV b with | none => .inr 0 | some d => if 18446744073709551616 ≤ 16 * n + d then .inr 18446744073709551615 else DF (16 * n + d) t
theorem J7 {x : Int} (h0 : 0 ≤ x) (h1 : x < 18446744073709551616) : IntKind.u64.wrap x = x := by rw [IntKind.wrap_u64]; omega
theorem Po {u : Nat} (h : u < 18446744073709551616) : KX .u64 (u : Int) 15 = ((u % 16 : Nat) : Int) := by
  unfold KX
  have h1 : (BitVec.ofInt IntKind.u64.bits (u : Int)).toNat = u := by
    show (BitVec.ofInt 64 (u : Int)).toNat = u
    rw [BitVec.ofInt_natCast, BitVec.toNat_ofNat]; exact Nat.mod_eq_of_lt (by omega)
  rw [BitVec.toNat_and, h1, show (BitVec.ofInt IntKind.u64.bits (15 : Int)).toNat = 2 ^ 4 - 1 from by decide, Nat.and_two_pow_sub_one_eq_mod, J7 (by omega) (by omega)]
theorem PK (u : Nat) : Md .u64 (u : Int) 4 = ((u / 16 : Nat) : Int) := by
  unfold Md
  rw [show (2 : Int) ^ (min (4 : Int).toNat IntKind.u64.bits) = 16 from by decide, Int.fdiv_eq_ediv_of_nonneg _ (by decide)]
  omega
abbrev Py : List UInt8 := [48, 49, 50, 51, 52, 53, 54, 55, 56, 57, 97, 98, 99, 100, 101, 102, 103, 104, 105, 106, 107, 108, 109, 110, 111, 112, 113, 114, 115, 116, 117, 118, 119, 120, 121, 122]
theorem N5 : ∀ d : Fin 16, Py[d.val]? = some (GM d.val) := by decide +kernel
theorem LH {d : Nat} (h : d < 16) : ix Py (d : Int) = some (GM d) := C2 (N5 ⟨d, h⟩)
theorem GR {α : Type} {a : List α} {i : Nat} {x : α} (h1 : 1 ≤ i) (h2 : i ≤ a.length) : (a.set (i - 1) x).drop (i - 1) = x :: a.drop i := by
  rw [List.drop_eq_getElem_cons (by rw [List.length_set]; omega), List.getElem_set_self, List.drop_set_of_lt (by omega)]
  congr 2; omega
theorem NB : ∀ (k u i : Nat) (a : List Int) (tl : List UInt8), u < 16 ^ (k + 1) → u < 18446744073709551616 → k + 1 ≤ i → i ≤ 65 → a.length = 65 → a.drop i = tl.map (fun b => (b.toNat : Int)) →
    ∃ (u' i' : Nat) (a' : List Int) (tl' : List UInt8), Bf (AN 16 4) ((u : Int), (i : Int), a) = some ((u' : Int), (i' : Int), a') ∧ u' < 16 ∧ 1 ≤ i' ∧ i' ≤ 65 ∧ a'.length = 65 ∧ a'.drop i' = tl'.map (fun b => (b.toNat : Int)) ∧ GM u' :: tl' = F5 (k + 1) u ++ tl := fun k => by
  induction k with
  | zero =>
    intro u i a tl hu hu2 hi hi2 ha hd
    have hu : u < 16 := by simpa using hu
    refine ⟨u, i, a, tl, CP ?_, hu, hi, hi2, ha, hd, by unfold F5; rw [if_pos hu]; rfl⟩
    rw [AN, show IntKind.u64.wrap 16 = 16 from by decide, if_neg (by omega)]
  | succ k ih =>
    intro u i a tl hu hu2 hi hi2 ha hd
    by_cases c : u < 16
    · refine ⟨u, i, a, tl, CP ?_, c, by omega, hi2, ha, hd, by unfold F5; rw [if_pos c]; rfl⟩
      rw [AN, show IntKind.u64.wrap 16 = 16 from by decide, if_neg (by omega)]
    · have hd2 : (a.set (i - 1) ((GM (u % 16)).toNat : Int)).drop (i - 1) = (GM (u % 16) :: tl).map (fun b => (b.toNat : Int)) := by
        rw [GR (by omega) (by omega), hd]; rfl
      obtain ⟨u', i', a', tl', h1, h2, h3, h4, h5, h6, h7⟩ := ih (u / 16) (i - 1) (a.set (i - 1) ((GM (u % 16)).toNat : Int)) (GM (u % 16) :: tl) (by rw [Nat.pow_succ] at hu; omega) (by omega) (by omega) (by omega) (by rw [List.length_set]; exact ha) hd2
      refine ⟨u', i', a', tl', ?_, h2, h3, h4, h5, h6, ?_⟩
      · refine (EV ?_).trans h1
        have e1 : CD ((i : Int) - 1) = ((i - 1 : Nat) : Int) := by rw [Fp (by omega)]; omega
        have e2 : KO 65 a ((i - 1 : Nat) : Int) = some (a[i - 1]'(by omega)) := by
          unfold KO
          rw [if_pos ha]
          exact C2 (List.getElem?_eq_getElem (by omega))
        rw [AN, show IntKind.u64.wrap 16 = 16 from by decide, if_pos (by omega), show IntKind.u64.wrap (16 - 1) = 15 from by decide, Po hu2, LH (Nat.mod_lt _ (by decide)), Option.bind_some, e1, e2, Option.bind_some, show IntKind.u64.wrap 4 = 4 from by decide, PK, MY (by decide), Option.bind_some]
        rfl
      · rw [h7]
        rw [show F5 (k + 1 + 1) u = F5 (k + 1) (u / 16) ++ [GM (u % 16)] from by rw [F5, if_neg c]]
        simp
theorem Ma (l : List UInt8) : GV (l.map fun b => (b.toNat : Int)) = l := by
  unfold GV
  rw [List.map_map]
  conv => rhs; rw [← List.map_id l]
  refine List.map_congr_left fun b _ => ?_
  simp
theorem Oc {v : Int} (h0 : 0 ≤ v) (h1 : v < 18446744073709551616) : Cb v 16 = some (F5 16 v.toNat) := by
  obtain ⟨u, rfl⟩ : ∃ u : Nat, v = (u : Int) := ⟨v.toNat, by omega⟩
  obtain ⟨u', i', a', tl', g1, g2, g3, g4, g5, g6, g7⟩ := NB 15 u 65 (List.replicate 65 (0 : Int)) [] (by simp; omega) (by omega) (by decide) (by decide) (by simp) (by simp)
  have e1 : CD ((i' : Int) - 1) = ((i' - 1 : Nat) : Int) := by rw [Fp (by omega)]; omega
  have e2 : KO 65 a' ((i' - 1 : Nat) : Int) = some (a'[i' - 1]'(by omega)) := by
    unfold KO
    rw [if_pos g5]
    exact C2 (List.getElem?_eq_getElem (by omega))
  have e3 : Mm 65 (Er a' ((i' - 1 : Nat) : Int) ((GM u').toNat : Int)) ((i' - 1 : Nat) : Int) = some ((GM u' :: tl').map fun b => (b.toNat : Int)) := by
    unfold Mm Er
    rw [if_pos (by rw [List.length_set]; exact g5), Ii ⟨by omega, by omega, by rw [List.length_set]; omega⟩, Int.toNat_natCast]
    rw [List.take_of_length_le (by rw [List.length_set]; omega), GR g3 (by omega), g6]; rfl
  unfold Cb BD BE
  rw [if_neg (by decide), if_neg (by decide), if_neg (by decide), Option.bind_some]
  dsimp only
  rw [if_pos (by decide), show IntKind.u64.wrap 16 = 16 from by decide, show Pj 16 = some 4 from rfl, Option.bind_some, show Bf (AN 16 4) ((u : Int), 65, List.replicate 65 (0 : Int)) = _ from g1, Option.bind_some]
  dsimp only
  rw [show ix _ (u' : Int) = some (GM u') from LH g2, Option.bind_some, e1, e2, Option.bind_some, Option.bind_some]
  dsimp only
  rw [if_neg (by decide), Option.bind_some]
  dsimp only
  rw [if_neg (by decide), e3, Option.bind_some, Option.bind_some, Option.bind_some, Ma, g7]
  simp
def MP (c : Int) : Option Int := if (decide (48 ≤ c) && decide (c ≤ 57)) = true then (if 16 ≤ IntKind.u8.wrap (c - 48) then none else some (IntKind.u8.wrap (c - 48)))
  else if (decide (97 ≤ Aj c) && decide (Aj c ≤ 122)) = true then (if 16 ≤ IntKind.u8.wrap (IntKind.u8.wrap (Aj c - 97) + 10) then none else some (IntKind.u8.wrap (IntKind.u8.wrap (Aj c - 97) + 10))) else none
theorem JT : ∀ b : Fin 256, MP (b.val : Int) = (FV (UInt8.ofNat b.val)).map (fun d : Nat => (d : Int)) ∧ ∀ d, FV (UInt8.ofNat b.val) = some d → d < 16 := by decide +kernel
theorem MD (b : UInt8) : MP (b.toNat : Int) = (FV b).map (fun d : Nat => (d : Int)) := by
  have := (JT ⟨b.toNat, b.toNat_lt⟩).1
  simpa using this
theorem Nh {b : UInt8} {d : Nat} (h : FV b = some d) : d < 16 := (JT ⟨b.toNat, b.toNat_lt⟩).2 d (by simpa using h)
abbrev Nc : Type := (Bool × Int) ⊕ ((Int × Int) ⊕ Int)
def Pi : Int ⊕ Int → Nc
  | .inl v => .inl (false, v)
  | .inr e => .inr (.inl (e, if e = 0 then 2 else 1))
def Lv (n i : Nat) : Option Nat → Option ((Bool × Int × Int) ⊕ Nc)
  | none => some (.inr (.inr (.inl (0, 2))))
  | some d => if 18446744073709551616 ≤ 16 * n + d then some (.inr (.inr (.inl (18446744073709551615, 1)))) else some (.inl (false, ((16 * n + d : Nat) : Int), ((i + 1 : Nat) : Int)))
theorem N6 {s : List UInt8} {n i : Nat} {b : UInt8} (hb : s[i]? = some b) (hn : n < 18446744073709551616) (hs : s.length ≤ 1000000) :
    AQ s 16 false 1152921504606846976 0 (false, (n : Int), (i : Int)) = Lv n i (FV b) := by
  have hil : i < s.length := (List.getElem?_eq_some_iff.1 hb).1
  have hmb : (List.map (fun b => (b.toNat : Int)) s)[i]? = some (b.toNat : Int) := by rw [List.getElem?_map, hb]; rfl
  have hw : CD ((i : Int) + 1) = ((i + 1 : Nat) : Int) := by rw [Fp (by omega)]; omega
  have hst := MD b
  have key : ∀ (x : Int) (o : Option Nat), (if 16 ≤ x then none else some x) = o.map (fun d : Nat => (d : Int)) → (∀ d, o = some d → d < 16) →
      (D6 (if IntKind.u8.wrap 16 ≤ x then some (.inr (.inr (.inr (.inl (0, 2)))))
        else if (1152921504606846976 : Int) ≤ (n : Int) then some (.inr (.inr (.inr (.inl (IntKind.u64.wrap (0 - 1), 1)))))
        else if (decide (IntKind.u64.wrap (IntKind.u64.wrap ((n : Int) * IntKind.u64.wrap 16) + IntKind.u64.wrap x) < IntKind.u64.wrap ((n : Int) * IntKind.u64.wrap 16)) || decide (IntKind.u64.wrap (0 - 1) < IntKind.u64.wrap (IntKind.u64.wrap ((n : Int) * IntKind.u64.wrap 16) + IntKind.u64.wrap x))) = true then some (.inr (.inr (.inr (.inl (IntKind.u64.wrap (0 - 1), 1)))))
        else some (.inl (false, IntKind.u64.wrap (IntKind.u64.wrap ((n : Int) * IntKind.u64.wrap 16) + IntKind.u64.wrap x))) : Option ((Bool × Int) ⊕ ((Bool × Int × Int) ⊕ Nc)))
        fun y => some (.inl (y.1, y.2, CD ((i : Int) + 1)))) = Lv n i o := by
    intro x o ho hlt
    rw [show IntKind.u8.wrap 16 = 16 from by decide, show IntKind.u64.wrap (0 - 1) = 18446744073709551615 from by decide, show IntKind.u64.wrap 16 = 16 from by decide]
    cases o with
    | none =>
      by_cases c : 16 ≤ x
      · rw [if_pos c]; rfl
      · rw [if_neg c] at ho; cases ho
    | some d =>
      have hd := hlt d rfl
      by_cases c : 16 ≤ x
      · rw [if_pos c] at ho; cases ho
      · rw [if_neg c] at ho
        have hx : x = (d : Int) := Option.some.inj ho
        subst hx
        rw [if_neg c]
        rw [Lv]
        by_cases c2 : (1152921504606846976 : Int) ≤ (n : Int)
        · rw [if_pos c2, if_pos (by omega)]; rfl
        · rw [if_neg c2, J7 (x := (d : Int)) (by omega) (by omega), J7 (x := (n : Int) * 16) (by omega) (by omega), J7 (by omega) (by omega), if_neg (by simp only [Bool.or_eq_true, decide_eq_true_iff]; omega), if_neg (by omega)]
          show some (Sum.inl (false, (n : Int) * 16 + (d : Int), CD ((i : Int) + 1))) = _
          rw [hw, show (n : Int) * 16 + (d : Int) = ((16 * n + d : Nat) : Int) from by omega]
  rw [AQ, if_pos (by rw [List.length_map]; omega), C2 hmb, Option.bind_some, if_neg (by simp)]
  have hl := fun d (h : FV b = some d) => Nh h
  unfold MP at hst
  by_cases hB : (decide (48 ≤ (b.toNat : Int)) && decide ((b.toNat : Int) ≤ 57)) = true
  · rw [if_pos hB] at hst ⊢
    exact key _ _ hst hl
  · rw [if_neg hB] at hst ⊢
    by_cases hC : (decide (97 ≤ Aj (b.toNat : Int)) && decide (Aj (b.toNat : Int) ≤ 122)) = true
    · rw [if_pos hC] at hst ⊢
      exact key _ _ hst hl
    · rw [if_neg hC] at hst ⊢
      cases ho : FV b with
      | none => rfl
      | some d => rw [ho] at hst; cases hst
theorem Ls {s : List UInt8} (hs : s.length ≤ 1000000) : ∀ (k i n : Nat), i + k = s.length → n < 18446744073709551616 →
    Bf (AQ s 16 false 1152921504606846976 0) (false, (n : Int), (i : Int)) = some (Pi (DF n (s.drop i)))
  | 0, i, n, hi, hn => by
    rw [List.drop_eq_nil_of_le (by omega)]
    exact CP (by rw [AQ, if_neg (by rw [List.length_map]; omega)]; rfl)
  | k + 1, i, n, hi, hn => by
    have hil : i < s.length := by omega
    have hst := N6 (List.getElem?_eq_getElem hil) hn hs
    rw [List.drop_eq_getElem_cons hil, DF]
    cases hd : FV s[i] with
    | none => rw [hd] at hst; exact CP hst
    | some d =>
      rw [hd] at hst
      rw [Lv] at hst
      simp only
      by_cases c : 18446744073709551616 ≤ 16 * n + d
      · rw [if_pos c] at hst ⊢; exact CP hst
      · rw [if_neg c] at hst ⊢
        exact (EV hst).trans (Ls hs k (i + 1) (16 * n + d) (by omega) (by omega))
def swap {α β : Type} : α ⊕ β → β ⊕ α
  | .inl x => .inr x
  | .inr x => .inl x
theorem LA {α β : Type} (t : α) (k : α → Option β) : D6 (some (.inl t)) k = k t := rfl
theorem NM {s : List UInt8} (h : s.length ≤ 1000000) : Cu s 16 64 = some (swap (if s = [] then .inr 0 else DF 0 s)) := by
  have hp : Bq s 16 64 = some (match (if s = [] then .inr 0 else DF 0 s : Int ⊕ Int) with | .inl v => .inr v | .inr e => .inl (e, if e = 0 then 2 else 1)) := by
    unfold Bq
    by_cases c : s = []
    · rw [if_pos c, if_pos c]; rfl
    · rw [if_neg c, if_neg c, if_pos (show (decide ((2 : Int) ≤ 16) && decide ((16 : Int) ≤ 36)) = true from by decide)]
      rw [LA]
      dsimp only
      rw [if_neg (show ¬ (64 : Int) = 0 from by decide), if_neg (show ¬ (decide ((64 : Int) < 0) || decide ((64 : Int) < 64)) = true from by decide), LA, if_neg (show ¬ (16 : Int) = 10 from by decide), if_pos (show (16 : Int) = 16 from rfl), Option.bind_some, show IntKind.u64.wrap 64 = 64 from by decide, MY (by decide), Option.bind_some, show MS .u64 1 64 = 0 from by decide]
      rw [show Bf (AQ s 16 (decide ((16 : Int) = 0)) 1152921504606846976 0) (false, 0, 0) = _ from Ls h s.length 0 0 (by omega) (by decide), List.drop_zero]
      cases DF 0 s with
      | inl v => rfl
      | inr e => rfl
  unfold Cu
  rw [hp, Option.bind_some]
  cases (if s = [] then .inr 0 else DF 0 s : Int ⊕ Int) with
  | inl v => rfl
  | inr e =>
    show (HL _ s 16 64 (if e = 0 then 2 else 1)).bind _ = _
    unfold HL
    rw [if_pos ⟨by by_cases q : e = 0 <;> simp [q], h⟩]; rfl
end Go.Proofs.YthmkgdnnocemmaaDoor
