/- Layer 23: what may be met meanwhile. Conditions: none. -/
import Derived.Test.YthiejmoddfenlaahM23D
namespace Go.Proofs.Ythiejmoddfenlaa
set_option linter.unusedVariables false
set_option linter.unusedSimpArgs false
open Go Go.RowKit
section sorting
variable {α : Type} (key : α → Int)
def KY (L : List α) (j : Nat) (h : j < L.length) : List α := (L.set j (L[j - 1]'(by omega))).set (j - 1) L[j]
theorem Jy (L : List α) (j : Nat) (h : j < L.length) : (KY L j h).length = L.length := by simp [KY]
theorem MP {L : List α} {j : Nat} (h : j < L.length) (h0 : 0 < j) {u : Nat} (hu : u < L.length) : (KY L j h)[u]'(by rw [Jy]; exact hu) = if u = j - 1 then L[j] else if u = j then L[j - 1]'(by omega) else L[u] := by
  unfold KY
  rw [List.getElem_set]
  by_cases c1 : j - 1 = u
  · rw [if_pos c1, if_pos c1.symm]
  · rw [if_neg c1, if_neg (fun e => c1 e.symm), List.getElem_set]
    by_cases c2 : j = u
    · rw [if_pos c2, if_pos c2.symm]
    · rw [if_neg c2, if_neg (fun e => c2 e.symm)]
theorem PG {L : List α} {j : Nat} (h : j < L.length) (h0 : 0 < j) : (KY L j h).Perm L := by
  obtain ⟨i, rfl⟩ : ∃ i, j = i + 1 := ⟨j - 1, by omega⟩
  have hi : i < L.length := by omega
  have e : L = L.take i ++ L[i] :: L[i + 1] :: L.drop (i + 2) := by
    rw [← List.drop_eq_getElem_cons h, ← List.drop_eq_getElem_cons hi, List.take_append_drop]
  have e2 : KY L (i + 1) h = L.take i ++ L[i + 1] :: L[i] :: L.drop (i + 2) := by
    apply List.ext_getElem
    · rw [Jy]; simp; omega
    · intro u h1 h2
      rw [Jy] at h1
      rw [MP h h0 h1]
      have hlen0 : (L.take i).length = i := by simp; omega
      by_cases c1 : u = i
      · subst c1
        rw [if_pos (by omega), List.getElem_append_right (by omega)]
        simp only [hlen0, Nat.sub_self, List.getElem_cons_zero]
      · by_cases c2 : u = i + 1
        · subst c2
          rw [if_neg (by omega), if_pos rfl, List.getElem_append_right (by omega)]
          simp only [hlen0, Nat.add_sub_cancel_left, List.getElem_cons_succ, List.getElem_cons_zero]
          rfl
        · rw [if_neg (by omega), if_neg c2]
          by_cases c3 : u < i
          · rw [List.getElem_append_left (by simp; omega), List.getElem_take]
          · rw [List.getElem_append_right (by simp; omega)]
            have hlen : (L.take i).length = i := by simp; omega
            obtain ⟨v, hv⟩ : ∃ v, u - (L.take i).length = v + 2 := ⟨u - i - 2, by rw [hlen]; omega⟩
            simp only [hv, List.getElem_cons_succ, List.getElem_drop]
            congr 1; rw [hlen] at hv; omega
  rw [e2]
  conv => rhs; rw [e]
  exact List.Perm.append_left _ (List.Perm.swap _ _ _)
def Si (L : List α) (n : Nat) : Prop := ∀ u v (hv : v < L.length) (huv : u < v), v < n → key (L[u]'(by omega)) ≤ key L[v]
def QN (L : List α) (n j : Nat) : Prop := ∀ u v (hv : v < L.length) (huv : u < v), v < n → v ≠ j → key (L[u]'(by omega)) ≤ key L[v]
variable {key}
theorem NB {L : List α} {n j : Nat} (h : QN key L n j) (hj : j < L.length) (hn : ¬ (0 < j ∧ key L[j] < key (L[j - 1]'(by omega)))) : Si key L n := fun u v hv huv hvn => by
  by_cases c : v = j
  · subst c
    have h1 : key (L[v - 1]'(by omega)) ≤ key L[v] := by
      have := fun hh => hn ⟨by omega, hh⟩
      omega
    by_cases c2 : u = v - 1
    · subst c2; exact h1
    · exact Int.le_trans (h u (v - 1) (by omega) (by omega) (by omega) (by omega)) h1
  · exact h u v hv huv hvn c
theorem P6 {L : List α} {n j : Nat} (h : QN key L n j) (hj : j < L.length) (h0 : 0 < j) (hjn : j < n) (hlt : key L[j] < key (L[j - 1]'(by omega))) : QN key (KY L j hj) n (j - 1) := fun u v hv huv hvn hne => by
  rw [Jy] at hv
  rw [MP hj h0 hv, MP hj h0 (by omega : u < L.length), if_neg hne]
  by_cases c1 : v = j
  · subst c1
    rw [if_pos rfl, if_neg (by omega : ¬ u = v)]
    by_cases c2 : u = v - 1
    · rw [if_pos c2]; omega
    · rw [if_neg c2]; exact h u (v - 1) (by omega) (by omega) (by omega) (by omega)
  · rw [if_neg c1]
    by_cases c2 : u = j - 1
    · rw [if_pos c2]
      exact h j v hv (by omega) hvn c1
    · rw [if_neg c2]
      by_cases c3 : u = j
      · rw [if_pos c3]; exact h (j - 1) v hv (by omega) hvn c1
      · rw [if_neg c3]; exact h u v hv huv hvn c1
theorem Ou {N : Nat} {S : List α × Int → Option ((List α × Int) ⊕ List α)} (hS : ∀ L (j : Nat) (h : j < L.length), L.length = N → S (L, (j : Int)) = if 0 < j ∧ key L[j] < key (L[j - 1]'(by omega)) then some (.inl (KY L j h, ((j - 1 : Nat) : Int))) else some (.inr L)) {n : Nat} :
    ∀ (j : Nat) (L : List α), L.length = N → j < L.length → j < n → QN key L n j → ∃ L', AG S (L, (j : Int)) = some L' ∧ L'.Perm L ∧ Si key L' n := by
  intro j
  induction j with
  | zero =>
    intro L hN hj hjn h
    exact ⟨L, AN (by rw [hS L 0 hj hN, if_neg (fun hh => Nat.lt_irrefl _ hh.1)]), List.Perm.refl _, NB h hj (fun hh => Nat.lt_irrefl _ hh.1)⟩
  | succ j ih =>
    intro L hN hj hjn h
    by_cases c : 0 < j + 1 ∧ key L[j + 1] < key (L[j + 1 - 1]'(by omega))
    · have h1 := P6 h hj c.1 hjn c.2
      obtain ⟨L', e, p, o⟩ := ih (KY L (j + 1) hj) (by rw [Jy]; exact hN) (by rw [Jy]; omega) (by omega) h1
      exact ⟨L', by rw [BL (by rw [hS L (j + 1) hj hN, if_pos c])]; exact e, p.trans (PG hj c.1), o⟩
    · exact ⟨L, AN (by rw [hS L (j + 1) hj hN, if_neg c]), List.Perm.refl _, NB h hj c⟩
theorem On {L0 : List α} {S : List α × Int → Option ((List α × Int) ⊕ List α)} {T : List α × Int → Option ((List α × Int) ⊕ List α)} (hS : ∀ L (j : Nat) (h : j < L.length), L.length = L0.length → S (L, (j : Int)) = if 0 < j ∧ key L[j] < key (L[j - 1]'(by omega)) then some (.inl (KY L j h, ((j - 1 : Nat) : Int))) else some (.inr L))
    (hT : ∀ L (i : Nat), L.length = L0.length → i < L0.length → T (L, (i : Int)) = (AG S (L, (i : Int))).bind fun x => some (.inl (x, ((i + 1 : Nat) : Int)))) (hTe : ∀ L (i : Nat), L0.length ≤ i → T (L, (i : Int)) = some (.inr L)) :
    ∃ L', AG T (L0, 1) = some L' ∧ L'.Perm L0 ∧ Si key L' L0.length := by
  have keyl : ∀ (d i : Nat) (L : List α), i + d = L0.length → 1 ≤ i → L.Perm L0 → Si key L i → ∃ L', AG T (L, (i : Int)) = some L' ∧ L'.Perm L0 ∧ Si key L' L0.length := by
    intro d
    induction d with
    | zero =>
      intro i L hi h1 hp ho
      exact ⟨L, AN (hTe L i (by omega)), hp, by rw [← hi]; exact ho⟩
    | succ d ih =>
      intro i L hi h1 hp ho
      have hlen := hp.length_eq
      obtain ⟨L', e, p, o⟩ := Ou (key := key) hS (n := i + 1) i L hlen (by omega) (by omega) (fun u v hv huv hvn hne => ho u v hv huv (by omega))
      have hst : T (L, (i : Int)) = some (.inl (L', ((i + 1 : Nat) : Int))) := by rw [hT L i hlen (by omega), e]; rfl
      rw [BL hst]
      exact ih (i + 1) L' (by omega) (by omega) (p.trans hp) o
  by_cases c : L0.length = 0
  · exact ⟨L0, AN (hTe L0 1 (by omega)), List.Perm.refl _, fun u v hv huv hvn => by omega⟩
  · exact keyl (L0.length - 1) 1 L0 (by omega) (Nat.le_refl _) (List.Perm.refl _) (fun u v hv huv hvn => by omega)
end sorting
theorem Jz (a : Nat) (h : a < 4294967296) : (BitVec.ofInt 32 (a : Int)).toNat = a := by
  rw [BitVec.toNat_ofInt]; omega
theorem RQ (a b : Nat) (ha : a < 65536) (hb : b < 65536) : Sz .u32 (a : Int) (b : Int) = ((a ||| b : Nat) : Int) ∧ a ||| b < 65536 := by
  have hl : a ||| b < 2 ^ 16 := Nat.or_lt_two_pow ha hb
  refine ⟨?_, hl⟩
  show IntKind.u32.wrap ((BitVec.ofInt 32 (a : Int) ||| BitVec.ofInt 32 (b : Int)).toNat : Int) = _
  rw [BitVec.toNat_or, Jz a (by omega), Jz b (by omega), QE]; omega
theorem Qw (a k : Nat) (hk : k < 32) : Ge .u32 (a : Int) (k : Int) = ((a / 2 ^ k : Nat) : Int) := by
  unfold Ge
  rw [Int.toNat_natCast, Nat.min_eq_left (by show k ≤ 32; omega), Int.fdiv_eq_ediv_of_nonneg _ (by have := Int.pow_pos (n := 2) (m := k) (by decide); omega)]
  norm_cast
theorem QZ (k : Nat) (hk : k < 16) : D5 .u32 1 (k : Int) = ((2 ^ k : Nat) : Int) ∧ 2 ^ k < 65536 := by
  have hl : 2 ^ k < 2 ^ 16 := Nat.pow_lt_pow_right (by decide) hk
  refine ⟨?_, hl⟩
  unfold D5
  rw [Int.toNat_natCast, Nat.min_eq_left (by show k ≤ 32; omega), QE, Int.one_mul]
  have e : (2 : Int) ^ k = ((2 ^ k : Nat) : Int) := by norm_cast
  rw [e]
  generalize 2 ^ k = z at hl ⊢
  omega
theorem Qx (a : Nat) (ha : a < 65536) : KX .u32 (a : Int) 1 = ((a % 2 : Nat) : Int) := by
  show IntKind.u32.wrap ((BitVec.ofInt 32 (a : Int) &&& BitVec.ofInt 32 ((1 : Nat) : Int)).toNat : Int) = _
  rw [BitVec.toNat_and, Jz a (by omega), Jz _ (by decide), Nat.and_two_pow_sub_one_eq_mod a 1, QE]; omega
theorem Qr (a b : Nat) (ha : a < 65536) (hb : b < 65536) : I1 .u32 (a : Int) (b : Int) = 0 ↔ ∀ k, k < 16 → a.testBit k = true → b.testBit k = true := by
  have e : I1 .u32 (a : Int) (b : Int) = (((BitVec.ofInt 32 (a : Int) &&& ~~~ BitVec.ofInt 32 (b : Int)).toNat : Nat) : Int) := by
    show IntKind.u32.wrap ((BitVec.ofInt 32 (a : Int) &&& ~~~ BitVec.ofInt 32 (b : Int)).toNat : Int) = _
    have := (BitVec.ofInt 32 (a : Int) &&& ~~~ BitVec.ofInt 32 (b : Int)).isLt
    rw [QE]; omega
  rw [e]
  have e2 : (((BitVec.ofInt 32 (a : Int) &&& ~~~ BitVec.ofInt 32 (b : Int)).toNat : Nat) : Int) = 0 ↔ BitVec.ofInt 32 (a : Int) &&& ~~~ BitVec.ofInt 32 (b : Int) = 0#32 := by
    rw [← BitVec.toNat_inj]
    show _ ↔ _ = 0
    omega
  have ga : ∀ k, (BitVec.ofInt 32 (a : Int)).getLsbD k = a.testBit k := by
    intro k; unfold BitVec.getLsbD; rw [Jz a (by omega)]
  have gb : ∀ k, (BitVec.ofInt 32 (b : Int)).getLsbD k = b.testBit k := by
    intro k; unfold BitVec.getLsbD; rw [Jz b (by omega)]
  rw [e2]
  constructor
  · intro h k hk hA
    have := congrArg (fun v => v.getLsbD k) h
    simp only [BitVec.getLsbD_and, BitVec.getLsbD_not, ga, gb, hA, BitVec.getLsbD_zero, Bool.true_and] at this
    have h32 : k < 32 := by omega
    simpa [h32] using this
  · intro h
    apply BitVec.eq_of_getLsbD_eq
    intro k hk
    simp only [BitVec.getLsbD_and, BitVec.getLsbD_not, ga, gb, BitVec.getLsbD_zero]
    by_cases h16 : k < 16
    · cases hA : a.testBit k
      · rfl
      · rw [h k h16 hA]; simp
    · rw [Nat.testBit_lt_two_pow (show a < 2 ^ k from Nat.lt_of_lt_of_le ha (Nat.pow_le_pow_right (n := 2) (by decide) (show 16 ≤ k by omega)))]
      rfl
theorem RD (m i : Nat) (hm : m < 65536) (hi : i < 16) : Gc (m : Int) (i : Int) = some (m.testBit i) := by
  unfold Gc
  rw [Oe (by omega), Option.bind_some, Qw _ _ (by omega), Qx _ (by have := Nat.div_le_self m (2 ^ i); omega)]
  congr 1
  rw [Nat.testBit_eq_decide_div_mod_eq]
  exact decide_eq_decide.2 (by omega)
theorem OK (m i : Nat) (hm : m < 65536) (hi : i < 16) : Ev (m : Int) (i : Int) = some ((m ||| 2 ^ i : Nat) : Int) ∧ m ||| 2 ^ i < 65536 := by
  have h := QZ i hi
  have h2 := RQ m (2 ^ i) hm h.2
  unfold Ev
  rw [Oe (by omega), Option.bind_some, h.1, h2.1]
  exact ⟨rfl, h2.2⟩
theorem Nh (m i k : Nat) : (m ||| 2 ^ i).testBit k = (m.testBit k || decide (i = k)) := by
  rw [Nat.testBit_or, Nat.testBit_two_pow]
abbrev Es := List (Int × Int)
abbrev Ok (n : Int) (l : Es) : Prop := 0 ≤ n ∧ n ≤ 16 ∧ ∀ e ∈ l, 0 ≤ e.1 ∧ e.1 < n ∧ 0 ≤ e.2 ∧ e.2 < n
abbrev J (l : Es) (i k : Nat) : Prop := ((i : Int), (k : Int)) ∈ l
abbrev QO (n : Int) (e : Int × Int) : Prop := e.1 < 0 ∨ n ≤ e.1 ∨ e.2 < 0 ∨ n ≤ e.2
theorem PE (n : Int) (l : Es) (hl : l.length ≤ 1000000000) : Hn n l = some (decide (Ok n l)) := by
  unfold Hn
  by_cases h0 : n < 0 ∨ 16 < n
  · rw [if_pos (by simpa using h0), decide_eq_false (fun h => by have := h.1; have := h.2.1; omega)]
  · rw [if_neg (by simpa using h0), Ha l (by omega) _ (QO n) false (fun k hk => by
      unfold GT
      rw [if_pos (by omega), Cb (List.getElem?_eq_getElem hk), Option.bind_some]
      by_cases hb : QO n l[k]
      · rw [if_pos hb, if_pos (by simpa using hb)]
      · rw [if_neg hb, if_neg (by simpa using hb)]) (by unfold GT; rw [if_neg (by omega)])]
    unfold FB
    by_cases hb : ∃ e ∈ l, QO n e
    · obtain ⟨e, h1, h2⟩ := hb
      rw [if_pos ⟨e, h1, h2⟩, decide_eq_false (p := Ok n l) (fun h => by have := h.2.2 e h1; omega)]; rfl
    · rw [if_neg hb, decide_eq_true (p := Ok n l) ⟨by omega, by omega, fun e he => by
        have : ¬ QO n e := fun h => hb ⟨e, he, h⟩
        omega⟩]; rfl
abbrev Pm := Int × Int × Int × Int × Int × Int × Int × Int × Int × Int × Int × Int × Int × Int × Int × Int
def PD (p1 : Pm) : List Int := [p1.1, p1.2.1, p1.2.2.1, p1.2.2.2.1, p1.2.2.2.2.1, p1.2.2.2.2.2.1, p1.2.2.2.2.2.2.1, p1.2.2.2.2.2.2.2.1, p1.2.2.2.2.2.2.2.2.1, p1.2.2.2.2.2.2.2.2.2.1, p1.2.2.2.2.2.2.2.2.2.2.1, p1.2.2.2.2.2.2.2.2.2.2.2.1, p1.2.2.2.2.2.2.2.2.2.2.2.2.1, p1.2.2.2.2.2.2.2.2.2.2.2.2.2.1, p1.2.2.2.2.2.2.2.2.2.2.2.2.2.2.1, p1.2.2.2.2.2.2.2.2.2.2.2.2.2.2.2]
def ST (p1 : Pm) (v x : Int) : Pm := (if v = 0 then x else p1.1, if v = 1 then x else p1.2.1, if v = 2 then x else p1.2.2.1, if v = 3 then x else p1.2.2.2.1, if v = 4 then x else p1.2.2.2.2.1, if v = 5 then x else p1.2.2.2.2.2.1, if v = 6 then x else p1.2.2.2.2.2.2.1, if v = 7 then x else p1.2.2.2.2.2.2.2.1, if v = 8 then x else p1.2.2.2.2.2.2.2.2.1, if v = 9 then x else p1.2.2.2.2.2.2.2.2.2.1, if v = 10 then x else p1.2.2.2.2.2.2.2.2.2.2.1, if v = 11 then x else p1.2.2.2.2.2.2.2.2.2.2.2.1, if v = 12 then x else p1.2.2.2.2.2.2.2.2.2.2.2.2.1, if v = 13 then x else p1.2.2.2.2.2.2.2.2.2.2.2.2.2.1, if v = 14 then x else p1.2.2.2.2.2.2.2.2.2.2.2.2.2.2.1, if v = 15 then x else p1.2.2.2.2.2.2.2.2.2.2.2.2.2.2.2)
theorem R3 (v c : Nat) (x y : Int) : some (if (v : Int) = (c : Int) then x else y) = if v = c then some x else some y := by
  by_cases h : v = c
  · rw [if_pos (by omega), if_pos h]
  · rw [if_neg (by omega), if_neg h]
theorem QG (t : Pm) (v i : Nat) (x : Int) (hi : i < 16) : ix (PD (ST t (v : Int) x)) (i : Int) = if v = i then some x else ix (PD t) (i : Int) := by
  have h : i = 0 ∨ i = 1 ∨ i = 2 ∨ i = 3 ∨ i = 4 ∨ i = 5 ∨ i = 6 ∨ i = 7 ∨ i = 8 ∨ i = 9 ∨ i = 10 ∨ i = 11 ∨ i = 12 ∨ i = 13 ∨ i = 14 ∨ i = 15 := by omega
  rcases h with rfl | rfl | rfl | rfl | rfl | rfl | rfl | rfl | rfl | rfl | rfl | rfl | rfl | rfl | rfl | rfl <;> exact R3 v _ x _
def PZ (P : Nat → Nat → Prop) (t : Pm) : Prop := ∀ i : Nat, i < 16 → ∃ m : Nat, m < 65536 ∧ ix (PD t) (i : Int) = some (m : Int) ∧ ∀ k, k < 16 → (m.testBit k = true ↔ P i k)
theorem HY {l : Es} {e : Int × Int} {j : Nat} (hj : j < l.length) : e ∈ l.take (j + 1) ↔ e ∈ l.take j ∨ e = l[j] := by
  rw [List.take_add_one, List.getElem?_eq_getElem hj, List.mem_append]
  simp
theorem O9 (l : Es) (n : Int) (ok : Ok n l) (hl : l.length ≤ 1000000000) (row mem : Int × Int → Int)
    (hr : ∀ e ∈ l, 0 ≤ row e ∧ row e < 16 ∧ 0 ≤ mem e ∧ mem e < 16) (step : Int × Pm → Option ((Int × Pm) ⊕ Pm))
    (hs : ∀ (j : Nat) (hj : j < l.length) (t : Pm), step ((j : Int), t) = (ix (PD t) (row l[j])).bind fun x => (Ev x (mem l[j])).bind fun y => (ix (PD t) (row l[j])).bind fun _ => some (.inl (AB ((j : Int) + 1), ST t (row l[j]) y)))
    (he : ∀ t, step ((l.length : Int), t) = some (.inr t)) :
    ∃ t, AG step (0, (0, 0, 0, 0, 0, 0, 0, 0, 0, 0, 0, 0, 0, 0, 0, 0)) = some t ∧ PZ (fun i k => ∃ e ∈ l, row e = (i : Int) ∧ mem e = (k : Int)) t := by
  obtain ⟨t, h1, h2⟩ := FO l.length (fun (t : Pm) (j : Nat) => ((j : Int), t)) step id (fun t j => PZ (fun i k => ∃ e ∈ l.take j, row e = (i : Int) ∧ mem e = (k : Int)) t)
    (fun t j hj hI => by
      have hm : l[j] ∈ l := List.getElem_mem hj
      obtain ⟨a1, a2, a3, a4⟩ := hr _ hm
      obtain ⟨i, hi⟩ : ∃ i : Nat, row l[j] = (i : Int) := ⟨(row l[j]).toNat, by omega⟩
      obtain ⟨k, hk⟩ : ∃ k : Nat, mem l[j] = (k : Int) := ⟨(mem l[j]).toNat, by omega⟩
      obtain ⟨m, hm1, hm2, hm3⟩ := hI i (by omega)
      have hw := OK m k hm1 (by omega)
      refine ⟨ST t (i : Int) ((m ||| 2 ^ k : Nat) : Int), ?_, ?_⟩
      · rw [hs j hj, hi, hk, hm2, Option.bind_some, hw.1, Option.bind_some, Option.bind_some, AE (by omega)]; rfl
      · intro i2 hi2
        rw [QG _ _ _ _ hi2]
        by_cases h : i = i2
        · subst h
          refine ⟨m ||| 2 ^ k, hw.2, by rw [if_pos rfl], fun k2 hk2 => ?_⟩
          rw [Nh, Bool.or_eq_true, decide_eq_true_eq, hm3 k2 hk2]
          constructor
          · rintro (⟨e, h1, h2⟩ | rfl)
            · exact ⟨e, (HY hj).2 (.inl h1), h2⟩
            · exact ⟨l[j], (HY hj).2 (.inr rfl), hi, hk⟩
          · rintro ⟨e, h1, h2, h3⟩
            rcases (HY hj).1 h1 with h4 | rfl
            · exact .inl ⟨e, h4, h2, h3⟩
            · exact .inr (by omega)
        · rw [if_neg h]
          obtain ⟨m', b1, b2, b3⟩ := hI i2 hi2
          refine ⟨m', b1, b2, fun k2 hk2 => (b3 k2 hk2).trans ?_⟩
          constructor
          · rintro ⟨e, h1, h2⟩
            exact ⟨e, (HY hj).2 (.inl h1), h2⟩
          · rintro ⟨e, h1, h2, h3⟩
            rcases (HY hj).1 h1 with h4 | rfl
            · exact ⟨e, h4, h2, h3⟩
            · omega)
    (fun t _ => he t) (0, 0, 0, 0, 0, 0, 0, 0, 0, 0, 0, 0, 0, 0, 0, 0) (by
      intro i hi
      have h : i = 0 ∨ i = 1 ∨ i = 2 ∨ i = 3 ∨ i = 4 ∨ i = 5 ∨ i = 6 ∨ i = 7 ∨ i = 8 ∨ i = 9 ∨ i = 10 ∨ i = 11 ∨ i = 12 ∨ i = 13 ∨ i = 14 ∨ i = 15 := by omega
      refine ⟨0, by decide, ?_, fun k _ => ?_⟩
      · rcases h with rfl | rfl | rfl | rfl | rfl | rfl | rfl | rfl | rfl | rfl | rfl | rfl | rfl | rfl | rfl | rfl <;> rfl
      · rw [Nat.zero_testBit]; simp)
  rw [List.take_length] at h1
  exact ⟨t, h2, h1⟩
theorem Rc (l : Es) (n : Int) (ok : Ok n l) (hl : l.length ≤ 1000000000) : ∃ t, Eu l = some t ∧ PZ (fun i k => J l k i) t := by
  have hb : ∀ e ∈ l, 0 ≤ e.2 ∧ e.2 < 16 ∧ 0 ≤ e.1 ∧ e.1 < 16 := fun e he => by have := ok.2.2 e he; have := ok.2.1; omega
  obtain ⟨t, h1, h2⟩ := O9 l n ok hl (·.2) (·.1) hb (CL l) (fun j hj t => by
    show CL l ((j : Int), t.1, t.2) = _
    unfold CL
    simp only
    rw [if_pos (by omega), Cb (List.getElem?_eq_getElem hj)]; rfl) (fun t => by
    show CL l ((l.length : Int), t.1, t.2) = _
    unfold CL
    simp only
    rw [if_neg (by omega)])
  refine ⟨t, ?_, fun i hi => ?_⟩
  · unfold Eu
    rw [h1]; rfl
  · obtain ⟨m, a1, a2, a3⟩ := h2 i hi
    refine ⟨m, a1, a2, fun k hk => (a3 k hk).trans ⟨?_, fun h => ⟨_, h, rfl, rfl⟩⟩⟩
    rintro ⟨⟨a, b⟩, h3, h4, h5⟩
    simp only at h4 h5
    subst h4 h5; exact h3
abbrev J0 (n : Nat) (l : Es) (out : List Int) (i : Nat) : Prop := (i : Int) ∉ out ∧ ∀ k, k < n → J l k i → (k : Int) ∈ out
def IL (n : Nat) (l : Es) (out : List Int) (a : Nat) : Int := match (List.range' a (n - a)).findSome? (fun i => if J0 n l out i then some (i : Int) else none) with | some e => e | none => -1
abbrev R7 (c : Nat) (out : List Int) : Prop := c < 65536 ∧ ∀ k : Nat, k < 16 → (c.testBit k = true ↔ (k : Int) ∈ out)
theorem SR {n : Nat} {l : Es} (ok : Ok (n : Int) l) {i k : Nat} (h : J l i k) : i < n ∧ k < n := by have := ok.2.2 _ h; simp only at this; omega
theorem Jb {n : Nat} {l : Es} (ok : Ok (n : Int) l) {t : Pm} (ht : PZ (fun i k => J l k i) t) {c : Nat} {out : List Int} (hc : R7 c out) : En (n : Int) t (c : Int) = some (IL n l out 0) := by
  have hn := ok.2.1
  unfold En
  rw [JV n _ (fun i => if J0 n l out i then some (i : Int) else none) (fun i hi => by
    unfold Ey
    rw [if_pos (by omega), RD c i hc.1 (by omega), Option.bind_some]
    obtain ⟨m, h1, h2, h3⟩ := ht i (by omega)
    have h2' : ix ([t.1, t.2.1, t.2.2.1, t.2.2.2.1, t.2.2.2.2.1, t.2.2.2.2.2.1, t.2.2.2.2.2.2.1, t.2.2.2.2.2.2.2.1, t.2.2.2.2.2.2.2.2.1, t.2.2.2.2.2.2.2.2.2.1, t.2.2.2.2.2.2.2.2.2.2.1, t.2.2.2.2.2.2.2.2.2.2.2.1, t.2.2.2.2.2.2.2.2.2.2.2.2.1, t.2.2.2.2.2.2.2.2.2.2.2.2.2.1, t.2.2.2.2.2.2.2.2.2.2.2.2.2.2.1, t.2.2.2.2.2.2.2.2.2.2.2.2.2.2.2] : List Int) (i : Int) = some (m : Int) := h2
    rw [h2', Option.bind_some, AE (by omega)]
    have hb := hc.2 i (by omega)
    by_cases hf : J0 n l out i
    · rw [if_pos hf]
      have e1 : c.testBit i = false := by
        cases hx : c.testBit i
        · rfl
        · exact absurd (hb.1 hx) hf.1
      have e2 : I1 .u32 (m : Int) (c : Int) = 0 := (Qr m c h1 hc.1).2 fun k hk hm => (hc.2 k hk).2 (hf.2 k (SR ok ((h3 k hk).1 hm)).1 ((h3 k hk).1 hm))
      rw [e1, decide_eq_true e2]; rfl
    · rw [if_neg hf]
      by_cases h4 : (i : Int) ∈ out
      · rw [hb.2 h4]; rfl
      · have e1 : c.testBit i = false := by
          cases hx : c.testBit i
          · rfl
          · exact absurd (hb.1 hx) h4
        have e2 : ¬ I1 .u32 (m : Int) (c : Int) = 0 := fun h0 => hf ⟨h4, fun k hk hj => (hc.2 k (by omega)).1 ((Qr m c h1 hc.1).1 h0 k (by omega) ((h3 k (by omega)).2 hj))⟩
        rw [e1, decide_eq_false e2]; rfl) (by unfold Ey; rw [if_neg (by omega)])]
  unfold IL
  rw [Nat.sub_zero, ← List.range_eq_range']
  cases (List.range n).findSome? (fun i => if J0 n l out i then some (i : Int) else none) <;> rfl
theorem Oo (n : Nat) (l : Es) (out : List Int) {a : Nat} (h : a < n) : IL n l out a = if J0 n l out a then (a : Int) else IL n l out (a + 1) := by
  unfold IL
  rw [show n - a = (n - (a + 1)) + 1 by omega, List.range'_succ, List.findSome?_cons]
  by_cases hf : J0 n l out a
  · rw [if_pos hf, if_pos hf]
  · rw [if_neg hf, if_neg hf]
theorem Pi (n : Nat) (l : Es) (out : List Int) : IL n l out n = -1 := by unfold IL; rw [Nat.sub_self]; rfl
def Qu (n : Nat) (l : Es) : Nat → List Int → Option (List Int)
  | 0, out => some out
  | d + 1, out => if IL n l out 0 < 0 then none else Qu n l d (out ++ [IL n l out 0])
theorem KT (n : Nat) (l : Es) (out : List Int) : (IL n l out 0 = -1 ∧ ∀ i, i < n → ¬ J0 n l out i) ∨ ∃ i : Nat, i < n ∧ IL n l out 0 = (i : Int) ∧ J0 n l out i ∧ ∀ k, k < i → ¬ J0 n l out k := by
  have key : ∀ (d a : Nat), a + d = n → (IL n l out a = -1 ∧ ∀ i, a ≤ i → i < n → ¬ J0 n l out i) ∨ ∃ i : Nat, a ≤ i ∧ i < n ∧ IL n l out a = (i : Int) ∧ J0 n l out i ∧ ∀ k, a ≤ k → k < i → ¬ J0 n l out k := by
    intro d
    induction d with
    | zero =>
      intro a ha
      obtain rfl : a = n := by omega
      exact .inl ⟨Pi _ _ _, fun i h1 h2 => by omega⟩
    | succ d ih =>
      intro a ha
      rw [Oo n l out (show a < n by omega)]
      by_cases hf : J0 n l out a
      · rw [if_pos hf]
        exact .inr ⟨a, Nat.le_refl _, by omega, rfl, hf, fun k h1 h2 => by omega⟩
      · rw [if_neg hf]
        rcases ih (a + 1) (by omega) with ⟨h1, h2⟩ | ⟨i, h1, h2, h3, h4, h5⟩
        · exact .inl ⟨h1, fun i h3 h4 => by
            by_cases h : i = a
            · rw [h]; exact hf
            · exact h2 i (by omega) h4⟩
        · exact .inr ⟨i, by omega, h2, h3, h4, fun k h6 h7 => by
            by_cases h : k = a
            · rw [h]; exact hf
            · exact h5 k (by omega) h7⟩
  rcases key n 0 (by omega) with ⟨h1, h2⟩ | ⟨i, _, h2, h3, h4, h5⟩
  · exact .inl ⟨h1, fun i hi => h2 i (by omega) hi⟩
  · exact .inr ⟨i, h2, h3, h4, fun k hk => h5 k (by omega) hk⟩
theorem Ph {n : Nat} {l : Es} (ok : Ok (n : Int) l) {t : Pm} (ht : PZ (fun i k => J l k i) t) : ∀ (d : Nat) (out : List Int) (c : Nat), out.length + d = n → R7 c out → AG (Eo (n : Int) t) (out, (c : Int), (out.length : Int)) = some (match Qu n l d out with | some o => .inl o | none => .inr ([], false)) := by
  have hn := ok.2.1
  intro d
  induction d with
  | zero =>
    intro out c ho hc
    exact AN (by rw [Eo, if_neg (by omega)]; rfl)
  | succ d ih =>
    intro out c ho hc
    unfold Qu
    rcases KT n l out with ⟨h1, _⟩ | ⟨i, hi, h1, _⟩
    · rw [if_pos (by omega)]
      exact AN (by rw [Eo, if_pos (by omega), Jb ok ht hc, Option.bind_some, if_pos (by omega)])
    · have hw := OK c i hc.1 (by omega)
      rw [if_neg (by omega), h1]
      have := ih (out ++ [(i : Int)]) (c ||| 2 ^ i) (by simp; omega) ⟨hw.2, fun k hk => by
        rw [Nh, Bool.or_eq_true, hc.2 k hk, decide_eq_true_eq, List.mem_append, List.mem_singleton]
        exact or_congr Iff.rfl (by omega)⟩
      rw [List.length_append, List.length_singleton] at this
      refine (BL ?_).trans this
      rw [Eo, if_pos (by omega), Jb ok ht hc, Option.bind_some, h1, if_neg (by omega), HF (by simp; omega), Option.bind_some, hw.1, Option.bind_some, AE (by omega)]; rfl
def Of (n : Nat) (l : Es) : List Int × Bool := match Qu n l n [] with | some o => (o, true) | none => ([], false)
theorem O0 {n : Nat} {l : Es} (ok : Ok (n : Int) l) (hl : l.length ≤ 1000000000) : Gw (n : Int) l = some (Of n l) := by
  obtain ⟨t, h1, h2⟩ := Rc l n ok hl
  unfold Gw Of
  rw [PE _ _ hl, decide_eq_true ok, Option.bind_some, if_neg (by decide), h1, Option.bind_some]
  have := Ph ok h2 n [] 0 (by simp) ⟨by decide, fun k _ => by rw [Nat.zero_testBit]; simp⟩
  have e : AG (Eo (n : Int) t) ([], 0, 0) = some (match Qu n l n [] with | some o => .inl o | none => .inr ([], false)) := this
  rw [e]
  cases Qu n l n [] <;> rfl
def R0 (n : Nat) (l : Es) (o : List Int) : Prop := ∀ (j : Nat) (x : Int), o[j]? = some x → ∃ i : Nat, i < n ∧ x = (i : Int) ∧ J0 n l (o.take j) i
theorem IW {L : List Int} (hs : L.Pairwise (· ≤ ·)) {i j : Nat} (hij : i ≤ j) (hj : j < L.length) : L[i]'(by omega) ≤ L[j] := by
  rcases Nat.lt_or_ge i j with h | h
  · exact List.pairwise_iff_getElem.1 hs i j (by omega) hj h
  · obtain rfl : i = j := by omega
    exact Int.le_refl _
theorem Kc {L : List Int} {x : Int} {m : Nat} : x ∈ L.take m ↔ ∃ i, ∃ h : i < L.length, i < m ∧ L[i] = x := by
  constructor
  · intro h
    obtain ⟨i, hi, e⟩ := List.mem_iff_getElem.1 h
    rw [List.length_take] at hi
    exact ⟨i, by omega, by omega, by rw [← e, List.getElem_take]⟩
  · rintro ⟨i, h1, h2, e⟩
    exact List.mem_iff_getElem.2 ⟨i, by rw [List.length_take]; omega, by rw [List.getElem_take, e]⟩
theorem Oa {L : List Int} (hl : L.length ≤ 1000000) (hs : L.Pairwise (· ≤ ·)) {k : Nat} (hk : k < L.length) :
    ∀ (d j q : Nat) (X : List Int), k + j + d = L.length → X.length = L.length → k ≤ q → q + 1 ≤ k + j → (∀ i, q ≤ i → X[i]? = L[i]?) → (X.take q).Pairwise (· < ·) → (∀ x, x ∈ X.take q ↔ x ∈ L.take (k + j)) → 1 ≤ j →
    ∃ (X' : List Int) (q' : Nat), AG (BW L (k : Int)) (X, (q : Int), (j : Int)) = some (X', (q' : Int)) ∧ X'.length = L.length ∧ q' ≤ L.length ∧ (X'.take q').Pairwise (· < ·) ∧ ∀ x, x ∈ X'.take q' ↔ x ∈ L := by
  intro d
  induction d with
  | zero =>
    intro j q X h1 h2 h3 h4 h5 h6 h7 h8
    refine ⟨X, q, AN ?_, h2, by omega, h6, fun x => by rw [h7 x, List.take_of_length_le (by omega)]⟩
    rw [BW, Kk (by omega), Option.bind_some, if_neg (by simp; omega)]
  | succ d ih =>
    intro j q X h1 h2 h3 h4 h5 h6 h7 h8
    have hkj : k + j < L.length := by omega
    have hdrop : (X.take ((L.length : Int)).toNat).drop ((k : Int)).toNat = X.drop k := by simp [← h2]
    have hx1 : ix (X.drop k) (j : Int) = some L[k + j] := Cb (by rw [List.getElem?_drop, h5 _ (by omega), List.getElem?_eq_getElem hkj])
    have hx2 : ix (X.drop k) ((j - 1 : Nat) : Int) = some (L[k + (j - 1)]'(by omega)) := Cb (by rw [List.getElem?_drop, h5 _ (by omega), List.getElem?_eq_getElem (by omega)])
    have hq : ix X (q : Int) = some (X[q]'(by omega)) := Cb (List.getElem?_eq_getElem _)
    have hstep := IW hs (show k + (j - 1) ≤ k + j by omega) hkj
    have hhead : BW L (k : Int) (X, (q : Int), (j : Int)) = (if L[k + j] ≠ L[k + (j - 1)]'(by omega) then some (.inl (Ap X (q : Int) L[k + j], ((q + 1 : Nat) : Int), ((j + 1 : Nat) : Int))) else some (.inl (X, (q : Int), ((j + 1 : Nat) : Int)))) := by
      rw [BW, Kk (by omega), Option.bind_some, hdrop, if_pos (by simp; omega), AE (x := (j : Int) - 1) (by omega), show (j : Int) - 1 = ((j - 1 : Nat) : Int) by omega, hx1, Option.bind_some, hx2, Option.bind_some]
      by_cases c : L[k + j] ≠ L[k + (j - 1)]'(by omega)
      · rw [if_pos c, if_pos c, Option.bind_some, hq, Option.bind_some, Option.bind_some, AE (by omega), AE (by omega)]; rfl
      · rw [if_neg c, if_neg c, Option.bind_some, AE (by omega)]; rfl
    by_cases c : L[k + j] ≠ L[k + (j - 1)]'(by omega)
    · rw [BL (by rw [hhead, if_pos c])]
      have hset : Ap X (q : Int) L[k + j] = X.set q L[k + j] := by unfold Ap; simp
      have htake : (X.set q L[k + j]).take (q + 1) = X.take q ++ [L[k + j]] := by
        rw [List.take_succ_eq_append_getElem (by simp; omega), List.getElem_set_self, List.take_set_of_le (Nat.le_refl _)]
      rw [hset]
      refine ih (j + 1) (q + 1) _ (by omega) (by simp [h2]) (by omega) (by omega) (fun i hi => ?_) ?_ (fun x => ?_) (by omega)
      · rw [List.getElem?_set_ne (by omega)]; exact h5 i (by omega)
      · rw [htake, List.pairwise_append]
        refine ⟨h6, List.pairwise_singleton _ _, fun a ha b hb => ?_⟩
        rw [List.mem_singleton.1 hb]
        obtain ⟨i, i1, i2, i3⟩ := Kc.1 ((h7 a).1 ha)
        have := IW hs (show i ≤ k + (j - 1) by omega) (by omega)
        omega
      · rw [htake, List.mem_append, List.mem_singleton, h7 x, show k + (j + 1) = (k + j) + 1 by omega, List.take_succ_eq_append_getElem hkj, List.mem_append, List.mem_singleton]
    · rw [BL (by rw [hhead, if_neg c])]
      refine ih (j + 1) q X (by omega) h2 h3 (by omega) h5 h6 (fun x => ?_) (by omega)
      rw [h7 x, show k + (j + 1) = (k + j) + 1 by omega, List.take_succ_eq_append_getElem hkj, List.mem_append, List.mem_singleton]
      constructor
      · exact .inl
      · rintro (h | h)
        · exact h
        · rw [h, Decidable.not_not.1 c]
          exact Kc.2 ⟨k + (j - 1), by omega, by omega, rfl⟩
theorem Oq {L : List Int} (hl : L.length ≤ 1000000) (hs : L.Pairwise (· ≤ ·)) : ∃ R, CB L = some R ∧ R.Pairwise (· < ·) ∧ ∀ x, x ∈ R ↔ x ∈ L := by
  unfold CB
  by_cases c : L.length < 2
  · rw [if_pos (by omega)]
    refine ⟨L, rfl, ?_, fun _ => Iff.rfl⟩
    match L, c with
    | [], _ => exact List.Pairwise.nil
    | [a], _ => exact List.pairwise_singleton _ _
  · rw [if_neg (by omega)]
    have key : ∀ (d k : Nat), k + d = L.length → 1 ≤ k → (L.take k).Pairwise (· < ·) → ∃ R, FB (AG (BR L) (k : Int)) (fun _ => some L) = some R ∧ R.Pairwise (· < ·) ∧ ∀ x, x ∈ R ↔ x ∈ L := by
      intro d
      induction d with
      | zero =>
        intro k hk h1 hp
        rw [List.take_of_length_le (by omega)] at hp
        exact ⟨L, by rw [AN (by rw [BR, if_neg (by omega)])]; rfl, hp, fun _ => Iff.rfl⟩
      | succ d ih =>
        intro k hk h1 hp
        have hkl : k < L.length := by omega
        have hx1 : ix L (k : Int) = some L[k] := Cb (List.getElem?_eq_getElem hkl)
        have hx2 : ix L ((k - 1 : Nat) : Int) = some (L[k - 1]'(by omega)) := Cb (List.getElem?_eq_getElem (by omega))
        have e1 : AB ((k : Int) - 1) = ((k - 1 : Nat) : Int) := by rw [AE (by omega)]; omega
        by_cases c2 : L[k] = L[k - 1]'(by omega)
        · obtain ⟨X, q, a1, a2, a3, a4, a5⟩ := Oa hl hs hkl (L.length - (k + 1)) 1 k L (by omega) rfl (Nat.le_refl _) (Nat.le_refl _) (fun _ _ => rfl) hp (fun x => by
            rw [List.take_succ_eq_append_getElem hkl, List.mem_append, List.mem_singleton]
            constructor
            · exact .inl
            · rintro (h | h)
              · exact h
              · rw [h, c2]; exact Kc.2 ⟨k - 1, by omega, by omega, rfl⟩) (Nat.le_refl _)
          refine ⟨X.take q, ?_, a4, a5⟩
          have hst : BR L (k : Int) = some (.inr (.inr (X.take q))) := by
            rw [BR, if_pos (by omega), hx1, Option.bind_some, e1, hx2, Option.bind_some, if_pos c2, Kk (by omega), Option.bind_some, show AG (BW L (k : Int)) (L, (k : Int), 1) = some (X, (q : Int)) from a1, Option.bind_some]
            simp only []
            rw [Kk (by omega), Option.bind_some]
            have hd : ((X.take ((X.length : Int)).toNat).drop ((q : Int)).toNat).length = X.length - q := by simp
            rw [hd]
            have hspl : RG X (q : Int) (List.replicate (X.length - q) (0 : Int)) = some (X.take q ++ List.replicate (X.length - q) 0 ++ X.drop (q + (X.length - q))) := by
              unfold RG
              rw [if_pos (by simp; omega)]; simp
            rw [hspl, Option.bind_some, Kk (by simp; omega), Option.bind_some]
            have ht : ((X.take q ++ List.replicate (X.length - q) (0 : Int) ++ X.drop (q + (X.length - q))).take ((q : Int)).toNat).drop ((0 : Int)).toNat = X.take q := by
              rw [Int.toNat_natCast]
              show List.drop 0 _ = _
              rw [List.drop_zero, List.append_assoc, List.take_append_of_le_length (by simp; omega), List.take_take, Nat.min_self]
            rw [ht]; rfl
          rw [AN hst]; rfl
        · have hst : BR L (k : Int) = some (.inl ((k + 1 : Nat) : Int)) := by
            rw [BR, if_pos (by omega), hx1, Option.bind_some, e1, hx2, Option.bind_some, if_neg c2, AE (by omega)]; rfl
          rw [BL hst]
          refine ih (k + 1) (by omega) (by omega) ?_
          rw [List.take_succ_eq_append_getElem hkl, List.pairwise_append]
          refine ⟨hp, List.pairwise_singleton _ _, fun a ha b hb => ?_⟩
          rw [List.mem_singleton.1 hb]
          obtain ⟨i, i1, i2, i3⟩ := Kc.1 ha
          have h2 := IW hs (show i ≤ k - 1 by omega) (by omega)
          have h3 := IW hs (show k - 1 ≤ k by omega) hkl
          omega
    exact key (L.length - 1) 1 (by omega) (Nat.le_refl _) (by
      cases L with
      | nil => exact absurd (by simp) c
      | cons a l => exact List.pairwise_singleton _ _)
theorem Mx {n : Nat} {l : Es} : ∀ (d : Nat) (out : List Int), Qu n l d out = none → out.length + d = n → R0 n l out → ∃ out' : List Int, out'.length < n ∧ R0 n l out' ∧ ∀ i, i < n → ¬ J0 n l out' i
  | 0, out, h, _, _ => by cases h
  | d + 1, out, h, hl, g => by
    unfold Qu at h
    rcases KT n l out with ⟨h1, h2⟩ | ⟨i, hi, h1, hf, _⟩
    · exact ⟨out, by omega, g, h2⟩
    · rw [if_neg (by omega), h1] at h
      refine Mx d (out ++ [(i : Int)]) h (by rw [List.length_append, List.length_singleton]; omega) fun j x hx => ?_
      by_cases hj : j < out.length
      · rw [List.getElem?_append_left hj] at hx
        rw [List.take_append_of_le_length (by omega)]
        exact g j x hx
      · have hj2 := (List.getElem?_eq_some_iff.1 hx).1
        rw [List.length_append, List.length_singleton] at hj2
        obtain rfl : j = out.length := by omega
        rw [List.getElem?_append_right (Nat.le_refl _), Nat.sub_self] at hx
        have hx : (i : Int) = x := by simpa using hx
        rw [List.take_append_of_le_length (Nat.le_refl _), List.take_length]
        exact ⟨i, hi, hx.symm, hf⟩
theorem Nk : ∀ (n : Nat) (o : List Int), (∀ i : Nat, i < n → (i : Int) ∈ o) → n ≤ o.length
  | 0, _, _ => Nat.zero_le _
  | n + 1, o, h => by
    have hm := h n (by omega)
    have := Nk n (o.erase (n : Int)) (fun i hi => (List.mem_erase_of_ne (by omega)).2 (h i (by omega)))
    rw [List.length_erase_of_mem hm] at this
    have := List.length_pos_of_mem hm
    omega
theorem N9 : LL 2 = some () := rfl
theorem Pt (a b : Int) : Fe a b = decide (a < b) := by
  unfold Fe BO
  simp
theorem Og (L : List Int) (j : Nat) (h : j < L.length) (hL : L.length ≤ 1000) : BQ 0 (L, (j : Int)) = if 0 < j ∧ (fun x : Int => x) L[j] < (fun x : Int => x) (L[j - 1]'(by omega)) then some (.inl (KY L j h, ((j - 1 : Nat) : Int))) else some (.inr L) := by
  rw [BQ]
  by_cases c : 0 < j
  · have hw : AB ((j : Int) - 1) = ((j - 1 : Nat) : Int) := by rw [AE (by omega)]; omega
    have g1 := Cb (List.getElem?_eq_getElem h)
    have g2 := Cb (List.getElem?_eq_getElem (show j - 1 < L.length by omega))
    rw [if_pos (by omega), hw, g1, Option.bind_some, g2, Option.bind_some, Option.bind_some, Pt]
    by_cases c2 : L[j] < (L[j - 1]'(by omega))
    · have hlen : j - 1 < (Ap L (j : Int) (L[j - 1]'(by omega))).length := by unfold Ap; simp; omega
      rw [decide_eq_true c2, if_pos rfl, if_pos ⟨c, c2⟩, Option.bind_some, Option.bind_some, Option.bind_some, Cb (List.getElem?_eq_getElem hlen), Option.bind_some]
      unfold Ap KY
      rw [Int.toNat_natCast, Int.toNat_natCast]
    · rw [decide_eq_false c2, if_neg (by decide), if_neg (fun hh => c2 hh.2)]
  · rw [if_neg (by omega), Option.bind_some, if_neg (by decide), if_neg (fun hh => c hh.1)]
theorem Se {L : List Int} (hL : L.length ≤ 12) : ∃ L', Da L = some L' ∧ L'.Perm L ∧ L'.Pairwise (· ≤ ·) := by
  have hlen : ∀ n : Nat, n ≤ 12 → ∃ v, Dx (IntKind.u64.wrap (n : Int)) = some v := fun n hn => by
    have : n = 0 ∨ n = 1 ∨ n = 2 ∨ n = 3 ∨ n = 4 ∨ n = 5 ∨ n = 6 ∨ n = 7 ∨ n = 8 ∨ n = 9 ∨ n = 10 ∨ n = 11 ∨ n = 12 := by omega
    apply Option.isSome_iff_exists.1
    rcases this with rfl | rfl | rfl | rfl | rfl | rfl | rfl | rfl | rfl | rfl | rfl | rfl | rfl <;> kernel_rfl
  obtain ⟨v, hv⟩ := hlen L.length hL
  obtain ⟨L', e, p, o⟩ := On (key := fun s : Int => s) (L0 := L) (S := BQ 0) (T := BA 0 (L.length : Int)) (fun M j h hM => Og M j h (by omega))
    (fun M i hM hi => by rw [BA, if_pos (by omega), AE (by omega)]; rfl) (fun M i hi => by rw [BA, if_neg (by omega)])
  have hlp := p.length_eq
  refine ⟨L', ?_, p, List.pairwise_iff_getElem.2 fun i j hi hj hij => o i j hj (by omega) (by omega)⟩
  have hp : Cn L 0 (L.length : Int) v = some L' := by
    unfold Cn
    refine AN ?_
    rw [CE, if_pos (by rw [AE (by omega)]; omega)]
    unfold Cc
    show (AG (BA 0 (L.length : Int)) (L, 1)).bind _ = _
    rw [e]; rfl
  unfold Da
  rw [hv, Option.bind_some, hp]; rfl
theorem RZ {L : List Int} (hL : L.length ≤ 12) : ∃ R, Dk L = some R ∧ R.Pairwise (· < ·) ∧ ∀ x, x ∈ R ↔ x ∈ L := by
  obtain ⟨L', e, p, o⟩ := Se hL
  obtain ⟨R, e2, h1, h2⟩ := Oq (L := L') (by have := p.length_eq; omega) o
  refine ⟨R, ?_, h1, fun x => by rw [h2, p.mem_iff]⟩
  unfold Dk
  rw [e, Option.bind_some, e2]; rfl
theorem QR {R : List Int} {a b : Int} (h1 : R.Pairwise (· < ·)) (h2 : ∀ x ∈ R, x = a ∨ x = b) : R.length ≤ 2 := by
  match R, h1, h2 with
  | [], _, _ => simp
  | [x], _, _ => simp
  | [x, y], _, _ => simp
  | x :: y :: z :: R, h1, h2 =>
    exfalso
    have e1 := h2 x (by simp)
    have e2 := h2 y (by simp)
    have e3 := h2 z (by simp)
    simp only [List.pairwise_cons, List.mem_cons] at h1
    have f1 := h1.1 y (.inl rfl)
    have f2 := h1.2.1 z (.inl rfl)
    omega
section
variable {t : Tp} {old now R1 : Rt} {L : List Mv} {round : Int}
def cm (round h s : Int) (m : Mv) : Bool := decide (m.2.2.2 = round) && (decide (m.2.1 = h) && decide (m.1 = s))
theorem Rz (hp : L.Pairwise JD) (round h s : Int) : (L.filter (cm round h s)).length ≤ 1 := by
  have h1 : (L.filter (cm round h s)).Pairwise JD := hp.filter _
  have h2 : ∀ m ∈ L.filter (cm round h s), m.1 = s ∧ m.2.1 = h := fun m hm => by
    have := (List.mem_filter.1 hm).2
    simp only [cm, Bool.and_eq_true, decide_eq_true_eq] at this
    exact ⟨this.2.2, this.2.1⟩
  match L.filter (cm round h s), h1, h2 with
  | [], _, _ => simp
  | [x], _, _ => simp
  | x :: y :: r, h1, h2 =>
    exfalso
    rw [List.pairwise_cons] at h1
    have e1 := h2 x (by simp)
    have e2 := h2 y (by simp)
    exact h1.1 y (by simp) ⟨e1.1.trans e2.1.symm, e1.2.trans e2.2.symm⟩
theorem Lb {α : Type} {p : α → Bool} (l : List α) (k : Nat) : ((l.take k).filter p).length ≤ (l.filter p).length :=
  ((List.take_sublist k l).filter p).length_le
theorem PA (M : Mix t old now L round [] R1) (hd : Gq old L round [] = some R1) (hL : L.length ≤ 64) (hp : L.Pairwise JD) (hr1 : old.length ≤ 12) (hw1 : ∀ row ∈ old, row.length ≤ 1000000000) {h : Int} (hh : 0 ≤ h ∧ h < (t.2.2.length : Int)) :
    ∃ U : Rt, Gv t old L round h = some U ∧ (U.length : Int) = t.1 ∧ ∀ s : Nat, (s : Int) < t.1 → ∃ row, U[s]? = some row ∧ row.length ≤ 2 ∧ ∀ p ∈ row, p = E1 R1 s h ∨ (p = E1 now s h ∧ ∃ m ∈ L, m.1 = s ∧ m.2.1 = h ∧ m.2.2.2 = round) := by
  have h8 := M.ho.1.1.1
  obtain ⟨n, hn⟩ : ∃ n : Nat, (n : Int) = t.1 := ⟨t.1.toNat, by omega⟩
  have hn8 : n ≤ 8 := by omega
  have hR1 : R1.length = n := by have := M.sh.1; omega
  have g0 : ∀ (j s : Nat), ((L.take j).filter (cm round h s)).length ≤ 1 := fun j s => Nat.le_trans (Lb L j) (Rz hp round h s)
  let g : Nat → Nat → List Int := fun j s => E1 R1 s h :: ((L.take j).filter (cm round h s)).map (·.2.2.1)
  have hgl : ∀ j s, (g j s).length ≤ 2 := fun j s => by
    show (_ :: _).length ≤ 2
    rw [List.length_cons, List.length_map]; have := g0 j s; omega
  unfold Gv
  rw [MR hr1 hw1, decide_eq_true M.ho.1, Option.bind_some, if_neg (by decide), if_neg (by omega), decide_eq_false (by omega), Option.bind_some, if_neg (by decide), Rq (by omega), Option.bind_some, hd, Option.bind_some]
  -- the ports below
  have e1 : AG (Ek h R1) (List.replicate t.1.toNat ((2, []) : Nat × List Int), 0) = some ((List.range n).map fun s => Hp (g 0 s)) := by
    obtain ⟨x, h1, h2⟩ := FO n (fun (x : List (Nat × List Int)) (k : Nat) => (x, (k : Int))) (Ek h R1) id (fun x k => x = ((List.range k).map fun s => Hp (g 0 s)) ++ List.replicate (n - k) (2, [])) (fun x k hk hx => by
      have hlen : ((List.range k).map fun s => Hp (g 0 s)).length = k := by simp
      have hrep : List.replicate (n - k) ((2, []) : Nat × List Int) = (2, []) :: List.replicate (n - (k + 1)) (2, []) := by
        rw [show n - k = (n - (k + 1)) + 1 by omega]; rfl
      have hgx : x[k]? = some ((2, []) : Nat × List Int) := by rw [hx, List.getElem?_append_right (by omega), hlen, Nat.sub_self, hrep]; rfl
      obtain ⟨row, a1, _, a2, _⟩ := M.ok.port (sw := (k : Int)) (by omega) hh
      refine ⟨_, ?_, rfl⟩
      rw [Ek, if_pos (by omega), a1, Option.bind_some, Cb hgx, Option.bind_some, a2, Option.bind_some]
      show ((LL 2).bind fun _ => _) = _
      rw [N9, Option.bind_some]
      show ((Ld [] [E1 R1 k h]).bind fun _ => _) = _
      rw [HF (by simp), Option.bind_some, Kj (Cb hgx), Option.bind_some, Option.bind_some, Id, AE (by omega)]
      have e2 : Ap x (k : Int) (2, [] ++ [E1 R1 k h]) = ((List.range (k + 1)).map fun s => Hp (g 0 s)) ++ List.replicate (n - (k + 1)) (2, []) := by
        rw [hx, hrep]
        unfold Ap
        rw [Int.toNat_natCast, List.set_append_right _ _ (by omega), hlen, Nat.sub_self, List.set_cons_zero, List.range_succ, List.map_append, List.append_assoc]
        rfl
      rw [e2]; rfl) (fun x hx => by
      rw [Ek, if_neg (by omega)]; rfl) (List.replicate n (2, [])) (by simp)
    have h3 : AG (Ek h R1) (List.replicate n ((2, []) : Nat × List Int), 0) = some (id x) := h2
    rw [show t.1.toNat = n by omega, h3, h1, Nat.sub_self]
    simp
  rw [e1]
  simp only [Option.bind_some]
  -- the ports of the round
  have e2 : AG (Ep t L round h) ((List.range n).map fun s => Hp (g 0 s), 0) = some ((List.range n).map fun s => Hp (g L.length s)) := by
    obtain ⟨x, h1, h2⟩ := FO L.length (fun (x : List (Nat × List Int)) (k : Nat) => (x, (k : Int))) (Ep t L round h) id (fun x k => x = (List.range n).map fun s => Hp (g k s)) (fun x k hk hx => by
      have hg : L[k]? = some L[k] := List.getElem?_eq_getElem hk
      obtain ⟨m, hm⟩ : ∃ m, m = L[k] := ⟨_, rfl⟩
      rw [← hm] at hg
      have hmv := (M.hm m).1 (by rw [hm]; exact List.getElem_mem hk)
      have hgs : ∀ s : Nat, g (k + 1) s = if cm round h s m = true then g k s ++ [m.2.2.1] else g k s := fun s => by
        show (_ :: _) = if _ then (_ :: _) ++ _ else (_ :: _)
        rw [List.take_succ_eq_append_getElem hk, List.filter_append, List.map_append, ← hm, List.filter_cons]
        by_cases c : cm round h s m = true
        · rw [if_pos c, if_pos c]; rfl
        · rw [if_neg c, if_neg c]; simp
      refine ⟨_, ?_, rfl⟩
      rw [Ep, if_pos (by omega), Cb hg, Option.bind_some]
      by_cases c : m.2.2.2 = round ∧ m.2.1 = h
      · rw [if_pos (by simp [c.1, c.2, hmv.1.1, hmv.1.2])]
        obtain ⟨s, hs⟩ : ∃ s : Nat, m.1 = (s : Int) := ⟨m.1.toNat, by have := hmv.1; omega⟩
        have hsn : s < n := by have := hmv.1; omega
        have hgx : x[s]? = some (Hp (g k s)) := by rw [hx, List.getElem?_map, List.getElem?_range hsn]; rfl
        have hcs : cm round h s m = true := by simp [cm, c.1, c.2, hs]
        rw [hs, Cb hgx, Option.bind_some]
        show (((LL 2).bind fun _ => _).bind fun _ => _) = _
        rw [N9, Option.bind_some]
        show (((Ld (g k s) [m.2.2.1]).bind fun _ => _).bind fun _ => _) = _
        rw [HF (by have := hgl k s; simp; omega), Option.bind_some, Kj (Cb hgx), Option.bind_some, Option.bind_some, Id, Option.bind_some, AE (by omega)]
        have e3 : Ap x (s : Int) (2, g k s ++ [m.2.2.1]) = (List.range n).map fun s => Hp (g (k + 1) s) := by
          unfold Ap
          rw [Int.toNat_natCast, hx]
          refine List.ext_getElem? fun i => ?_
          by_cases hi : s = i
          · subst hi
            rw [List.getElem?_set_self (by simpa using hsn), List.getElem?_map, List.getElem?_range hsn, Option.map_some, hgs s, if_pos hcs]
          · rw [List.getElem?_set_ne hi, List.getElem?_map, List.getElem?_map]
            by_cases hin : i < n
            · rw [List.getElem?_range hin, Option.map_some, Option.map_some, hgs i, if_neg (by simp [cm, hs]; omega)]
            · rw [List.getElem?_eq_none (by simpa using hin)]; rfl
        rw [e3]; rfl
      · rw [if_neg (by simp only [Bool.and_eq_true, decide_eq_true_eq]; intro hq; exact c ⟨hq.1, hq.2.1⟩), Option.bind_some, AE (by omega)]
        have e3 : x = (List.range n).map fun s => Hp (g (k + 1) s) := by
          rw [hx]
          refine List.map_congr_left fun s _ => ?_
          rw [hgs s, if_neg (by simp only [cm, Bool.and_eq_true, decide_eq_true_eq]; intro hq; exact c ⟨hq.1, hq.2.1⟩)]
        rw [← e3]; rfl) (fun x hx => by
      rw [Ep, if_neg (by omega)]; rfl) ((List.range n).map fun s => Hp (g 0 s)) rfl
    have h3 : AG (Ep t L round h) ((List.range n).map fun s => Hp (g 0 s), 0) = some (id x) := h2
    rw [h3, h1]; rfl
  rw [e2, Option.bind_some]
  -- in order
  obtain ⟨x, ⟨A, hA1, hA2, hA3⟩, h2⟩ := FO n (fun (x : List (Nat × List Int)) (k : Nat) => (x, (k : Int))) (EY ((List.range n).map fun s => Hp (g L.length s))) id
    (fun x k => ∃ A : List (List Int), A.length = k ∧ x = A.map Hp ++ ((List.range n).map fun s => Hp (g L.length s)).drop k ∧ ∀ (s : Nat) (row : List Int), A[s]? = some row → row.Pairwise (· < ·) ∧ ∀ p, p ∈ row ↔ p ∈ g L.length s) (fun x k hk => by
      rintro ⟨A, hA1, hA2, hA3⟩
      have hlen : (A.map Hp).length = k := by simpa using hA1
      have hkl : k < ((List.range n).map fun s => Hp (g L.length s)).length := by simpa using hk
      have hgk : ((List.range n).map fun s => Hp (g L.length s))[k] = Hp (g L.length k) := by simp
      have hgx : x[k]? = some (Hp (g L.length k)) := by
        rw [hA2, List.getElem?_append_right (by omega), hlen, Nat.sub_self, List.getElem?_drop, Nat.add_zero, List.getElem?_eq_getElem hkl, hgk]
      obtain ⟨row, a1, a2, a3⟩ := RZ (L := g L.length k) (by have := hgl L.length k; omega)
      refine ⟨(A ++ [row]).map Hp ++ ((List.range n).map fun s => Hp (g L.length s)).drop (k + 1), ?_, A ++ [row], by simp [hA1], rfl, fun s q hq => ?_⟩
      · rw [EY, if_pos (by simp; omega), Cb hgx, Option.bind_some]
        show ((Dk (g L.length k)).bind fun _ => _) = _
        rw [a1, Option.bind_some]
        show ((LL 2).bind fun _ => _) = _
        rw [N9, Option.bind_some, Kj (Cb hgx), Option.bind_some, Option.bind_some, Id, AE (by omega)]
        have e3 : Ap x (k : Int) (2, row) = (A ++ [row]).map Hp ++ ((List.range n).map fun s => Hp (g L.length s)).drop (k + 1) := by
          rw [hA2]
          unfold Ap
          rw [Int.toNat_natCast, List.set_append_right _ _ (by omega), hlen, Nat.sub_self, List.drop_eq_getElem_cons hkl, List.set_cons_zero, List.map_append, List.append_assoc]
          rfl
        rw [e3]; rfl
      · by_cases hs : s < A.length
        · rw [List.getElem?_append_left hs] at hq; exact hA3 s q hq
        · have hs2 := (List.getElem?_eq_some_iff.1 hq).1
          rw [List.length_append, List.length_singleton] at hs2
          obtain rfl : s = A.length := by omega
          rw [List.getElem?_append_right (Nat.le_refl _), Nat.sub_self] at hq
          obtain rfl : row = q := by simpa using hq
          rw [hA1]; exact ⟨a2, a3⟩) (fun x hx => by rw [EY, if_neg (by simp)]; rfl) ((List.range n).map fun s => Hp (g L.length s)) ⟨[], rfl, by simp, fun s row hq => by simp at hq⟩
  have h3 : AG (EY ((List.range n).map fun s => Hp (g L.length s))) ((List.range n).map fun s => Hp (g L.length s), 0) = some (id x) := h2
  rw [h3]
  simp only [id, Option.bind_some]
  have hx : x = A.map Hp := by rw [hA2, List.drop_eq_nil_of_le (by simp), List.append_nil]
  rw [hx, Kx, Option.bind_some]
  refine ⟨A, rfl, by omega, fun s hs => ?_⟩
  have hsl : s < A.length := by omega
  obtain ⟨b1, b2⟩ := hA3 s _ (List.getElem?_eq_getElem hsl)
  have hmem : ∀ p ∈ A[s], p = E1 R1 s h ∨ (p = E1 now s h ∧ ∃ m ∈ L, m.1 = s ∧ m.2.1 = h ∧ m.2.2.2 = round) := fun p hpm => by
    rcases List.mem_cons.1 ((b2 p).1 hpm) with e | e
    · exact .inl e
    · obtain ⟨m, hm, rfl⟩ := List.mem_map.1 e
      rw [List.take_length] at hm
      obtain ⟨m1, m2⟩ := List.mem_filter.1 hm
      simp only [cm, Bool.and_eq_true, decide_eq_true_eq] at m2
      obtain ⟨_, _, q, _⟩ := (M.hm m).1 m1
      exact .inr ⟨by rw [q, m2.2.1, m2.2.2], m, m1, m2.2.2, m2.2.1, m2.1⟩
  refine ⟨A[s], List.getElem?_eq_getElem hsl, QR b1 (a := E1 R1 s h) (b := E1 now s h) (fun p hp => (hmem p hp).imp id fun h => h.1), hmem⟩
end
theorem Pv {n : Nat} {l : Es} (ok : Ok (n : Int) l) {F : Nat → Nat} (hF : ∀ a b, J l a b → F b < F a) {B : Nat} (hB : ∀ a, a < n → F a ≤ B) : ∃ o, Qu n l n [] = some o := by
  cases h : Qu n l n [] with
  | some o => exact ⟨o, rfl⟩
  | none =>
    exfalso
    obtain ⟨out, h1, g, h2⟩ := Mx n [] h (by simp) (fun j x hx => by simp at hx)
    obtain ⟨q, hq1, hq2⟩ : ∃ q, q < n ∧ (q : Int) ∉ out := by
      refine Classical.byContradiction fun hno => ?_
      have := Nk n out (fun i hi => Classical.byContradiction fun hi2 => hno ⟨i, hi, hi2⟩)
      omega
    have key : ∀ (d q : Nat), F q + d = B → q < n → (q : Int) ∉ out → False := by
      intro d
      induction d using Nat.strongRecOn with
      | _ d ih =>
        intro q hd hq hqo
        have h3 := h2 q hq
        obtain ⟨k, hk, hj, hko⟩ : ∃ k, k < n ∧ J l k q ∧ (k : Int) ∉ out := by
          refine Classical.byContradiction fun hno => h3 ⟨hqo, fun k hk hj => Classical.byContradiction fun hk2 => hno ⟨k, hk, hj, hk2⟩⟩
        have := hF k q hj
        have := hB k hk
        exact ih (B - F k) (by omega) k (by omega) hk hko
    exact key (B - F q) q (by have := hB q hq1; omega) hq1 hq2
theorem QC {t : Tp} (hok : NU t) {a p : Int} (h : (pe t a p).2.2.2 = true) : (a, p) ∉ t.2.2 := by
  obtain ⟨R, e, hR⟩ := Kw hok.1.2.2.1 a p
  have he : pe t a p = R := by unfold pe; rw [e]; rfl
  rw [he] at h
  rcases hR with ⟨h1, _⟩ | ⟨i, x, hi, hs⟩
  · rw [h1] at h; cases h
  · obtain ⟨m1, m2⟩ := NK hs
    have hx := List.mem_of_getElem? hi
    have hp : ∀ q ∈ Gf x, q ∈ pl t := fun q hq => by
      unfold pl; exact List.mem_append_left _ (List.mem_flatMap.2 ⟨x, hx, hq⟩)
    exact Rb hx m1 (OR hok (hp _ m1)).2.2.2.2
theorem Kh {t : Tp} {r : Rt} (hr : F4 t r) {s h : Int} (hs : 0 ≤ s ∧ s < t.1) (hh : 0 ≤ h ∧ h < (t.2.2.length : Int)) {l : List Int} (hw : Wy t r h (s :: l)) : ((pe t s (E1 r s h)).2.2.2 = false ∧ t.2.2[h.toNat]? = some (s, E1 r s h)) ∨ ((pe t s (E1 r s h)).2.2.2 = true ∧ ∃ l', l = (pe t s (E1 r s h)).1 :: l' ∧ Wy t r h l ∧ 0 ≤ (pe t s (E1 r s h)).1 ∧ (pe t s (E1 r s h)).1 < t.1) := by
  cases hw with
  | last hm =>
    left
    refine ⟨?_, hm⟩
    cases hp : (pe t s (E1 r s h)).2.2.2 with
    | false => rfl
    | true => exact absurd (List.mem_of_getElem? hm) (QC hr.1.1 hp)
  | go h1 h2 h3 =>
    right
    have hv := (LZ hr.1.1 h2).2
    unfold nx at h2
    by_cases c : (pe t s (E1 r s h)).2.2.2 = true
    · rw [if_pos c] at h2
      cases h2
      exact ⟨c, _, rfl, h3, hv⟩
    · rw [if_neg c] at h2; cases h2
open Classical in
noncomputable def Iv (t : Tp) (r : Rt) (h : Int) (s : Nat) : Nat := if e : ∃ l, Wy t r h ((s : Int) :: l) then e.choose.length else 0
theorem Na {t : Tp} {r : Rt} {h : Int} {s : Nat} {l : List Int} (hw : Wy t r h ((s : Int) :: l)) : Iv t r h s = l.length := by
  have e : ∃ l, Wy t r h ((s : Int) :: l) := ⟨l, hw⟩
  unfold Iv
  rw [dif_pos e]
  have := e.choose_spec.det hw rfl
  rw [(List.cons.inj this).2]
theorem Li (p0 : Tp) {A : Prop} (_ : A) (p1 : Rt) (ok1 : Po (Po (fun n => (Lit.int .i64 n).wf = true)) p1) (p2 : Rt) (ok2 : Po (Po (fun n => (Lit.int .i64 n).wf = true)) p2) (p3 : Int) {B : Prop} (_ : B) (p4 : Int) {C : Prop} (_ : C) : GR p0 p1 p2 p3 p4 = some true := by
  have hl1 : p1.length ≤ 9223372036854775807 := ok1.1
  have hl2 : p2.length ≤ 9223372036854775807 := ok2.1
  unfold GR
  rw [ON p0 p1 hl1, ON p0 p2 hl2, QD, Option.bind_some]
  by_cases c1 : (∀ row ∈ p1, row.length ≤ 12) ∧ p0.2.1.length ≤ 30 ∧ p0.2.2.length ≤ 12 ∧ p1.length ≤ 12
  · rw [decide_eq_true c1, if_neg (by decide), Option.bind_some]
    by_cases c2 : (∀ row ∈ p2, row.length ≤ 12) ∧ p0.2.1.length ≤ 30 ∧ p0.2.2.length ≤ 12 ∧ p2.length ≤ 12
    · rw [decide_eq_true c2, if_neg (by decide)]
      have hr1 := c1.2.2.2
      have hr2 := c2.2.2.2
      have hw1 : ∀ row ∈ p1, row.length ≤ 1000000000 := fun row hm => by have := c1.1 row hm; omega
      have hw2 : ∀ row ∈ p2, row.length ≤ 1000000000 := fun row hm => by have := c2.1 row hm; omega
      rw [OA hr1 hw1, Option.bind_some]
      by_cases g1 : F4 p0 p1
      · rw [decide_eq_true g1, if_neg (by decide), OA hr2 hw2, Option.bind_some]
        by_cases g2 : F4 p0 p2
        · rw [decide_eq_true g2, if_neg (by decide)]
          have h8 := g1.1.1.1
          by_cases c4 : 0 ≤ p4 ∧ p4 < (p0.2.2.length : Int)
          · rw [if_neg (by omega), decide_eq_false (by omega), Option.bind_some, if_neg (by decide)]
            obtain ⟨L, e, hlen, hs, hne, hm⟩ := QA hr1 hw1 hr2 hw2 g1 g2
            rw [e, Option.bind_some]
            obtain ⟨R1, d1, M⟩ := Qm g1 g2 (L := L) (by omega) hm p3 [] (by simp)
            obtain ⟨U, e1, hU, hrow⟩ := PA M d1 hlen hne hr1 hw1 c4
            show ((Gv p0 p1 L p3 p4).bind fun x8 => _) = _
            rw [e1, Option.bind_some, if_neg (by omega)]
            obtain ⟨n, hn⟩ : ∃ n : Nat, (n : Int) = p0.1 := ⟨p0.1.toNat, by omega⟩
            have hUn : U.length = n := by omega
            have hgr := M.good
            -- ranks
            let F : Nat → Nat := fun s => if (Iv p0 p2 p4 s : Int) < p3 then Iv p0 p2 p4 s else 100 + Iv p0 p1 p4 s
            have hwl : ∀ {r : Rt}, F4 p0 r → ∀ s : Nat, (s : Int) < p0.1 → ∃ l, Wy p0 r p4 ((s : Int) :: l) ∧ Iv p0 r p4 s = l.length ∧ (l.length : Int) < p0.1 := fun hr s hs => by
              obtain ⟨l, hl⟩ := hr.2 s p4 (by omega) c4
              exact ⟨l, hl, Na hl, Ql hr (by omega) hl⟩
            -- what a port of the list is
            have hport : ∀ (s : Nat) (hs : (s : Int) < p0.1) (row : List Int), U[s]? = some row → ∀ p ∈ row, ((pe p0 s p).2.2.2 = false ∧ p0.2.2[p4.toNat]? = some ((s : Int), p)) ∨ ((pe p0 s p).2.2.2 = true ∧ ∃ v : Nat, (pe p0 s p).1 = (v : Int) ∧ (v : Int) < p0.1 ∧ F v < F s) := fun s hs row hrw p hp => by
              obtain ⟨row', e2, e3, e4⟩ := hrow s hs
              rw [hrw] at e2; cases e2
              obtain ⟨ln, hln, hln2, hln3⟩ := hwl g2 s hs
              obtain ⟨lo, hlo, hlo2, hlo3⟩ := hwl g1 s hs
              have hs0 : 0 ≤ (s : Int) ∧ (s : Int) < p0.1 := by omega
              have hFs : F s = if (Iv p0 p2 p4 s : Int) < p3 then Iv p0 p2 p4 s else 100 + Iv p0 p1 p4 s := rfl
              -- by the new port to what is nearer
              have hnew : p = E1 p2 s p4 → (ln.length : Int) ≤ p3 → ((pe p0 s p).2.2.2 = false ∧ p0.2.2[p4.toNat]? = some ((s : Int), p)) ∨ ((pe p0 s p).2.2.2 = true ∧ ∃ v : Nat, (pe p0 s p).1 = (v : Int) ∧ (v : Int) < p0.1 ∧ F v < F s) := fun hpe hle => by
                subst hpe
                rcases Kh g2 hs0 c4 hln with h | ⟨h, l', k1, k2, k3, k4⟩
                · exact .inl h
                · right
                  obtain ⟨v, hv⟩ : ∃ v : Nat, (pe p0 s (E1 p2 s p4)).1 = (v : Int) := ⟨(pe p0 s (E1 p2 s p4)).1.toNat, by omega⟩
                  rw [hv] at k1 k4
                  subst k1
                  have hwv : Iv p0 p2 p4 v = l'.length := Na k2
                  rw [List.length_cons] at hln2 hle hln3
                  refine ⟨h, v, hv, k4, ?_⟩
                  have hFv : F v = if (Iv p0 p2 p4 v : Int) < p3 then Iv p0 p2 p4 v else 100 + Iv p0 p1 p4 v := rfl
                  rw [hFs, hFv, if_pos (by omega), hwv]
                  split <;> omega
              rcases e4 p hp with rfl | ⟨hpn, m, m1, m2, m3, m4⟩
              · by_cases hlt : (ln.length : Int) < p3
                · exact hnew (M.below hs0 c4 hln hlt) (by omega)
                · have hold : E1 R1 s p4 = E1 p1 s p4 := M.no s p4 hs0 c4 (by
                    rintro ⟨m, hm', k1, k2, k3 | k3⟩
                    · obtain ⟨_, _, _, _, l, k4, k5⟩ := (hm m).1 hm'
                      rw [k1, k2] at k4
                      have := k4.det hln rfl
                      rw [(List.cons.inj this).2] at k5
                      omega
                    · cases k3.2)
                  rw [hold]
                  rcases Kh g1 hs0 c4 hlo with h | ⟨h, l', k1, k2, k3, k4⟩
                  · exact .inl h
                  · right
                    obtain ⟨v, hv⟩ : ∃ v : Nat, (pe p0 s (E1 p1 s p4)).1 = (v : Int) := ⟨(pe p0 s (E1 p1 s p4)).1.toNat, by omega⟩
                    rw [hv] at k1 k4
                    subst k1
                    have hwv : Iv p0 p1 p4 v = l'.length := Na k2
                    rw [List.length_cons] at hlo2 hlo3
                    refine ⟨h, v, hv, k4, ?_⟩
                    obtain ⟨lv, _, hlv, hlv3⟩ := hwl g2 v k4
                    have hFv : F v = if (Iv p0 p2 p4 v : Int) < p3 then Iv p0 p2 p4 v else 100 + Iv p0 p1 p4 v := rfl
                    rw [hFs, hFv, if_neg (by omega : ¬ (Iv p0 p2 p4 s : Int) < p3), hwv]
                    split <;> omega
              · refine hnew hpn ?_
                obtain ⟨_, _, _, _, l, k4, k5⟩ := (hm m).1 m1
                rw [m2, m3] at k4
                have := k4.det hln rfl
                rw [(List.cons.inj this).2] at k5
                omega
            -- the edges
            let Ok2 : Es → Prop := fun E => ∀ e ∈ E, ∃ a b : Nat, e = ((a : Int), (b : Int)) ∧ (a : Int) < p0.1 ∧ (b : Int) < p0.1 ∧ F b < F a
            obtain ⟨hst, hq0⟩ : ∃ q, p0.2.2[p4.toNat]? = some q := ⟨_, List.getElem?_eq_getElem (by omega)⟩
            have hq : ix p0.2.2 p4 = some hst := by unfold ix; rw [if_pos c4.1]; exact hq0
            have inner : ∀ (s : Nat) (hs : (s : Int) < p0.1) (row : List Int), U[s]? = some row → row.length ≤ 2 → ∀ (d k : Nat) (E : Es), k + d = row.length → Ok2 E → E.length ≤ 2 * s + k → ∃ E' : Es, AG (CP p0 p4 U s) (E, (k : Int)) = some (.inl E') ∧ Ok2 E' ∧ E'.length ≤ 2 * s + row.length := by
              intro s hs row hrw hr2 d
              induction d with
              | zero =>
                intro k E hk hE hEl
                exact ⟨E, AN (by rw [CP, Cb hrw, Option.bind_some, if_neg (by omega)]), hE, by omega⟩
              | succ d ih =>
                intro k E hk hE hEl
                have hkl : k < row.length := by omega
                have hg : ix row (k : Int) = some row[k] := Cb (List.getElem?_eq_getElem hkl)
                have hp := hport s hs row hrw row[k] (List.getElem_mem hkl)
                have h2l : decide (2 < (row.length : Int)) = false := decide_eq_false (by omega)
                rcases hp with ⟨hf, hh⟩ | ⟨ht, v, hv, hvn, hFv⟩
                · have hst2 : hst = ((s : Int), row[k]) := by rw [hq0] at hh; exact Option.some.inj hh
                  have hstep : CP p0 p4 U s (E, (k : Int)) = some (.inl (E, ((k + 1 : Nat) : Int))) := by
                    rw [CP, Cb hrw, Option.bind_some, if_pos (by omega), Option.bind_some, hg, Option.bind_some, M8, OV g1.1.1, Option.bind_some, hf, hq, hst2]
                    simp only [Option.bind_some, Bool.not_false, if_true, ne_eq, not_true, if_false, h2l, Bool.false_eq_true, hg]
                    unfold FB
                    rw [Option.bind_some, AE (by omega)]; rfl
                  rw [BL hstep]
                  exact ih (k + 1) E (by omega) hE (by omega)
                · have hstep : CP p0 p4 U s (E, (k : Int)) = some (.inl (E ++ [((s : Int), (v : Int))], ((k + 1 : Nat) : Int))) := by
                    rw [CP, Cb hrw, Option.bind_some, if_pos (by omega), Option.bind_some, hg, Option.bind_some, M8, OV g1.1.1, Option.bind_some, ht, hv]
                    simp only [Option.bind_some, Bool.not_true, Bool.false_eq_true, if_false, if_true, h2l]
                    rw [HF (by simp; omega), Option.bind_some]
                    unfold FB
                    rw [Option.bind_some, AE (by omega)]; rfl
                  rw [BL hstep]
                  refine ih (k + 1) _ (by omega) (fun e he => ?_) (by simp; omega)
                  rcases List.mem_append.1 he with he | he
                  · exact hE e he
                  · rw [List.mem_singleton.1 he]; exact ⟨s, v, rfl, hs, hvn, hFv⟩
            have outer : ∀ (d s : Nat) (E : Es), s + d = n → Ok2 E → E.length ≤ 2 * s → ∃ E' : Es, AG (DB p0 p4 U) (E, (s : Int)) = some (.inl E') ∧ Ok2 E' ∧ E'.length ≤ 2 * n := by
              intro d
              induction d with
              | zero => intro s E hs hE hEl; exact ⟨E, AN (by rw [DB, if_neg (by omega)]), hE, by omega⟩
              | succ d ih =>
                intro s E hs hE hEl
                obtain ⟨row, r1, r2, _⟩ := hrow s (by omega)
                obtain ⟨E', f1, f2, f3⟩ := inner s (by omega) row r1 r2 row.length 0 E (by omega) hE (by omega)
                have hstep : DB p0 p4 U (E, (s : Int)) = some (.inl (E', ((s + 1 : Nat) : Int))) := by
                  rw [DB, if_pos (by omega)]
                  unfold FB
                  rw [show AG (CP p0 p4 U s) (E, 0) = some (.inl E') from f1, Option.bind_some, AE (by omega)]; rfl
                rw [BL hstep]
                exact ih (s + 1) E' (by omega) f2 (by omega)
            obtain ⟨E, f1, f2, f3⟩ := outer n 0 [] (by omega) (fun e he => by simp at he) (by simp)
            unfold FB
            rw [show AG (DB p0 p4 U) ([], 0) = some (.inl E) from f1, Option.bind_some]
            have hok : Ok (n : Int) E := ⟨by omega, by omega, fun e he => by
              obtain ⟨a, b, rfl, h1, h2, _⟩ := f2 e he
              refine ⟨?_, ?_, ?_, ?_⟩ <;> simp only <;> omega⟩
            obtain ⟨o, ho⟩ := Pv hok (F := F) (fun a b hj => by
              obtain ⟨a', b', e', _, _, h⟩ := f2 _ hj
              simp only [Prod.mk.injEq] at e'
              obtain rfl : a = a' := by omega
              obtain rfl : b = b' := by omega
              exact h) (B := 1000) (fun a ha => by
                obtain ⟨_, _, q1, q2⟩ := hwl g1 a (by omega)
                obtain ⟨_, _, q3, q4⟩ := hwl g2 a (by omega)
                have hFa : F a = if (Iv p0 p2 p4 a : Int) < p3 then Iv p0 p2 p4 a else 100 + Iv p0 p1 p4 a := rfl
                rw [hFa]
                split <;> omega)
            show (Gw p0.1 E).bind _ = _
            rw [← hn, O0 hok (by omega)]
            unfold Of
            rw [ho]
            rfl
          · have hc : (if p4 < 0 then some true else some (decide ((p0.2.2.length : Int) ≤ p4))) = some true := by
              by_cases d1 : p4 < 0
              · rw [if_pos d1]
              · rw [if_neg d1, decide_eq_true (by omega)]
            rw [hc, Option.bind_some, if_pos rfl]; rfl
        · rw [decide_eq_false g2, if_pos (by decide), Option.bind_some, if_pos rfl]; rfl
      · rw [decide_eq_false g1, if_pos (by decide), Option.bind_some, if_pos rfl]; rfl
    · rw [decide_eq_false c2, if_pos (by decide), Option.bind_some, if_pos rfl]; rfl
  · rw [decide_eq_false c1, if_pos (by decide), Option.bind_some, if_pos rfl]; rfl
end Go.Proofs.Ythiejmoddfenlaa
