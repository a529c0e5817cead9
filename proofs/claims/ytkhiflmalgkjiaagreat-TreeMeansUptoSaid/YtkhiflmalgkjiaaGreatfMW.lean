/- Layer 31: the sort. Conditions: none. -/
import Derived.Test.YtkhiflmalgkjiaaGreatfMR
import Derived.Test.YtkhiflmalgkjiaaGreatfNSH
set_option linter.unusedVariables false
set_option linter.unusedSimpArgs false
open Go Go.RowKit
namespace Go.Proofs.YtkhiflmalgkjiaaGreat
open Go.Sort in
theorem RL {n : Nat} (k : Nat) (h : 0 < n / 2 ^ k) : bitsLen n = bitsLen (n / 2 ^ k) + k := by
  have hk : k ≤ bitsLen n := by
    refine Classical.byContradiction fun hn => ?_
    have h1 : n < 2 ^ k := (bitsLen_le_iff n k).1 (by omega)
    rw [Nat.div_eq_of_lt h1] at h; omega
  refine Nat.le_antisymm ((bitsLen_le_iff n _).2 ?_) ?_
  · have h1 := lt_two_pow_bitsLen (n / 2 ^ k)
    rw [Nat.pow_add]
    exact (Nat.div_lt_iff_lt_mul (Nat.two_pow_pos k)).1 h1
  · have h1 : bitsLen (n / 2 ^ k) ≤ bitsLen n - k := by
      refine (bitsLen_le_iff _ _).2 ?_
      rw [Nat.div_lt_iff_lt_mul (Nat.two_pow_pos k), ← Nat.pow_add,Nat.sub_add_cancel hk]
      exact lt_two_pow_bitsLen n
    omega
def PW : List UInt8 := [0,1,2,2,3,3,3,3,4,4,4,4,4,4,4,4,5,5,5,5,5,5,5,5,5,5,5,5,5,5,5,5,6,6,6,6,6,6,6,6,6,6,6,6,6,6,6,6,6,6,6,6,6,6,6,6,6,6,6,6,6,6,6,6,7,7,7,7,7,7,7,7,7,7,7,7,7,7,7,7,7,7,7,7,7,7,7,7,7,7,7,7,7,7,7,7,7,7,7,7,7,7,7,7,7,7,7,7,7,7,7,7,7,7,7,7,7,7,7,7,7,7,7,7,7,7,7,7,8,8,8,8,8,8,8,8,8,8,8,8,8,8,8,8,8,8,8,8,8,8,8,8,8,8,8,8,8,8,8,8,8,8,8,8,8,8,8,8,8,8,8,8,8,8,8,8,8,8,8,8,8,8,8,8,8,8,8,8,8,8,8,8,8,8,8,8,8,8,8,8,8,8,8,8,8,8,8,8,8,8,8,8,8,8,8,8,8,8,8,8,8,8,8,8,8,8,8,8,8,8,8,8,8,8,8,8,8,8,8,8,8,8,8,8,8,8,8,8,8,8,8,8,8,8,8,8]
set_option maxRecDepth 100000 in
open Go.Sort in
theorem jJ {n : Nat} (h : n < 256) : ∃ c : UInt8,ix PW (n : Int) = some c ∧ c.toNat = bitsLen n := by
  have key : ∀ n : Fin 256,(PW.getD n.val 0).toNat = bitsLen n.val := by decide +kernel
  have hlen : PW.length = 256 := by decide +kernel
  have := key ⟨n,h⟩
  refine ⟨PW[n]'(by omega),A9 (zb _), ?_⟩
  rw [List.getD_eq_getElem?_getD,zb (by show n < PW.length; omega)] at this
  exact this
theorem oC : (2 : Nat) ^ 30 = 1073741824 := by decide
set_option maxRecDepth 100000 in
open Go.Sort in
theorem X9 {n : Nat} (h : n ≤ 1000000000) : GW (IntKind.u64.wrap (n : Int)) = some ((bitsLen n : Nat) : Int) := by
  rw [cU (by omega)]
  unfold GW I3
  rw [if_neg (by omega),za]
  simp only []
  have fin : ∀ (m : Nat) (s : Nat),m < 65536 → s ≤ 16 → (if (256 : Int) ≤ (m : Int) then some (Mm .u64 (m : Int) 8,w64 ((s : Int) + 8)) else some ((m : Int),(s : Int))) = some (((if 256 ≤ m then m / 256 else m : Nat) : Int),((if 256 ≤ m then s + 8 else s : Nat) : Int)) := fun m s hm hs => by
    by_cases c : 256 ≤ m
    · rw [if_pos (by omega),if_pos c,if_pos c,Ah (by omega),show Mm .u64 (m : Int) 8 = ((m / 256 : Nat) : Int) from cQ (x := m) 8 256 (by decide) (by decide)]; rfl
    · rw [if_neg (by omega),if_neg c,if_neg c]
  have hfirst : (if (65536 : Int) ≤ (n : Int) then some (Mm .u64 (n : Int) 16,w64 ((0 : Int) + 16)) else some ((n : Int),(0 : Int))) = some (((if 65536 ≤ n then n / 65536 else n : Nat) : Int),((if 65536 ≤ n then 16 else 0 : Nat) : Int)) := by
    by_cases c : 65536 ≤ n
    · rw [if_pos (by omega),if_pos c,if_pos c,Ah (by omega),show Mm .u64 (n : Int) 16 = ((n / 65536 : Nat) : Int) from cQ (x := n) 16 65536 (by decide) (by decide)]; rfl
    · rw [if_neg (by omega),if_neg c,if_neg c]; rfl
  have hbits : bitsLen n = bitsLen (if 65536 ≤ n then n / 65536 else n) + (if 65536 ≤ n then 16 else 0) := by
    by_cases c : 65536 ≤ n
    · rw [if_pos c,if_pos c]; exact RL (n := n) 16 (by show 0 < n / 65536; omega)
    · rw [if_neg c,if_neg c]; rfl
  rw [hfirst,za,hbits]
  simp only []
  have hm1 : (if 65536 ≤ n then n / 65536 else n) < 65536 := by split <;> omega
  have hs1 : (if 65536 ≤ n then 16 else 0) ≤ 16 := by split <;> omega
  generalize (if 65536 ≤ n then n / 65536 else n) = m at hm1 ⊢
  generalize (if 65536 ≤ n then 16 else 0) = s at hs1 ⊢
  rw [fin m s hm1 hs1,za]
  simp only []
  have hbits2 : bitsLen m + s = bitsLen (if 256 ≤ m then m / 256 else m) + (if 256 ≤ m then s + 8 else s) := by
    by_cases c : 256 ≤ m
    · rw [if_pos c,if_pos c,RL (n := m) 8 (by show 0 < m / 256; omega),show m / 2 ^ 8 = m / 256 from rfl]; omega
    · rw [if_neg c,if_neg c]
  rw [hbits2]
  have hm2 : (if 256 ≤ m then m / 256 else m) < 256 := by split <;> omega
  have hs2 : (if 256 ≤ m then s + 8 else s) ≤ 24 := by split <;> omega
  generalize (if 256 ≤ m then m / 256 else m) = k at hm2 ⊢
  generalize (if 256 ≤ m then s + 8 else s) = u at hs2 ⊢
  obtain ⟨c,h1,h2⟩ := jJ hm2
  have hk8 : IntKind.u8.wrap (k : Int) = (k : Int) := by rw [wu8]; omega
  have hb8 : bitsLen k ≤ 8 := (bitsLen_le_iff k 8).2 (by show k < 256; omega)
  rw [hk8]
  show ((ix PW (k : Int)).bind _).bind _ = _
  rw [h1,za,h2,Ah (x := ((bitsLen k : Nat) : Int)) (by omega),Ah (by omega),za]
  congr 1; omega
open Go.Sort in
theorem sS {n : Nat} (h : n ≤ 1000000000) : DS (n : Int) = some ((1 <<< bitsLen n : Nat) : Int) := by
  unfold DS
  rw [X9 h,za]
  have hb : bitsLen n ≤ 30 := (bitsLen_le_iff n 30).2 (by rw [oC]; omega)
  have h1 : JT .u64 1 ((bitsLen n : Nat) : Int) = ((1 * 2 ^ bitsLen n % 18446744073709551616 : Nat) : Int) := cB (x := 1) (bitsLen n) (2 ^ bitsLen n) (by omega) rfl
  have h2 : 2 ^ bitsLen n ≤ 2 ^ 30 := Nat.pow_le_pow_right (by decide) hb
  have h3 : (2 : Nat) ^ 30 = 1073741824 := by decide
  rw [h1,sH (Int.natCast_nonneg _),za,Nat.one_shiftLeft,Nat.one_mul,Nat.mod_eq_of_lt (by omega)]
section
open Go.Sort
theorem cJ {g g' : List (Int × Int × Int × Int × Int) → Int → Int → Int → Option (List (Int × Int × Int × Int × Int))} (h : ∀ a b c d r,g a b c d = some r → g' a b c d = some r) : ∀ s r,Af g s = some r → Af g' s = some r := by
  rintro ⟨x1,x2,x3,x4,x5,x6⟩
  show Ol (Af g (x1,x2,x3,x4,x5,x6)) (Af g' (x1,x2,x3,x4,x5,x6))
  unfold Af
  repeat' (first | refine Ol.orR' ?_ ?_ | refine Ol.bind' ?_ ?_ | refine Ol.ite' ?_ ?_ | exact h _ _ _ _ | exact Ol.rfl' _ | (refine Ol.pi2 ?_; intro _) | intro _)
theorem Xw : ∀ (n : Nat) (a : List (Int × Int × Int × Int × Int)) (b c d : Int) (r : List (Int × Int × Int × Int × Int)),AA n a b c d = some r → AA (n + 1) a b c d = some r := by
  intro n
  induction n with
  | zero => intro a b c d r h; cases h
  | succ n ih =>
    intro a b c d r h
    exact Ol.loop (cJ ih) _ r h
theorem OQ {n m : Nat} (hnm : n ≤ m) (s) (r) (h : Aj (Af (AA n)) s = some r) : Aj (Af (AA m)) s = some r := by
  induction hnm with
  | refl => exact h
  | step _ ih => exact Ol.loop (cJ (Xw _)) s r ih
theorem VW {g : List (Int × Int × Int × Int × Int) → Int → Int → Int → Option (List (Int × Int × Int × Int × Int))} {d : Array (Int × Int × Int × Int × Int)} {a b l : Nat} {wb wp : Bool} {d1 d2 : Array (Int × Int × Int × Int × Int)} {lim pivot : Nat} {hint : Hint} {pi : Array (Int × Int × Int × Int × Int) × Bool}
    (h12 : ¬ b - a ≤ 12) (hl : ¬ l = 0) (hl2 : l ≤ 1000) (hb : b ≤ d.size) (hs : d.size ≤ 1000000000)
    (e1 : d1 = if (!wb) = true then breakPatterns d a b else d) (e2 : lim = if (!wb) = true then l - 1 else l)
    (e3 : d2 = if (choosePivot AB d1 a b).2 = .decreasing then reverseRange d1 a b else d1)
    (e4 : pivot = if (choosePivot AB d1 a b).2 = .decreasing then (b - 1) - ((choosePivot AB d1 a b).1 - a) else (choosePivot AB d1 a b).1)
    (e5 : hint = if (choosePivot AB d1 a b).2 = .decreasing then Hint.increasing else (choosePivot AB d1 a b).2)
    (e6 : pi = if (wb && wp && decide (hint = .increasing)) = true then partialInsertionSort AB d2 a b else (d2,false)) :
    Af g (d.toList,(a : Int),(b : Int),(l : Int),wb,wp) =
      if pi.2 = true then some (.inr pi.1.toList) else
      if (decide (a > 0) && !AB pi.1[a - 1]! pi.1[pivot]!) = true then some (.inl ((partitionEqual AB pi.1 a b pivot).2.toList,((partitionEqual AB pi.1 a b pivot).1 : Int),(b : Int),(lim : Int),wb,wp)) else
      if (partition AB pi.1 a b pivot).1 - a < b - (partition AB pi.1 a b pivot).1 ∧ a ≤ (partition AB pi.1 a b pivot).1 ∧ (partition AB pi.1 a b pivot).1 < b then
        (g (partition AB pi.1 a b pivot).2.2.toList (a : Int) ((partition AB pi.1 a b pivot).1 : Int) (lim : Int)).bind fun x => some (.inl (x,(((partition AB pi.1 a b pivot).1 + 1 : Nat) : Int),(b : Int),(lim : Int),decide ((partition AB pi.1 a b pivot).1 - a ≥ (b - a) / 8),(partition AB pi.1 a b pivot).2.1))
      else if a ≤ (partition AB pi.1 a b pivot).1 ∧ (partition AB pi.1 a b pivot).1 < b then
        (g (partition AB pi.1 a b pivot).2.2.toList (((partition AB pi.1 a b pivot).1 + 1 : Nat) : Int) (b : Int) (lim : Int)).bind fun x => some (.inl (x,(a : Int),((partition AB pi.1 a b pivot).1 : Int),(lim : Int),decide (b - (partition AB pi.1 a b pivot).1 ≥ (b - a) / 8),(partition AB pi.1 a b pivot).2.1))
      else Af g (d.toList,(a : Int),(b : Int),(l : Int),wb,wp) := by
  have q1 : w64 ((b : Int) - (a : Int)) = ((b - a : Nat) : Int) := by rw [Ah (by omega)]; omega
  have q8 : w64 (Int.tdiv ((b - a : Nat) : Int) 8) = (((b - a) / 8 : Nat) : Int) := by rw [Int.tdiv_eq_ediv_of_nonneg (by omega),Ah (by omega)]; omega
  have hbp := zZ d a b (by omega) hb hs (sS (by omega))
  have h1 : (if (!wb) = true then (A6 d.toList (a : Int) (b : Int)).bind fun x11 => some (x11,w64 ((l : Int) - 1)) else some (d.toList,(l : Int))) = some (d1.toList,(lim : Int)) := by
    by_cases c : (!wb) = true
    · rw [if_pos c,hbp.1,za,e1,e2,if_pos c,if_pos c,Ah (by omega)]
      congr 2; omega
    · rw [if_neg c,e1,e2,if_neg c,if_neg c]
  have z1 : d1.size = d.size := by
    rw [e1]
    split
    · exact hbp.2
    · rfl
  have hcp := Abm d1 a b (by omega) (by omega) (by omega)
  have hcr := choosePivot_holds AB d1 a b (by omega)
  have hrev := xB d1 a b (by omega) (by omega) (by omega)
  have hrz : (reverseRange d1 a b).size = d1.size := (reverseRange_holds d1 a b (by omega) (by omega)).1
  generalize choosePivot AB d1 a b = cp at hcp hcr e3 e4 e5
  have h2 : (if M5 cp.2 = 2 then (Ba d1.toList (a : Int) (b : Int)).bind fun x16 => some (x16,w64 ((w64 ((b : Int) - 1)) - (w64 ((cp.1 : Int) - (a : Int)))),(1 : Int)) else some (d1.toList,(cp.1 : Int),M5 cp.2)) = some (d2.toList,(pivot : Int),M5 hint) := by
    have hd : M5 cp.2 = 2 ↔ cp.2 = .decreasing := by cases cp.2 <;> decide
    by_cases c : cp.2 = .decreasing
    · rw [if_pos (hd.2 c),hrev,za,e3,e4,e5,if_pos c,if_pos c,if_pos c,Ah (x := (b : Int) - 1) (by omega),Ah (x := (cp.1 : Int) - (a : Int)) (by omega),Ah (by omega)]
      congr 3; omega
    · rw [if_neg (fun h => c (hd.1 h)),e3,e4,e5,if_neg c,if_neg c,if_neg c]
  have hpv : a ≤ pivot ∧ pivot < b := by rw [e4]; split <;> omega
  have z2 : d2.size = d.size := by
    rw [e3]
    split
    · omega
    · exact z1
  have hpis := uD d2 a b (by omega) (by omega) (by omega)
  have h3 : (if (wb && (wp && decide (M5 hint = 1))) = true then (AS d2.toList (a : Int) (b : Int)).bind fun x18 => (if x18.1 = true then some (.inr (.inr x18.2)) else some (.inl x18.2)) else some (.inl d2.toList)) = some (if pi.2 = true then .inr (.inr pi.1.toList) else (.inl pi.1.toList : List (Int × Int × Int × Int × Int) ⊕ ((List (Int × Int × Int × Int × Int) × Int × Int × Int × Bool × Bool) ⊕ List (Int × Int × Int × Int × Int)))) := by
    have hh : (wb && (wp && decide (M5 hint = 1))) = (wb && wp && decide (hint = .increasing)) := by
      rw [Bool.and_assoc]
      congr 2
      exact decide_eq_decide.2 (by cases hint <;> decide)
    rw [hh]
    by_cases c : (wb && wp && decide (hint = .increasing)) = true
    · rw [if_pos c,hpis.1,za,e6,if_pos c]
      split <;> rfl
    · rw [if_neg c,e6,if_neg c]; rfl
  have z3 : pi.1.size = d.size := by
    rw [e6]
    split
    · omega
    · exact z2
  have hstep : Af g (d.toList,(a : Int),(b : Int),(l : Int),wb,wp) = (if pi.2 = true then some (.inr pi.1.toList) else
      if (decide (a > 0) && !AB pi.1[a - 1]! pi.1[pivot]!) = true then some (.inl ((partitionEqual AB pi.1 a b pivot).2.toList,((partitionEqual AB pi.1 a b pivot).1 : Int),(b : Int),(lim : Int),wb,wp)) else
      if w64 (((partition AB pi.1 a b pivot).1 : Int) - (a : Int)) < w64 ((b : Int) - ((partition AB pi.1 a b pivot).1 : Int)) then
        (g (partition AB pi.1 a b pivot).2.2.toList (a : Int) ((partition AB pi.1 a b pivot).1 : Int) (lim : Int)).bind fun x => some (.inl (x,w64 (((partition AB pi.1 a b pivot).1 : Int) + 1),(b : Int),(lim : Int),decide ((((b - a) / 8 : Nat) : Int) ≤ w64 (((partition AB pi.1 a b pivot).1 : Int) - (a : Int))),(partition AB pi.1 a b pivot).2.1))
      else (g (partition AB pi.1 a b pivot).2.2.toList (w64 (((partition AB pi.1 a b pivot).1 : Int) + 1)) (b : Int) (lim : Int)).bind fun x => some (.inl (x,(a : Int),((partition AB pi.1 a b pivot).1 : Int),(lim : Int),decide ((((b - a) / 8 : Nat) : Int) ≤ w64 ((b : Int) - ((partition AB pi.1 a b pivot).1 : Int))),(partition AB pi.1 a b pivot).2.1))) := by
    rw [Af,q1,if_neg (by omega),if_neg (by omega),h1,za]
    simp only []
    rw [hcp,za]
    simp only []
    rw [h2,za]
    simp only []
    rw [h3]
    by_cases c : pi.2 = true
    · rw [if_pos c,if_pos c]; rfl
    · rw [if_neg c,if_neg c]
      show (Option.bind _ _) = _
      have hcond : (if (0 : Int) < (a : Int) then (ix pi.1.toList (w64 ((a : Int) - 1))).bind fun x20 => (ix pi.1.toList (pivot : Int)).bind fun x21 => some (!AB x20 x21) else some false) = some (decide (a > 0) && !AB pi.1[a - 1]! pi.1[pivot]!) := by
        by_cases c0 : 0 < a
        · rw [if_pos (by omega),dJ c0 (by omega),Hd (by omega),za,Hd (by omega),za,decide_eq_true c0,Bool.true_and]
        · rw [if_neg (by omega),decide_eq_false c0]; rfl
      simp only [HE,TW,Bool.decide_eq_true,hcond,za,q8]
      by_cases c2 : (decide (a > 0) && !AB pi.1[a - 1]! pi.1[pivot]!) = true
      · rw [if_pos c2,if_pos c2,wH pi.1 a b pivot hpv.1 hpv.2 (by omega) (by omega) (by omega),za]
        cases wb <;> cases wp <;> rfl
      · rw [if_neg c2,if_neg c2,q7 pi.1 a b pivot hpv.1 hpv.2 (by omega) (by omega) (by omega),za]
  rw [hstep]
  by_cases c : pi.2 = true
  · rw [if_pos c,if_pos c]
  rw [if_neg c,if_neg c]
  by_cases c2 : (decide (a > 0) && !AB pi.1[a - 1]! pi.1[pivot]!) = true
  · rw [if_pos c2,if_pos c2]
  rw [if_neg c2,if_neg c2]
  generalize hr : partition AB pi.1 a b pivot = r
  by_cases c3 : a ≤ r.1 ∧ r.1 < b
  · rw [Ah (x := (r.1 : Int) - (a : Int)) (by omega),Ah (x := (b : Int) - (r.1 : Int)) (by omega),fJ (by omega)]
    by_cases c4 : r.1 - a < b - r.1
    · rw [if_pos (by omega),if_pos ⟨c4,c3⟩]
      congr 1; funext x
      rw [show decide ((((b - a) / 8 : Nat) : Int) ≤ (r.1 : Int) - (a : Int)) = decide (r.1 - a ≥ (b - a) / 8) from decide_eq_decide.2 (by omega)]
    · rw [if_neg (by omega),if_neg (fun h => c4 h.1),if_pos c3]
      congr 1; funext x
      rw [show decide ((((b - a) / 8 : Nat) : Int) ≤ (b : Int) - (r.1 : Int)) = decide (b - r.1 ≥ (b - a) / 8) from decide_eq_decide.2 (by omega)]
  · rw [if_neg (show ¬ (r.1 - a < b - r.1 ∧ a ≤ r.1 ∧ r.1 < b) from fun h => c3 h.2),if_neg c3]
    first | done | (rw [if_neg c,if_neg c2,hr]; done) | (rw [if_neg c,if_neg c2]; done) | (rw [if_neg c]; done)
theorem t8 (hswo : SWO AB) (d : Array (Int × Int × Int × Int × Int)) (a b limit : Nat) (wb wp : Bool) : a ≤ b → b ≤ d.size → d.size ≤ 1000000000 → limit ≤ 1000 → Below AB a b d → ∃ n,Aj (Af (AA n)) (d.toList,(a : Int),(b : Int),(limit : Int),wb,wp) = some (pdq AB d a b limit wb wp).toList := by
  have hpi := @partialInsertionSort_holds _ _ AB
  have hpt := partition_holds AB
  have hpe := partitionEqual_holds AB
  have hps := pdq_sorts AB
  fun_induction pdq AB d a b limit wb wp
  case case1 d a b limit wb wp h12 =>
    intro hab hb hs hl _
    exact ⟨0,Ap (by rw [Af,Ah (by omega),if_pos (by omega),vW d a b hb hs hab,za])⟩
  case case2 d a b wb wp h12 =>
    intro hab hb hs hl _
    exact ⟨0,Ap (by rw [Af,Ah (by omega),if_neg (by omega),if_pos (by rfl),qX d a b hb hs (by omega),za])⟩
  case case3 d a b limit wb wp h12 hl d1 c d2 hint pi hpi2 =>
    intro hab hb hs hl2 hB
    refine ⟨0,Ap ?_⟩
    rw [VW (d1 := d1) (d2 := d2) (hint := hint) (pi := pi) (lim := if (!wb) = true then limit - 1 else limit) (pivot := if c.2 = .decreasing then (b - 1) - (c.1 - a) else c.1) h12 hl hl2 hb hs rfl rfl rfl rfl rfl rfl,if_pos hpi2]
  case case4 d a b limit0 wb wp h12 hl d1 limit c d2 pivot hint pi hpi2 d3 hc mid d4 hx hg ih1 =>
    intro hab hb hs hl2 hB
    have s1 : PermIn a b d d1 := step_break d hab hb _
    have b1 : b ≤ d1.size := by rw [s1.1]; exact hb
    have s2 : PermIn a b d1 d2 := step_reverse reverseRange_holds d1 hab b1 _
    have b2 : b ≤ d2.size := by rw [s2.1]; exact b1
    have B2 : Below AB a b d2 := (hB.perm hb s1).perm b1 s2
    have s3 := step_partial hpi hswo d2 (a := a) (b := b) (by omega) b2 B2 ((wb && wp && decide (hint = Hint.increasing)) = true)
    have s3' : PermIn a b d2 d3 := s3.1
    have b3 : b ≤ d3.size := by rw [s3'.1]; exact b2
    have B3 : Below AB a b d3 := B2.perm b2 s3'
    have hc0 := choosePivot_holds AB d1 a b (by omega)
    have hpv : a ≤ pivot ∧ pivot < b := pivot_range hc0.1 hc0.2 _
    have hcc := hc
    simp only [zg,decide_eq_true_eq,Bool.not_eq_true'] at hcc
    obtain ⟨_,hm2,hs4,hB4,hfin⟩ := round_eq hswo hpe hcc.1 hpv.1 hpv.2 b3 B3 hcc.2 hx
    have hz : d4.size = d.size := by rw [hs4,s3'.1,s2.1,s1.1]
    obtain ⟨n,hn⟩ := ih1 hm2 (by omega) (by omega) (by show (if (!wb) = true then limit0 - 1 else limit0) ≤ 1000; split <;> omega) hB4
    refine ⟨n, ?_⟩
    rw [Bi (s' := (d4.toList,(mid : Int),(b : Int),(limit : Int),wb,wp)) (by
      rw [VW (d1 := d1) (d2 := d2) (hint := hint) (pi := pi) (lim := limit) (pivot := pivot) h12 hl hl2 hb hs rfl rfl rfl rfl rfl rfl,if_neg hpi2,if_pos hc,hx])]
    exact hn
  case case5 d a b limit wb wp h12 hl d1 c d2 pivot hint pi hpi2 d3 hc mid d4 hx hg =>
    intro hab hb hs hl2 hB
    have s1 : PermIn a b d d1 := step_break d hab hb _
    have b1 : b ≤ d1.size := by rw [s1.1]; exact hb
    have s2 : PermIn a b d1 d2 := step_reverse reverseRange_holds d1 hab b1 _
    have b2 : b ≤ d2.size := by rw [s2.1]; exact b1
    have B2 : Below AB a b d2 := (hB.perm hb s1).perm b1 s2
    have s3 := step_partial hpi hswo d2 (a := a) (b := b) (by omega) b2 B2 ((wb && wp && decide (hint = Hint.increasing)) = true)
    have s3' : PermIn a b d2 d3 := s3.1
    have b3 : b ≤ d3.size := by rw [s3'.1]; exact b2
    have B3 : Below AB a b d3 := B2.perm b2 s3'
    have hc0 := choosePivot_holds AB d1 a b (by omega)
    have hpv : a ≤ pivot ∧ pivot < b := pivot_range hc0.1 hc0.2 _
    simp only [zg,decide_eq_true_eq,Bool.not_eq_true'] at hc
    obtain ⟨g1,g2,_⟩ := round_eq hswo hpe hc.1 hpv.1 hpv.2 b3 B3 hc.2 hx
    exact absurd ⟨g1,g2⟩ hg
  case case6 d a b limit0 wb wp h12 hl d1 limit c d2 pivot hint pi hpi2 d3 hc mid ap d4 hx hg hlt ih3 ih2 ih1 =>
    intro hab hb hs hl2 hB
    have s1 : PermIn a b d d1 := step_break d hab hb _
    have b1 : b ≤ d1.size := by rw [s1.1]; exact hb
    have s2 : PermIn a b d1 d2 := step_reverse reverseRange_holds d1 hab b1 _
    have b2 : b ≤ d2.size := by rw [s2.1]; exact b1
    have B2 : Below AB a b d2 := (hB.perm hb s1).perm b1 s2
    have s3 := step_partial hpi hswo d2 (a := a) (b := b) (by omega) b2 B2 ((wb && wp && decide (hint = Hint.increasing)) = true)
    have s3' : PermIn a b d2 d3 := s3.1
    have b3 : b ≤ d3.size := by rw [s3'.1]; exact b2
    have B3 : Below AB a b d3 := B2.perm b2 s3'
    have hc0 := choosePivot_holds AB d1 a b (by omega)
    have hpv : a ≤ pivot ∧ pivot < b := pivot_range hc0.1 hc0.2 _
    obtain ⟨g1,g2,hs4,hBa,hBr,hleft,_⟩ := round_part hswo hpt hpv.1 hpv.2 b3 B3 hx
    have hz : d4.size = d.size := by rw [hs4,s3'.1,s2.1,s1.1]
    have hlim : limit ≤ 1000 := by show (if (!wb) = true then limit0 - 1 else limit0) ≤ 1000; split <;> omega
    obtain ⟨l1,l2⟩ := hps hswo d4 a mid limit true true g1 (by omega) hBa
    obtain ⟨hBL,hfin⟩ := hleft _ l1 l2
    obtain ⟨n1,hn1⟩ := ih3 g1 (by omega) (by omega) hlim hBa
    obtain ⟨n2,hn2⟩ := ih1 (by omega) (by rw [l1.1]; omega) (by rw [l1.1]; omega) hlim hBL
    refine ⟨max (n1 + 1) n2, ?_⟩
    have hr1 : AA (max (n1 + 1) n2) d4.toList (a : Int) (mid : Int) (limit : Int) = some (pdq AB d4 a mid limit true true).toList := by
      obtain ⟨k,hk⟩ : ∃ k,max (n1 + 1) n2 = k + 1 := ⟨max (n1 + 1) n2 - 1,by omega⟩
      rw [hk]
      exact OQ (show n1 ≤ k by omega) _ _ hn1
    rw [Bi (s' := ((pdq AB d4 a mid limit true true).toList,((mid + 1 : Nat) : Int),(b : Int),(limit : Int),decide (mid - a ≥ (b - a) / 8),ap)) (by
      rw [VW (d1 := d1) (d2 := d2) (hint := hint) (pi := pi) (lim := limit) (pivot := pivot) h12 hl hl2 hb hs rfl rfl rfl rfl rfl rfl,if_neg hpi2,if_neg hc,hx,if_pos ⟨hlt,hg⟩]
      simp only []
      rw [hr1,za])]
    exact OQ (Nat.le_max_right _ _) _ _ hn2
  case case7 d a b limit0 wb wp h12 hl d1 limit c d2 pivot hint pi hpi2 d3 hc mid ap d4 hx hg hlt ih3 ih2 ih1 =>
    intro hab hb hs hl2 hB
    have s1 : PermIn a b d d1 := step_break d hab hb _
    have b1 : b ≤ d1.size := by rw [s1.1]; exact hb
    have s2 : PermIn a b d1 d2 := step_reverse reverseRange_holds d1 hab b1 _
    have b2 : b ≤ d2.size := by rw [s2.1]; exact b1
    have B2 : Below AB a b d2 := (hB.perm hb s1).perm b1 s2
    have s3 := step_partial hpi hswo d2 (a := a) (b := b) (by omega) b2 B2 ((wb && wp && decide (hint = Hint.increasing)) = true)
    have s3' : PermIn a b d2 d3 := s3.1
    have b3 : b ≤ d3.size := by rw [s3'.1]; exact b2
    have B3 : Below AB a b d3 := B2.perm b2 s3'
    have hc0 := choosePivot_holds AB d1 a b (by omega)
    have hpv : a ≤ pivot ∧ pivot < b := pivot_range hc0.1 hc0.2 _
    obtain ⟨g1,g2,hs4,hBa,hBr,_,hright⟩ := round_part hswo hpt hpv.1 hpv.2 b3 B3 hx
    have hz : d4.size = d.size := by rw [hs4,s3'.1,s2.1,s1.1]
    have hlim : limit ≤ 1000 := by show (if (!wb) = true then limit0 - 1 else limit0) ≤ 1000; split <;> omega
    obtain ⟨l1,l2⟩ := hps hswo d4 (mid + 1) b limit true true (by omega) (by omega) hBr
    obtain ⟨hBL,hfin⟩ := hright _ l1 l2
    obtain ⟨n1,hn1⟩ := ih3 (by omega) (by omega) (by omega) hlim hBr
    obtain ⟨n2,hn2⟩ := ih1 g1 (by rw [l1.1]; omega) (by rw [l1.1]; omega) hlim hBL
    refine ⟨max (n1 + 1) n2, ?_⟩
    have hr1 : AA (max (n1 + 1) n2) d4.toList ((mid + 1 : Nat) : Int) (b : Int) (limit : Int) = some (pdq AB d4 (mid + 1) b limit true true).toList := by
      obtain ⟨k,hk⟩ : ∃ k,max (n1 + 1) n2 = k + 1 := ⟨max (n1 + 1) n2 - 1,by omega⟩
      rw [hk]
      exact OQ (show n1 ≤ k by omega) _ _ hn1
    rw [Bi (s' := ((pdq AB d4 (mid + 1) b limit true true).toList,(a : Int),(mid : Int),(limit : Int),decide (b - mid ≥ (b - a) / 8),ap)) (by
      rw [VW (d1 := d1) (d2 := d2) (hint := hint) (pi := pi) (lim := limit) (pivot := pivot) h12 hl hl2 hb hs rfl rfl rfl rfl rfl rfl,if_neg hpi2,if_neg hc,hx,if_neg (fun h => hlt h.1),if_pos hg]
      simp only []
      rw [hr1,za])]
    exact OQ (Nat.le_max_right _ _) _ _ hn2
  case case8 d a b limit wb wp h12 hl d1 c d2 pivot hint pi hpi2 d3 hc mid ap d4 hx hg =>
    intro hab hb hs hl2 hB
    have s1 : PermIn a b d d1 := step_break d hab hb _
    have b1 : b ≤ d1.size := by rw [s1.1]; exact hb
    have s2 : PermIn a b d1 d2 := step_reverse reverseRange_holds d1 hab b1 _
    have b2 : b ≤ d2.size := by rw [s2.1]; exact b1
    have B2 : Below AB a b d2 := (hB.perm hb s1).perm b1 s2
    have s3 := step_partial hpi hswo d2 (a := a) (b := b) (by omega) b2 B2 ((wb && wp && decide (hint = Hint.increasing)) = true)
    have s3' : PermIn a b d2 d3 := s3.1
    have b3 : b ≤ d3.size := by rw [s3'.1]; exact b2
    have B3 : Below AB a b d3 := B2.perm b2 s3'
    have hc0 := choosePivot_holds AB d1 a b (by omega)
    have hpv : a ≤ pivot ∧ pivot < b := pivot_range hc0.1 hc0.2 _
    obtain ⟨g1,g2,_⟩ := round_part hswo hpt hpv.1 hpv.2 b3 B3 hx
    exact absurd ⟨g1,g2⟩ hg
theorem fC (hswo : SWO AB) {L : List (Int × Int × Int × Int × Int)} (hL : L.length ≤ 1000000000) : ∃ L',Cp L 0 (L.length : Int) ((bitsLen L.length : Nat) : Int) = some L' ∧ L'.Perm L ∧ L'.Pairwise (fun x y => AB y x = false) := by
  have hz : L.toArray.size = L.length := by simp
  have hb : bitsLen L.length ≤ 1000 := Nat.le_trans ((bitsLen_le_iff L.length 30).2 (by rw [oC]; omega)) (by decide)
  obtain ⟨n,hn⟩ := t8 hswo L.toArray 0 L.length (bitsLen L.length) true true (Nat.zero_le _) (by omega) (by omega) hb (Or.inl rfl)
  obtain ⟨p1,p2⟩ := pdq_sorts AB hswo L.toArray 0 L.length (bitsLen L.length) true true (Nat.zero_le _) (by omega) (Or.inl rfl)
  generalize pdq AB L.toArray 0 L.length (bitsLen L.length) true true = R at hn p1 p2
  have hR : R.size = L.length := by rw [p1.1,hz]
  refine ⟨R.toList, ?_, ?_, ?_⟩
  · unfold Cp
    exact Z9 (g := fun n => AA n L 0 (L.length : Int) ((bitsLen L.length : Nat) : Int)) (fun n r h => Xw n _ _ _ _ r h) (n := n + 1) hn
  · have h1 := p1.2.2
    rw [show R.extract 0 L.length = R by rw [← hR]; simp,show L.toArray.extract 0 L.length = L.toArray by rw [← hz]; simp] at h1
    exact h1
  · rw [List.pairwise_iff_getElem]
    intro i j hi hj hij
    have := p2 i j (Nat.zero_le _) hij (by simpa [hR] using hj)
    rw [getElem!_pos R i (by simpa using hi),getElem!_pos R j (by simpa using hj)] at this
    simpa using this
end
theorem R1 {L S : List Se} (hA : Ku AQ S) (hp : L.Perm S) (hl : S.length ≤ 1000000000) : AF L = some S := by
  have hlen := hp.length_eq
  obtain ⟨L',h1,h2,h3⟩ := fC cL (L := L) (by omega)
  have hS : L' = S := by
    have hn : L'.Nodup := ((h2.trans hp).nodup_iff).2 (P7 Gz hA)
    have hA' : Ku AQ L' := by
      refine (h3.and hn).imp fun h => ?_
      have h4 := h.1
      rw [OB] at h4
      cases h5 : AQ _ _ with
      | true => rfl
      | false => exact absurd (Gz.tot h5 h4) h.2
    exact Nl Gz hA' hA fun x => (h2.trans hp).mem_iff
  subst hS
  unfold AF
  rw [X9 (by omega),za,h1,za]
theorem XN {p : Tr41} {sw port : Int} {k : Int × Int × Int × Int} {S : List Se} (h : Fw p sw (port,k) = some S) (hA : Ku AQ S) (hl : S.length ≤ 1000000000) : Gq p sw port k = some S := by
  unfold Gq
  have he : Fw (Tr41.of (p.un.1,f38 p.un.2.1,p.un.2.2.1,p.un.2.2.2.1,p.un.2.2.2.2)) sw (port,k) = some S := by
    have e : (Tr41.of (p.un.1,f38 p.un.2.1,p.un.2.2.1,p.un.2.2.2.1,p.un.2.2.2.2)) = p := by
      obtain ⟨a,⟨b,c,d,f⟩,g,h,i⟩ := p; rfl
    rw [e]; exact h
  rw [he,za,I5 (by simpa using hl),za,g8 (r := S) (fun L hL => R1 hA hL hl)]
  rfl
end Go.Proofs.YtkhiflmalgkjiaaGreat
