/- Layer 30: the sort. Conditions: none. -/
import Derived.Test.YtgoifghhcekahaaGreatDooreNW
namespace Go.Proofs.YtgoifghhcekahaaGreatDoor
set_option linter.unusedVariables false
set_option linter.unusedSimpArgs false
open Go Go.RowKit
open Go.Sort in
theorem Qa {n : Nat} (k : Nat) (h : 0 < n / 2 ^ k) : bitsLen n = bitsLen (n / 2 ^ k) + k := by
  have hk : k ≤ bitsLen n := by
    refine Classical.byContradiction fun hn => ?_
    have h1 : n < 2 ^ k := (bitsLen_le_iff n k).1 (by omega)
    rw [Nat.div_eq_of_lt h1] at h; omega
  refine Nat.le_antisymm ((bitsLen_le_iff n _).2 ?_) ?_
  · have h1 := lt_two_pow_bitsLen (n / 2 ^ k)
    rw [Nat.pow_add]
    exact (Nat.div_lt_iff_lt_mul (Nat.two_pow_pos k)).1 h1
  · have h1 : bitsLen (n / 2 ^ k) ≤ bitsLen n - k := by
      refine (bitsLen_le_iff _ _).2 ?_
      rw [Nat.div_lt_iff_lt_mul (Nat.two_pow_pos k), ← Nat.pow_add,Nat.sub_add_cancel hk]
      exact lt_two_pow_bitsLen n
    omega
def N4 : List UInt8 := [0,1,2,2,3,3,3,3,4,4,4,4,4,4,4,4,5,5,5,5,5,5,5,5,5,5,5,5,5,5,5,5,6,6,6,6,6,6,6,6,6,6,6,6,6,6,6,6,6,6,6,6,6,6,6,6,6,6,6,6,6,6,6,6,7,7,7,7,7,7,7,7,7,7,7,7,7,7,7,7,7,7,7,7,7,7,7,7,7,7,7,7,7,7,7,7,7,7,7,7,7,7,7,7,7,7,7,7,7,7,7,7,7,7,7,7,7,7,7,7,7,7,7,7,7,7,7,7,8,8,8,8,8,8,8,8,8,8,8,8,8,8,8,8,8,8,8,8,8,8,8,8,8,8,8,8,8,8,8,8,8,8,8,8,8,8,8,8,8,8,8,8,8,8,8,8,8,8,8,8,8,8,8,8,8,8,8,8,8,8,8,8,8,8,8,8,8,8,8,8,8,8,8,8,8,8,8,8,8,8,8,8,8,8,8,8,8,8,8,8,8,8,8,8,8,8,8,8,8,8,8,8,8,8,8,8,8,8,8,8,8,8,8,8,8,8,8,8,8,8,8,8,8,8,8,8]
set_option maxRecDepth 100000 in
open Go.Sort in
theorem gB {n : Nat} (h : n < 256) : ∃ c : UInt8,ix N4 (n : Int) = some c ∧ c.toNat = bitsLen n := by
  have key : ∀ n : Fin 256,(N4.getD n.val 0).toNat = bitsLen n.val := by decide +kernel
  have hlen : N4.length = 256 := by decide +kernel
  have := key ⟨n,h⟩
  refine ⟨N4[n]'(by omega),Bh (List.getElem?_eq_getElem _), ?_⟩
  rw [List.getD_eq_getElem?_getD,List.getElem?_eq_getElem (by show n < N4.length; omega)] at this
  exact this
theorem bI : (2 : Nat) ^ 30 = 1073741824 := by decide
set_option maxRecDepth 100000 in
open Go.Sort in
theorem VC {n : Nat} (h : n ≤ 1000000000) : FZ (IntKind.u64.wrap (n : Int)) = some ((bitsLen n : Nat) : Int) := by
  rw [Vu (by omega)]
  unfold FZ Ii
  rw [if_neg (by omega),Option.bind_some]
  simp only []
  have fin : ∀ (m : Nat) (s : Nat),m < 65536 → s ≤ 16 → (if (256 : Int) ≤ (m : Int) then some (Kf .u64 (m : Int) 8,Ae ((s : Int) + 8)) else some ((m : Int),(s : Int))) = some (((if 256 ≤ m then m / 256 else m : Nat) : Int),((if 256 ≤ m then s + 8 else s : Nat) : Int)) := fun m s hm hs => by
    by_cases c : 256 ≤ m
    · rw [if_pos (by omega),if_pos c,if_pos c,Ab (by omega),show Kf .u64 (m : Int) 8 = ((m / 256 : Nat) : Int) from Ws (x := m) 8 256 (by decide) (by decide)]; rfl
    · rw [if_neg (by omega),if_neg c,if_neg c]
  have hfirst : (if (65536 : Int) ≤ (n : Int) then some (Kf .u64 (n : Int) 16,Ae ((0 : Int) + 16)) else some ((n : Int),(0 : Int))) = some (((if 65536 ≤ n then n / 65536 else n : Nat) : Int),((if 65536 ≤ n then 16 else 0 : Nat) : Int)) := by
    by_cases c : 65536 ≤ n
    · rw [if_pos (by omega),if_pos c,if_pos c,Ab (by omega),show Kf .u64 (n : Int) 16 = ((n / 65536 : Nat) : Int) from Ws (x := n) 16 65536 (by decide) (by decide)]; rfl
    · rw [if_neg (by omega),if_neg c,if_neg c]; rfl
  have hbits : bitsLen n = bitsLen (if 65536 ≤ n then n / 65536 else n) + (if 65536 ≤ n then 16 else 0) := by
    by_cases c : 65536 ≤ n
    · rw [if_pos c,if_pos c]; exact Qa (n := n) 16 (by show 0 < n / 65536; omega)
    · rw [if_neg c,if_neg c]; rfl
  rw [hfirst,Option.bind_some,hbits]
  simp only []
  have hm1 : (if 65536 ≤ n then n / 65536 else n) < 65536 := by split <;> omega
  have hs1 : (if 65536 ≤ n then 16 else 0) ≤ 16 := by split <;> omega
  generalize (if 65536 ≤ n then n / 65536 else n) = m at hm1 ⊢
  generalize (if 65536 ≤ n then 16 else 0) = s at hs1 ⊢
  rw [fin m s hm1 hs1,Option.bind_some]
  simp only []
  have hbits2 : bitsLen m + s = bitsLen (if 256 ≤ m then m / 256 else m) + (if 256 ≤ m then s + 8 else s) := by
    by_cases c : 256 ≤ m
    · rw [if_pos c,if_pos c,Qa (n := m) 8 (by show 0 < m / 256; omega),show m / 2 ^ 8 = m / 256 from rfl]; omega
    · rw [if_neg c,if_neg c]
  rw [hbits2]
  have hm2 : (if 256 ≤ m then m / 256 else m) < 256 := by split <;> omega
  have hs2 : (if 256 ≤ m then s + 8 else s) ≤ 24 := by split <;> omega
  generalize (if 256 ≤ m then m / 256 else m) = k at hm2 ⊢
  generalize (if 256 ≤ m then s + 8 else s) = u at hs2 ⊢
  obtain ⟨c,h1,h2⟩ := gB hm2
  have hk8 : IntKind.u8.wrap (k : Int) = (k : Int) := by rw [wu8]; omega
  have hb8 : bitsLen k ≤ 8 := (bitsLen_le_iff k 8).2 (by show k < 256; omega)
  rw [hk8]
  show ((ix N4 (k : Int)).bind _).bind _ = _
  rw [h1,Option.bind_some,h2,Ab (x := ((bitsLen k : Nat) : Int)) (by omega),Ab (by omega),Option.bind_some]
  congr 1; omega
open Go.Sort in
theorem Y1 {n : Nat} (h : n ≤ 1000000000) : CQ (n : Int) = some ((1 <<< bitsLen n : Nat) : Int) := by
  unfold CQ
  rw [VC h,Option.bind_some]
  have hb : bitsLen n ≤ 30 := (bitsLen_le_iff n 30).2 (by rw [bI]; omega)
  have h1 : Iy .u64 1 ((bitsLen n : Nat) : Int) = ((1 * 2 ^ bitsLen n % 18446744073709551616 : Nat) : Int) := UH (x := 1) (bitsLen n) (2 ^ bitsLen n) (by omega) rfl
  have h2 : 2 ^ bitsLen n ≤ 2 ^ 30 := Nat.pow_le_pow_right (by decide) hb
  have h3 : (2 : Nat) ^ 30 = 1073741824 := by decide
  rw [h1,lW (Int.natCast_nonneg _),Option.bind_some,Nat.one_shiftLeft,Nat.one_mul,Nat.mod_eq_of_lt (by omega)]
section
open Go.Sort
theorem Z5 {g g' : List Int → Int → Int → Int → Option (List Int)} (h : ∀ a b c d r,g a b c d = some r → g' a b c d = some r) : ∀ s r,Am g s = some r → Am g' s = some r := by
  rintro ⟨x1,x2,x3,x4,x5,x6⟩
  show Kw (Am g (x1,x2,x3,x4,x5,x6)) (Am g' (x1,x2,x3,x4,x5,x6))
  unfold Am
  repeat' (first | refine Kw.orR' ?_ ?_ | refine Kw.bind' ?_ ?_ | refine Kw.ite' ?_ ?_ | exact h _ _ _ _ | exact Kw.rfl' _ | (refine Kw.pi2 ?_; intro _) | intro _)
theorem Vi : ∀ (n : Nat) (a : List Int) (b c d : Int) (r : List Int),AW n a b c d = some r → AW (n + 1) a b c d = some r := by
  intro n
  induction n with
  | zero => intro a b c d r h; cases h
  | succ n ih =>
    intro a b c d r h
    exact Kw.loop (Z5 ih) _ r h
theorem NB {n m : Nat} (hnm : n ≤ m) (s) (r) (h : Ac (Am (AW n)) s = some r) : Ac (Am (AW m)) s = some r := by
  induction hnm with
  | refl => exact h
  | step _ ih => exact Kw.loop (Z5 (Vi _)) s r ih
theorem Tc {g : List Int → Int → Int → Int → Option (List Int)} {d : Array Int} {a b l : Nat} {wb wp : Bool} {d1 d2 : Array Int} {lim pivot : Nat} {hint : Hint} {pi : Array Int × Bool}
    (h12 : ¬ b - a ≤ 12) (hl : ¬ l = 0) (hl2 : l ≤ 1000) (hb : b ≤ d.size) (hs : d.size ≤ 1000000000)
    (e1 : d1 = if (!wb) = true then breakPatterns d a b else d) (e2 : lim = if (!wb) = true then l - 1 else l)
    (e3 : d2 = if (choosePivot As d1 a b).2 = .decreasing then reverseRange d1 a b else d1)
    (e4 : pivot = if (choosePivot As d1 a b).2 = .decreasing then (b - 1) - ((choosePivot As d1 a b).1 - a) else (choosePivot As d1 a b).1)
    (e5 : hint = if (choosePivot As d1 a b).2 = .decreasing then Hint.increasing else (choosePivot As d1 a b).2)
    (e6 : pi = if (wb && wp && decide (hint = .increasing)) = true then partialInsertionSort As d2 a b else (d2,false)) :
    Am g (d.toList,(a : Int),(b : Int),(l : Int),wb,wp) =
      if pi.2 = true then some (.inr pi.1.toList) else
      if (decide (a > 0) && !As pi.1[a - 1]! pi.1[pivot]!) = true then some (.inl ((partitionEqual As pi.1 a b pivot).2.toList,((partitionEqual As pi.1 a b pivot).1 : Int),(b : Int),(lim : Int),wb,wp)) else
      if (partition As pi.1 a b pivot).1 - a < b - (partition As pi.1 a b pivot).1 ∧ a ≤ (partition As pi.1 a b pivot).1 ∧ (partition As pi.1 a b pivot).1 < b then
        (g (partition As pi.1 a b pivot).2.2.toList (a : Int) ((partition As pi.1 a b pivot).1 : Int) (lim : Int)).bind fun x => some (.inl (x,(((partition As pi.1 a b pivot).1 + 1 : Nat) : Int),(b : Int),(lim : Int),decide ((partition As pi.1 a b pivot).1 - a ≥ (b - a) / 8),(partition As pi.1 a b pivot).2.1))
      else if a ≤ (partition As pi.1 a b pivot).1 ∧ (partition As pi.1 a b pivot).1 < b then
        (g (partition As pi.1 a b pivot).2.2.toList (((partition As pi.1 a b pivot).1 + 1 : Nat) : Int) (b : Int) (lim : Int)).bind fun x => some (.inl (x,(a : Int),((partition As pi.1 a b pivot).1 : Int),(lim : Int),decide (b - (partition As pi.1 a b pivot).1 ≥ (b - a) / 8),(partition As pi.1 a b pivot).2.1))
      else Am g (d.toList,(a : Int),(b : Int),(l : Int),wb,wp) := by
  have q1 : Ae ((b : Int) - (a : Int)) = ((b - a : Nat) : Int) := by rw [Ab (by omega)]; omega
  have q8 : Ae (Int.tdiv ((b - a : Nat) : Int) 8) = (((b - a) / 8 : Nat) : Int) := by rw [Int.tdiv_eq_ediv_of_nonneg (by omega),Ab (by omega)]; omega
  have hbp := uS d a b (by omega) hb hs (Y1 (by omega))
  have h1 : (if (!wb) = true then (BH d.toList (a : Int) (b : Int)).bind fun x11 => some (x11,Ae ((l : Int) - 1)) else some (d.toList,(l : Int))) = some (d1.toList,(lim : Int)) := by
    by_cases c : (!wb) = true
    · rw [if_pos c,hbp.1,Option.bind_some,e1,e2,if_pos c,if_pos c,Ab (by omega)]
      congr 2; omega
    · rw [if_neg c,e1,e2,if_neg c,if_neg c]
  have z1 : d1.size = d.size := by
    rw [e1]
    split
    · exact hbp.2
    · rfl
  have hcp := wN d1 a b (by omega) (by omega) (by omega)
  have hcr := choosePivot_holds As d1 a b (by omega)
  have hrev := qV d1 a b (by omega) (by omega) (by omega)
  have hrz : (reverseRange d1 a b).size = d1.size := (reverseRange_holds d1 a b (by omega) (by omega)).1
  generalize choosePivot As d1 a b = cp at hcp hcr e3 e4 e5
  have h2 : (if Lc cp.2 = 2 then (BN d1.toList (a : Int) (b : Int)).bind fun x16 => some (x16,Ae ((Ae ((b : Int) - 1)) - (Ae ((cp.1 : Int) - (a : Int)))),(1 : Int)) else some (d1.toList,(cp.1 : Int),Lc cp.2)) = some (d2.toList,(pivot : Int),Lc hint) := by
    have hd : Lc cp.2 = 2 ↔ cp.2 = .decreasing := by cases cp.2 <;> decide
    by_cases c : cp.2 = .decreasing
    · rw [if_pos (hd.2 c),hrev,Option.bind_some,e3,e4,e5,if_pos c,if_pos c,if_pos c,Ab (x := (b : Int) - 1) (by omega),Ab (x := (cp.1 : Int) - (a : Int)) (by omega),Ab (by omega)]
      congr 3; omega
    · rw [if_neg (fun h => c (hd.1 h)),e3,e4,e5,if_neg c,if_neg c,if_neg c]
  have hpv : a ≤ pivot ∧ pivot < b := by rw [e4]; split <;> omega
  have z2 : d2.size = d.size := by
    rw [e3]
    split
    · omega
    · exact z1
  have hpis := o9 d2 a b (by omega) (by omega) (by omega)
  have h3 : (if (wb && (wp && decide (Lc hint = 1))) = true then (A9 d2.toList (a : Int) (b : Int)).bind fun x18 => (if x18.1 = true then some (.inr (.inr x18.2)) else some (.inl x18.2)) else some (.inl d2.toList)) = some (if pi.2 = true then .inr (.inr pi.1.toList) else (.inl pi.1.toList : List Int ⊕ ((List Int × Int × Int × Int × Bool × Bool) ⊕ List Int))) := by
    have hh : (wb && (wp && decide (Lc hint = 1))) = (wb && wp && decide (hint = .increasing)) := by
      rw [Bool.and_assoc]
      congr 2
      exact decide_eq_decide.2 (by cases hint <;> decide)
    rw [hh]
    by_cases c : (wb && wp && decide (hint = .increasing)) = true
    · rw [if_pos c,hpis.1,Option.bind_some,e6,if_pos c]
      split <;> rfl
    · rw [if_neg c,e6,if_neg c]; rfl
  have z3 : pi.1.size = d.size := by
    rw [e6]
    split
    · omega
    · exact z2
  have hstep : Am g (d.toList,(a : Int),(b : Int),(l : Int),wb,wp) = (if pi.2 = true then some (.inr pi.1.toList) else
      if (decide (a > 0) && !As pi.1[a - 1]! pi.1[pivot]!) = true then some (.inl ((partitionEqual As pi.1 a b pivot).2.toList,((partitionEqual As pi.1 a b pivot).1 : Int),(b : Int),(lim : Int),wb,wp)) else
      if Ae (((partition As pi.1 a b pivot).1 : Int) - (a : Int)) < Ae ((b : Int) - ((partition As pi.1 a b pivot).1 : Int)) then
        (g (partition As pi.1 a b pivot).2.2.toList (a : Int) ((partition As pi.1 a b pivot).1 : Int) (lim : Int)).bind fun x => some (.inl (x,Ae (((partition As pi.1 a b pivot).1 : Int) + 1),(b : Int),(lim : Int),decide ((((b - a) / 8 : Nat) : Int) ≤ Ae (((partition As pi.1 a b pivot).1 : Int) - (a : Int))),(partition As pi.1 a b pivot).2.1))
      else (g (partition As pi.1 a b pivot).2.2.toList (Ae (((partition As pi.1 a b pivot).1 : Int) + 1)) (b : Int) (lim : Int)).bind fun x => some (.inl (x,(a : Int),((partition As pi.1 a b pivot).1 : Int),(lim : Int),decide ((((b - a) / 8 : Nat) : Int) ≤ Ae ((b : Int) - ((partition As pi.1 a b pivot).1 : Int))),(partition As pi.1 a b pivot).2.1))) := by
    rw [Am,q1,if_neg (by omega),if_neg (by omega),h1,Option.bind_some]
    simp only []
    rw [hcp,Option.bind_some]
    simp only []
    rw [h2,Option.bind_some]
    simp only []
    rw [h3]
    by_cases c : pi.2 = true
    · rw [if_pos c,if_pos c]; rfl
    · rw [if_neg c,if_neg c]
      show (Option.bind _ _) = _
      have hcond : (if (0 : Int) < (a : Int) then (ix pi.1.toList (Ae ((a : Int) - 1))).bind fun x20 => (ix pi.1.toList (pivot : Int)).bind fun x21 => some (!As x20 x21) else some false) = some (decide (a > 0) && !As pi.1[a - 1]! pi.1[pivot]!) := by
        by_cases c0 : 0 < a
        · rw [if_pos (by omega),RK c0 (by omega),Du (by omega),Option.bind_some,Du (by omega),Option.bind_some,decide_eq_true c0,Bool.true_and]
        · rw [if_neg (by omega),decide_eq_false c0]; rfl
      simp only [RY,hcond,Option.bind_some,q8]
      by_cases c2 : (decide (a > 0) && !As pi.1[a - 1]! pi.1[pivot]!) = true
      · rw [if_pos c2,if_pos c2,n7 pi.1 a b pivot hpv.1 hpv.2 (by omega) (by omega) (by omega),Option.bind_some]
        cases wb <;> cases wp <;> rfl
      · rw [if_neg c2,if_neg c2,mE pi.1 a b pivot hpv.1 hpv.2 (by omega) (by omega) (by omega),Option.bind_some]
  rw [hstep]
  by_cases c : pi.2 = true
  · rw [if_pos c,if_pos c]
  rw [if_neg c,if_neg c]
  by_cases c2 : (decide (a > 0) && !As pi.1[a - 1]! pi.1[pivot]!) = true
  · rw [if_pos c2,if_pos c2]
  rw [if_neg c2,if_neg c2]
  generalize hr : partition As pi.1 a b pivot = r
  by_cases c3 : a ≤ r.1 ∧ r.1 < b
  · rw [Ab (x := (r.1 : Int) - (a : Int)) (by omega),Ab (x := (b : Int) - (r.1 : Int)) (by omega),RH (by omega)]
    by_cases c4 : r.1 - a < b - r.1
    · rw [if_pos (by omega),if_pos ⟨c4,c3⟩]
      congr 1; funext x
      rw [show decide ((((b - a) / 8 : Nat) : Int) ≤ (r.1 : Int) - (a : Int)) = decide (r.1 - a ≥ (b - a) / 8) from decide_eq_decide.2 (by omega)]
    · rw [if_neg (by omega),if_neg (fun h => c4 h.1),if_pos c3]
      congr 1; funext x
      rw [show decide ((((b - a) / 8 : Nat) : Int) ≤ (b : Int) - (r.1 : Int)) = decide (b - r.1 ≥ (b - a) / 8) from decide_eq_decide.2 (by omega)]
  · rw [if_neg (show ¬ (r.1 - a < b - r.1 ∧ a ≤ r.1 ∧ r.1 < b) from fun h => c3 h.2),if_neg c3]
    first | done | (rw [if_neg c,if_neg c2,hr]; done) | (rw [if_neg c,if_neg c2]; done) | (rw [if_neg c]; done)
theorem qS (hswo : SWO As) (d : Array Int) (a b limit : Nat) (wb wp : Bool) : a ≤ b → b ≤ d.size → d.size ≤ 1000000000 → limit ≤ 1000 → Below As a b d → ∃ n,Ac (Am (AW n)) (d.toList,(a : Int),(b : Int),(limit : Int),wb,wp) = some (pdq As d a b limit wb wp).toList := by
  have hpi := @partialInsertionSort_holds _ _ As
  have hpt := partition_holds As
  have hpe := partitionEqual_holds As
  have hps := pdq_sorts As
  fun_induction pdq As d a b limit wb wp
  case case1 d a b limit wb wp h12 =>
    intro hab hb hs hl _
    exact ⟨0,Af (by rw [Am,Ab (by omega),if_pos (by omega),oM d a b hb hs hab,Option.bind_some])⟩
  case case2 d a b wb wp h12 =>
    intro hab hb hs hl _
    exact ⟨0,Af (by rw [Am,Ab (by omega),if_neg (by omega),if_pos (by rfl),mD d a b hb hs (by omega),Option.bind_some])⟩
  case case3 d a b limit wb wp h12 hl d1 c d2 hint pi hpi2 =>
    intro hab hb hs hl2 hB
    refine ⟨0,Af ?_⟩
    rw [Tc (d1 := d1) (d2 := d2) (hint := hint) (pi := pi) (lim := if (!wb) = true then limit - 1 else limit) (pivot := if c.2 = .decreasing then (b - 1) - (c.1 - a) else c.1) h12 hl hl2 hb hs rfl rfl rfl rfl rfl rfl,if_pos hpi2]
  case case4 d a b limit0 wb wp h12 hl d1 limit c d2 pivot hint pi hpi2 d3 hc mid d4 hx hg ih1 =>
    intro hab hb hs hl2 hB
    have s1 : PermIn a b d d1 := step_break d hab hb _
    have b1 : b ≤ d1.size := by rw [s1.1]; exact hb
    have s2 : PermIn a b d1 d2 := step_reverse reverseRange_holds d1 hab b1 _
    have b2 : b ≤ d2.size := by rw [s2.1]; exact b1
    have B2 : Below As a b d2 := (hB.perm hb s1).perm b1 s2
    have s3 := step_partial hpi hswo d2 (a := a) (b := b) (by omega) b2 B2 ((wb && wp && decide (hint = Hint.increasing)) = true)
    have s3' : PermIn a b d2 d3 := s3.1
    have b3 : b ≤ d3.size := by rw [s3'.1]; exact b2
    have B3 : Below As a b d3 := B2.perm b2 s3'
    have hc0 := choosePivot_holds As d1 a b (by omega)
    have hpv : a ≤ pivot ∧ pivot < b := pivot_range hc0.1 hc0.2 _
    have hcc := hc
    simp only [Bool.and_eq_true,decide_eq_true_eq,Bool.not_eq_true'] at hcc
    obtain ⟨_,hm2,hs4,hB4,hfin⟩ := round_eq hswo hpe hcc.1 hpv.1 hpv.2 b3 B3 hcc.2 hx
    have hz : d4.size = d.size := by rw [hs4,s3'.1,s2.1,s1.1]
    obtain ⟨n,hn⟩ := ih1 hm2 (by omega) (by omega) (by show (if (!wb) = true then limit0 - 1 else limit0) ≤ 1000; split <;> omega) hB4
    refine ⟨n, ?_⟩
    rw [AH (s' := (d4.toList,(mid : Int),(b : Int),(limit : Int),wb,wp)) (by
      rw [Tc (d1 := d1) (d2 := d2) (hint := hint) (pi := pi) (lim := limit) (pivot := pivot) h12 hl hl2 hb hs rfl rfl rfl rfl rfl rfl,if_neg hpi2,if_pos hc,hx])]
    exact hn
  case case5 d a b limit wb wp h12 hl d1 c d2 pivot hint pi hpi2 d3 hc mid d4 hx hg =>
    intro hab hb hs hl2 hB
    have s1 : PermIn a b d d1 := step_break d hab hb _
    have b1 : b ≤ d1.size := by rw [s1.1]; exact hb
    have s2 : PermIn a b d1 d2 := step_reverse reverseRange_holds d1 hab b1 _
    have b2 : b ≤ d2.size := by rw [s2.1]; exact b1
    have B2 : Below As a b d2 := (hB.perm hb s1).perm b1 s2
    have s3 := step_partial hpi hswo d2 (a := a) (b := b) (by omega) b2 B2 ((wb && wp && decide (hint = Hint.increasing)) = true)
    have s3' : PermIn a b d2 d3 := s3.1
    have b3 : b ≤ d3.size := by rw [s3'.1]; exact b2
    have B3 : Below As a b d3 := B2.perm b2 s3'
    have hc0 := choosePivot_holds As d1 a b (by omega)
    have hpv : a ≤ pivot ∧ pivot < b := pivot_range hc0.1 hc0.2 _
    simp only [Bool.and_eq_true,decide_eq_true_eq,Bool.not_eq_true'] at hc
    obtain ⟨g1,g2,_⟩ := round_eq hswo hpe hc.1 hpv.1 hpv.2 b3 B3 hc.2 hx
    exact absurd ⟨g1,g2⟩ hg
  case case6 d a b limit0 wb wp h12 hl d1 limit c d2 pivot hint pi hpi2 d3 hc mid ap d4 hx hg hlt ih3 ih2 ih1 =>
    intro hab hb hs hl2 hB
    have s1 : PermIn a b d d1 := step_break d hab hb _
    have b1 : b ≤ d1.size := by rw [s1.1]; exact hb
    have s2 : PermIn a b d1 d2 := step_reverse reverseRange_holds d1 hab b1 _
    have b2 : b ≤ d2.size := by rw [s2.1]; exact b1
    have B2 : Below As a b d2 := (hB.perm hb s1).perm b1 s2
    have s3 := step_partial hpi hswo d2 (a := a) (b := b) (by omega) b2 B2 ((wb && wp && decide (hint = Hint.increasing)) = true)
    have s3' : PermIn a b d2 d3 := s3.1
    have b3 : b ≤ d3.size := by rw [s3'.1]; exact b2
    have B3 : Below As a b d3 := B2.perm b2 s3'
    have hc0 := choosePivot_holds As d1 a b (by omega)
    have hpv : a ≤ pivot ∧ pivot < b := pivot_range hc0.1 hc0.2 _
    obtain ⟨g1,g2,hs4,hBa,hBr,hleft,_⟩ := round_part hswo hpt hpv.1 hpv.2 b3 B3 hx
    have hz : d4.size = d.size := by rw [hs4,s3'.1,s2.1,s1.1]
    have hlim : limit ≤ 1000 := by show (if (!wb) = true then limit0 - 1 else limit0) ≤ 1000; split <;> omega
    obtain ⟨l1,l2⟩ := hps hswo d4 a mid limit true true g1 (by omega) hBa
    obtain ⟨hBL,hfin⟩ := hleft _ l1 l2
    obtain ⟨n1,hn1⟩ := ih3 g1 (by omega) (by omega) hlim hBa
    obtain ⟨n2,hn2⟩ := ih1 (by omega) (by rw [l1.1]; omega) (by rw [l1.1]; omega) hlim hBL
    refine ⟨max (n1 + 1) n2, ?_⟩
    have hr1 : AW (max (n1 + 1) n2) d4.toList (a : Int) (mid : Int) (limit : Int) = some (pdq As d4 a mid limit true true).toList := by
      obtain ⟨k,hk⟩ : ∃ k,max (n1 + 1) n2 = k + 1 := ⟨max (n1 + 1) n2 - 1,by omega⟩
      rw [hk]
      exact NB (show n1 ≤ k by omega) _ _ hn1
    rw [AH (s' := ((pdq As d4 a mid limit true true).toList,((mid + 1 : Nat) : Int),(b : Int),(limit : Int),decide (mid - a ≥ (b - a) / 8),ap)) (by
      rw [Tc (d1 := d1) (d2 := d2) (hint := hint) (pi := pi) (lim := limit) (pivot := pivot) h12 hl hl2 hb hs rfl rfl rfl rfl rfl rfl,if_neg hpi2,if_neg hc,hx,if_pos ⟨hlt,hg⟩]
      simp only []
      rw [hr1,Option.bind_some])]
    exact NB (Nat.le_max_right _ _) _ _ hn2
  case case7 d a b limit0 wb wp h12 hl d1 limit c d2 pivot hint pi hpi2 d3 hc mid ap d4 hx hg hlt ih3 ih2 ih1 =>
    intro hab hb hs hl2 hB
    have s1 : PermIn a b d d1 := step_break d hab hb _
    have b1 : b ≤ d1.size := by rw [s1.1]; exact hb
    have s2 : PermIn a b d1 d2 := step_reverse reverseRange_holds d1 hab b1 _
    have b2 : b ≤ d2.size := by rw [s2.1]; exact b1
    have B2 : Below As a b d2 := (hB.perm hb s1).perm b1 s2
    have s3 := step_partial hpi hswo d2 (a := a) (b := b) (by omega) b2 B2 ((wb && wp && decide (hint = Hint.increasing)) = true)
    have s3' : PermIn a b d2 d3 := s3.1
    have b3 : b ≤ d3.size := by rw [s3'.1]; exact b2
    have B3 : Below As a b d3 := B2.perm b2 s3'
    have hc0 := choosePivot_holds As d1 a b (by omega)
    have hpv : a ≤ pivot ∧ pivot < b := pivot_range hc0.1 hc0.2 _
    obtain ⟨g1,g2,hs4,hBa,hBr,_,hright⟩ := round_part hswo hpt hpv.1 hpv.2 b3 B3 hx
    have hz : d4.size = d.size := by rw [hs4,s3'.1,s2.1,s1.1]
    have hlim : limit ≤ 1000 := by show (if (!wb) = true then limit0 - 1 else limit0) ≤ 1000; split <;> omega
    obtain ⟨l1,l2⟩ := hps hswo d4 (mid + 1) b limit true true (by omega) (by omega) hBr
    obtain ⟨hBL,hfin⟩ := hright _ l1 l2
    obtain ⟨n1,hn1⟩ := ih3 (by omega) (by omega) (by omega) hlim hBr
    obtain ⟨n2,hn2⟩ := ih1 g1 (by rw [l1.1]; omega) (by rw [l1.1]; omega) hlim hBL
    refine ⟨max (n1 + 1) n2, ?_⟩
    have hr1 : AW (max (n1 + 1) n2) d4.toList ((mid + 1 : Nat) : Int) (b : Int) (limit : Int) = some (pdq As d4 (mid + 1) b limit true true).toList := by
      obtain ⟨k,hk⟩ : ∃ k,max (n1 + 1) n2 = k + 1 := ⟨max (n1 + 1) n2 - 1,by omega⟩
      rw [hk]
      exact NB (show n1 ≤ k by omega) _ _ hn1
    rw [AH (s' := ((pdq As d4 (mid + 1) b limit true true).toList,(a : Int),(mid : Int),(limit : Int),decide (b - mid ≥ (b - a) / 8),ap)) (by
      rw [Tc (d1 := d1) (d2 := d2) (hint := hint) (pi := pi) (lim := limit) (pivot := pivot) h12 hl hl2 hb hs rfl rfl rfl rfl rfl rfl,if_neg hpi2,if_neg hc,hx,if_neg (fun h => hlt h.1),if_pos hg]
      simp only []
      rw [hr1,Option.bind_some])]
    exact NB (Nat.le_max_right _ _) _ _ hn2
  case case8 d a b limit wb wp h12 hl d1 c d2 pivot hint pi hpi2 d3 hc mid ap d4 hx hg =>
    intro hab hb hs hl2 hB
    have s1 : PermIn a b d d1 := step_break d hab hb _
    have b1 : b ≤ d1.size := by rw [s1.1]; exact hb
    have s2 : PermIn a b d1 d2 := step_reverse reverseRange_holds d1 hab b1 _
    have b2 : b ≤ d2.size := by rw [s2.1]; exact b1
    have B2 : Below As a b d2 := (hB.perm hb s1).perm b1 s2
    have s3 := step_partial hpi hswo d2 (a := a) (b := b) (by omega) b2 B2 ((wb && wp && decide (hint = Hint.increasing)) = true)
    have s3' : PermIn a b d2 d3 := s3.1
    have b3 : b ≤ d3.size := by rw [s3'.1]; exact b2
    have B3 : Below As a b d3 := B2.perm b2 s3'
    have hc0 := choosePivot_holds As d1 a b (by omega)
    have hpv : a ≤ pivot ∧ pivot < b := pivot_range hc0.1 hc0.2 _
    obtain ⟨g1,g2,_⟩ := round_part hswo hpt hpv.1 hpv.2 b3 B3 hx
    exact absurd ⟨g1,g2⟩ hg
theorem kC (hswo : SWO As) {L : List Int} (hL : L.length ≤ 1000000000) : ∃ L',DU L 0 (L.length : Int) ((bitsLen L.length : Nat) : Int) = some L' ∧ L'.Perm L ∧ L'.Pairwise (fun x y => As y x = false) := by
  have hz : L.toArray.size = L.length := by simp
  have hb : bitsLen L.length ≤ 1000 := Nat.le_trans ((bitsLen_le_iff L.length 30).2 (by rw [bI]; omega)) (by decide)
  obtain ⟨n,hn⟩ := qS hswo L.toArray 0 L.length (bitsLen L.length) true true (Nat.zero_le _) (by omega) (by omega) hb (Or.inl rfl)
  obtain ⟨p1,p2⟩ := pdq_sorts As hswo L.toArray 0 L.length (bitsLen L.length) true true (Nat.zero_le _) (by omega) (Or.inl rfl)
  generalize pdq As L.toArray 0 L.length (bitsLen L.length) true true = R at hn p1 p2
  have hR : R.size = L.length := by rw [p1.1,hz]
  refine ⟨R.toList, ?_, ?_, ?_⟩
  · unfold DU
    exact R7 (g := fun n => AW n L 0 (L.length : Int) ((bitsLen L.length : Nat) : Int)) (fun n r h => Vi n _ _ _ _ r h) (n := n + 1) hn
  · have h1 := p1.2.2
    rw [show R.extract 0 L.length = R by rw [← hR]; simp,show L.toArray.extract 0 L.length = L.toArray by rw [← hz]; simp] at h1
    exact h1
  · rw [List.pairwise_iff_getElem]
    intro i j hi hj hij
    have := p2 i j (Nat.zero_le _) hij (by simpa [hR] using hj)
    rw [getElem!_pos R i (by simpa using hi),getElem!_pos R j (by simpa using hj)] at this
    simpa using this
end
theorem Kp {L : List Int} (hs : L.Pairwise (· ≤ ·)) {i j : Nat} (hij : i ≤ j) (hj : j < L.length) : L[i]'(by omega) ≤ L[j] := by
  rcases Nat.lt_or_ge i j with h | h
  · exact List.pairwise_iff_getElem.1 hs i j (by omega) hj h
  · obtain rfl : i = j := by omega
    exact Int.le_refl _
theorem NL {L : List Int} {x : Int} {m : Nat} : x ∈ L.take m ↔ ∃ i, ∃ h : i < L.length,i < m ∧ L[i] = x := by
  constructor
  · intro h
    obtain ⟨i,hi,e⟩ := List.mem_iff_getElem.1 h
    rw [List.length_take] at hi
    exact ⟨i,by omega,by omega,by rw [← e,List.getElem_take]⟩
  · rintro ⟨i,h1,h2,e⟩
    exact List.mem_iff_getElem.2 ⟨i,by rw [List.length_take]; omega,by rw [List.getElem_take,e]⟩
theorem VI {L : List Int} (hl : L.length ≤ 1000000) (hs : L.Pairwise (· ≤ ·)) {k : Nat} (hk : k < L.length) :
    ∀ (d j q : Nat) (X : List Int),k + j + d = L.length → X.length = L.length → k ≤ q → q + 1 ≤ k + j → (∀ i,q ≤ i → X[i]? = L[i]?) → (X.take q).Pairwise (· < ·) → (∀ x,x ∈ X.take q ↔ x ∈ L.take (k + j)) → 1 ≤ j →
    ∃ (X' : List Int) (q' : Nat),Ac (B7 L (k : Int)) (X,(q : Int),(j : Int)) = some (X',(q' : Int)) ∧ X'.length = L.length ∧ q' ≤ L.length ∧ (X'.take q').Pairwise (· < ·) ∧ ∀ x,x ∈ X'.take q' ↔ x ∈ L := by
  intro d
  induction d with
  | zero =>
    intro j q X h1 h2 h3 h4 h5 h6 h7 h8
    refine ⟨X,q,Af ?_,h2,by omega,h6,fun x => by rw [h7 x,List.take_of_length_le (by omega)]⟩
    rw [B7,Nc (by omega),Option.bind_some,if_neg (by simp; omega)]
  | succ d ih =>
    intro j q X h1 h2 h3 h4 h5 h6 h7 h8
    have hkj : k + j < L.length := by omega
    have hdrop : (X.take ((L.length : Int)).toNat).drop ((k : Int)).toNat = X.drop k := by simp [← h2]
    have hx1 : ix (X.drop k) (j : Int) = some L[k + j] := Bh (by rw [List.getElem?_drop,h5 _ (by omega),List.getElem?_eq_getElem hkj])
    have hx2 : ix (X.drop k) ((j - 1 : Nat) : Int) = some (L[k + (j - 1)]'(by omega)) := Bh (by rw [List.getElem?_drop,h5 _ (by omega),List.getElem?_eq_getElem (by omega)])
    have hq : ix X (q : Int) = some (X[q]'(by omega)) := Bh (List.getElem?_eq_getElem _)
    have hstep := Kp hs (show k + (j - 1) ≤ k + j by omega) hkj
    have hhead : B7 L (k : Int) (X,(q : Int),(j : Int)) = (if L[k + j] ≠ L[k + (j - 1)]'(by omega) then some (.inl (Ak X (q : Int) L[k + j],((q + 1 : Nat) : Int),((j + 1 : Nat) : Int))) else some (.inl (X,(q : Int),((j + 1 : Nat) : Int)))) := by
      rw [B7,Nc (by omega),Option.bind_some,hdrop,if_pos (by simp; omega),Ab (x := (j : Int) - 1) (by omega),show (j : Int) - 1 = ((j - 1 : Nat) : Int) by omega,hx1,Option.bind_some,hx2,Option.bind_some]
      by_cases c : L[k + j] ≠ L[k + (j - 1)]'(by omega)
      · rw [if_pos c,if_pos c,Option.bind_some,hq,Option.bind_some,Option.bind_some,Ab (by omega),Ab (by omega)]; rfl
      · rw [if_neg c,if_neg c,Option.bind_some,Ab (by omega)]; rfl
    by_cases c : L[k + j] ≠ L[k + (j - 1)]'(by omega)
    · rw [AH (by rw [hhead,if_pos c])]
      have hset : Ak X (q : Int) L[k + j] = X.set q L[k + j] := by unfold Ak; simp
      have htake : (X.set q L[k + j]).take (q + 1) = X.take q ++ [L[k + j]] := by
        rw [List.take_succ_eq_append_getElem (by simp; omega),List.getElem_set_self,List.take_set_of_le (Nat.le_refl _)]
      rw [hset]
      refine ih (j + 1) (q + 1) _ (by omega) (by simp [h2]) (by omega) (by omega) (fun i hi => ?_) ?_ (fun x => ?_) (by omega)
      · rw [List.getElem?_set_ne (by omega)]; exact h5 i (by omega)
      · rw [htake,List.pairwise_append]
        refine ⟨h6,List.pairwise_singleton _ _,fun a ha b hb => ?_⟩
        rw [List.mem_singleton.1 hb]
        obtain ⟨i,i1,i2,i3⟩ := NL.1 ((h7 a).1 ha)
        have := Kp hs (show i ≤ k + (j - 1) by omega) (by omega)
        omega
      · rw [htake,List.mem_append,List.mem_singleton,h7 x,show k + (j + 1) = (k + j) + 1 by omega,List.take_succ_eq_append_getElem hkj,List.mem_append,List.mem_singleton]
    · rw [AH (by rw [hhead,if_neg c])]
      refine ih (j + 1) q X (by omega) h2 h3 (by omega) h5 h6 (fun x => ?_) (by omega)
      rw [h7 x,show k + (j + 1) = (k + j) + 1 by omega,List.take_succ_eq_append_getElem hkj,List.mem_append,List.mem_singleton]
      constructor
      · exact .inl
      · rintro (h | h)
        · exact h
        · rw [h,Decidable.not_not.1 c]
          exact NL.2 ⟨k + (j - 1),by omega,by omega,rfl⟩
theorem QR {L : List Int} (hl : L.length ≤ 1000000) (hs : L.Pairwise (· ≤ ·)) : ∃ R,Ca L = some R ∧ R.Pairwise (· < ·) ∧ ∀ x,x ∈ R ↔ x ∈ L := by
  unfold Ca
  by_cases c : L.length < 2
  · rw [if_pos (by omega)]
    refine ⟨L,rfl, ?_,fun _ => Iff.rfl⟩
    match L,c with
    | [],_ => exact List.Pairwise.nil
    | [a],_ => exact List.pairwise_singleton _ _
  · rw [if_neg (by omega)]
    have key : ∀ (d k : Nat),k + d = L.length → 1 ≤ k → (L.take k).Pairwise (· < ·) → ∃ R,Hc (Ac (BF L) (k : Int)) (fun _ => some L) = some R ∧ R.Pairwise (· < ·) ∧ ∀ x,x ∈ R ↔ x ∈ L := by
      intro d
      induction d with
      | zero =>
        intro k hk h1 hp
        rw [List.take_of_length_le (by omega)] at hp
        exact ⟨L,by rw [Af (by rw [BF,if_neg (by omega)])]; rfl,hp,fun _ => Iff.rfl⟩
      | succ d ih =>
        intro k hk h1 hp
        have hkl : k < L.length := by omega
        have hx1 : ix L (k : Int) = some L[k] := Bh (List.getElem?_eq_getElem hkl)
        have hx2 : ix L ((k - 1 : Nat) : Int) = some (L[k - 1]'(by omega)) := Bh (List.getElem?_eq_getElem (by omega))
        have e1 : Ae ((k : Int) - 1) = ((k - 1 : Nat) : Int) := by rw [Ab (by omega)]; omega
        by_cases c2 : L[k] = L[k - 1]'(by omega)
        · obtain ⟨X,q,a1,a2,a3,a4,a5⟩ := VI hl hs hkl (L.length - (k + 1)) 1 k L (by omega) rfl (Nat.le_refl _) (Nat.le_refl _) (fun _ _ => rfl) hp (fun x => by
            rw [List.take_succ_eq_append_getElem hkl,List.mem_append,List.mem_singleton]
            constructor
            · exact .inl
            · rintro (h | h)
              · exact h
              · rw [h,c2]; exact NL.2 ⟨k - 1,by omega,by omega,rfl⟩) (Nat.le_refl _)
          refine ⟨X.take q, ?_,a4,a5⟩
          have hst : BF L (k : Int) = some (.inr (.inr (X.take q))) := by
            rw [BF,if_pos (by omega),hx1,Option.bind_some,e1,hx2,Option.bind_some,if_pos c2,Nc (by omega),Option.bind_some,show Ac (B7 L (k : Int)) (L,(k : Int),1) = some (X,(q : Int)) from a1,Option.bind_some]
            simp only []
            rw [Nc (by omega),Option.bind_some]
            have hd : ((X.take ((X.length : Int)).toNat).drop ((q : Int)).toNat).length = X.length - q := by simp
            rw [hd]
            have hspl : nN X (q : Int) (List.replicate (X.length - q) (0 : Int)) = some (X.take q ++ List.replicate (X.length - q) 0 ++ X.drop (q + (X.length - q))) := by
              unfold nN
              rw [if_pos (by simp; omega)]; simp
            rw [hspl,Option.bind_some,Nc (by simp; omega),Option.bind_some]
            have ht : ((X.take q ++ List.replicate (X.length - q) (0 : Int) ++ X.drop (q + (X.length - q))).take ((q : Int)).toNat).drop ((0 : Int)).toNat = X.take q := by
              rw [Int.toNat_natCast]
              show List.drop 0 _ = _
              rw [List.drop_zero,List.append_assoc,List.take_append_of_le_length (by simp; omega),List.take_take,Nat.min_self]
            rw [ht]; rfl
          rw [Af hst]; rfl
        · have hst : BF L (k : Int) = some (.inl ((k + 1 : Nat) : Int)) := by
            rw [BF,if_pos (by omega),hx1,Option.bind_some,e1,hx2,Option.bind_some,if_neg c2,Ab (by omega)]; rfl
          rw [AH hst]
          refine ih (k + 1) (by omega) (by omega) ?_
          rw [List.take_succ_eq_append_getElem hkl,List.pairwise_append]
          refine ⟨hp,List.pairwise_singleton _ _,fun a ha b hb => ?_⟩
          rw [List.mem_singleton.1 hb]
          obtain ⟨i,i1,i2,i3⟩ := NL.1 ha
          have h2 := Kp hs (show i ≤ k - 1 by omega) (by omega)
          have h3 := Kp hs (show k - 1 ≤ k by omega) hkl
          omega
    exact key (L.length - 1) 1 (by omega) (Nat.le_refl _) (by
      cases L with
      | nil => exact absurd (by simp) c
      | cons a l => exact List.pairwise_singleton _ _)
theorem UO : ∀ {A B : List Int},A.Pairwise (· < ·) → B.Pairwise (· < ·) → (∀ x,x ∈ A ↔ x ∈ B) → A = B
  | [],[],_,_,_ => rfl
  | [],b :: B,_,_,h => by have := (h b).2 (List.mem_cons_self ..); cases this
  | a :: A,[],_,_,h => by have := (h a).1 (List.mem_cons_self ..); cases this
  | a :: A,b :: B,ha,hb,h => by
    rw [List.pairwise_cons] at ha hb
    have hab : a = b := by
      have h1 := (h a).1 (List.mem_cons_self ..)
      have h2 := (h b).2 (List.mem_cons_self ..)
      rcases List.mem_cons.1 h1 with e | e
      · exact e
      · rcases List.mem_cons.1 h2 with e2 | e2
        · exact e2.symm
        · have := ha.1 b e2
          have := hb.1 a e
          omega
    subst hab
    rw [UO ha.2 hb.2 fun x => ?_]
    constructor
    · intro hx
      rcases List.mem_cons.1 ((h x).1 (List.mem_cons_of_mem _ hx)) with e | e
      · have := ha.1 x hx; omega
      · exact e
    · intro hx
      rcases List.mem_cons.1 ((h x).2 (List.mem_cons_of_mem _ hx)) with e | e
      · have := hb.1 x hx; omega
      · exact e
theorem mJ : Go.Sort.SWO As := by
  constructor <;> intros <;> simp_all [As] <;> omega
theorem Xm {L : List Int} (hL : L.length ≤ 1000000000) : ∃ L',DH L = some L' ∧ L'.Perm L ∧ L'.Pairwise (· ≤ ·) := by
  obtain ⟨L',h1,h2,h3⟩ := kC mJ hL
  refine ⟨L', ?_,h2,h3.imp fun {x y} h => by unfold As at h; simp at h; omega⟩
  unfold DH
  rw [VC hL,Option.bind_some,h1]; rfl
end Go.Proofs.YtgoifghhcekahaaGreatDoor
