/- Layer 31: the sort. Conditions: none. -/
import Derived.Test.YtkhiflmalgkjiaaGreateMR
import Derived.Test.YtkhiflmalgkjiaaGreateNSH
set_option linter.unusedVariables false
set_option linter.unusedSimpArgs false
open Go Go.RowKit
namespace Go.Proofs.YtkhiflmalgkjiaaGreat
open Go.Sort in
theorem RE {n : Nat} (k : Nat) (h : 0 < n / 2 ^ k) : bitsLen n = bitsLen (n / 2 ^ k) + k := by
  have hk : k ≤ bitsLen n := by
    refine Classical.byContradiction fun hn => ?_
    have h1 : n < 2 ^ k := (bitsLen_le_iff n k).1 (by omega)
    rw [Nat.div_eq_of_lt h1] at h; omega
  refine Nat.le_antisymm ((bitsLen_le_iff n _).2 ?_) ?_
  · have h1 := lt_two_pow_bitsLen (n / 2 ^ k)
    rw [Nat.pow_add]
    exact (Nat.div_lt_iff_lt_mul (Nat.two_pow_pos k)).1 h1
  · have h1 : bitsLen (n / 2 ^ k) ≤ bitsLen n - k := by
      refine (bitsLen_le_iff _ _).2 ?_
      rw [Nat.div_lt_iff_lt_mul (Nat.two_pow_pos k), ← Nat.pow_add,Nat.sub_add_cancel hk]
      exact lt_two_pow_bitsLen n
    omega
def P0 : List UInt8 := [0,1,2,2,3,3,3,3,4,4,4,4,4,4,4,4,5,5,5,5,5,5,5,5,5,5,5,5,5,5,5,5,6,6,6,6,6,6,6,6,6,6,6,6,6,6,6,6,6,6,6,6,6,6,6,6,6,6,6,6,6,6,6,6,7,7,7,7,7,7,7,7,7,7,7,7,7,7,7,7,7,7,7,7,7,7,7,7,7,7,7,7,7,7,7,7,7,7,7,7,7,7,7,7,7,7,7,7,7,7,7,7,7,7,7,7,7,7,7,7,7,7,7,7,7,7,7,7,8,8,8,8,8,8,8,8,8,8,8,8,8,8,8,8,8,8,8,8,8,8,8,8,8,8,8,8,8,8,8,8,8,8,8,8,8,8,8,8,8,8,8,8,8,8,8,8,8,8,8,8,8,8,8,8,8,8,8,8,8,8,8,8,8,8,8,8,8,8,8,8,8,8,8,8,8,8,8,8,8,8,8,8,8,8,8,8,8,8,8,8,8,8,8,8,8,8,8,8,8,8,8,8,8,8,8,8,8,8,8,8,8,8,8,8,8,8,8,8,8,8,8,8,8,8,8,8]
set_option maxRecDepth 100000 in
open Go.Sort in
theorem iW {n : Nat} (h : n < 256) : ∃ c : UInt8,ix P0 (n : Int) = some c ∧ c.toNat = bitsLen n := by
  have key : ∀ n : Fin 256,(P0.getD n.val 0).toNat = bitsLen n.val := by decide +kernel
  have hlen : P0.length = 256 := by decide +kernel
  have := key ⟨n,h⟩
  refine ⟨P0[n]'(by omega),A5 (List.getElem?_eq_getElem _), ?_⟩
  rw [List.getD_eq_getElem?_getD,List.getElem?_eq_getElem (by show n < P0.length; omega)] at this
  exact this
theorem mQ : (2 : Nat) ^ 30 = 1073741824 := by decide
set_option maxRecDepth 100000 in
open Go.Sort in
theorem XS {n : Nat} (h : n ≤ 1000000000) : Hg (IntKind.u64.wrap (n : Int)) = some ((bitsLen n : Nat) : Int) := by
  rw [cL (by omega)]
  unfold Hg I6
  rw [if_neg (by omega),Option.bind_some]
  simp only []
  have fin : ∀ (m : Nat) (s : Nat),m < 65536 → s ≤ 16 → (if (256 : Int) ≤ (m : Int) then some (Ms .u64 (m : Int) 8,w64 ((s : Int) + 8)) else some ((m : Int),(s : Int))) = some (((if 256 ≤ m then m / 256 else m : Nat) : Int),((if 256 ≤ m then s + 8 else s : Nat) : Int)) := fun m s hm hs => by
    by_cases c : 256 ≤ m
    · rw [if_pos (by omega),if_pos c,if_pos c,Ad (by omega),show Ms .u64 (m : Int) 8 = ((m / 256 : Nat) : Int) from fT (x := m) 8 256 (by decide) (by decide)]; rfl
    · rw [if_neg (by omega),if_neg c,if_neg c]
  have hfirst : (if (65536 : Int) ≤ (n : Int) then some (Ms .u64 (n : Int) 16,w64 ((0 : Int) + 16)) else some ((n : Int),(0 : Int))) = some (((if 65536 ≤ n then n / 65536 else n : Nat) : Int),((if 65536 ≤ n then 16 else 0 : Nat) : Int)) := by
    by_cases c : 65536 ≤ n
    · rw [if_pos (by omega),if_pos c,if_pos c,Ad (by omega),show Ms .u64 (n : Int) 16 = ((n / 65536 : Nat) : Int) from fT (x := n) 16 65536 (by decide) (by decide)]; rfl
    · rw [if_neg (by omega),if_neg c,if_neg c]; rfl
  have hbits : bitsLen n = bitsLen (if 65536 ≤ n then n / 65536 else n) + (if 65536 ≤ n then 16 else 0) := by
    by_cases c : 65536 ≤ n
    · rw [if_pos c,if_pos c]; exact RE (n := n) 16 (by show 0 < n / 65536; omega)
    · rw [if_neg c,if_neg c]; rfl
  rw [hfirst,Option.bind_some,hbits]
  simp only []
  have hm1 : (if 65536 ≤ n then n / 65536 else n) < 65536 := by split <;> omega
  have hs1 : (if 65536 ≤ n then 16 else 0) ≤ 16 := by split <;> omega
  generalize (if 65536 ≤ n then n / 65536 else n) = m at hm1 ⊢
  generalize (if 65536 ≤ n then 16 else 0) = s at hs1 ⊢
  rw [fin m s hm1 hs1,Option.bind_some]
  simp only []
  have hbits2 : bitsLen m + s = bitsLen (if 256 ≤ m then m / 256 else m) + (if 256 ≤ m then s + 8 else s) := by
    by_cases c : 256 ≤ m
    · rw [if_pos c,if_pos c,RE (n := m) 8 (by show 0 < m / 256; omega),show m / 2 ^ 8 = m / 256 from rfl]; omega
    · rw [if_neg c,if_neg c]
  rw [hbits2]
  have hm2 : (if 256 ≤ m then m / 256 else m) < 256 := by split <;> omega
  have hs2 : (if 256 ≤ m then s + 8 else s) ≤ 24 := by split <;> omega
  generalize (if 256 ≤ m then m / 256 else m) = k at hm2 ⊢
  generalize (if 256 ≤ m then s + 8 else s) = u at hs2 ⊢
  obtain ⟨c,h1,h2⟩ := iW hm2
  have hk8 : IntKind.u8.wrap (k : Int) = (k : Int) := by rw [wu8]; omega
  have hb8 : bitsLen k ≤ 8 := (bitsLen_le_iff k 8).2 (by show k < 256; omega)
  rw [hk8]
  show ((ix P0 (k : Int)).bind _).bind _ = _
  rw [h1,Option.bind_some,h2,Ad (x := ((bitsLen k : Nat) : Int)) (by omega),Ad (by omega),Option.bind_some]
  congr 1; omega
open Go.Sort in
theorem pD {n : Nat} (h : n ≤ 1000000000) : DV (n : Int) = some ((1 <<< bitsLen n : Nat) : Int) := by
  unfold DV
  rw [XS h,Option.bind_some]
  have hb : bitsLen n ≤ 30 := (bitsLen_le_iff n 30).2 (by rw [mQ]; omega)
  have h1 : JW .u64 1 ((bitsLen n : Nat) : Int) = ((1 * 2 ^ bitsLen n % 18446744073709551616 : Nat) : Int) := cM (x := 1) (bitsLen n) (2 ^ bitsLen n) (by omega) rfl
  have h2 : 2 ^ bitsLen n ≤ 2 ^ 30 := Nat.pow_le_pow_right (by decide) hb
  have h3 : (2 : Nat) ^ 30 = 1073741824 := by decide
  rw [h1,oV (Int.natCast_nonneg _),Option.bind_some,Nat.one_shiftLeft,Nat.one_mul,Nat.mod_eq_of_lt (by omega)]
section
open Go.Sort
theorem eW {g g' : List (Int × Int × Int × Int × Int) → Int → Int → Int → Option (List (Int × Int × Int × Int × Int))} (h : ∀ a b c d r,g a b c d = some r → g' a b c d = some r) : ∀ s r,Ae g s = some r → Ae g' s = some r := by
  rintro ⟨x1,x2,x3,x4,x5,x6⟩
  show OB (Ae g (x1,x2,x3,x4,x5,x6)) (Ae g' (x1,x2,x3,x4,x5,x6))
  unfold Ae
  repeat' (first | refine OB.orR' ?_ ?_ | refine OB.bind' ?_ ?_ | refine OB.ite' ?_ ?_ | exact h _ _ _ _ | exact OB.rfl' _ | (refine OB.pi2 ?_; intro _) | intro _)
theorem Xh : ∀ (n : Nat) (a : List (Int × Int × Int × Int × Int)) (b c d : Int) (r : List (Int × Int × Int × Int × Int)),Ay n a b c d = some r → Ay (n + 1) a b c d = some r := by
  intro n
  induction n with
  | zero => intro a b c d r h; cases h
  | succ n ih =>
    intro a b c d r h
    exact OB.loop (eW ih) _ r h
theorem Pf {n m : Nat} (hnm : n ≤ m) (s) (r) (h : Ah (Ae (Ay n)) s = some r) : Ah (Ae (Ay m)) s = some r := by
  induction hnm with
  | refl => exact h
  | step _ ih => exact OB.loop (eW (Xh _)) s r ih
theorem UP {g : List (Int × Int × Int × Int × Int) → Int → Int → Int → Option (List (Int × Int × Int × Int × Int))} {d : Array (Int × Int × Int × Int × Int)} {a b l : Nat} {wb wp : Bool} {d1 d2 : Array (Int × Int × Int × Int × Int)} {lim pivot : Nat} {hint : Hint} {pi : Array (Int × Int × Int × Int × Int) × Bool}
    (h12 : ¬ b - a ≤ 12) (hl : ¬ l = 0) (hl2 : l ≤ 1000) (hb : b ≤ d.size) (hs : d.size ≤ 1000000000)
    (e1 : d1 = if (!wb) = true then breakPatterns d a b else d) (e2 : lim = if (!wb) = true then l - 1 else l)
    (e3 : d2 = if (choosePivot Aw d1 a b).2 = .decreasing then reverseRange d1 a b else d1)
    (e4 : pivot = if (choosePivot Aw d1 a b).2 = .decreasing then (b - 1) - ((choosePivot Aw d1 a b).1 - a) else (choosePivot Aw d1 a b).1)
    (e5 : hint = if (choosePivot Aw d1 a b).2 = .decreasing then Hint.increasing else (choosePivot Aw d1 a b).2)
    (e6 : pi = if (wb && wp && decide (hint = .increasing)) = true then partialInsertionSort Aw d2 a b else (d2,false)) :
    Ae g (d.toList,(a : Int),(b : Int),(l : Int),wb,wp) =
      if pi.2 = true then some (.inr pi.1.toList) else
      if (decide (a > 0) && !Aw pi.1[a - 1]! pi.1[pivot]!) = true then some (.inl ((partitionEqual Aw pi.1 a b pivot).2.toList,((partitionEqual Aw pi.1 a b pivot).1 : Int),(b : Int),(lim : Int),wb,wp)) else
      if (partition Aw pi.1 a b pivot).1 - a < b - (partition Aw pi.1 a b pivot).1 ∧ a ≤ (partition Aw pi.1 a b pivot).1 ∧ (partition Aw pi.1 a b pivot).1 < b then
        (g (partition Aw pi.1 a b pivot).2.2.toList (a : Int) ((partition Aw pi.1 a b pivot).1 : Int) (lim : Int)).bind fun x => some (.inl (x,(((partition Aw pi.1 a b pivot).1 + 1 : Nat) : Int),(b : Int),(lim : Int),decide ((partition Aw pi.1 a b pivot).1 - a ≥ (b - a) / 8),(partition Aw pi.1 a b pivot).2.1))
      else if a ≤ (partition Aw pi.1 a b pivot).1 ∧ (partition Aw pi.1 a b pivot).1 < b then
        (g (partition Aw pi.1 a b pivot).2.2.toList (((partition Aw pi.1 a b pivot).1 + 1 : Nat) : Int) (b : Int) (lim : Int)).bind fun x => some (.inl (x,(a : Int),((partition Aw pi.1 a b pivot).1 : Int),(lim : Int),decide (b - (partition Aw pi.1 a b pivot).1 ≥ (b - a) / 8),(partition Aw pi.1 a b pivot).2.1))
      else Ae g (d.toList,(a : Int),(b : Int),(l : Int),wb,wp) := by
  have q1 : w64 ((b : Int) - (a : Int)) = ((b - a : Nat) : Int) := by rw [Ad (by omega)]; omega
  have q8 : w64 (Int.tdiv ((b - a : Nat) : Int) 8) = (((b - a) / 8 : Nat) : Int) := by rw [Int.tdiv_eq_ediv_of_nonneg (by omega),Ad (by omega)]; omega
  have hbp := Aaj d a b (by omega) hb hs (pD (by omega))
  have h1 : (if (!wb) = true then (A6 d.toList (a : Int) (b : Int)).bind fun x11 => some (x11,w64 ((l : Int) - 1)) else some (d.toList,(l : Int))) = some (d1.toList,(lim : Int)) := by
    by_cases c : (!wb) = true
    · rw [if_pos c,hbp.1,Option.bind_some,e1,e2,if_pos c,if_pos c,Ad (by omega)]
      congr 2; omega
    · rw [if_neg c,e1,e2,if_neg c,if_neg c]
  have z1 : d1.size = d.size := by
    rw [e1]
    split
    · exact hbp.2
    · rfl
  have hcp := zO d1 a b (by omega) (by omega) (by omega)
  have hcr := choosePivot_holds Aw d1 a b (by omega)
  have hrev := uI d1 a b (by omega) (by omega) (by omega)
  have hrz : (reverseRange d1 a b).size = d1.size := (reverseRange_holds d1 a b (by omega) (by omega)).1
  generalize choosePivot Aw d1 a b = cp at hcp hcr e3 e4 e5
  have h2 : (if MW cp.2 = 2 then (Bb d1.toList (a : Int) (b : Int)).bind fun x16 => some (x16,w64 ((w64 ((b : Int) - 1)) - (w64 ((cp.1 : Int) - (a : Int)))),(1 : Int)) else some (d1.toList,(cp.1 : Int),MW cp.2)) = some (d2.toList,(pivot : Int),MW hint) := by
    have hd : MW cp.2 = 2 ↔ cp.2 = .decreasing := by cases cp.2 <;> decide
    by_cases c : cp.2 = .decreasing
    · rw [if_pos (hd.2 c),hrev,Option.bind_some,e3,e4,e5,if_pos c,if_pos c,if_pos c,Ad (x := (b : Int) - 1) (by omega),Ad (x := (cp.1 : Int) - (a : Int)) (by omega),Ad (by omega)]
      congr 3; omega
    · rw [if_neg (fun h => c (hd.1 h)),e3,e4,e5,if_neg c,if_neg c,if_neg c]
  have hpv : a ≤ pivot ∧ pivot < b := by rw [e4]; split <;> omega
  have z2 : d2.size = d.size := by
    rw [e3]
    split
    · omega
    · exact z1
  have hpis := wV d2 a b (by omega) (by omega) (by omega)
  have h3 : (if (wb && (wp && decide (MW hint = 1))) = true then (AO d2.toList (a : Int) (b : Int)).bind fun x18 => (if x18.1 = true then some (.inr (.inr x18.2)) else some (.inl x18.2)) else some (.inl d2.toList)) = some (if pi.2 = true then .inr (.inr pi.1.toList) else (.inl pi.1.toList : List (Int × Int × Int × Int × Int) ⊕ ((List (Int × Int × Int × Int × Int) × Int × Int × Int × Bool × Bool) ⊕ List (Int × Int × Int × Int × Int)))) := by
    have hh : (wb && (wp && decide (MW hint = 1))) = (wb && wp && decide (hint = .increasing)) := by
      rw [Bool.and_assoc]
      congr 2
      exact decide_eq_decide.2 (by cases hint <;> decide)
    rw [hh]
    by_cases c : (wb && wp && decide (hint = .increasing)) = true
    · rw [if_pos c,hpis.1,Option.bind_some,e6,if_pos c]
      split <;> rfl
    · rw [if_neg c,e6,if_neg c]; rfl
  have z3 : pi.1.size = d.size := by
    rw [e6]
    split
    · omega
    · exact z2
  have hstep : Ae g (d.toList,(a : Int),(b : Int),(l : Int),wb,wp) = (if pi.2 = true then some (.inr pi.1.toList) else
      if (decide (a > 0) && !Aw pi.1[a - 1]! pi.1[pivot]!) = true then some (.inl ((partitionEqual Aw pi.1 a b pivot).2.toList,((partitionEqual Aw pi.1 a b pivot).1 : Int),(b : Int),(lim : Int),wb,wp)) else
      if w64 (((partition Aw pi.1 a b pivot).1 : Int) - (a : Int)) < w64 ((b : Int) - ((partition Aw pi.1 a b pivot).1 : Int)) then
        (g (partition Aw pi.1 a b pivot).2.2.toList (a : Int) ((partition Aw pi.1 a b pivot).1 : Int) (lim : Int)).bind fun x => some (.inl (x,w64 (((partition Aw pi.1 a b pivot).1 : Int) + 1),(b : Int),(lim : Int),decide ((((b - a) / 8 : Nat) : Int) ≤ w64 (((partition Aw pi.1 a b pivot).1 : Int) - (a : Int))),(partition Aw pi.1 a b pivot).2.1))
      else (g (partition Aw pi.1 a b pivot).2.2.toList (w64 (((partition Aw pi.1 a b pivot).1 : Int) + 1)) (b : Int) (lim : Int)).bind fun x => some (.inl (x,(a : Int),((partition Aw pi.1 a b pivot).1 : Int),(lim : Int),decide ((((b - a) / 8 : Nat) : Int) ≤ w64 ((b : Int) - ((partition Aw pi.1 a b pivot).1 : Int))),(partition Aw pi.1 a b pivot).2.1))) := by
    rw [Ae,q1,if_neg (by omega),if_neg (by omega),h1,Option.bind_some]
    simp only []
    rw [hcp,Option.bind_some]
    simp only []
    rw [h2,Option.bind_some]
    simp only []
    rw [h3]
    by_cases c : pi.2 = true
    · rw [if_pos c,if_pos c]; rfl
    · rw [if_neg c,if_neg c]
      show (Option.bind _ _) = _
      have hcond : (if (0 : Int) < (a : Int) then (ix pi.1.toList (w64 ((a : Int) - 1))).bind fun x20 => (ix pi.1.toList (pivot : Int)).bind fun x21 => some (!Aw x20 x21) else some false) = some (decide (a > 0) && !Aw pi.1[a - 1]! pi.1[pivot]!) := by
        by_cases c0 : 0 < a
        · rw [if_pos (by omega),cI c0 (by omega),Hx (by omega),Option.bind_some,Hx (by omega),Option.bind_some,decide_eq_true c0,Bool.true_and]
        · rw [if_neg (by omega),decide_eq_false c0]; rfl
      simp only [HP,T2,Bool.decide_eq_true,hcond,Option.bind_some,q8]
      by_cases c2 : (decide (a > 0) && !Aw pi.1[a - 1]! pi.1[pivot]!) = true
      · rw [if_pos c2,if_pos c2,vT pi.1 a b pivot hpv.1 hpv.2 (by omega) (by omega) (by omega),Option.bind_some]
        cases wb <;> cases wp <;> rfl
      · rw [if_neg c2,if_neg c2,qU pi.1 a b pivot hpv.1 hpv.2 (by omega) (by omega) (by omega),Option.bind_some]
  rw [hstep]
  by_cases c : pi.2 = true
  · rw [if_pos c,if_pos c]
  rw [if_neg c,if_neg c]
  by_cases c2 : (decide (a > 0) && !Aw pi.1[a - 1]! pi.1[pivot]!) = true
  · rw [if_pos c2,if_pos c2]
  rw [if_neg c2,if_neg c2]
  generalize hr : partition Aw pi.1 a b pivot = r
  by_cases c3 : a ≤ r.1 ∧ r.1 < b
  · rw [Ad (x := (r.1 : Int) - (a : Int)) (by omega),Ad (x := (b : Int) - (r.1 : Int)) (by omega),iH (by omega)]
    by_cases c4 : r.1 - a < b - r.1
    · rw [if_pos (by omega),if_pos ⟨c4,c3⟩]
      congr 1; funext x
      rw [show decide ((((b - a) / 8 : Nat) : Int) ≤ (r.1 : Int) - (a : Int)) = decide (r.1 - a ≥ (b - a) / 8) from decide_eq_decide.2 (by omega)]
    · rw [if_neg (by omega),if_neg (fun h => c4 h.1),if_pos c3]
      congr 1; funext x
      rw [show decide ((((b - a) / 8 : Nat) : Int) ≤ (b : Int) - (r.1 : Int)) = decide (b - r.1 ≥ (b - a) / 8) from decide_eq_decide.2 (by omega)]
  · rw [if_neg (show ¬ (r.1 - a < b - r.1 ∧ a ≤ r.1 ∧ r.1 < b) from fun h => c3 h.2),if_neg c3]
    first | done | (rw [if_neg c,if_neg c2,hr]; done) | (rw [if_neg c,if_neg c2]; done) | (rw [if_neg c]; done)
theorem tF (hswo : SWO Aw) (d : Array (Int × Int × Int × Int × Int)) (a b limit : Nat) (wb wp : Bool) : a ≤ b → b ≤ d.size → d.size ≤ 1000000000 → limit ≤ 1000 → Below Aw a b d → ∃ n,Ah (Ae (Ay n)) (d.toList,(a : Int),(b : Int),(limit : Int),wb,wp) = some (pdq Aw d a b limit wb wp).toList := by
  have hpi := @partialInsertionSort_holds _ _ Aw
  have hpt := partition_holds Aw
  have hpe := partitionEqual_holds Aw
  have hps := pdq_sorts Aw
  fun_induction pdq Aw d a b limit wb wp
  case case1 d a b limit wb wp h12 =>
    intro hab hb hs hl _
    exact ⟨0,Ak (by rw [Ae,Ad (by omega),if_pos (by omega),uU d a b hb hs hab,Option.bind_some])⟩
  case case2 d a b wb wp h12 =>
    intro hab hb hs hl _
    exact ⟨0,Ak (by rw [Ae,Ad (by omega),if_neg (by omega),if_pos (by rfl),nS d a b hb hs (by omega),Option.bind_some])⟩
  case case3 d a b limit wb wp h12 hl d1 c d2 hint pi hpi2 =>
    intro hab hb hs hl2 hB
    refine ⟨0,Ak ?_⟩
    rw [UP (d1 := d1) (d2 := d2) (hint := hint) (pi := pi) (lim := if (!wb) = true then limit - 1 else limit) (pivot := if c.2 = .decreasing then (b - 1) - (c.1 - a) else c.1) h12 hl hl2 hb hs rfl rfl rfl rfl rfl rfl,if_pos hpi2]
  case case4 d a b limit0 wb wp h12 hl d1 limit c d2 pivot hint pi hpi2 d3 hc mid d4 hx hg ih1 =>
    intro hab hb hs hl2 hB
    have s1 : PermIn a b d d1 := step_break d hab hb _
    have b1 : b ≤ d1.size := by rw [s1.1]; exact hb
    have s2 : PermIn a b d1 d2 := step_reverse reverseRange_holds d1 hab b1 _
    have b2 : b ≤ d2.size := by rw [s2.1]; exact b1
    have B2 : Below Aw a b d2 := (hB.perm hb s1).perm b1 s2
    have s3 := step_partial hpi hswo d2 (a := a) (b := b) (by omega) b2 B2 ((wb && wp && decide (hint = Hint.increasing)) = true)
    have s3' : PermIn a b d2 d3 := s3.1
    have b3 : b ≤ d3.size := by rw [s3'.1]; exact b2
    have B3 : Below Aw a b d3 := B2.perm b2 s3'
    have hc0 := choosePivot_holds Aw d1 a b (by omega)
    have hpv : a ≤ pivot ∧ pivot < b := pivot_range hc0.1 hc0.2 _
    have hcc := hc
    simp only [Bool.and_eq_true,decide_eq_true_eq,Bool.not_eq_true'] at hcc
    obtain ⟨_,hm2,hs4,hB4,hfin⟩ := round_eq hswo hpe hcc.1 hpv.1 hpv.2 b3 B3 hcc.2 hx
    have hz : d4.size = d.size := by rw [hs4,s3'.1,s2.1,s1.1]
    obtain ⟨n,hn⟩ := ih1 hm2 (by omega) (by omega) (by show (if (!wb) = true then limit0 - 1 else limit0) ≤ 1000; split <;> omega) hB4
    refine ⟨n, ?_⟩
    rw [A4 (s' := (d4.toList,(mid : Int),(b : Int),(limit : Int),wb,wp)) (by
      rw [UP (d1 := d1) (d2 := d2) (hint := hint) (pi := pi) (lim := limit) (pivot := pivot) h12 hl hl2 hb hs rfl rfl rfl rfl rfl rfl,if_neg hpi2,if_pos hc,hx])]
    exact hn
  case case5 d a b limit wb wp h12 hl d1 c d2 pivot hint pi hpi2 d3 hc mid d4 hx hg =>
    intro hab hb hs hl2 hB
    have s1 : PermIn a b d d1 := step_break d hab hb _
    have b1 : b ≤ d1.size := by rw [s1.1]; exact hb
    have s2 : PermIn a b d1 d2 := step_reverse reverseRange_holds d1 hab b1 _
    have b2 : b ≤ d2.size := by rw [s2.1]; exact b1
    have B2 : Below Aw a b d2 := (hB.perm hb s1).perm b1 s2
    have s3 := step_partial hpi hswo d2 (a := a) (b := b) (by omega) b2 B2 ((wb && wp && decide (hint = Hint.increasing)) = true)
    have s3' : PermIn a b d2 d3 := s3.1
    have b3 : b ≤ d3.size := by rw [s3'.1]; exact b2
    have B3 : Below Aw a b d3 := B2.perm b2 s3'
    have hc0 := choosePivot_holds Aw d1 a b (by omega)
    have hpv : a ≤ pivot ∧ pivot < b := pivot_range hc0.1 hc0.2 _
    simp only [Bool.and_eq_true,decide_eq_true_eq,Bool.not_eq_true'] at hc
    obtain ⟨g1,g2,_⟩ := round_eq hswo hpe hc.1 hpv.1 hpv.2 b3 B3 hc.2 hx
    exact absurd ⟨g1,g2⟩ hg
  case case6 d a b limit0 wb wp h12 hl d1 limit c d2 pivot hint pi hpi2 d3 hc mid ap d4 hx hg hlt ih3 ih2 ih1 =>
    intro hab hb hs hl2 hB
    have s1 : PermIn a b d d1 := step_break d hab hb _
    have b1 : b ≤ d1.size := by rw [s1.1]; exact hb
    have s2 : PermIn a b d1 d2 := step_reverse reverseRange_holds d1 hab b1 _
    have b2 : b ≤ d2.size := by rw [s2.1]; exact b1
    have B2 : Below Aw a b d2 := (hB.perm hb s1).perm b1 s2
    have s3 := step_partial hpi hswo d2 (a := a) (b := b) (by omega) b2 B2 ((wb && wp && decide (hint = Hint.increasing)) = true)
    have s3' : PermIn a b d2 d3 := s3.1
    have b3 : b ≤ d3.size := by rw [s3'.1]; exact b2
    have B3 : Below Aw a b d3 := B2.perm b2 s3'
    have hc0 := choosePivot_holds Aw d1 a b (by omega)
    have hpv : a ≤ pivot ∧ pivot < b := pivot_range hc0.1 hc0.2 _
    obtain ⟨g1,g2,hs4,hBa,hBr,hleft,_⟩ := round_part hswo hpt hpv.1 hpv.2 b3 B3 hx
    have hz : d4.size = d.size := by rw [hs4,s3'.1,s2.1,s1.1]
    have hlim : limit ≤ 1000 := by show (if (!wb) = true then limit0 - 1 else limit0) ≤ 1000; split <;> omega
    obtain ⟨l1,l2⟩ := hps hswo d4 a mid limit true true g1 (by omega) hBa
    obtain ⟨hBL,hfin⟩ := hleft _ l1 l2
    obtain ⟨n1,hn1⟩ := ih3 g1 (by omega) (by omega) hlim hBa
    obtain ⟨n2,hn2⟩ := ih1 (by omega) (by rw [l1.1]; omega) (by rw [l1.1]; omega) hlim hBL
    refine ⟨max (n1 + 1) n2, ?_⟩
    have hr1 : Ay (max (n1 + 1) n2) d4.toList (a : Int) (mid : Int) (limit : Int) = some (pdq Aw d4 a mid limit true true).toList := by
      obtain ⟨k,hk⟩ : ∃ k,max (n1 + 1) n2 = k + 1 := ⟨max (n1 + 1) n2 - 1,by omega⟩
      rw [hk]
      exact Pf (show n1 ≤ k by omega) _ _ hn1
    rw [A4 (s' := ((pdq Aw d4 a mid limit true true).toList,((mid + 1 : Nat) : Int),(b : Int),(limit : Int),decide (mid - a ≥ (b - a) / 8),ap)) (by
      rw [UP (d1 := d1) (d2 := d2) (hint := hint) (pi := pi) (lim := limit) (pivot := pivot) h12 hl hl2 hb hs rfl rfl rfl rfl rfl rfl,if_neg hpi2,if_neg hc,hx,if_pos ⟨hlt,hg⟩]
      simp only []
      rw [hr1,Option.bind_some])]
    exact Pf (Nat.le_max_right _ _) _ _ hn2
  case case7 d a b limit0 wb wp h12 hl d1 limit c d2 pivot hint pi hpi2 d3 hc mid ap d4 hx hg hlt ih3 ih2 ih1 =>
    intro hab hb hs hl2 hB
    have s1 : PermIn a b d d1 := step_break d hab hb _
    have b1 : b ≤ d1.size := by rw [s1.1]; exact hb
    have s2 : PermIn a b d1 d2 := step_reverse reverseRange_holds d1 hab b1 _
    have b2 : b ≤ d2.size := by rw [s2.1]; exact b1
    have B2 : Below Aw a b d2 := (hB.perm hb s1).perm b1 s2
    have s3 := step_partial hpi hswo d2 (a := a) (b := b) (by omega) b2 B2 ((wb && wp && decide (hint = Hint.increasing)) = true)
    have s3' : PermIn a b d2 d3 := s3.1
    have b3 : b ≤ d3.size := by rw [s3'.1]; exact b2
    have B3 : Below Aw a b d3 := B2.perm b2 s3'
    have hc0 := choosePivot_holds Aw d1 a b (by omega)
    have hpv : a ≤ pivot ∧ pivot < b := pivot_range hc0.1 hc0.2 _
    obtain ⟨g1,g2,hs4,hBa,hBr,_,hright⟩ := round_part hswo hpt hpv.1 hpv.2 b3 B3 hx
    have hz : d4.size = d.size := by rw [hs4,s3'.1,s2.1,s1.1]
    have hlim : limit ≤ 1000 := by show (if (!wb) = true then limit0 - 1 else limit0) ≤ 1000; split <;> omega
    obtain ⟨l1,l2⟩ := hps hswo d4 (mid + 1) b limit true true (by omega) (by omega) hBr
    obtain ⟨hBL,hfin⟩ := hright _ l1 l2
    obtain ⟨n1,hn1⟩ := ih3 (by omega) (by omega) (by omega) hlim hBr
    obtain ⟨n2,hn2⟩ := ih1 g1 (by rw [l1.1]; omega) (by rw [l1.1]; omega) hlim hBL
    refine ⟨max (n1 + 1) n2, ?_⟩
    have hr1 : Ay (max (n1 + 1) n2) d4.toList ((mid + 1 : Nat) : Int) (b : Int) (limit : Int) = some (pdq Aw d4 (mid + 1) b limit true true).toList := by
      obtain ⟨k,hk⟩ : ∃ k,max (n1 + 1) n2 = k + 1 := ⟨max (n1 + 1) n2 - 1,by omega⟩
      rw [hk]
      exact Pf (show n1 ≤ k by omega) _ _ hn1
    rw [A4 (s' := ((pdq Aw d4 (mid + 1) b limit true true).toList,(a : Int),(mid : Int),(limit : Int),decide (b - mid ≥ (b - a) / 8),ap)) (by
      rw [UP (d1 := d1) (d2 := d2) (hint := hint) (pi := pi) (lim := limit) (pivot := pivot) h12 hl hl2 hb hs rfl rfl rfl rfl rfl rfl,if_neg hpi2,if_neg hc,hx,if_neg (fun h => hlt h.1),if_pos hg]
      simp only []
      rw [hr1,Option.bind_some])]
    exact Pf (Nat.le_max_right _ _) _ _ hn2
  case case8 d a b limit wb wp h12 hl d1 c d2 pivot hint pi hpi2 d3 hc mid ap d4 hx hg =>
    intro hab hb hs hl2 hB
    have s1 : PermIn a b d d1 := step_break d hab hb _
    have b1 : b ≤ d1.size := by rw [s1.1]; exact hb
    have s2 : PermIn a b d1 d2 := step_reverse reverseRange_holds d1 hab b1 _
    have b2 : b ≤ d2.size := by rw [s2.1]; exact b1
    have B2 : Below Aw a b d2 := (hB.perm hb s1).perm b1 s2
    have s3 := step_partial hpi hswo d2 (a := a) (b := b) (by omega) b2 B2 ((wb && wp && decide (hint = Hint.increasing)) = true)
    have s3' : PermIn a b d2 d3 := s3.1
    have b3 : b ≤ d3.size := by rw [s3'.1]; exact b2
    have B3 : Below Aw a b d3 := B2.perm b2 s3'
    have hc0 := choosePivot_holds Aw d1 a b (by omega)
    have hpv : a ≤ pivot ∧ pivot < b := pivot_range hc0.1 hc0.2 _
    obtain ⟨g1,g2,_⟩ := round_part hswo hpt hpv.1 hpv.2 b3 B3 hx
    exact absurd ⟨g1,g2⟩ hg
theorem eZ (hswo : SWO Aw) {L : List (Int × Int × Int × Int × Int)} (hL : L.length ≤ 1000000000) : ∃ L',Cq L 0 (L.length : Int) ((bitsLen L.length : Nat) : Int) = some L' ∧ L'.Perm L ∧ L'.Pairwise (fun x y => Aw y x = false) := by
  have hz : L.toArray.size = L.length := by simp
  have hb : bitsLen L.length ≤ 1000 := Nat.le_trans ((bitsLen_le_iff L.length 30).2 (by rw [mQ]; omega)) (by decide)
  obtain ⟨n,hn⟩ := tF hswo L.toArray 0 L.length (bitsLen L.length) true true (Nat.zero_le _) (by omega) (by omega) hb (Or.inl rfl)
  obtain ⟨p1,p2⟩ := pdq_sorts Aw hswo L.toArray 0 L.length (bitsLen L.length) true true (Nat.zero_le _) (by omega) (Or.inl rfl)
  generalize pdq Aw L.toArray 0 L.length (bitsLen L.length) true true = R at hn p1 p2
  have hR : R.size = L.length := by rw [p1.1,hz]
  refine ⟨R.toList, ?_, ?_, ?_⟩
  · unfold Cq
    exact ZV (g := fun n => Ay n L 0 (L.length : Int) ((bitsLen L.length : Nat) : Int)) (fun n r h => Xh n _ _ _ _ r h) (n := n + 1) hn
  · have h1 := p1.2.2
    rw [show R.extract 0 L.length = R by rw [← hR]; simp,show L.toArray.extract 0 L.length = L.toArray by rw [← hz]; simp] at h1
    exact h1
  · rw [List.pairwise_iff_getElem]
    intro i j hi hj hij
    have := p2 i j (Nat.zero_le _) hij (by simpa [hR] using hj)
    rw [getElem!_pos R i (by simpa using hi),getElem!_pos R j (by simpa using hj)] at this
    simpa using this
end
theorem V9 {L S : List Se} (hA : J3 AL S) (hp : L.Perm S) (hl : S.length ≤ 1000000000) : AK L = some S := by
  have hlen := hp.length_eq
  obtain ⟨L',h1,h2,h3⟩ := eZ gM (L := L) (by omega)
  have hS : L' = S := by
    have hn : L'.Nodup := ((h2.trans hp).nodup_iff).2 (aF H7 hA)
    have hA' : J3 AL L' := by
      refine (h3.and hn).imp fun h => ?_
      have h4 := h.1
      rw [OM] at h4
      cases h5 : AL _ _ with
      | true => rfl
      | false => exact absurd (H7.tot h5 h4) h.2
    exact LP H7 hA' hA fun x => (h2.trans hp).mem_iff
  subst hS
  unfold AK
  rw [XS (by omega),Option.bind_some,h1,Option.bind_some]
theorem eI {p : Tr41} {sw port : Int} {k : Int × Int × Int × Int} {S : List Se} (h : Fo p sw (port,k) = some S) (hA : J3 AL S) (hl : S.length ≤ 1000000000) : Hn p sw port k = some S := by
  unfold Hn
  have he : Fo (Tr41.of (p.un.1,f38 p.un.2.1,p.un.2.2.1,p.un.2.2.2.1,p.un.2.2.2.2)) sw (port,k) = some S := by
    have e : (Tr41.of (p.un.1,f38 p.un.2.1,p.un.2.2.1,p.un.2.2.2.1,p.un.2.2.2.2)) = p := by
      obtain ⟨a,⟨b,c,d,f⟩,g,h,i⟩ := p; rfl
    rw [e]; exact h
  rw [he,Option.bind_some,Gt (by simpa using hl),Option.bind_some,gG (r := S) (fun L hL => V9 hA hL hl)]
  rfl
end Go.Proofs.YtkhiflmalgkjiaaGreat
