/- Layer 8: who is within, what is asked. Conditions: none. -/
import Derived.Test.YtmlaadalggngkaaDoorM08M
namespace Go.Proofs.YtmlaadalggngkaaDoor
set_option linter.unusedVariables false
set_option linter.unusedSimpArgs false
open Go Go.RowKit
/-! ### Within -/
abbrev WI (a b : Mt) : Prop := (b.1 = -1 ∨ a.1 = b.1) ∧ ∀ f : Nat, f < 4 → ∀ i : Nat, i < 8 → tb (p4 b.2.2 f) i = true → (tb (p4 a.2.2 f) i = true ∧ tb (p4 a.2.1 f) i = tb (p4 b.2.1 f) i)
theorem or_self {x y : Int} (hx : By x) (hy : By y) (h : ∀ i : Nat, i < 8 → tb y i = true → tb x i = true) : orN x y = x := by
  refine ext_by (by have := or_top (f := 0) (by decide) (show 0 ≤ x ∧ x ≤ r07_Top ((0 : Nat) : Int) from hx) (show 0 ≤ y ∧ y ≤ r07_Top ((0 : Nat) : Int) from hy); exact this) hx fun i hi => ?_
  rw [tb_or]
  cases h1 : tb y i
  · simp
  · rw [h i hi h1]; rfl
theorem meet_self {a b : Mt} (ha : Good a) (hb : Good b) : (¬ Clash a b ∧ meetM a b = a) ↔ WI a b := by
  constructor
  · rintro ⟨h1, h2⟩
    have e1 : (if a.1 = -1 then b.1 else a.1) = a.1 := congrArg Prod.fst h2
    have e2 : orP a.2.2 b.2.2 = a.2.2 := congrArg (fun m : Mt => m.2.2) h2
    constructor
    · by_cases c : a.1 = -1
      · rw [if_pos c] at e1
        exact .inl (by rw [e1, c])
      · by_cases c2 : b.1 = -1
        · exact .inl c2
        · exact .inr (Classical.byContradiction fun hn => h1 (.inl ⟨c, c2, hn⟩))
    · intro f hf i hi hbi
      have e3 := congrArg (fun p => tb (p4 p f) i) e2
      simp only [p4_or _ _ hf, tb_or, hbi, Bool.or_true] at e3
      refine ⟨e3.symm, Classical.byContradiction fun hn => h1 (.inr ⟨f, hf, i, hi, e3.symm, hbi, hn⟩)⟩
  · rintro ⟨h1, h2⟩
    refine ⟨?_, ?_⟩
    · rintro (⟨c1, c2, c3⟩ | ⟨f, hf, i, hi, c1, c2, c3⟩)
      · exact h1.elim c2 c3
      · exact c3 (h2 f hf i hi c2).2
    · have e1 : (if a.1 = -1 then b.1 else a.1) = a.1 := by
        by_cases c : a.1 = -1
        · rw [if_pos c]
          rcases h1 with h | h
          · rw [h, c]
          · exact h.symm
        · rw [if_neg c]
      have e2 : orP a.2.1 b.2.1 = a.2.1 := p4_ext fun k hk => by
        rw [p4_or _ _ hk]
        exact or_self (good_by ha hk).1 (good_by hb hk).1 fun i hi hv => by
          have := h2 k hk i hi ((hb.2 k hk).2.2 i hi hv)
          rw [this.2, hv]
      have e3 : orP a.2.2 b.2.2 = a.2.2 := p4_ext fun k hk => by
        rw [p4_or _ _ hk]
        exact or_self (good_by ha hk).2 (good_by hb hk).2 fun i hi hv => (h2 k hk i hi hv).1
      show ((if a.1 = -1 then b.1 else a.1), orP a.2.1 b.2.1, orP a.2.2 b.2.2) = a
      rw [e1, e2, e3]
theorem within_eq {a b : Mt} (ha : Good a) (hb : Good b) : match_Within a b = some (decide (WI a b)) := by
  unfold match_Within
  rw [meet_eq ha hb, Option.bind_some]
  congr 1
  by_cases c : Clash a b
  · rw [show meetR a b = (zeroM, false) from if_pos c, decide_eq_false (fun h => ((meet_self ha hb).2 h).1 c)]; rfl
  · rw [show meetR a b = (meetM a b, true) from if_neg c]
    show (true && decide (eqM (meetM a b) a)) = _
    rw [Bool.true_and]
    exact decide_eq_decide.2 ⟨fun h => (meet_self ha hb).1 ⟨c, eqM_iff.1 h⟩, fun h => eqM_iff.2 ((meet_self ha hb).2 h).2⟩
theorem port_if2 (a b : Int) : (decide (b ≠ (-1)) && decide (a ≠ b)) = decide (¬ (b = -1 ∨ a = b)) := by
  rw [← Bool.decide_and]; exact decide_eq_decide.2 ⟨fun h h2 => by omega, fun h => by omega⟩
theorem rwithin_eq {a b : Mt} (ha : Good a) (hb : Good b) : r08_Within a b = some (decide (WI a b)) := by
  unfold r08_Within
  rw [port_if2]
  by_cases hq : b.1 = -1 ∨ a.1 = b.1
  · rw [decide_eq_false (fun hn => hn hq), if_neg (by decide), any_loop 4 _ (fun f : Nat => ∃ i : Nat, i < 8 ∧ ¬ (tb (p4 b.2.2 f) i = true → (tb (p4 a.2.2 f) i = true ∧ tb (p4 a.2.1 f) i = tb (p4 b.2.1 f) i))) false (fun k hk => by
      unfold r08_Within_l1
      rw [if_pos (by omega), w64_id (by omega), any_loop 8 _ (fun i : Nat => ¬ (tb (p4 b.2.2 k) i = true → (tb (p4 a.2.2 k) i = true ∧ tb (p4 a.2.1 k) i = tb (p4 b.2.1 k) i))) (.inr (.inr false)) (fun i hi => by
        unfold r08_Within_l2
        rw [if_pos (by omega), ix4 b.2.2 hk, Option.bind_some, bit_eq (good_by hb hk).2 hi, Option.bind_some, ix4 a.2.2 hk, Option.bind_some, bit_eq (good_by ha hk).2 hi, Option.bind_some, ix4 a.2.1 hk, Option.bind_some, bit_eq (good_by ha hk).1 hi, Option.bind_some, ix4 b.2.1 hk, Option.bind_some, bit_eq (good_by hb hk).1 hi, Option.bind_some, w64_id (by omega)]
        by_cases x : tb (p4 b.2.2 k) i = true <;> by_cases y : tb (p4 a.2.2 k) i = true <;> by_cases z : tb (p4 a.2.1 k) i = true <;> by_cases u : tb (p4 b.2.1 k) i = true <;> simp [x, y, z, u]) (by unfold r08_Within_l2; rw [if_neg (by decide)])]
      by_cases c : ∃ i : Nat, i < 8 ∧ ¬ (tb (p4 b.2.2 k) i = true → (tb (p4 a.2.2 k) i = true ∧ tb (p4 a.2.1 k) i = tb (p4 b.2.1 k) i))
      · rw [if_pos c, if_pos c]; rfl
      · rw [if_neg c, if_neg c]; rfl) (by unfold r08_Within_l1; rw [if_neg (by decide)]), orR_any]
    congr 1
    exact decide_eq_decide.2 ⟨fun h2 => ⟨hq, fun f hf i hi => Classical.byContradiction fun hn => h2 ⟨f, hf, i, hi, hn⟩⟩, fun h2 ⟨f, hf, i, hi, hn⟩ => hn (h2.2 f hf i hi)⟩
  · rw [decide_eq_true hq, if_pos rfl, decide_eq_false (fun h2 => hq h2.1)]
/-! ### What is asked -/
def popU (n : Nat) : Nat → Nat
  | 0 => 0
  | d + 1 => (n.testBit (7 - d)).toNat + popU n d
theorem ones : ∀ n : Fin 256, math_bits_OnesCount (IntKind.u64.wrap (n.val : Int)) = ((popU n.val 8 : Nat) : Int) := by decide +kernel
theorem popU_le (n : Nat) : ∀ d, popU n d ≤ d
  | 0 => Nat.le_refl _
  | d + 1 => by
    have := popU_le n d
    have h : (n.testBit (7 - d)).toNat ≤ 1 := by cases n.testBit (7 - d) <;> decide
    simp only [popU]; omega
theorem popU_mono {x y : Nat} (h : ∀ i : Nat, i < 8 → y.testBit i = true → x.testBit i = true) : ∀ d, d ≤ 8 → popU y d ≤ popU x d
  | 0, _ => Nat.le_refl _
  | d + 1, hd => by
    have h1 := popU_mono h d (by omega)
    have h2 := h (7 - d) (by omega)
    have h3 : (y.testBit (7 - d)).toNat ≤ (x.testBit (7 - d)).toNat := by
      cases hy : y.testBit (7 - d)
      · exact Nat.zero_le _
      · rw [h2 hy]; exact Nat.le_refl _
    simp only [popU]; omega
def popI (x : Int) : Int := ((popU x.toNat 8 : Nat) : Int)
theorem popI_bd (x : Int) : 0 ≤ popI x ∧ popI x ≤ 8 := by
  have := popU_le x.toNat 8
  unfold popI; omega
def askM (m : Mt) : Int := (if m.1 ≠ -1 then 3 else 0) + popI m.2.2.1 + popI m.2.2.2.1 + popI m.2.2.2.2.1 + popI m.2.2.2.2.2
theorem ask_loop {m : Mt} {S : (Int × Int) → Option ((Int × Int) ⊕ Int)} (hs : ∀ (k : Nat) (n : Int), k < 4 → 0 ≤ n ∧ n ≤ 100 → S (n, (k : Int)) = some (.inl (n + popI (p4 m.2.2 k), ((k + 1 : Nat) : Int)))) (he : ∀ n, S (n, 4) = some (.inr n)) :
    ((if m.1 ≠ (-1) then some (3 : Int) else some 0).bind fun x1 => (loopW S (x1, 0)).bind fun x2 => some x2) = some (askM m) := by
  have hp : (if m.1 ≠ (-1) then some (3 : Int) else some 0) = some (if m.1 ≠ -1 then 3 else 0) := by split <;> rfl
  rw [hp, Option.bind_some]
  unfold askM
  have hb : 0 ≤ (if m.1 ≠ -1 then (3 : Int) else 0) ∧ (if m.1 ≠ -1 then (3 : Int) else 0) ≤ 3 := by split <;> decide
  generalize (if m.1 ≠ -1 then (3 : Int) else 0) = n at hb
  have b0 := popI_bd m.2.2.1
  have b1 := popI_bd m.2.2.2.1
  have b2 := popI_bd m.2.2.2.2.1
  have s0 := hs 0 n (by decide) (by omega)
  have s1 := hs 1 (n + popI m.2.2.1) (by decide) (by omega)
  have s2 := hs 2 (n + popI m.2.2.1 + popI m.2.2.2.1) (by decide) (by omega)
  have s3 := hs 3 (n + popI m.2.2.1 + popI m.2.2.2.1 + popI m.2.2.2.2.1) (by decide) (by omega)
  have e : loopW S (n, 0) = some (n + popI m.2.2.1 + popI m.2.2.2.1 + popI m.2.2.2.2.1 + popI m.2.2.2.2.2) := (loopW_go s0).trans ((loopW_go s1).trans ((loopW_go s2).trans ((loopW_go s3).trans (loopW_end (he _)))))
  rw [e]; rfl
theorem asked_eq {m : Mt} (h : Good m) : match_Asked m = some (askM m) := by
  unfold match_Asked
  exact ask_loop (fun k n hk hn => by
    obtain ⟨_, g⟩ := good_by h hk
    have g1 := g.1
    have g2 := g.2
    have hb := popI_bd (p4 m.2.2 k)
    have ho := ones ⟨(p4 m.2.2 k).toNat, by omega⟩
    simp only at ho
    rw [show (((p4 m.2.2 k).toNat : Nat) : Int) = p4 m.2.2 k by omega] at ho
    rw [match_Asked_l1, if_pos (by omega), ix4 m.2.2 hk, Option.bind_some, ho]
    show some (Sum.inl (w64 (n + popI (p4 m.2.2 k)), w64 ((k : Int) + 1))) = _
    rw [w64_id (x := n + popI (p4 m.2.2 k)) (by omega), w64_id (x := (k : Int) + 1) (by omega)]; rfl) (fun n => by rw [match_Asked_l1, if_neg (by decide)])
theorem rasked_eq {m : Mt} (h : Good m) : r08_Asked m = some (askM m) := by
  unfold r08_Asked
  exact ask_loop (fun k n hk hn => by
    obtain ⟨_, g⟩ := good_by h hk
    have key : ∀ d : Nat, d ≤ 8 → ∀ s : Int, 0 ≤ s ∧ s + d ≤ 200 → loopW (r08_Asked_l2 m (k : Int)) (s, ((8 - d : Nat) : Int)) = some (s + ((popU (p4 m.2.2 k).toNat d : Nat) : Int)) := by
      intro d
      induction d with
      | zero =>
        intro _ s hs
        rw [loopW_end (by rw [r08_Asked_l2, if_neg (by decide)])]
        simp [popU]
      | succ d ih =>
        intro hd s hs
        have hbit : ((p4 m.2.2 k).toNat.testBit (7 - d)).toNat ≤ 1 := by cases (p4 m.2.2 k).toNat.testBit (7 - d) <;> decide
        have hb2 : (if tb (p4 m.2.2 k) (7 - d) = true then (1 : Int) else 0) = (((p4 m.2.2 k).toNat.testBit (7 - d)).toNat : Int) := by
          show (if (p4 m.2.2 k).toNat.testBit (7 - d) = true then (1 : Int) else 0) = _
          cases (p4 m.2.2 k).toNat.testBit (7 - d) <;> rfl
        have e8 : 8 - (d + 1) = 7 - d := by omega
        rw [e8, loopW_go (s' := (s + (((p4 m.2.2 k).toNat.testBit (7 - d)).toNat : Int), ((8 - d : Nat) : Int))) (by
          rw [r08_Asked_l2, if_pos (by omega), ix4 m.2.2 hk, Option.bind_some, bit_eq g (by omega), Option.bind_some, hb2, w64_id (by omega), w64_id (by omega)]
          congr 3; omega)]
        rw [ih (by omega) _ (by omega)]
        simp only [popU]
        congr 1; omega
    have e := key 8 (by decide) n (by omega)
    have e' : loopW (r08_Asked_l2 m (k : Int)) (n, 0) = some (n + popI (p4 m.2.2 k)) := e
    rw [r08_Asked_l1, if_pos (by omega), e', Option.bind_some, w64_id (by omega)]; rfl) (fun n => by rw [r08_Asked_l1, if_neg (by decide)])
theorem ask_mono {a b : Mt} (h : WI a b) : askM b ≤ askM a := by
  have hm : ∀ k, k < 4 → popI (p4 b.2.2 k) ≤ popI (p4 a.2.2 k) := fun k hk => by
    have := popU_mono (x := (p4 a.2.2 k).toNat) (y := (p4 b.2.2 k).toNat) (fun i hi hb => (h.2 k hk i hi hb).1) 8 (by decide)
    unfold popI; omega
  have h0 : popI b.2.2.1 ≤ popI a.2.2.1 := hm 0 (by decide)
  have h1 : popI b.2.2.2.1 ≤ popI a.2.2.2.1 := hm 1 (by decide)
  have h2 : popI b.2.2.2.2.1 ≤ popI a.2.2.2.2.1 := hm 2 (by decide)
  have h3 : popI b.2.2.2.2.2 ≤ popI a.2.2.2.2.2 := hm 3 (by decide)
  have hp : (if b.1 ≠ -1 then (3 : Int) else 0) ≤ (if a.1 ≠ -1 then 3 else 0) := by
    by_cases c : b.1 = -1
    · rw [if_neg (fun hn => hn c)]; split <;> decide
    · rw [if_pos c, if_pos (by
        rcases h.1 with e | e
        · exact absurd e c
        · rw [e]; exact c)]
      exact Int.le_refl _
  unfold askM
  omega
/-! ### Who is hit by both -/
theorem clash_symm {a b : Mt} (h : Clash a b) : Clash b a := by
  rcases h with ⟨c1, c2, c3⟩ | ⟨f, hf, i, hi, c1, c2, c3⟩
  · exact .inl ⟨c2, c1, fun e => c3 e.symm⟩
  · exact .inr ⟨f, hf, i, hi, c2, c1, fun e => c3 e.symm⟩
theorem orN_comm (x y : Int) : orN x y = orN y x := by unfold orN; rw [Nat.or_comm]
theorem meet_symm {a b : Mt} (h : ¬ Clash a b) : meetM a b = meetM b a := by
  have hp : (if a.1 = -1 then b.1 else a.1) = (if b.1 = -1 then a.1 else b.1) := by
    by_cases c1 : a.1 = -1
    · by_cases c2 : b.1 = -1
      · rw [if_pos c1, if_pos c2, c1, c2]
      · rw [if_pos c1, if_neg c2]
    · by_cases c2 : b.1 = -1
      · rw [if_neg c1, if_pos c2]
      · rw [if_neg c1, if_neg c2]
        exact Classical.byContradiction fun hn => h (.inl ⟨c1, c2, hn⟩)
  show ((if a.1 = -1 then b.1 else a.1), orP a.2.1 b.2.1, orP a.2.2 b.2.2) = ((if b.1 = -1 then a.1 else b.1), orP b.2.1 a.2.1, orP b.2.2 a.2.2)
  rw [hp]
  have e : ∀ x y : P4, orP x y = orP y x := fun x y => p4_ext fun k hk => by rw [p4_or _ _ hk, p4_or _ _ hk, orN_comm]
  rw [e a.2.1, e a.2.2]
theorem meetR_symm (a b : Mt) : meetR a b = meetR b a := by
  by_cases c : Clash a b
  · rw [show meetR a b = (zeroM, false) from if_pos c, show meetR b a = (zeroM, false) from if_pos (clash_symm c)]
  · rw [show meetR a b = (meetM a b, true) from if_neg c, show meetR b a = (meetM b a, true) from if_neg (fun h => c (clash_symm h)), meet_symm c]
theorem hit_meet {a b : Mt} (ha : Good a) (hb : Good b) (port : Int) (p : P4) : (Hit a port p ∧ Hit b port p) ↔ (¬ Clash a b ∧ Hit (meetM a b) port p) := by
  constructor
  · rintro ⟨⟨p1, h1⟩, ⟨p2, h2⟩⟩
    refine ⟨?_, ?_, ?_⟩
    · rintro (⟨c1, c2, c3⟩ | ⟨f, hf, i, hi, c1, c2, c3⟩)
      · exact c3 ((p1.resolve_left c1).trans (p2.resolve_left c2).symm)
      · exact c3 ((h1 f hf i hi c1).trans (h2 f hf i hi c2).symm)
    · show (if a.1 = -1 then b.1 else a.1) = -1 ∨ (if a.1 = -1 then b.1 else a.1) = port
      by_cases c : a.1 = -1
      · rw [if_pos c]; exact p2
      · rw [if_neg c]; exact p1
    · intro f hf i hi hm
      show tb (p4 (orP a.2.1 b.2.1) f) i = _
      have hm : tb (p4 (orP a.2.2 b.2.2) f) i = true := hm
      rw [p4_or _ _ hf, tb_or] at hm ⊢
      have a1 := h1 f hf i hi
      have a2 := h2 f hf i hi
      have a3 := (ha.2 f hf).2.2 i hi
      have a4 := (hb.2 f hf).2.2 i hi
      generalize tb (p4 a.2.1 f) i = va at *
      generalize tb (p4 b.2.1 f) i = vb at *
      generalize tb (p4 a.2.2 f) i = ma at *
      generalize tb (p4 b.2.2 f) i = mb at *
      generalize tb (p4 p f) i = pp at *
      revert hm a1 a2 a3 a4
      revert va vb ma mb pp
      decide
  · rintro ⟨hc, hp, h⟩
    have hp : (if a.1 = -1 then b.1 else a.1) = -1 ∨ (if a.1 = -1 then b.1 else a.1) = port := hp
    have hpp : (a.1 = -1 ∨ a.1 = port) ∧ (b.1 = -1 ∨ b.1 = port) := by
      by_cases c : a.1 = -1
      · rw [if_pos c] at hp; exact ⟨.inl c, hp⟩
      · rw [if_neg c] at hp
        refine ⟨hp, ?_⟩
        by_cases c2 : b.1 = -1
        · exact .inl c2
        · have : a.1 = b.1 := Classical.byContradiction fun hn => hc (.inl ⟨c, c2, hn⟩)
          exact .inr (this ▸ hp.resolve_left c)
    have hcl : ∀ f : Nat, f < 4 → ∀ i : Nat, i < 8 → ¬ cb a b f i := fun f hf i hi hcb => hc (.inr ⟨f, hf, i, hi, hcb⟩)
    have hh : ∀ f : Nat, f < 4 → ∀ i : Nat, i < 8 → (tb (p4 a.2.2 f) i = true → tb (p4 a.2.1 f) i = tb (p4 p f) i) ∧ (tb (p4 b.2.2 f) i = true → tb (p4 b.2.1 f) i = tb (p4 p f) i) := by
      intro f hf i hi
      have h0 : tb (p4 (orP a.2.2 b.2.2) f) i = true → tb (p4 (orP a.2.1 b.2.1) f) i = tb (p4 p f) i := h f hf i hi
      rw [p4_or _ _ hf, p4_or _ _ hf, tb_or, tb_or] at h0
      have a1 : ¬ (tb (p4 a.2.2 f) i = true ∧ tb (p4 b.2.2 f) i = true ∧ tb (p4 a.2.1 f) i ≠ tb (p4 b.2.1 f) i) := hcl f hf i hi
      have a3 := (ha.2 f hf).2.2 i hi
      have a4 := (hb.2 f hf).2.2 i hi
      generalize tb (p4 a.2.1 f) i = va at *
      generalize tb (p4 b.2.1 f) i = vb at *
      generalize tb (p4 a.2.2 f) i = ma at *
      generalize tb (p4 b.2.2 f) i = mb at *
      generalize tb (p4 p f) i = pp at *
      cases va <;> cases vb <;> cases ma <;> cases mb <;> cases pp <;> simp_all
    exact ⟨⟨hpp.1, fun f hf i hi => (hh f hf i hi).1⟩, ⟨hpp.2, fun f hf i hi => (hh f hf i hi).2⟩⟩
theorem good_meet {a b : Mt} (ha : Good a) (hb : Good b) : Good (meetM a b) := by
  refine ⟨?_, fun f hf => ?_⟩
  · show -1 ≤ (if a.1 = -1 then b.1 else a.1) ∧ (if a.1 = -1 then b.1 else a.1) ≤ 7
    split
    · exact hb.1
    · exact ha.1
  · show FOk f (p4 (orP a.2.1 b.2.1) f) (p4 (orP a.2.2 b.2.2) f)
    rw [p4_or _ _ hf, p4_or _ _ hf]
    obtain ⟨x1, x2, x3⟩ := ha.2 f hf
    obtain ⟨y1, y2, y3⟩ := hb.2 f hf
    refine ⟨or_top hf x1 y1, or_top hf x2 y2, fun i hi h => ?_⟩
    rw [tb_or] at h ⊢
    rcases (show tb (p4 a.2.1 f) i = true ∨ tb (p4 b.2.1 f) i = true by simpa using h) with h | h
    · rw [x3 i hi h]; rfl
    · rw [y3 i hi h, Bool.or_true]
theorem wi_meet {a b : Mt} (ha : Good a) (hb : Good b) (hc : ¬ Clash a b) : WI (meetM a b) a := by
  refine ⟨?_, fun f hf i hi h => ?_⟩
  · show a.1 = -1 ∨ (if a.1 = -1 then b.1 else a.1) = a.1
    by_cases c : a.1 = -1
    · exact .inl c
    · rw [if_neg c]; exact .inr rfl
  · show tb (p4 (orP a.2.2 b.2.2) f) i = true ∧ tb (p4 (orP a.2.1 b.2.1) f) i = _
    rw [p4_or _ _ hf, p4_or _ _ hf, tb_or, tb_or, h]
    refine ⟨rfl, ?_⟩
    have a1 : ¬ (tb (p4 a.2.2 f) i = true ∧ tb (p4 b.2.2 f) i = true ∧ tb (p4 a.2.1 f) i ≠ tb (p4 b.2.1 f) i) := fun hcb => hc (.inr ⟨f, hf, i, hi, hcb⟩)
    have a4 := (hb.2 f hf).2.2 i hi
    rw [h] at a1
    generalize tb (p4 a.2.1 f) i = va at *
    generalize tb (p4 b.2.1 f) i = vb at *
    generalize tb (p4 b.2.2 f) i = mb at *
    cases va <;> cases vb <;> cases mb <;> simp_all
/-- What the three tests in front say. -/
theorem guard8 (a b : Mt) (p : P4) : ((r08_Right a).bind fun x2 => (if (!x2) = true then some true else (r08_Right b).bind fun x3 => (if (!x3) = true then some true else (r07_Right p).bind fun x4 => some (!x4)))) = some (!(decide (Good a ∧ Good b ∧ Ok4 p))) := by
  rw [rright8_eq, rright8_eq, rright_eq]
  simp only [Option.bind_some]
  by_cases h1 : Good a
  · rw [decide_eq_true h1, if_neg (by decide)]
    by_cases h2 : Good b
    · rw [decide_eq_true h2, if_neg (by decide)]
      by_cases h3 : Ok4 p
      · rw [decide_eq_true h3, decide_eq_true (show Good a ∧ Good b ∧ Ok4 p from ⟨h1, h2, h3⟩)]
      · rw [decide_eq_false h3, decide_eq_false (show ¬ (Good a ∧ Good b ∧ Ok4 p) from fun h => h3 h.2.2)]
    · rw [decide_eq_false h2, if_pos (by decide), decide_eq_false (show ¬ (Good a ∧ Good b ∧ Ok4 p) from fun h => h2 h.2.1)]; rfl
  · rw [decide_eq_false h1, if_pos (by decide), decide_eq_false (show ¬ (Good a ∧ Good b ∧ Ok4 p) from fun h => h1 h.1)]; rfl
theorem good_i4 {m : Mt} (h : Good m) : I4 m.2.1 := by
  have g : ∀ k, k < 4 → i64 (p4 m.2.1 k) := fun k hk => by
    have := (good_by h hk).1
    have h1 := this.1
    have h2 := this.2
    constructor <;> omega
  exact ⟨g 0 (by decide), g 1 (by decide), g 2 (by decide), g 3 (by decide)⟩
theorem MatchMeets_core (p0 p1 : Mt) (p2 : Int) (p3 : P4) : L08_MatchMeets p0 p1 p2 p3 = some true := by
  unfold L08_MatchMeets
  rw [guard8, Option.bind_some, awake08]
  by_cases hg : Good p0 ∧ Good p1 ∧ Ok4 p3
  · have hg' := hg
    obtain ⟨ha, hb, hp⟩ := hg
    have hp := ok_bys hp
    rw [decide_eq_true hg', if_neg (by decide), meet_eq ha hb, meet_eq hb ha, hits_eq ha p2 hp, hits_eq hb p2 hp, meetR_symm p1 p0]
    simp only [Option.bind_some]
    have hboth : (if decide (Hit p0 p2 p3) = true then some (decide (Hit p1 p2 p3)) else some false) = some (decide (Hit p0 p2 p3 ∧ Hit p1 p2 p3)) := by
      by_cases c : Hit p0 p2 p3
      · rw [if_pos (decide_eq_true c)]
        congr 1
        exact decide_eq_decide.2 ⟨fun h => ⟨c, h⟩, fun h => h.2⟩
      · rw [if_neg (by simpa using c), decide_eq_false (fun h => c h.1)]
    rw [hboth]
    simp only [Option.bind_some]
    have hm := hit_meet ha hb p2 p3
    rw [if_neg (by simp), if_neg (by simp)]
    by_cases c : Clash p0 p1
    · rw [show meetR p0 p1 = (zeroM, false) from if_pos c]
      simp only
      rw [if_neg (by decide), Option.bind_some, decide_eq_false (fun h => (hm.1 h).1 c)]
      simp
    · have gm := good_meet ha hb
      have w2 := wi_meet hb ha (fun h => c (clash_symm h))
      rw [← meet_symm c] at w2
      rw [show meetR p0 p1 = (meetM p0 p1, true) from if_neg c]
      simp only
      rw [if_pos trivial, hits_eq gm p2 hp]
      simp only [Option.bind_some]
      rw [show decide (Hit p0 p2 p3 ∧ Hit p1 p2 p3) = decide (Hit (meetM p0 p1) p2 p3) from decide_eq_decide.2 ⟨fun h => (hm.1 h).2, fun h => hm.2 ⟨c, h⟩⟩, decide_eq_false (by simp), if_neg (by decide), if_neg (by decide), right_eq (good_i4 gm), decide_eq_true gm]
      simp only [Option.bind_some]
      rw [if_pos trivial, within_eq gm ha, decide_eq_true (wi_meet ha hb c)]
      simp only [Option.bind_some]
      rw [if_pos trivial, within_eq gm hb, decide_eq_true w2]
      simp
  · rw [decide_eq_false hg, if_pos (show (!false) = true from rfl)]; rfl
/-! ### Who is within -/
theorem wi_hit {a b : Mt} (h : WI a b) {port : Int} {p : P4} (hh : Hit a port p) : Hit b port p := by
  refine ⟨?_, fun f hf i hi hb => ?_⟩
  · rcases h.1 with e | e
    · exact .inl e
    · rcases hh.1 with e2 | e2
      · exact .inl (e ▸ e2)
      · exact .inr (e ▸ e2)
  · obtain ⟨h1, h2⟩ := h.2 f hf i hi hb
    rw [← h2]; exact hh.2 f hf i hi h1
theorem wi_anti {a b : Mt} (ha : Good a) (hb : Good b) (h : WI a b) : WI b a ↔ a = b := by
  constructor
  · intro h2
    have hp : a.1 = b.1 := by
      rcases h.1 with e | e
      · rcases h2.1 with e2 | e2
        · rw [e, e2]
        · exact e2.symm
      · exact e
    have hm : a.2.2 = b.2.2 := p4_ext fun k hk => ext_by (good_by ha hk).2 (good_by hb hk).2 fun i hi => by
      have x1 := h.2 k hk i hi
      have x2 := h2.2 k hk i hi
      cases e1 : tb (p4 a.2.2 k) i
      · cases e2 : tb (p4 b.2.2 k) i
        · rfl
        · rw [(x1 e2).1] at e1; cases e1
      · exact (x2 e1).1.symm
    have hv : a.2.1 = b.2.1 := p4_ext fun k hk => ext_by (good_by ha hk).1 (good_by hb hk).1 fun i hi => by
      have x1 := h.2 k hk i hi
      have g1 := (ha.2 k hk).2.2 i hi
      have g2 := (hb.2 k hk).2.2 i hi
      cases e1 : tb (p4 b.2.2 k) i
      · rw [hm, e1] at g1
        rw [e1] at g2
        cases e2 : tb (p4 a.2.1 k) i
        · cases e3 : tb (p4 b.2.1 k) i
          · rfl
          · exact absurd (g2 e3) (by decide)
        · exact absurd (g1 e2) (by decide)
      · exact (x1 e1).2
    obtain ⟨a1, a2, a3⟩ := a
    obtain ⟨b1, b2, b3⟩ := b
    simp only at hp hm hv
    subst hp hm hv; rfl
  · rintro rfl
    exact h
theorem wi_refl (a : Mt) : WI a a := ⟨.inr rfl, fun f hf i hi h => ⟨h, rfl⟩⟩
theorem good_any8 : Good match_Any := by decide
theorem wi_any (a : Mt) : WI a match_Any := ⟨.inl rfl, fun f hf i hi h => by
  have : f = 0 ∨ f = 1 ∨ f = 2 ∨ f = 3 := by omega
  rcases this with rfl | rfl | rfl | rfl <;> exact absurd h (by show ¬ ((0 : Int).toNat.testBit i = true); simp)⟩
theorem hit_own {a : Mt} (ha : Good a) : Hit a (L08_hit a).1 (L08_hit a).2 := by
  unfold L08_hit
  by_cases c : a.1 = -1
  · rw [if_pos c]; exact ⟨.inl c, fun _ _ _ _ _ => rfl⟩
  · rw [if_neg c]; exact ⟨.inr rfl, fun _ _ _ _ _ => rfl⟩
theorem hit_bys {a : Mt} (ha : Good a) : Bys (L08_hit a).2 := by
  have : (L08_hit a).2 = a.2.1 := by unfold L08_hit; split <;> rfl
  rw [this]
  exact fun k hk => (good_by ha hk).1
noncomputable def tailW (p0 p1 : Mt) (x7 : Bool) : Option Bool := ((match_Hits p0 ((L08_hit p0).1) ((L08_hit p0).2.1, (L08_hit p0).2.2.1, (L08_hit p0).2.2.2.1, (L08_hit p0).2.2.2.2)).bind fun x18 => (if x18 = true then (match_Within p0 p0).bind fun x19 => (if x19 = true then (match_Within p0 match_Any).bind fun x20 => (if x20 = true then (if (!x7) = true then some true else (match_Hits p1 ((L08_hit p0).1) ((L08_hit p0).2.1, (L08_hit p0).2.2.1, (L08_hit p0).2.2.2.1, (L08_hit p0).2.2.2.2)).bind fun x22 => (if x22 = true then some true else some false)) else some false) else some false) else some false))
theorem MatchWithin_core (p0 p1 : Mt) (p2 : Int) (p3 : P4) : L08_MatchWithin p0 p1 p2 p3 = some true := by
  unfold L08_MatchWithin
  rw [guard8, Option.bind_some, awake08]
  by_cases hg : Good p0 ∧ Good p1 ∧ Ok4 p3
  · have hg' := hg
    obtain ⟨ha, hb, hp⟩ := hg
    have hp := ok_bys hp
    rw [decide_eq_true hg', if_neg (by decide), within_eq ha hb]
    simp only [Option.bind_some]
    have hh : match_Hits p0 (L08_hit p0).1 ((L08_hit p0).2.1, (L08_hit p0).2.2.1, (L08_hit p0).2.2.2.1, (L08_hit p0).2.2.2.2) = some true := by
      show match_Hits p0 (L08_hit p0).1 (L08_hit p0).2 = _
      rw [hits_eq ha _ (hit_bys ha), decide_eq_true (hit_own ha)]
    have tailEq : ∀ x7 : Bool, (x7 = true → WI p0 p1) → tailW p0 p1 x7 = some true := by
      intro x7 hx
      unfold tailW
      rw [hh, Option.bind_some, if_pos rfl, within_eq ha ha, decide_eq_true (wi_refl p0), Option.bind_some, if_pos rfl, within_eq ha good_any8, decide_eq_true (wi_any p0), Option.bind_some, if_pos rfl]
      cases x7
      · rfl
      · have e : match_Hits p1 (L08_hit p0).1 ((L08_hit p0).2.1, (L08_hit p0).2.2.1, (L08_hit p0).2.2.2.1, (L08_hit p0).2.2.2.2) = some true := by
          show match_Hits p1 (L08_hit p0).1 (L08_hit p0).2 = _
          rw [hits_eq hb _ (hit_bys ha), decide_eq_true (wi_hit (hx rfl) (hit_own ha))]
        rw [if_neg (by decide), e]; rfl
    by_cases hw : WI p0 p1
    · have hm := ask_mono hw
      have hx : match_Within p1 p0 = some (decide (eqM p0 p1)) := by
        rw [within_eq hb ha]
        congr 1
        exact decide_eq_decide.2 ((wi_anti ha hb hw).trans eqM_iff.symm)
      rw [decide_eq_true hw, if_pos rfl, hits_eq ha p2 hp, hits_eq hb p2 hp, hx, asked_eq ha, asked_eq hb]
      simp only [Option.bind_some]
      have hfirst : (if decide (Hit p0 p2 p3) = true then (if (!(decide (Hit p1 p2 p3))) = true then some (true, true) else (if decide (eqM p0 p1) ≠ decide (eqM p0 p1) then some (true, true) else some (true, decide (askM p0 < askM p1)))) else (if decide (eqM p0 p1) ≠ decide (eqM p0 p1) then some (true, true) else some (true, decide (askM p0 < askM p1)))) = some (true, false) := by
        rw [decide_eq_false (by omega : ¬ askM p0 < askM p1)]
        by_cases c : Hit p0 p2 p3
        · rw [if_pos (decide_eq_true c), decide_eq_true (wi_hit hw c), if_neg (by decide), if_neg (by simp)]
        · rw [if_neg (by simpa using c), if_neg (by simp)]
      exact (congrArg (fun z : Option (Bool × Bool) => z.bind fun (x7, x8) => (if x8 = true then some false else (tailW p0 p1 x7).bind fun x17 => some x17)) hfirst).trans (congrArg (fun z : Option Bool => z.bind fun x17 => some x17) (tailEq true (fun _ => hw)))
    · rw [decide_eq_false hw, if_neg (by decide)]
      exact congrArg (fun z : Option Bool => z.bind fun x17 => some x17) (tailEq false (fun h => by cases h))
  · rw [decide_eq_false hg, if_pos (show (!false) = true from rfl)]; rfl
theorem MatchMeets_true (p0 : Mt) {A : Prop} (_ : A) (p1 : Mt) {B : Prop} (_ : B) (p2 : Int) {C : Prop} (_ : C) (p3 : P4) {D : Prop} (_ : D) : L08_MatchMeets p0 p1 p2 p3 = some true := MatchMeets_core p0 p1 p2 p3
theorem MatchWithin_true (p0 : Mt) {A : Prop} (_ : A) (p1 : Mt) {B : Prop} (_ : B) (p2 : Int) {C : Prop} (_ : C) (p3 : P4) {D : Prop} (_ : D) : L08_MatchWithin p0 p1 p2 p3 = some true := MatchWithin_core p0 p1 p2 p3
end Go.Proofs.YtmlaadalggngkaaDoor
