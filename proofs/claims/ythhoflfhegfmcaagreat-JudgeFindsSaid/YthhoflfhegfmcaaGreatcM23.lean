/- Layer 25: moves. Conditions: none. -/
import Derived.Test.YthhoflfhegfmcaaGreatcM21A
import Derived.Test.YthhoflfhegfmcaaGreatcMS
namespace Go.Proofs.YthhoflfhegfmcaaGreat
set_option linter.unusedVariables false
set_option linter.unusedSimpArgs false
open Go Go.RowKit
def Oh (t : Tp) (old now : Rt) (m : Mv) : Prop := (0 ≤ m.1 ∧ m.1 < t.1) ∧ (0 ≤ m.2.1 ∧ m.2.1 < (t.2.2.length : Int)) ∧ m.2.2.1 = Fb now m.1 m.2.1 ∧ Fb now m.1 m.2.1 ≠ Fb old m.1 m.2.1 ∧ ∃ l, Wy t now m.2.1 (m.1 :: l) ∧ m.2.2.2 = (l.length : Int)
abbrev LJ (a b : Mv) : Prop := ¬ (a.1 = b.1 ∧ a.2.1 = b.2.1)
theorem LJ.symm {a b : Mv} (h : LJ a b) : LJ b a := fun hh => h ⟨hh.1.symm, hh.2.symm⟩
theorem TX {t : Tp} {old now : Rt} (ho : CJ t old) (hn : CJ t now) {h : Nat} (hh : h < t.2.2.length) {F : List Int} (hF : (F.length : Int) = t.1) (hf : ∀ s l, 0 ≤ s ∧ s < t.1 → Wy t now (h : Int) (s :: l) → ix F s = some (l.length : Int)) :
    ∀ (d k : Nat) (L : List Mv), k + d = F.length → L.length ≤ h * 8 + k → L.Pairwise LJ → (∀ m, m ∈ L ↔ Oh t old now m ∧ (m.2.1 < (h : Int) ∨ m.2.1 = (h : Int) ∧ m.1 < (k : Int))) →
    ∃ L', Aq (DV old now (h : Int) F) (L, (k : Int)) = some L' ∧ L'.length ≤ h * 8 + F.length ∧ L'.Pairwise LJ ∧ ∀ m, m ∈ L' ↔ Oh t old now m ∧ (m.2.1 < (h : Int) ∨ m.2.1 = (h : Int) ∧ m.1 < (F.length : Int)) := by
  have h8 := ho.1.1.1
  intro d
  induction d with
  | zero =>
    intro k L hk hl hp hm
    refine ⟨L, Av (by rw [DV, if_neg (by omega)]), by omega, hp, ?_⟩
    rw [show F.length = k by omega]; exact hm
  | succ d ih =>
    intro k L hk hl hp hm
    have hkt : 0 ≤ (k : Int) ∧ (k : Int) < t.1 := by omega
    have hht : 0 ≤ (h : Int) ∧ (h : Int) < (t.2.2.length : Int) := by omega
    obtain ⟨l, hwy⟩ := hn.2 (k : Int) (h : Int) hkt hht
    have hfk := hf _ _ hkt hwy
    obtain ⟨row1, a1, _, a3, _⟩ := hn.1.port hkt hht
    obtain ⟨row2, b1, _, b3, _⟩ := ho.1.port hkt hht
    by_cases c : Fb now (k : Int) (h : Int) ≠ Fb old (k : Int) (h : Int)
    · have hmv : Oh t old now ((k : Int), (h : Int), Fb now (k : Int) (h : Int), (l.length : Int)) := ⟨hkt, hht, rfl, c, l, hwy, rfl⟩
      have hst : DV old now (h : Int) F (L, (k : Int)) = some (.inl (L ++ [((k : Int), (h : Int), Fb now (k : Int) (h : Int), (l.length : Int))], ((k + 1 : Nat) : Int))) := by
        rw [DV, if_pos (by omega), hfk, Option.bind_some, a1, Option.bind_some, a3, Option.bind_some, b1, Option.bind_some, b3, Option.bind_some, if_pos c, EC (by simp; omega), Option.bind_some, Option.bind_some, Aj (by omega)]; rfl
      rw [A7 hst]
      refine ih (k + 1) _ (by omega) (by simp; omega) ?_ ?_
      · rw [List.pairwise_append]
        refine ⟨hp, List.pairwise_singleton _ _, fun a ha b hb => ?_⟩
        rw [List.mem_singleton.1 hb]
        intro hh
        have := ((hm a).1 ha).2
        simp only at hh this; omega
      · intro m
        rw [List.mem_append, List.mem_singleton, hm m]
        constructor
        · rintro (⟨h1, h2⟩ | rfl)
          · exact ⟨h1, by omega⟩
          · exact ⟨hmv, .inr ⟨rfl, by show (k : Int) < _; omega⟩⟩
        · rintro ⟨h1, h2⟩
          by_cases e : m.2.1 = (h : Int) ∧ m.1 = (k : Int)
          · right
            obtain ⟨_, _, p1, _, l2, p2, p3⟩ := h1
            have hl2 : l2 = l := by
              rw [e.1, e.2] at p2
              have := p2.det hwy rfl
              exact (List.cons.inj this).2
            rw [e.1, e.2] at p1
            exact Prod.ext e.2 (Prod.ext e.1 (Prod.ext p1 (by rw [p3, hl2])))
          · left; exact ⟨h1, by omega⟩
    · have hst : DV old now (h : Int) F (L, (k : Int)) = some (.inl (L, ((k + 1 : Nat) : Int))) := by
        rw [DV, if_pos (by omega), hfk, Option.bind_some, a1, Option.bind_some, a3, Option.bind_some, b1, Option.bind_some, b3, Option.bind_some, if_neg c, Option.bind_some, Aj (by omega)]; rfl
      rw [A7 hst]
      refine ih (k + 1) _ (by omega) (by omega) hp ?_
      intro m
      rw [hm m]
      constructor
      · rintro ⟨h1, h2⟩; exact ⟨h1, by omega⟩
      · rintro ⟨h1, h2⟩
        refine ⟨h1, ?_⟩
        by_cases e : m.2.1 = (h : Int) ∧ m.1 = (k : Int)
        · obtain ⟨_, _, _, p1, _⟩ := h1
          rw [e.1, e.2] at p1
          exact absurd p1 c
        · omega
theorem SW {t : Tp} {old now : Rt} (ho : CJ t old) (hn : CJ t now) (hr : now.length ≤ 12) (hw : ∀ row ∈ now, row.length ≤ 1000000000) :
    ∀ (d k : Nat) (L : List Mv), k + d = t.2.2.length → L.length ≤ k * 8 → L.Pairwise LJ → (∀ m, m ∈ L ↔ Oh t old now m ∧ m.2.1 < (k : Int)) →
    ∃ L', Aq (EO t old now) (L, (k : Int)) = some L' ∧ L'.length ≤ 64 ∧ L'.Pairwise LJ ∧ ∀ m, m ∈ L' ↔ Oh t old now m := by
  have h8 := ho.1.1.1
  intro d
  induction d with
  | zero =>
    intro k L hk hl hp hm
    refine ⟨L, Av (by rw [EO, if_neg (by omega)]), by omega, hp, fun m => ?_⟩
    rw [hm m]
    exact ⟨fun h => h.1, fun h => ⟨h, by have := h.2.1; omega⟩⟩
  | succ d ih =>
    intro k L hk hl hp hm
    obtain ⟨F, f1, f2, f3⟩ := X5 hn.1 hr hw (h := (k : Int)) (by omega)
    obtain ⟨L', e1, e2, e3, e4⟩ := TX ho hn (h := k) (by omega) f2 f3 F.length 0 L (by omega) (by omega) hp (fun m => by
      rw [hm m]
      constructor
      · rintro ⟨h1, h2⟩; exact ⟨h1, .inl h2⟩
      · rintro ⟨h1, h2 | ⟨_, h2⟩⟩
        · exact ⟨h1, h2⟩
        · have := h1.1; omega)
    have hst : EO t old now (L, (k : Int)) = some (.inl (L', ((k + 1 : Nat) : Int))) := by
      rw [EO, if_pos (by omega), f1, Option.bind_some, show Aq (DV old now (k : Int) F) (L, 0) = some L' from e1, Option.bind_some, Aj (by omega)]; rfl
    rw [A7 hst]
    refine ih (k + 1) L' (by omega) (by omega) e3 fun m => ?_
    rw [e4 m]
    constructor
    · rintro ⟨h1, h2⟩; exact ⟨h1, by omega⟩
    · rintro ⟨h1, h2⟩
      refine ⟨h1, ?_⟩
      have := h1.1
      omega
theorem Px {L : List Mv} (hL : L.length ≤ 1000000000) (hp : L.Pairwise LJ) : ∃ L', Ca L = some L' ∧ L'.Perm L ∧ L'.Pairwise (fun x y => AO x y = true) := by
  obtain ⟨L', e, p, o⟩ := WA Wz hL
  refine ⟨L', ?_, p, ?_⟩
  · unfold Ca
    rw [RD hL, Option.bind_some, e]; rfl
  · have h1 : L'.Pairwise LJ := (p.pairwise_iff (fun h => LJ.symm h)).2 hp
    refine (List.Pairwise.and o h1).imp ?_
    rintro x y ⟨a, b⟩
    rw [PQ] at a
    rw [KU]
    simp only [LJ] at b
    omega
theorem VG {t : Tp} {old now : Rt} (hr1 : old.length ≤ 12) (hw1 : ∀ row ∈ old, row.length ≤ 1000000000) (hr : now.length ≤ 12) (hw : ∀ row ∈ now, row.length ≤ 1000000000) (ho : CJ t old) (hn : CJ t now) :
    ∃ L, FP t old now = some (L, 0) ∧ L.length ≤ 64 ∧ L.Pairwise (fun x y => AO x y = true) ∧ L.Pairwise LJ ∧ ∀ m, m ∈ L ↔ Oh t old now m := by
  obtain ⟨L0, e0, l0, p0, m0⟩ := SW ho hn hr hw t.2.2.length 0 [] (by omega) (by simp) List.Pairwise.nil (fun m => ⟨fun h => by simp at h, fun ⟨h1, h2⟩ => by have := h1.2.1; omega⟩)
  obtain ⟨L, e1, p1, o1⟩ := Px (by omega) p0
  refine ⟨L, ?_, by rw [p1.length_eq]; exact l0, o1, (p1.pairwise_iff (fun h => LJ.symm h)).2 p0, fun m => by rw [p1.mem_iff, m0 m]⟩
  unfold FP
  rw [MZ hr1 hw1, Option.bind_some, decide_eq_true ho, if_neg (by decide), MZ hr hw, Option.bind_some, decide_eq_true hn, Option.bind_some, if_neg (by decide), show Aq (EO t old now) ([], 0) = some L0 from e0, Option.bind_some, e1, Option.bind_some]
theorem Tf {t : Tp} {old now : Rt} (ho : CJ t old) {sw h : Int} (hs : 0 ≤ sw ∧ sw < t.1) (hh : 0 ≤ h ∧ h < (t.2.2.length : Int)) (hm : Th t now h sw) : Fb now sw h = Fb old sw h := by
  obtain ⟨l, hl⟩ := ho.2 sw h hs hh
  obtain ⟨z, z1, z2⟩ := hl.end_
  have hz : (z, Fb old z h) = (sw, Fb now sw h) := Option.some.inj (z2.symm.trans hm)
  have hzs : z = sw := congrArg Prod.fst hz
  subst hzs
  exact (congrArg Prod.snd hz).symm
theorem Ss (t : Tp) (r : Rt) (hl : r.length ≤ 9223372036854775807) : IV t r = some (decide ((∀ row ∈ r, row.length ≤ 12) ∧ t.2.1.length ≤ 30 ∧ t.2.2.length ≤ 12 ∧ r.length ≤ 12)) := by
  unfold IV
  rw [MT r hl (HB r) (fun row => ¬ row.length ≤ 12) false (fun k hk => by
    rw [HB, if_pos (by omega), BA (List.getElem?_eq_getElem hk), Option.bind_some]
    by_cases c : r[k].length ≤ 12
    · rw [if_neg (by omega), if_neg (fun h => h c)]
    · rw [if_pos (by omega), if_pos c]) (by rw [HB, if_neg (by omega)])]
  by_cases c : ∃ row ∈ r, ¬ row.length ≤ 12
  · rw [if_pos c]
    show some false = _
    rw [decide_eq_false (fun h => by obtain ⟨row, hm, hn⟩ := c; exact hn (h.1 row hm))]
  · rw [if_neg c]
    show some _ = some _
    congr 1
    rw [Bool.eq_iff_iff]
    simp only [Bool.and_eq_true, decide_eq_true_eq]
    constructor
    · intro h
      exact ⟨fun row hm => Decidable.not_not.1 fun hn => c ⟨row, hm, hn⟩, by omega⟩
    · intro h; omega
abbrev Ys (r : Rt) : Prop := r.length ≤ 12 ∧ ∀ row ∈ r, row.length ≤ 1000000000
end Go.Proofs.YthhoflfhegfmcaaGreat
