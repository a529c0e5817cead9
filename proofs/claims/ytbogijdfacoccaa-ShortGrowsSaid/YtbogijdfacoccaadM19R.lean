/- Layer 19: the statements. Conditions: none. -/
import Derived.Test.YtbogijdfacoccaadM19T
import Derived.Test.YtbogijdfacoccaadEV
namespace Go.Proofs.Ytbogijdfacoccaa
set_option linter.unusedVariables false
set_option linter.unusedSimpArgs false
open Go Go.RowKit
def Pt (t : Tp) : Int → List Int → Int → Prop
  | u, [], v => u = v
  | u, k :: l, v => ∃ w, E t u w k ∧ Pt t w l v
section
variable {t : Tp} {L c : List Nat} {s : Int}
theorem Pt.inL (hok : Fh t) (hw : Kz t L) : ∀ {l : List Int} {u v : Int}, Pt t u l v → ∀ i ∈ l, In L i
  | [], _, _, _ => by simp
  | k :: l, u, v, ⟨x, hx, h⟩ => fun i hi => by
    rcases List.mem_cons.1 hi with rfl | hi
    · exact (hw.cost hok hx).1
    · exact Pt.inL hok hw h i hi
theorem Pt.le (hok : Fh t) (hw : Kz t L) (H : Sol t L s c) : ∀ {l : List Int} {u : Int}, Pt t u l s → wg c u ≤ Oe L l ∧ Oe L l ≤ D4
  | [], u, h => by
    have : u = s := h
    subst this
    rw [H.src]; exact ⟨Nat.zero_le _, Nat.zero_le _⟩
  | k :: l, u, ⟨x, hx, h⟩ => by
    obtain ⟨h1, h2⟩ := Pt.le hok hw H h
    obtain ⟨_, hcost⟩ := hw.cost hok hx
    exact ⟨Nat.le_trans (H.edge u x k hx) (GI hcost h1 h2), NI hcost h2⟩
theorem Pt.val (hok : Fh t) (hw : Kz t L) {l : List Int} {u v : Int} (h : Pt t u l v) : PW L l = Oe L l := if_pos (Pt.inL hok hw h)
end
theorem H1 (t : Tp) (L : List Nat) (hL : ∀ x ∈ L, Gy x) (s li : Int) (mo : Nat) (hmo : Gy mo) : C3 t (nz L) s li (mo : Int) = some true := by
  unfold C3
  by_cases sm : Ea t (nz L) = true
  · rw [sm, if_neg (by decide)]
    have hsm : t.2.1.length ≤ 30 ∧ t.2.2.length ≤ 12 ∧ L.length ≤ 30 := by
      unfold Ea at sm
      rw [HM] at sm
      simp only [Bool.and_eq_true, decide_eq_true_eq] at sm
      omega
    have hll : L.length ≤ 1000000 := by omega
    rw [KV hll, Option.bind_some]
    by_cases ok : Fh t ∧ Kz t L
    · rw [decide_eq_true ok, if_neg (by decide)]
      by_cases a1 : s < 0
      · rw [if_pos a1, Option.bind_some, if_pos rfl, EQ]; rfl
      rw [if_neg a1]
      by_cases a2 : t.1 ≤ s
      · rw [if_pos a2, Option.bind_some, if_pos rfl, EQ]; rfl
      rw [if_neg a2]
      by_cases a3 : li < 0
      · rw [if_pos a3, Option.bind_some, if_pos rfl, EQ]; rfl
      rw [if_neg a3]
      by_cases a4 : ((nz L).length : Int) ≤ li
      · rw [decide_eq_true a4, Option.bind_some, if_pos rfl, EQ]; rfl
      rw [decide_eq_false a4, Option.bind_some, if_neg (by decide)]
      rw [HM] at a4
      obtain ⟨hok, hw⟩ := ok
      have hs : VV t s := ⟨by omega, by omega⟩
      have hli : In L li := ⟨by omega, by omega⟩
      have hset : Au (nz L) li (mo : Int) = nz (Au L li mo) := by unfold Au nz; rw [List.map_set]
      have hll2 : (Au L li mo).length ≤ 1000000 := by rw [EZ]; exact hll
      rw [Gd (by simp; omega), Option.bind_some, List.nil_append, Po hli, Option.bind_some, LG hll, Option.bind_some, Lj hw, hset, LG hll2, Option.bind_some, KV hll2, Option.bind_some]
      by_cases ok2 : Fh t ∧ Kz t (Au L li mo)
      · obtain ⟨_, hw2⟩ := ok2
        have hc1 := JY hw.1 hli
        have hli2 : In (Au L li mo) li := ⟨hli.1, by rw [EZ]; exact hli.2⟩
        have hc2 := JY hw2.1 hli2
        have hw2e : wg (Au L li mo) li = mo := by rw [Kl hli.1 hli.2 hli.1, if_pos rfl]
        rw [decide_eq_true ⟨hok, hw2⟩, if_neg (by decide), if_neg (by rw [HM]; simp), Lj hw2, if_neg (by rw [HM, EZ]; simp), FV hli2, Option.bind_some, FV hli, Option.bind_some, Option.bind_some, hw2e]
        obtain ⟨c, r, c1, c2⟩ := JG hok hw hs
        obtain ⟨d, q, d1, d2⟩ := JG hok hw2 hs
        by_cases lt : Kn mo (wg L li) = true
        · rw [if_pos lt, if_pos (by rw [HM]), if_pos (by rw [HM, EZ]), EQ]; rfl
        · rw [hw2e] at hc2
          have hle : rn (wg L li) ≤ rn mo := by
            obtain ⟨k1, n1⟩ := Ez hc1
            obtain ⟨k2, n2⟩ := Ez hc2
            rw [Ii, k1, k2] at lt
            simp only [decide_eq_true_eq] at lt
            have := fun hh => lt ⟨n2, n1, hh⟩
            have : ¬ ((rn mo : Nat) : Int) < (rn (wg L li) : Nat) := this
            omega
          have hmono : ∀ k, In L k → rn (wg L k) ≤ rn (wg (Au L li mo) k) := fun k hk => by
            rw [Kl hli.1 hli.2 hk.1]
            by_cases e : k = li
            · rw [if_pos e, e]; exact hle
            · rw [if_neg e]; exact Nat.le_refl _
          have hsol : Sol t (Au L li mo) s c := ⟨c2.len, c2.src, c2.bd, fun u v k he => by
            obtain ⟨ik, ck⟩ := hw.cost hok he
            obtain ⟨_, ck2⟩ := hw2.cost hok he
            have hbv := Dc (c2.bd v (he.V hok).2.1)
            refine Nat.le_trans (c2.edge u v k he) ?_
            show A5 _ _ ≤ A5 _ _
            rw [Hv ck hbv, Hv ck2 hbv]
            exact Jv hbv ck ck2 (hmono k ik)⟩
          have hcd : ∀ v, VV t v → wg c v ≤ wg d v := fun v hv => hsol.le hok hw2 d2 _ v rfl hv
          have hcl := c2.len
          have hdl := d2.len
          rw [if_neg lt, c1, Option.bind_some, d1, Option.bind_some, if_neg (by simp; omega)]
          rw [IU c.length (Cp c d) (fun _ => False) false (fun k hk => by
            have hV : VV t (k : Int) := ⟨by omega, by omega⟩
            rw [Cp, if_pos (by omega), FV (show In d (k : Int) from ⟨by omega, by omega⟩), Option.bind_some, FV (show In c (k : Int) from ⟨by omega, by omega⟩), Option.bind_some, Nz (d2.bd _ hV) (c2.bd _ hV), if_neg (by have := hcd _ hV; simp only [decide_eq_true_eq]; omega), if_neg (fun h => h), BQ (by have := hok.1.2.1; omega)]; rfl) (by rw [Cp, if_neg (by omega)]), if_neg (fun h => h.elim fun _ hh => hh.2)]
          show (Option.bind _ fun x19 => _) = _
          rw [EQ]; rfl
      · rw [decide_eq_false ok2, if_pos (by decide), Option.bind_some, if_pos rfl, if_pos (by rw [HM]), List.length_map, if_pos (by rw [HM, EZ]), EQ]; rfl
    · rw [decide_eq_false ok, if_pos (by decide), Option.bind_some, if_pos rfl, EQ]; rfl
  · rw [if_pos (by simpa using sm), Option.bind_some, if_pos rfl, EQ]; rfl
theorem HT (p0 : Tp) {A : Prop} (_ : A) (p1 : List Int) (ok1 : OA (fun n => (Lit.int .u64 n).wf = true) p1) (p2 : Int) {B : Prop} (_ : B) (p3 : Int) {C : Prop} (_ : C) (p4 : Int) (ok4 : (Lit.int .u64 p4).wf = true) : C3 p0 p1 p2 p3 p4 = some true := by
  obtain ⟨L, rfl, hL⟩ := PP ok1
  obtain ⟨m, rfl, hm⟩ := NF ok4
  exact H1 p0 L hL p2 p3 m hm
end Go.Proofs.Ytbogijdfacoccaa
