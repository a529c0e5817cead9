/- Layer 23: there and back. Conditions: none. -/
import Derived.Test.YthiejmoddfenlaagM23D
namespace Go.Proofs.Ythiejmoddfenlaa
set_option linter.unusedVariables false
set_option linter.unusedSimpArgs false
open Go Go.RowKit
abbrev R6 := Int × (Int × (Int × (Int × Int × Int × Int) × (Int × Int × Int × Int)) × (List (Int × Int × Int))) × Bool
def JO (m : Mv) : R6 := (3, (10, (-1, (0, m.2.1, 0, 0), (0, 255, 0, 0)), [(2, 0, m.2.2.1)]), false)
theorem PC {h p : Int} (hh : 0 ≤ h ∧ h ≤ 255) : HF 1 h 10 p = some (10, (-1, (0, h, 0, 0), (0, 255, 0, 0)), [(2, 0, p)]) := by
  have ht : HE 1 = some 255 := by kernel_rfl
  unfold HF JP
  rw [ht, if_neg (by decide), if_neg (by decide), if_neg (by omega), Option.bind_some, decide_eq_false (by omega), Option.bind_some, if_neg (by decide)]
  rfl
theorem QB {L : List Mv} (hL : L.length ≤ 1000000) (hb : ∀ m ∈ L, 0 ≤ m.2.1 ∧ m.2.1 ≤ 255) (round sw : Int) : GU L round sw = some ((L.filter fun m => decide (m.2.2.2 = round) && decide (m.1 = sw)).map JO) := by
  unfold GU
  obtain ⟨x, h1, h2⟩ := Hf L.length (fun (x : List R6) (k : Nat) => (x, (k : Int))) (E9 L round sw) id (fun x k => x = ((L.take k).filter fun m => decide (m.2.2.2 = round) && decide (m.1 = sw)).map JO) (fun x k hk hx => by
    have hg : L[k]? = some L[k] := List.getElem?_eq_getElem hk
    have hm := hb _ (List.getElem_mem hk)
    have hlen : x.length ≤ k := by
      rw [hx, List.length_map]
      have := List.length_filter_le (fun m : Mv => decide (m.2.2.2 = round) && decide (m.1 = sw)) (L.take k)
      rw [List.length_take] at this; omega
    have htk : ((L.take (k + 1)).filter fun m => decide (m.2.2.2 = round) && decide (m.1 = sw)).map JO = x ++ (if (decide (L[k].2.2.2 = round) && decide (L[k].1 = sw)) = true then [JO L[k]] else []) := by
      rw [List.take_succ_eq_append_getElem hk, List.filter_append, List.map_append, ← hx]
      congr 1
      by_cases c : (decide (L[k].2.2.2 = round) && decide (L[k].1 = sw)) = true
      · rw [if_pos c, List.filter_cons, if_pos c]; rfl
      · rw [if_neg c, List.filter_cons, if_neg c]; rfl
    refine ⟨_, ?_, htk.symm⟩
    rw [E9, if_pos (by omega), CY hg, Option.bind_some]
    by_cases c : (decide (L[k].2.2.2 = round) && decide (L[k].1 = sw)) = true
    · rw [if_pos c, if_pos c, PC hm, Option.bind_some, II (by simp; omega)]
      simp only [Option.bind_some]
      rw [AJ (by omega)]; rfl
    · rw [if_neg c, if_neg c, List.append_nil]
      simp only [Option.bind_some]
      rw [AJ (by omega)]; rfl) (fun x _ => by rw [E9, if_neg (by omega)]; rfl) [] (by simp)
  have h3 : AO (E9 L round sw) ([], 0) = some (id x) := h2
  rw [h3, h1, List.take_length]; rfl
theorem Lc (p0 : Tp) {A : Prop} (_ : A) (p1 : Rt) (ok1 : OB (OB (fun n => (Lit.int .i64 n).wf = true)) p1) (p2 : Rt) (ok2 : OB (OB (fun n => (Lit.int .i64 n).wf = true)) p2) (p3 : Int) {B : Prop} (_ : B) (p4 : Int) {C : Prop} (_ : C) : GZ p0 p1 p2 p3 p4 = some true := by
  have hl1 : p1.length ≤ 9223372036854775807 := ok1.1
  have hl2 : p2.length ≤ 9223372036854775807 := ok2.1
  unfold GZ
  rw [N4 p0 p1 hl1, N4 p0 p2 hl2, PK, Option.bind_some]
  by_cases c1 : (∀ row ∈ p1, row.length ≤ 12) ∧ p0.2.1.length ≤ 30 ∧ p0.2.2.length ≤ 12 ∧ p1.length ≤ 12
  · rw [decide_eq_true c1, if_neg (by decide), Option.bind_some]
    by_cases c2 : (∀ row ∈ p2, row.length ≤ 12) ∧ p0.2.1.length ≤ 30 ∧ p0.2.2.length ≤ 12 ∧ p2.length ≤ 12
    · rw [decide_eq_true c2, if_neg (by decide)]
      have hr1 := c1.2.2.2
      have hr2 := c2.2.2.2
      have hw1 : ∀ row ∈ p1, row.length ≤ 1000000000 := fun row hm => by have := c1.1 row hm; omega
      have hw2 : ∀ row ∈ p2, row.length ≤ 1000000000 := fun row hm => by have := c2.1 row hm; omega
      rw [NU hr1 hw1, Option.bind_some]
      by_cases g1 : Gd p0 p1
      · rw [decide_eq_true g1, if_neg (by decide), NU hr2 hw2, Option.bind_some]
        by_cases g2 : Gd p0 p2
        · rw [decide_eq_true g2, if_neg (by decide)]
          have h8 := g1.1.1.1
          by_cases c4 : (0 ≤ p4 ∧ p4 < p0.1) ∧ -100 ≤ p3 ∧ p3 ≤ 100
          · rw [if_neg (by omega), if_neg (by omega), if_neg (by omega), decide_eq_false (by omega), Option.bind_some, if_neg (by decide)]
            have hsw := c4.1
            obtain ⟨L, e, hlen, hs, _, hm⟩ := PH hr1 hw1 hr2 hw2 g1 g2
            rw [e, Option.bind_some]
            obtain ⟨R1, d1, M1⟩ := KV g1 g2 (L := L) (by omega) hm p3 [] (by simp)
            obtain ⟨R2, d2, M2⟩ := KV g1 g2 (L := L) (by omega) hm p3 [0, 1, 2, 3, 4, 5, 6, 7] (by simp)
            obtain ⟨R3, d3, M3⟩ := KV g1 g2 (L := L) (by omega) hm (p3 + 1) [] (by simp)
            have s2 := M2.small
            have h23 : R2 = R3 := ND M2.sh M3.sh fun s k hs hk => by
              have hs' : 0 ≤ (s : Int) ∧ (s : Int) < p0.1 := by omega
              have hk' : 0 ≤ (k : Int) ∧ (k : Int) < (p0.2.2.length : Int) := by omega
              have hd : Dn L p3 [0, 1, 2, 3, 4, 5, 6, 7] (s : Int) (k : Int) ↔ Dn L (p3 + 1) [] (s : Int) (k : Int) := by
                constructor
                · rintro ⟨m, hm, e1, e2, h | h⟩
                  · exact ⟨m, hm, e1, e2, .inl (by omega)⟩
                  · exact ⟨m, hm, e1, e2, .inl (by omega)⟩
                · rintro ⟨m, hm, e1, e2, h | h⟩
                  · refine ⟨m, hm, e1, e2, ?_⟩
                    by_cases h3 : m.2.2.2 < p3
                    · exact .inl h3
                    · refine .inr ⟨by omega, ?_⟩
                      rw [e1]
                      simp only [List.mem_cons]; omega
                  · cases h.2
              by_cases d : Dn L p3 [0, 1, 2, 3, 4, 5, 6, 7] (s : Int) (k : Int)
              · rw [M2.yes _ _ hs' hk' d, M3.yes _ _ hs' hk' (hd.1 d)]
              · rw [M2.no _ _ hs' hk' d, M3.no _ _ hs' hk' (fun h => d (hd.2 h))]
            subst h23
            have hR1 : (R1.length : Int) = p0.1 := by have := M1.sh.1; omega
            have hR2 : (R2.length : Int) = p0.1 := by have := M2.sh.1; omega
            show ((Eh p1 L p3 []).bind fun x8 => _) = _
            rw [d1, Option.bind_some]
            show ((Eh p1 L p3 [0, 1, 2, 3, 4, 5, 6, 7]).bind fun x9 => _) = _
            rw [d2, Option.bind_some, AJ (by omega)]
            show (((Eh p1 L (p3 + 1) []).bind fun x11 => _).bind fun x10 => _) = _
            rw [d3, Option.bind_some, QF (by omega) s2.2, Option.bind_some, if_neg (by decide), if_neg (by omega), decide_eq_false (by omega), Option.bind_some, if_neg (by decide)]
            show ((GU L p3 p4).bind fun x13 => _) = _
            rw [QB (by omega) (fun m h => by have := ((hm m).1 h).2.1; omega), Option.bind_some]
            obtain ⟨F, hF⟩ : ∃ F, F = L.filter fun m => decide (m.2.2.2 = p3) && decide (m.1 = p4) := ⟨_, rfl⟩
            rw [← hF]
            have hFm : ∀ m, m ∈ F ↔ m ∈ L ∧ m.2.2.2 = p3 ∧ m.1 = p4 := fun m => by rw [hF, List.mem_filter]; simp
            have hFs : F.Pairwise fun x y => x.2.1 < y.2.1 := by
              have h1 : F.Pairwise (fun x y => A0 x y = true) := by rw [hF]; exact hs.filter _
              refine List.Pairwise.imp_of_mem ?_ h1
              intro a b ha hb hab
              rw [JH] at hab
              have a1 := (hFm a).1 ha
              have b1 := (hFm b).1 hb
              omega
            have hFl : F.length ≤ 64 := by rw [hF]; exact Nat.le_trans (List.length_filter_le _ _) hlen
            -- the ports that differ are those of the moves
            have hdiff : ∀ h : Int, 0 ≤ h ∧ h < (p0.2.2.length : Int) → (FZ R1 p4 h ≠ FZ R2 p4 h ↔ ∃ m ∈ F, m.2.1 = h) ∧ ∀ m ∈ F, m.2.1 = h → m.2.2.1 = FZ R2 p4 h := fun h hh => by
              have hyes : ∀ m ∈ F, m.2.1 = h → m.2.2.1 = FZ R2 p4 h ∧ FZ R1 p4 h ≠ FZ R2 p4 h := fun m hmF e1 => by
                obtain ⟨m1, m2, m3⟩ := (hFm m).1 hmF
                obtain ⟨_, _, q1, q2, l, q3, q4⟩ := (hm m).1 m1
                have hy := M2.yes p4 h hsw hh ⟨m, m1, m3, e1, .inr ⟨m2, by rw [m3]; simp only [List.mem_cons]; omega⟩⟩
                have hn := M1.no p4 h hsw hh (by
                  rintro ⟨m', hm', e1', e2', h | h⟩
                  · obtain ⟨_, _, _, _, l', q3', q4'⟩ := (hm m').1 hm'
                    rw [e1', e2'] at q3'
                    rw [m3, e1] at q3
                    have := q3.det q3' rfl
                    rw [(List.cons.inj this).2] at q4
                    omega
                  · cases h.2)
                rw [m3, e1] at q1 q2
                exact ⟨by rw [q1, hy], by rw [hn, hy]; exact fun h => q2 h.symm⟩
              refine ⟨⟨fun hne => Classical.byContradiction fun hno => hne ?_, fun ⟨m, h1, h2⟩ => (hyes m h1 h2).2⟩, fun m h1 h2 => (hyes m h1 h2).1⟩
              have hd : Dn L p3 [] p4 h ↔ Dn L p3 [0, 1, 2, 3, 4, 5, 6, 7] p4 h := by
                constructor
                · rintro ⟨m, hm, e1, e2, h | h⟩
                  · exact ⟨m, hm, e1, e2, .inl h⟩
                  · cases h.2
                · rintro ⟨m, hm, e1, e2, h | h⟩
                  · exact ⟨m, hm, e1, e2, .inl h⟩
                  · exact absurd ⟨m, (hFm m).2 ⟨hm, h.1, e1⟩, e2⟩ hno
              by_cases d : Dn L p3 [] p4 h
              · rw [M1.yes _ _ hsw hh d, M2.yes _ _ hsw hh (hd.1 d)]
              · rw [M1.no _ _ hsw hh d, M2.no _ _ hsw hh (fun h => d (hd.2 h))]
            have key : ∀ (d h n : Nat), h + d = p0.2.2.length → n ≤ F.length → (∀ (i : Nat) (m : Mv), F[i]? = some m → (i < n → m.2.1 < (h : Int)) ∧ (n ≤ i → (h : Int) ≤ m.2.1)) → AO (C1 p0 p4 R1 R2 (F.map JO)) ((n : Int), (h : Int)) = some (.inl (F.length : Int)) := by
              intro d
              induction d with
              | zero =>
                intro h n hh hn hI
                have : n = F.length := by
                  refine Nat.le_antisymm hn (Nat.not_lt.1 fun hlt => ?_)
                  have hg : F[n]? = some F[n] := List.getElem?_eq_getElem hlt
                  have h1 := (hI n _ hg).2 (Nat.le_refl _)
                  have h2 := ((hm _).1 ((hFm _).1 (List.getElem_mem hlt)).1).2.1
                  omega
                subst this
                exact AV (by rw [C1, if_neg (by omega)])
              | succ d ih =>
                intro h n hh hn hI
                have hk : 0 ≤ (h : Int) ∧ (h : Int) < (p0.2.2.length : Int) := by omega
                obtain ⟨r1, a1, _, a2, _⟩ := M1.ok.port hsw hk
                obtain ⟨r2, b1, _, b2, _⟩ := M2.ok.port hsw hk
                obtain ⟨hd1, hd2⟩ := hdiff (h : Int) hk
                by_cases c : FZ R1 p4 (h : Int) = FZ R2 p4 (h : Int)
                · have hst : C1 p0 p4 R1 R2 (F.map JO) ((n : Int), (h : Int)) = some (.inl ((n : Int), ((h + 1 : Nat) : Int))) := by
                    rw [C1, if_pos hk.2, a1, Option.bind_some, a2, Option.bind_some, b1, Option.bind_some, b2, Option.bind_some, if_neg (fun h => h c)]
                    unfold FN
                    rw [Option.bind_some]
                    simp only []
                    rw [AJ (by omega)]; rfl
                  rw [BS hst]
                  refine ih (h + 1) n (by omega) hn fun i m hg => ⟨fun hi => by have := (hI i m hg).1 hi; omega, fun hi => ?_⟩
                  have h1 := (hI i m hg).2 hi
                  have h2 : m.2.1 ≠ (h : Int) := fun e => hd1.2 ⟨m, List.mem_of_getElem? hg, e⟩ c
                  omega
                · obtain ⟨m, hmF, e1⟩ := hd1.1 c
                  obtain ⟨i, hi, rfl⟩ := List.getElem_of_mem hmF
                  have hgi : F[i]? = some F[i] := List.getElem?_eq_getElem hi
                  have hin : n ≤ i := Nat.not_lt.1 fun h => by have := (hI i _ hgi).1 h; omega
                  have hni : i = n := by
                    refine Nat.le_antisymm (Nat.not_lt.1 fun hlt => ?_) hin
                    have h1 := List.pairwise_iff_getElem.1 hFs n i (by omega) hi hlt
                    have h2 := (hI n _ (List.getElem?_eq_getElem (by omega))).2 (Nat.le_refl _)
                    omega
                  subst hni
                  have hp := hd2 _ hmF e1
                  have hmd : ix (F.map JO) (i : Int) = some (JO F[i]) := CY (by rw [List.getElem?_map, hgi]; rfl)
                  have hst : C1 p0 p4 R1 R2 (F.map JO) ((i : Int), (h : Int)) = some (.inl (((i + 1 : Nat) : Int), ((h + 1 : Nat) : Int))) := by
                    rw [C1, if_pos hk.2, a1, Option.bind_some, a2, Option.bind_some, b1, Option.bind_some, b2, Option.bind_some, if_pos c, if_neg (by rw [List.length_map]; omega), hmd]
                    simp only [Option.bind_some]
                    rw [if_neg (by simp [JO]), if_neg (by simp only [JO]; omega)]
                    show FN (((ix (JO F[i]).2.1.2.2 0).bind fun x26 => _).bind fun x22 => _) _ = _
                    rw [show ix (JO F[i]).2.1.2.2 0 = some (2, 0, F[i].2.2.1) from rfl]
                    simp only [Option.bind_some, b2]
                    rw [decide_eq_false (by rw [hp]; exact fun h => h rfl), if_neg (by decide)]
                    unfold FN
                    rw [Option.bind_some]
                    simp only []
                    rw [AJ (x := (i : Int) + 1) (by omega), AJ (by omega)]; rfl
                  rw [BS hst]
                  refine ih (h + 1) (i + 1) (by omega) (by omega) fun j m hg => ⟨fun hj => ?_, fun hj => ?_⟩
                  · by_cases hji : j = i
                    · subst hji; rw [hgi] at hg; cases hg; omega
                    · have := (hI j m hg).1 (by omega); omega
                  · have hjl := (List.getElem?_eq_some_iff.1 hg).1
                    have h1 := List.pairwise_iff_getElem.1 hFs i j hi hjl (by omega)
                    rw [(List.getElem?_eq_some_iff.1 hg).2] at h1
                    omega
            have hk := key p0.2.2.length 0 0 (by omega) (by omega) (fun i m hg => ⟨fun h => by omega, fun _ => by have := ((hm _).1 ((hFm _).1 (List.mem_of_getElem? hg)).1).2.1; omega⟩)
            rw [show AO (C1 p0 p4 R1 R2 (F.map JO)) (0, 0) = some (.inl (F.length : Int)) from hk]
            unfold FN
            rw [Option.bind_some]
            simp only [List.length_map, if_true, Option.bind_some]
          · have hc : (if p4 < 0 then some true else (if p0.1 ≤ p4 then some true else (if p3 < (-100) then some true else some (decide (100 < p3))))) = some true := by
              by_cases d1 : p4 < 0
              · rw [if_pos d1]
              · rw [if_neg d1]
                by_cases d2 : p0.1 ≤ p4
                · rw [if_pos d2]
                · rw [if_neg d2]
                  by_cases d3 : p3 < -100
                  · rw [if_pos d3]
                  · rw [if_neg d3, decide_eq_true (by omega)]
            rw [hc, Option.bind_some, if_pos rfl]; rfl
        · rw [decide_eq_false g2, if_pos (by decide), Option.bind_some, if_pos rfl]; rfl
      · rw [decide_eq_false g1, if_pos (by decide), Option.bind_some, if_pos rfl]; rfl
    · rw [decide_eq_false c2, if_pos (by decide), Option.bind_some, if_pos rfl]; rfl
  · rw [decide_eq_false c1, if_pos (by decide), Option.bind_some, if_pos rfl]; rfl
end Go.Proofs.Ythiejmoddfenlaa
