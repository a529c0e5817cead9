/- Layer 12: the order of changes. Conditions: none. -/
import Derived.Test.YtfnmlmglmegamaacM12
namespace Go.Proofs.Ytfnmlmglmegamaa
set_option linter.unusedVariables false
set_option linter.unusedSimpArgs false
set_option synthInstance.maxSize 1000
open Go Go.RowKit
def F3 : List Md → Nat → List (Int × Md)
  | [], _ => []
  | m :: l, k => ((k : Int), m) :: F3 l (k + 1)
theorem Nh : ∀ (l : List Md) (k : Nat), (F3 l k).length = l.length
  | [], _ => rfl
  | m :: l, k => by show (F3 l (k + 1)).length + 1 = _; rw [Nh l (k + 1)]; rfl
theorem JG : ∀ {l : List Md} {k : Nat} {x : Int × Md}, x ∈ F3 l k → ∃ j : Nat, x.1 = ((k + j : Nat) : Int) ∧ l[j]? = some x.2
  | [], k, x, h => nomatch h
  | m :: l, k, x, h => by
    rcases List.mem_cons.1 (show x ∈ ((k : Int), m) :: F3 l (k + 1) from h) with rfl | h
    · exact ⟨0, rfl, rfl⟩
    · obtain ⟨j, h1, h2⟩ := JG h
      exact ⟨j + 1, by rw [h1]; congr 1; omega, h2⟩
theorem OR : ∀ {l : List Md} {k j : Nat}, Ej (F3 l k) ((k + j : Nat) : Int) = l[j]?
  | [], k, j => by simp [F3, Ej]
  | m :: l, k, 0 => by
    show (if (k : Int) = ((k + 0 : Nat) : Int) then some m else _) = _
    rw [if_pos (by omega)]; rfl
  | m :: l, k, j + 1 => by
    show (if (k : Int) = ((k + (j + 1) : Nat) : Int) then some m else Ej (F3 l (k + 1)) ((k + (j + 1) : Nat) : Int)) = _
    rw [if_neg (by omega), show k + (j + 1) = k + 1 + j by omega, OR]; rfl
theorem OJ : ∀ (l : List Md) (k : Nat), ((F3 l k).map (·.1)).Nodup
  | [], _ => List.nodup_nil
  | m :: l, k => by
    show ((k : Int) :: (F3 l (k + 1)).map (·.1)).Nodup
    refine List.nodup_cons.2 ⟨fun h => ?_, OJ l (k + 1)⟩
    obtain ⟨x, hx, e⟩ := List.mem_map.1 h
    obtain ⟨j, h1, _⟩ := JG hx
    rw [h1] at e; omega
structure Sub12 (l : List Md) (p : Bd) : Prop where
  st : p.1 = 0
  len : p.2.length = 16
  sl : ∀ i : Nat, i < 16 → ∃ s, p.2[i]? = some s ∧ (s.1 = false ∨ ∃ m, l[i]? = some m ∧ s = (true, m))
abbrev Og (p : Bd) (k : Nat) (n : Nat) : Prop := ∀ i : Nat, k ≤ i → i < n → ∃ m, p.2[i]? = some (true, m)
theorem La {l : List Md} (hl : l.length ≤ 16) (hA : ∀ m ∈ l, m.2.1.2.2.length ≤ 1000) {p : Bd} (h : Sub12 l p) {i : Nat} {m : Md} (hi : l[i]? = some m) : ∃ p', AP p (i : Int) m = some (0, p') ∧ Sub12 l p' ∧ (∃ q, p'.2[i]? = some (true, q)) ∧ ∀ (j : Nat) (q : Md), p.2[j]? = some (true, q) → p'.2[j]? = some (true, q) := by
  have hi16 : i < 16 := by have := (List.getElem?_eq_some_iff.1 hi).1; omega
  obtain ⟨s, e, hs⟩ := h.sl i hi16
  have hm := hA m (List.mem_of_getElem? hi)
  by_cases c : s.1 = false
  · refine ⟨_, Oc h.st h.len hi16 e c hm, ⟨h.st, by rw [List.length_set]; exact h.len, fun j hj => ?_⟩, ⟨m, List.getElem?_set_self (by rw [h.len]; exact hi16)⟩, fun j q hq => ?_⟩
    · show ∃ s, (p.2.set i (true, m))[j]? = some s ∧ _
      by_cases cj : i = j
      · subst cj
        exact ⟨(true, m), List.getElem?_set_self (by rw [h.len]; exact hi16), .inr ⟨m, hi, rfl⟩⟩
      · rw [List.getElem?_set_ne cj]; exact h.sl j hj
    · show (p.2.set i (true, m))[j]? = _
      have cj : i ≠ j := fun e' => by
        subst e'
        rw [e] at hq
        rw [Option.some.inj hq] at c; cases c
      rw [List.getElem?_set_ne cj]; exact hq
  · rcases hs with hs | ⟨m', h1, h2⟩
    · exact absurd hs c
    · rw [hi] at h1
      cases h1
      subst h2
      refine ⟨p, ?_, h, ⟨m, e⟩, fun j q hq => hq⟩
      rw [NR h.st h.len hi16 e hm, if_pos ⟨rfl, rfl, JC.2 rfl⟩]
theorem Jw {l : List Md} (hl : l.length ≤ 16) (hA : ∀ m ∈ l, m.2.1.2.2.length ≤ 1000) (o : List Int) (ho : o.length ≤ 60) : ∀ (d k : Nat) (p : Bd), k + d = o.length → Sub12 l p → ∃ p', AJ (Cg l o) ((k : Int), p) = some (.inl p') ∧ Sub12 l p'
  | 0, k, p, hk, h => ⟨p, Bw (by rw [Cg, if_neg (by omega)]), h⟩
  | d + 1, k, p, hk, h => by
    have hk2 : k < o.length := by omega
    have hx := BL (List.getElem?_eq_getElem hk2)
    generalize o[k] = x at hx
    have step : ∀ p', ((if 0 ≤ x then (ix o (k : Int)).bind fun x13 => (if x13 < (l.length : Int) then (ix o (k : Int)).bind fun x14 => (ix o (k : Int)).bind fun x15 => (ix l x15).bind fun x16 => (AP p x14 x16).bind fun x17 => some (decide (x17.1 ≠ 0), x17.2) else some (false, p)) else some (false, p)) = some (false, p')) → Cg l o ((k : Int), p) = some (.inl (((k + 1 : Nat) : Int), p')) := fun p' e => by
      rw [Cg, if_pos (by omega), hx, Option.bind_some]
      rw [hx] at e
      rw [e, Option.bind_some]
      show (if false = true then _ else (some (.inl (Cs ((k : Int) + 1), p')) : Option ((Int × Bd) ⊕ (Bd ⊕ Bool)))) = _
      rw [if_neg (by decide), Bg (by omega)]; rfl
    by_cases c1 : 0 ≤ x
    · by_cases c2 : x < (l.length : Int)
      · obtain ⟨i, rfl⟩ : ∃ i : Nat, x = (i : Int) := ⟨x.toNat, by omega⟩
        have hi : l[i]? = some l[i] := List.getElem?_eq_getElem (by omega)
        obtain ⟨p', h1, h2, _⟩ := La hl hA h hi
        rw [BG (step p' (by rw [if_pos c1, hx, Option.bind_some, if_pos c2, Option.bind_some, Option.bind_some, BL hi, Option.bind_some, h1, Option.bind_some]; rfl))]
        exact Jw hl hA o ho d (k + 1) p' (by omega) h2
      · rw [BG (step p (by rw [if_pos c1, hx, Option.bind_some, if_neg c2]))]
        exact Jw hl hA o ho d (k + 1) p (by omega) h
    · rw [BG (step p (by rw [if_neg c1]))]
      exact Jw hl hA o ho d (k + 1) p (by omega) h
theorem MV {l : List Md} (hl : l.length ≤ 16) (hA : ∀ m ∈ l, m.2.1.2.2.length ≤ 1000) : ∀ (k : Nat) (p : Bd), k ≤ l.length → Sub12 l p → Og p k l.length → ∃ p', AJ (CC l) ((k : Int) - 1, p) = some (.inl p') ∧ Sub12 l p' ∧ Og p' 0 l.length
  | 0, p, hk, h, hu => ⟨p, Bw (by rw [CC, if_neg (by omega)]), h, hu⟩
  | k + 1, p, hk, h, hu => by
    have hi : l[k]? = some l[k] := List.getElem?_eq_getElem (by omega)
    obtain ⟨p', h1, h2, ⟨q, h3⟩, h4⟩ := La hl hA h hi
    have e : ((k + 1 : Nat) : Int) - 1 = (k : Int) := by omega
    rw [e, BG (s' := ((k : Int) - 1, p')) (by rw [CC, if_pos (by omega), BL hi, Option.bind_some, h1, Option.bind_some, if_neg (show ¬ (0 : Int) ≠ 0 by decide), Bg (by omega)])]
    exact MV hl hA k p' (by omega) h2 fun i hi1 hi2 => by
      by_cases ci : i = k
      · subst ci; exact ⟨q, h3⟩
      · obtain ⟨q', hq⟩ := hu i (by omega) hi2
        exact ⟨q', h4 i q' hq⟩
theorem NU {l : List Md} (hl : l.length ≤ 16) (hG : ∀ m ∈ l, Gm m) {p : Bd} (h : Sub12 l p) (hu : Og p 0 l.length) : Inv12 p (0, 0, F3 l 0) := by
  refine ⟨h.st, h.len, fun i hi => ?_, OJ l 0, fun x hx => ?_, fun e => absurd (h.st.symm.trans e) (by decide)⟩
  · obtain ⟨s, e, hs⟩ := h.sl i hi
    refine ⟨s, e, ?_⟩
    have hlk : Ej (F3 l 0) (i : Int) = l[i]? := by have := OR (l := l) (k := 0) (j := i); rwa [Nat.zero_add] at this
    show OD (F3 l 0) s i
    unfold OD
    rw [hlk]
    by_cases c : i < l.length
    · obtain ⟨q, hq⟩ := hu i (by omega) c
      rw [e] at hq
      have hs2 : s = (true, q) := Option.some.inj hq
      rcases hs with hs | ⟨m, h1, h2⟩
      · rw [hs2] at hs; cases hs
      · rw [h1]; exact h2
    · rw [List.getElem?_eq_none (by omega)]
      rcases hs with hs | ⟨m, h1, h2⟩
      · exact hs
      · exact absurd (List.getElem?_eq_some_iff.1 h1).1 c
  · obtain ⟨j, h1, h2⟩ := JG hx
    have := (List.getElem?_eq_some_iff.1 h2).1
    exact ⟨by omega, by omega, hG _ (List.mem_of_getElem? h2)⟩
theorem NI {l : List Md} (hl : l.length ≤ 16) {p : Bd} (h : Sub12 l p) (hu : Og p 0 l.length) : (p.2.take l.length).map (·.2) = l := by
  refine List.ext_getElem? fun i => ?_
  rw [List.getElem?_map, List.getElem?_take]
  by_cases c : i < l.length
  · rw [if_pos c]
    obtain ⟨q, hq⟩ := hu i (by omega) c
    obtain ⟨s, e, hs⟩ := h.sl i (by omega)
    rw [hq] at e
    cases e
    rcases hs with hs | ⟨m, h1, h2⟩
    · cases hs
    · cases h2
      rw [hq, h1]; rfl
  · rw [if_neg c, List.getElem?_eq_none (by omega)]; rfl
theorem Pt {l : List Md} (hl : l.length ≤ 1000) [Decidable (∃ m ∈ l, 10 < (m.2.1.2.2.length : Int))] : AJ (Cd l) 0 = some (if ∃ m ∈ l, 10 < (m.2.1.2.2.length : Int) then .inr true else .inl ()) := by
  have := Jo l (by omega) (Cd l) (fun m => 10 < (m.2.1.2.2.length : Int)) true (fun k hk => by
    rw [Cd, if_pos (by omega), BL (List.getElem?_eq_getElem hk), Option.bind_some]
    by_cases c : 10 < ((l[k]).2.1.2.2.length : Int)
    · rw [if_pos c, if_pos c, LJ]; rfl
    · rw [if_neg c, if_neg c]) (by rw [Cd, if_neg (by omega)])
  rw [this]
  congr 1
  by_cases c : ∃ m ∈ l, 10 < (m.2.1.2.2.length : Int)
  · rw [if_pos c, if_pos c]
  · rw [if_neg c, if_neg c]
theorem Oa (l : List Md) : Sub12 l BJ := ⟨rfl, rfl, fun i hi => ⟨KE, by show (List.replicate 16 KE)[i]? = _; rw [List.getElem?_replicate, if_pos hi], .inl rfl⟩⟩
theorem Ni {p : Bd} {r : HA} {t : List Rl} {ports room : Int} (h : Inv12 p r) (ht : IJ ports room t) (hl : t.length ≤ 100) : ∃ l : List Md, AF p = some l ∧ (p.1 ≠ 1 → l = []) ∧ B2 p t ports room = some ((CX t ports room l 0 t).1, (if p.1 = 1 then (CX t ports room l 0 t).2.2 else 16), if (if p.1 = 1 then (CX t ports room l 0 t).2.2 else 16) = 0 then (2, List.replicate 16 KE) else p) := by
  obtain ⟨l, a1, a2, a3, a5, a6, a7⟩ := MA h ht hl
  refine ⟨l, a1, a5, ?_⟩
  unfold B2
  rw [a6, Option.bind_some]
  generalize (if p.1 = 1 then (CX t ports room l 0 t).2.2 else 16) = e
  show (if e = 0 then some (BU p) else some p).bind _ = _
  by_cases c : e = 0
  · rw [if_pos c, if_pos c]; rfl
  · rw [if_neg c, if_neg c]; rfl
theorem HB {l : List Md} (hI : ∀ m ∈ l, I4 m.2.1.2.1.2.1) (o : List Int) {t : List Rl} (hA : ∀ x ∈ t, x.2.2.length ≤ 9223372036854775807) (ports room : Int) : C7 l o t ports room = some true := by
  unfold C7
  have aw : ((Db).bind fun x3 => some x3) = some true := by rw [LJ]; rfl
  by_cases c1 : 16 < (l.length : Int)
  · rw [if_pos c1, Option.bind_some, if_pos (show true = true from rfl), aw]
  rw [if_neg c1]
  by_cases c2 : 60 < (o.length : Int)
  · rw [if_pos c2, Option.bind_some, if_pos (show true = true from rfl), aw]
  rw [if_neg c2]
  by_cases c3 : 20 < (t.length : Int)
  · rw [if_pos c3, Option.bind_some, if_pos (show true = true from rfl), aw]
  rw [if_neg c3, Pu (by omega) hA, Option.bind_some, Option.bind_some]
  by_cases ht : IJ ports room t
  · rw [decide_eq_true ht, if_neg (show ¬ (!true) = true by decide)]
    have : Decidable (∃ m ∈ l, 10 < (m.2.1.2.2.length : Int)) := Classical.propDecidable _
    rw [Pt (by omega)]
    by_cases ca : ∃ m ∈ l, 10 < (m.2.1.2.2.length : Int)
    · rw [if_pos ca]; rfl
    · rw [if_neg ca, Gw]
      have hA2 : ∀ m ∈ l, m.2.1.2.2.length ≤ 1000 := fun m hm => by
        have : ¬ 10 < (m.2.1.2.2.length : Int) := fun h => ca ⟨m, hm, h⟩
        omega
      have hG : ∀ m ∈ l, Gm m := fun m hm => ⟨hA2 m hm, hI m hm⟩
      have hl16 : l.length ≤ 16 := by omega
      obtain ⟨p2, e2, s2⟩ := Jw hl16 hA2 o (by omega) o.length 0 BJ (by omega) (Oa l)
      rw [show ((0 : Int), BJ) = (((0 : Nat) : Int), BJ) from rfl, e2, Gw, Bg (by omega)]
      obtain ⟨p3, e3, s3, u3⟩ := MV hl16 hA2 l.length p2 (Nat.le_refl _) s2 (fun i h1 h2 => absurd h2 (by omega))
      rw [e3, Gw]
      have inv := NU hl16 hG s3 u3
      have hlen : (F3 l 0).length = l.length := Nh l 0
      have ha : ∀ x ∈ F3 l 0, x.1 < (l.length : Int) := fun x hx => by
        obtain ⟨j, h1, h2⟩ := JG hx
        have := (List.getElem?_eq_some_iff.1 h2).1
        omega
      have hcl : Bv p3 (l.length : Int) = some (0, (1, p3.2)) := by
        have : Decidable (∃ x ∈ (0, 0, F3 l 0).2.2, ((l.length : Nat) : Int) ≤ x.1) := Classical.propDecidable _
        rw [MQ inv (by rw [s3.st]; decide) (by rw [s3.st]; decide) hl16, if_neg (fun ⟨x, hx, h2⟩ => by have := ha x hx; omega), if_neg (by show ¬ ((F3 l 0).length : Int) < _; rw [hlen]; omega)]
      have inv4 := Mj inv ha hlen
      have hmods : AF (1, p3.2) = some l := by
        obtain ⟨l', a1, _, a3, _⟩ := ND inv4 rfl
        rw [a1, a3]
        show some ((p3.2.take (F3 l 0).length).map (·.2)) = _
        rw [hlen, NI hl16 s3 u3]
      rw [hcl, Option.bind_some]
      show Option.bind (if (0 : Int) ≠ 0 then _ else (AF (1, p3.2)).bind fun x26 => (FD x26 l).bind fun x27 => some (!x27, ((1, p3.2) : Bd))) _ = _
      rw [if_neg (by decide), hmods, Option.bind_some, KW (by omega) hA2, Option.bind_some, Option.bind_some]
      show (if (!true) = true then _ else _) = _
      have ht100 : t.length ≤ 100 := by omega
      rw [if_neg (show ¬ (!true) = true by decide), LD (by omega) ht ht100 hI, Option.bind_some]
      obtain ⟨l4, b1, _, b3⟩ := Ni inv4 ht ht100
      rw [hmods] at b1
      cases b1
      rw [if_pos (show ((1, p3.2) : Bd).1 = 1 from rfl)] at b3
      rw [b3, Option.bind_some]
      have hok := LO ht l 0 t ht
      have hr := IF (t := (CX t ports room l 0 t).1) (by have := hok.2; omega) (Ly hok.1)
      have hrt := IF (t := t) (by omega) (Ly ht)
      by_cases c0 : (CX t ports room l 0 t).2.2 = 0
      · rw [if_pos c0]
        obtain ⟨l5, d1, d2, d3⟩ := Ni (Pi 0) ht ht100
        have hl5 := d2 (show (2 : Int) ≠ 1 by decide)
        subst hl5
        rw [if_neg (show ¬ ((2, List.replicate 16 KE) : Bd).1 = 1 by decide), if_neg (show ¬ (16 : Int) = 0 by decide)] at d3
        rw [d3, Option.bind_some, hr, Option.bind_some, if_neg (show ¬ (!true) = true by decide), decide_eq_false (show ¬ ((CX t ports room l 0 t).2.2 ≠ (CX t ports room l 0 t).2.2) from fun h => h rfl), Option.bind_some, if_neg (show ¬ false = true by decide), if_neg (fun h => h c0)]
        show Option.bind (Option.bind (Dw t t) _) _ = _
        rw [hrt, Option.bind_some, if_pos (show true = true from rfl), if_pos (show (16 : Int) = 16 from rfl), if_pos (show Ai (2, List.replicate 16 KE) = 2 from rfl), aw]; rfl
      · rw [if_neg c0, b3, Option.bind_some, hr, Option.bind_some, if_neg (show ¬ (!true) = true by decide), decide_eq_false (show ¬ ((CX t ports room l 0 t).2.2 ≠ (CX t ports room l 0 t).2.2) from fun h => h rfl), Option.bind_some, if_neg (show ¬ false = true by decide), if_pos c0, if_neg c0]
        have he := (Kd t ports room l 0 t c0).1
        show Option.bind (Option.bind (Dw (CX t ports room l 0 t).1 t) _) _ = _
        rw [he, hrt, Option.bind_some, if_pos (show true = true from rfl), if_pos rfl, if_pos (show Ai (1, p3.2) = 1 from rfl), aw]; rfl
  · rw [decide_eq_false ht, if_pos (show (!false) = true from rfl), aw]
theorem Ho (p0 : List Md) {K : Bool → Prop} (ok0 : My (CT LC (CT NQ K)) p0) (p1 : List Int) {C : Prop} (_ : C) (p2 : List Rl) (ok2 : My NQ p2) (p3 : Int) {A : Prop} (_ : A) (p4 : Int) {B : Prop} (_ : B) : C7 p0 p1 p2 p3 p4 = some true :=
  HB (fun m hm => Qb (ok0.2 m hm).2.1) p1 (fun x hx => O6 (ok2.2 x hx)) p3 p4
end Go.Proofs.Ytfnmlmglmegamaa
