/- Layer 29: the document's tokens. Conditions: none. -/
import Derived.Test.YtlgjpoapclifbaaDoorbM28B
namespace Go.Proofs.YtlgjpoapclifbaaDoor
set_option linter.unusedVariables false
set_option linter.unusedSimpArgs false
open Go Go.RowKit
theorem Qi {n : Nat} (h : n < 1000) : HX (n : Int) = some (d3 n) := by
  have h1 : HX (n : Int) = some (Lib.itoa (n : Int)) := Py (st := FU) (run := Fm) (fun _ => rfl) (fun _ _ => rfl) (fun _ _ => rfl) (n : Int) (by unfold i64; omega)
  rw [h1, Lib.itoa_nonneg, RS h]
abbrev kd (b : UInt8) : Int := BO (b.toNat : Int)
theorem R5 {b : UInt8} : kd b = 0 ↔ b.toNat = 32 ∨ b.toNat = 9 ∨ b.toNat = 10 := by
  unfold kd BO
  constructor
  · intro h
    by_cases c : b.toNat = 32 ∨ b.toNat = 9 ∨ b.toNat = 10
    · exact c
    · rw [if_neg (by simp only [Bool.or_eq_true, decide_eq_true_iff]; omega)] at h
      split at h
      · omega
      · split at h
        · omega
        · split at h
          · omega
          · split at h
            · omega
            · split at h <;> omega
  · intro h; rw [if_pos (by simp only [Bool.or_eq_true, decide_eq_true_iff]; omega)]
theorem RM : ∀ b : Fin 256, BO (b.val : Int) = (if b.val = 32 ∨ b.val = 9 ∨ b.val = 10 then 0 else if 97 ≤ b.val ∧ b.val ≤ 122 then 1 else if 48 ≤ b.val ∧ b.val ≤ 57 then 2 else if b.val = 40 ∨ b.val = 41 ∨ b.val = 59 ∨ b.val = 124 ∨ b.val = 61 then 3 else if b.val = 35 then 4 else if b.val = 58 then 5 else 6) := by decide +kernel
theorem K0 (b : UInt8) : kd b = (if b.toNat = 32 ∨ b.toNat = 9 ∨ b.toNat = 10 then 0 else if 97 ≤ b.toNat ∧ b.toNat ≤ 122 then 1 else if 48 ≤ b.toNat ∧ b.toNat ≤ 57 then 2 else if b.toNat = 40 ∨ b.toNat = 41 ∨ b.toNat = 59 ∨ b.toNat = 124 ∨ b.toNat = 61 then 3 else if b.toNat = 35 then 4 else if b.toNat = 58 then 5 else 6) := RM ⟨b.toNat, b.toNat_lt⟩
theorem Jk {p q : UInt8 → Bool} (h : ∀ b, p b = q b) : ∀ l, BN p l = BN q l
  | [] => rfl
  | b :: t => by rw [Em, Em, h b, Jk h t]
theorem OE {s : List UInt8} (hs : s.length ≤ 5000) {a : Nat} (ha : a < s.length) : E2 s (a : Int) = some ((BN (fun b => decide (kd b = kd s[a])) (s.drop a) : Nat) : Int) := by
  unfold E2
  have hl : (s.drop a).length = s.length - a := List.length_drop
  rw [JD (s := s.drop a) (by omega) (p := fun b => decide (kd b = kd s[a])) (S := FZ s (a : Int)) (fun k hk => by
    rw [FZ, BU (x := (a : Int) + (k : Int)) (by omega), if_pos (by omega), show (a : Int) + (k : Int) = ((a + k : Nat) : Int) by omega, CQ (List.getElem?_eq_getElem (show a + k < s.length by omega)), Option.bind_some, CQ (List.getElem?_eq_getElem ha), Option.bind_some, Option.bind_some, BU (by omega), List.getElem_drop]; rfl) (by
    rw [FZ, BU (by omega), if_neg (by omega)]; rfl)]
  rfl
theorem Pk {s : List UInt8} (hs : s.length ≤ 5000) {a : Nat} (ha : a ≤ s.length) : GA s (a : Int) = some ((BN (fun b => decide (b.toNat ≠ 10)) (s.drop a) : Nat) : Int) := by
  unfold GA
  have hl : (s.drop a).length = s.length - a := List.length_drop
  rw [JD (s := s.drop a) (by omega) (p := fun b => decide (b.toNat ≠ 10)) (S := E3 s (a : Int)) (fun k hk => by
    rw [E3, BU (x := (a : Int) + (k : Int)) (by omega), if_pos (by omega), show (a : Int) + (k : Int) = ((a + k : Nat) : Int) by omega, CQ (List.getElem?_eq_getElem (show a + k < s.length by omega)), Option.bind_some, Option.bind_some, BU (by omega), List.getElem_drop]
    have e : decide (((s[a + k].toNat : Nat) : Int) ≠ 10) = decide (s[a + k].toNat ≠ 10) := decide_eq_decide.2 (by omega)
    rw [e]; rfl) (by
    rw [E3, BU (by omega), if_neg (by omega)]; rfl)]
  rfl
theorem Mg : ∀ (l : List UInt8), CG true l = BN (fun b => decide (b.toNat ≠ 10)) l + CG false (l.drop (BN (fun b => decide (b.toNat ≠ 10)) l))
  | [] => rfl
  | b :: t => by
    rw [FN, Em]
    by_cases c : b.toNat = 10
    · rw [if_pos c, if_neg (by simp [c]), Nat.zero_add, List.drop_zero, FN, if_pos c]
    · rw [if_neg c, if_pos (show decide (b.toNat ≠ 10) = true by simpa using c)]
      have ih := Mg t
      rw [show (b :: t).drop (1 + BN (fun b => decide (b.toNat ≠ 10)) t) = t.drop (BN (fun b => decide (b.toNat ≠ 10)) t) by rw [Nat.add_comm]; rfl]
      by_cases c2 : b.toNat = 35
      · rw [if_pos c2, ih]; omega
      · rw [if_neg c2, if_neg (by simp), ih]; omega
theorem KK {α β : Type} {f : α → Option β} : ∀ {l : List α}, (∀ x ∈ l, f x = none) → l.findSome? f = none
  | [], _ => rfl
  | x :: l, h => by rw [List.findSome?_cons, h x (List.mem_cons_self ..)]; exact KK fun y hy => h y (List.mem_cons_of_mem _ hy)
theorem Lz {α β : Type} {f : α → Option β} {v : β} : ∀ {l : List α} {x : α}, x ∈ l → f x = some v → (∀ y ∈ l, ∀ u, f y = some u → u = v) → l.findSome? f = some v
  | y :: l, x, hx, h1, h2 => by
    rw [List.findSome?_cons]
    cases e : f y with
    | some u => rw [h2 y (List.mem_cons_self ..) u e]
    | none =>
      rcases List.mem_cons.1 hx with rfl | hx
      · rw [e] at h1; cases h1
      · exact Lz hx h1 fun z hz => h2 z (List.mem_cons_of_mem _ hz)
theorem LA (d : List UInt8) : EA d = some (match (List.range 1000).findSome? (fun k => if d3 k = d then some (k : Int) else none) with | none => -1 | some e => e) := by
  unfold EA
  have h := On 1000 (E1 d) (fun k => if d3 k = d then some (k : Int) else none) (fun k hk => by
    rw [E1, if_pos (by omega), Qi hk, Option.bind_some]
    by_cases c : d3 k = d
    · rw [if_pos c, if_pos c]
    · rw [if_neg c, if_neg c, BU (by omega)]; rfl) (by rw [E1, if_neg (by omega)])
  rw [h]
  cases (List.range 1000).findSome? (fun k => if d3 k = d then some (k : Int) else none) <;> rfl
theorem RF {k : Nat} (hk : k < 1000) {d : List UInt8} (h : d3 k = d) : Mb d = k := by
  have := (QA ⟨k, hk⟩).1
  rw [← h]; exact this
theorem Qt {d : List UInt8} (hd : ∀ b ∈ d, 48 ≤ b.toNat ∧ b.toNat ≤ 57) (h1 : 1 ≤ d.length) (h5 : d.length ≤ 5000) :
    (Cp d = some ((2, (Mb d : Int), [], 0), (d.length : Int)) ∧ EA d = some (Mb d : Int)) ∨ (∃ k n, Cp d = some ((k, n, [], 0), 0)) ∧ EA d = some (-1) := by
  obtain ⟨k, n, z, e1, e2⟩ := J8 d h5
  by_cases hz : 0 < z
  · obtain ⟨rfl, rfl, _, rfl, e3, e4⟩ := Mc hd h1 e1 hz
    refine .inl ⟨e1, ?_⟩
    rw [LA, Lz (v := (Mb d : Int)) (x := Mb d) (List.mem_range.2 e4) (by rw [if_pos e3]) (fun y hy u hu => ?_)]
    by_cases c : d3 y = d
    · rw [if_pos c] at hu
      rw [← Option.some.inj hu, RF (List.mem_range.1 hy) c]
    · rw [if_neg c] at hu; cases hu
  · obtain rfl : z = 0 := by omega
    refine .inr ⟨⟨k, n, e1⟩, ?_⟩
    rw [LA, KK (fun y hy => ?_)]
    rw [if_neg (fun c => ?_)]
    obtain ⟨_, f2, f3, f4⟩ := QA ⟨y, List.mem_range.1 hy⟩
    simp only at f2 f3 f4
    rw [c] at f2 f3 f4
    unfold Cp at e1
    have hb : (if 3 < (d.length : Int) then some true else (if 1 < (d.length : Int) then (ix d 0).bind fun x2 => some (decide ((x2.toNat : Int) = 48)) else some false)) = some false := by
      rw [if_neg (by omega)]
      by_cases c2 : 1 < (d.length : Int)
      · rw [if_pos c2, show ix d 0 = some d[0] from CQ (k := 0) (List.getElem?_eq_getElem (by omega)), Option.bind_some]
        have := f4 (by omega)
        rw [List.head?_eq_getElem?, List.getElem?_eq_getElem (by omega)] at this
        congr 1
        refine decide_eq_false fun h => this ?_
        have h' : d[0].toNat = 48 := by omega
        rw [show d[0] = 48 from UInt8.toNat_inj.1 h']
      · rw [if_neg c2]
    rw [hb, Option.bind_some, if_neg (by decide)] at e1
    obtain ⟨x, _, e5⟩ := An e1
    have e6 := congrArg (fun q => q.2) (Option.some.inj e5)
    simp only at e6
    omega
theorem K5 {p : UInt8 → Bool} {s : List UInt8} {a : Nat} (ha : a < s.length) : (0 < BN p (s.drop a)) ↔ p s[a] = true := by
  rw [List.drop_eq_getElem_cons ha, Em]
  by_cases c : p s[a] = true
  · rw [if_pos c]; exact ⟨fun _ => c, fun _ => by omega⟩
  · rw [if_neg c]; exact ⟨fun h => by omega, fun h => absurd h c⟩
theorem Oj {s : List UInt8} (hs : s.length ≤ 4900) {a : Nat} (ha : a < s.length) (h0 : kd s[a] ≠ 0) (h4 : kd s[a] ≠ 4) :
    (∃ (k n : Int) (w : List UInt8) (z : Nat), Cq (s.drop a) = some ((k, n, w, 0), (z : Int)) ∧ 0 < z ∧ a + z ≤ s.length ∧ k ≠ 0 ∧ Dg s (a : Int) = some (k, n, w, (a : Int)) ∧
      (if kd s[a] = 3 then some (Co ((a : Int) + 1)) else if kd s[a] = 5 then some (Co ((a : Int) + 2)) else (E2 s (a : Int)).bind fun x8 => some (Co ((a : Int) + x8))) = some ((a + z : Nat) : Int)) ∨
    ∃ (k n : Int) (w : List UInt8), Cq (s.drop a) = some ((k, n, w, 0), 0) ∧ ∃ t : Fj, Dg s (a : Int) = some t ∧ t.1 = 0 := by
  have hl : (s.drop a).length = s.length - a := List.length_drop
  have hf := F9 (l := s.drop a) (by omega) (by omega)
  have ex : ix s (a : Int) = some s[a] := CQ (List.getElem?_eq_getElem ha)
  have hk := K0 s[a]
  have pL : (0 < BN Iq (s.drop a)) ↔ Iq s[a] = true := K5 ha
  have pD : (0 < BN GX (s.drop a)) ↔ GX s[a] = true := K5 ha
  have qL : Iq s[a] = true ↔ 97 ≤ s[a].toNat ∧ s[a].toNat ≤ 122 := by unfold Iq; exact decide_eq_true_iff
  have qD : GX s[a] = true ↔ 48 ≤ s[a].toNat ∧ s[a].toNat ≤ 57 := by unfold GX; exact decide_eq_true_iff
  have hsub : ∀ z : Nat, a + z ≤ s.length → Fy s (a : Int) ((a + z : Nat) : Int) = some ((s.drop a).take z) := fun z hz => by
    rw [HQ (by omega), Int.toNat_natCast, Int.toNat_natCast, List.drop_take]; congr 2; omega
  by_cases c1 : 97 ≤ s[a].toNat ∧ s[a].toNat ≤ 122
  · -- a word
    rw [if_neg (by omega), if_pos c1] at hk
    have hz : 0 < BN Iq (s.drop a) := pL.2 (qL.2 c1)
    have hle := DF Iq (s.drop a)
    have hsm : E2 s (a : Int) = some ((BN Iq (s.drop a) : Nat) : Int) := by
      rw [OE (by omega) ha, Jk (p := fun b => decide (kd b = kd s[a])) (q := Iq) (fun b => by
        show decide (kd b = kd s[a]) = _
        rw [hk]; unfold Iq
        refine decide_eq_decide.2 ?_
        rw [K0 b]
        constructor
        · intro h
          split at h
          · omega
          · split at h
            · assumption
            · split at h
              · omega
              · split at h
                · omega
                · split at h
                  · omega
                  · split at h <;> omega
        · intro h; rw [if_neg (by omega), if_pos h])]
    refine .inl ⟨1, 0, _, BN Iq (s.drop a), by rw [hf, if_pos hz], hz, by omega, by decide, ?_, ?_⟩
    · unfold Dg
      rw [ex, Option.bind_some, if_pos hk, hsm, Option.bind_some, BU (by omega), show (a : Int) + ((BN Iq (s.drop a) : Nat) : Int) = ((a + BN Iq (s.drop a) : Nat) : Int) by omega, hsub _ (by omega)]; rfl
    · rw [if_neg (by show ¬ kd s[a] = _; rw [hk]; decide), if_neg (by show ¬ kd s[a] = _; rw [hk]; decide), hsm, Option.bind_some, BU (by omega)]; rfl
  by_cases c2 : 48 ≤ s[a].toNat ∧ s[a].toNat ≤ 57
  · -- a number
    rw [if_neg (by omega), if_neg c1, if_pos c2] at hk
    have hnL : ¬ 0 < BN Iq (s.drop a) := fun h => c1 (qL.1 (pL.1 h))
    have hz : 0 < BN GX (s.drop a) := pD.2 (qD.2 c2)
    have hle := DF GX (s.drop a)
    have hsm : E2 s (a : Int) = some ((BN GX (s.drop a) : Nat) : Int) := by
      rw [OE (by omega) ha, Jk (p := fun b => decide (kd b = kd s[a])) (q := GX) (fun b => by
        show decide (kd b = kd s[a]) = _
        rw [hk]; unfold GX
        refine decide_eq_decide.2 ?_
        rw [K0 b]
        constructor
        · intro h
          split at h
          · omega
          · split at h
            · omega
            · split at h
              · assumption
              · split at h
                · omega
                · split at h
                  · omega
                  · split at h <;> omega
        · intro h; rw [if_neg (by omega), if_neg (by omega), if_pos h])]
    have htl : ((s.drop a).take (BN GX (s.drop a))).length = BN GX (s.drop a) := by rw [List.length_take]; omega
    have hd : ∀ b ∈ (s.drop a).take (BN GX (s.drop a)), 48 ≤ b.toNat ∧ b.toNat ≤ 57 := fun b hb => by
      have := Lm GX (s.drop a) b hb
      unfold GX at this
      exact of_decide_eq_true this
    have htok : ∀ n : Int, EA ((s.drop a).take (BN GX (s.drop a))) = some n → Dg s (a : Int) = some (if 0 ≤ n then (2, n, [], (a : Int)) else (0, 0, [], (a : Int))) := fun n hn => by
      unfold Dg
      rw [ex, Option.bind_some, if_neg (by show ¬ kd s[a] = _; rw [hk]; decide), if_pos hk, hsm, Option.bind_some, BU (x := (a : Int) + _) (by omega), show (a : Int) + ((BN GX (s.drop a) : Nat) : Int) = ((a + BN GX (s.drop a) : Nat) : Int) by omega, hsub _ (by omega), Option.bind_some, hn, Option.bind_some]
      by_cases c : 0 ≤ n
      · rw [if_pos c, if_pos c]; rfl
      · rw [if_neg c, if_neg c]
        show (if BO (s[a].toNat : Int) = 3 then _ else _) = _
        rw [if_neg (by rw [show BO (s[a].toNat : Int) = 2 from hk]; decide), if_neg (by rw [show BO (s[a].toNat : Int) = 2 from hk]; decide)]; rfl
    rcases Qt hd (by omega) (by omega) with ⟨e1, e2⟩ | ⟨⟨k, n, e1⟩, e2⟩
    · rw [htl] at e1
      refine .inl ⟨2, _, [], BN GX (s.drop a), by rw [hf, if_neg hnL, if_pos hz]; exact e1, hz, by omega, by decide, ?_, ?_⟩
      · rw [htok _ e2, if_pos (by omega)]
      · rw [if_neg (by show ¬ kd s[a] = _; rw [hk]; decide), if_neg (by show ¬ kd s[a] = _; rw [hk]; decide), hsm, Option.bind_some, BU (by omega)]; rfl
    · refine .inr ⟨k, n, [], by rw [hf, if_neg hnL, if_pos hz]; exact e1, _, htok _ e2, ?_⟩
      rw [if_neg (by decide)]
  have hnL : ¬ 0 < BN Iq (s.drop a) := fun h => c1 (qL.1 (pL.1 h))
  have hnD : ¬ 0 < BN GX (s.drop a) := fun h => c2 (qD.1 (pD.1 h))
  rw [if_neg hnL, if_neg hnD] at hf
  have hsg : FY (s.drop a) = if s[a].toNat = 40 ∨ s[a].toNat = 41 ∨ s[a].toNat = 59 ∨ s[a].toNat = 124 ∨ s[a].toNat = 61 then 1 else if (s.drop a).take 2 = [58, 61] then 2 else 0 := by
    rw [List.drop_eq_getElem_cons ha, Gy]
  by_cases c3 : s[a].toNat = 40 ∨ s[a].toNat = 41 ∨ s[a].toNat = 59 ∨ s[a].toNat = 124 ∨ s[a].toNat = 61
  · -- a sign of one byte
    rw [if_neg (by omega), if_neg c1, if_neg c2, if_pos c3] at hk
    rw [if_pos c3] at hsg
    rw [hsg, if_neg (by decide)] at hf
    refine .inl ⟨3, 0, _, 1, hf, by decide, by omega, by decide, ?_, ?_⟩
    · unfold Dg
      rw [ex, Option.bind_some, if_neg (by show ¬ kd s[a] = _; rw [hk]; decide), if_neg (by show ¬ kd s[a] = _; rw [hk]; decide)]
      show (if BO (s[a].toNat : Int) = 3 then _ else _) = _
      rw [if_pos hk, BU (by omega), show (a : Int) + 1 = ((a + 1 : Nat) : Int) by omega, hsub 1 (by omega)]; rfl
    · rw [if_pos hk, BU (by omega)]; rfl
  rw [if_neg c3] at hsg
  by_cases c5 : s[a].toNat = 58
  · rw [if_neg (by omega), if_neg c1, if_neg c2, if_neg c3, if_neg (by omega), if_pos c5] at hk
    have htk : Dg s (a : Int) = (if Co ((a : Int) + 1) < (s.length : Int) then (ix s (Co ((a : Int) + 1))).bind fun x9 => some (decide ((x9.toNat : Int) = 61)) else some false).bind fun x8 => (if x8 = true then some (3, 0, [58, 61], (a : Int)) else some (0, 0, [], (a : Int))) := by
      unfold Dg
      rw [ex, Option.bind_some, if_neg (by show ¬ kd s[a] = _; rw [hk]; decide), if_neg (by show ¬ kd s[a] = _; rw [hk]; decide)]
      show (if BO (s[a].toNat : Int) = 3 then _ else _) = _
      rw [if_neg (by rw [show BO (s[a].toNat : Int) = 5 from hk]; decide), if_pos hk]
    have h58 : s[a] = 58 := UInt8.toNat_inj.1 c5
    rw [BU (by omega)] at htk
    by_cases c6 : ∃ h : a + 1 < s.length, s[a + 1] = 61
    · obtain ⟨h6, e6⟩ := c6
      have ht : (s.drop a).take 2 = [58, 61] := by
        rw [List.drop_eq_getElem_cons ha, List.drop_eq_getElem_cons h6, h58, e6]; rfl
      rw [if_pos ht] at hsg
      rw [hsg, if_neg (by decide), ht] at hf
      refine .inl ⟨3, 0, _, 2, hf, by decide, by omega, by decide, ?_, ?_⟩
      · rw [htk, if_pos (by omega), show (a : Int) + 1 = ((a + 1 : Nat) : Int) by omega, CQ (List.getElem?_eq_getElem h6), Option.bind_some, Option.bind_some, if_pos (by rw [e6]; rfl)]
      · rw [if_neg (by show ¬ kd s[a] = _; rw [hk]; decide), if_pos hk, BU (by omega)]; rfl
    · have ht : (s.drop a).take 2 ≠ [58, 61] := fun e => c6 (by
        have hlen := congrArg List.length e
        rw [List.length_take, hl] at hlen
        have h6 : a + 1 < s.length := by simp at hlen; omega
        refine ⟨h6, ?_⟩
        rw [List.drop_eq_getElem_cons ha, List.drop_eq_getElem_cons h6] at e
        exact (List.cons.inj (List.cons.inj (show s[a] :: s[a + 1] :: List.take 0 _ = [58, 61] from e)).2).1)
      rw [if_neg ht] at hsg
      rw [hsg, if_pos rfl] at hf
      refine .inr ⟨0, 0, [], hf, (0, 0, [], (a : Int)), ?_, rfl⟩
      rw [htk]
      by_cases h6 : a + 1 < s.length
      · rw [if_pos (by omega), show (a : Int) + 1 = ((a + 1 : Nat) : Int) by omega, CQ (List.getElem?_eq_getElem h6), Option.bind_some, Option.bind_some, if_neg (by
          rw [decide_eq_true_iff]
          exact fun h => c6 ⟨h6, UInt8.toNat_inj.1 (by show s[a + 1].toNat = 61; omega)⟩)]
      · rw [if_neg (by omega)]; rfl
  · have hk6 : kd s[a] = 6 := by
      rw [if_neg (fun h => h0 (by rw [K0, if_pos h])), if_neg c1, if_neg c2, if_neg c3, if_neg (fun h => h4 (by rw [K0, if_neg (by omega), if_neg c1, if_neg c2, if_neg c3, if_pos h])), if_neg c5] at hk
      exact hk
    have ht : (s.drop a).take 2 ≠ [58, 61] := fun e => by
      rw [List.drop_eq_getElem_cons ha] at e
      have := (List.cons.inj e).1
      rw [this] at c5
      exact c5 rfl
    rw [if_neg ht] at hsg
    rw [hsg, if_pos rfl] at hf
    refine .inr ⟨0, 0, [], hf, (0, 0, [], (a : Int)), ?_, rfl⟩
    unfold Dg
    rw [ex, Option.bind_some, if_neg (by show ¬ kd s[a] = _; rw [hk6]; decide), if_neg (by show ¬ kd s[a] = _; rw [hk6]; decide)]
    show (if BO (s[a].toNat : Int) = 3 then _ else _) = _
    rw [if_neg (by rw [show BO (s[a].toNat : Int) = 6 from hk6]; decide), if_neg (by rw [show BO (s[a].toNat : Int) = 6 from hk6]; decide)]; rfl
theorem Q8 {s : List UInt8} (hs : s.length ≤ 4000) : ∀ (d a : Nat) (out : List Fj), s.length - a ≤ d → a ≤ s.length → out.length ≤ 500 → Bx (CI s) (out, (a : Int)) = Bx (Cb s) (out, ((a + CG false (s.drop a) : Nat) : Int)) := by
  intro d
  induction d using Nat.strongRecOn with
  | _ d ih =>
    intro a out hd ha ho
    by_cases c : a < s.length
    · have ex : ix s (a : Int) = some s[a] := CQ (List.getElem?_eq_getElem c)
      have hdr : s.drop a = s[a] :: s.drop (a + 1) := List.drop_eq_getElem_cons c
      by_cases k0 : kd s[a] = 0
      · have hst : CI s (out, (a : Int)) = some (.inl (out, ((a + 1 : Nat) : Int))) := by
          rw [CI, if_pos (by omega), ex, Option.bind_some, if_pos k0, BU (by omega)]; rfl
        rw [Eh hst, ih (s.length - (a + 1)) (by omega) (a + 1) out (Nat.le_refl _) (by omega) ho]
        have h32 := R5.1 k0
        have : CG false (s.drop a) = 1 + CG false (s.drop (a + 1)) := by
          rw [hdr, FN]
          by_cases c10 : s[a].toNat = 10
          · rw [if_pos c10]
          · rw [if_neg c10, if_neg (by omega), if_neg (by omega)]
        rw [this]
        congr 3; omega
      by_cases k4 : kd s[a] = 4
      · have h35 : s[a].toNat = 35 := by
          have hk := K0 s[a]
          rw [k4] at hk
          by_cases q : s[a].toNat = 35
          · exact q
          · exfalso
            split at hk
            · omega
            · split at hk
              · omega
              · split at hk
                · omega
                · split at hk
                  · omega
                  · split at hk <;> omega
        obtain ⟨r, hr⟩ : ∃ r, r = BN (fun b => decide (b.toNat ≠ 10)) (s.drop a) := ⟨_, rfl⟩
        have hrl : r ≤ s.length - a := by rw [hr, ← List.length_drop]; exact DF _ _
        have hr1 : 0 < r := by rw [hr]; exact (K5 c).2 (by rw [decide_eq_true_iff]; omega)
        have hst : CI s (out, (a : Int)) = some (.inl (out, ((a + r : Nat) : Int))) := by
          rw [CI, if_pos (by omega), ex, Option.bind_some, if_neg k0, if_pos k4, Pk (by omega) ha, Option.bind_some, ← hr, BU (by omega)]; rfl
        rw [Eh hst, ih (s.length - (a + r)) (by omega) (a + r) out (Nat.le_refl _) (by omega) ho]
        have : CG false (s.drop a) = r + CG false (s.drop (a + r)) := by
          have e1 : CG false (s.drop a) = CG true (s.drop a) := by
            rw [hdr, FN, FN, if_neg (by omega), if_pos h35, if_neg (by omega), if_pos h35]
          rw [e1, Mg, ← hr, List.drop_drop]
        rw [this]
        congr 3; omega
      have hsk : CG false (s.drop a) = 0 := by
        have n0 : ¬ (s[a].toNat = 32 ∨ s[a].toNat = 9 ∨ s[a].toNat = 10) := fun h => k0 (R5.2 h)
        have n35 : s[a].toNat ≠ 35 := fun h => k4 (by rw [K0, if_neg (by omega), if_neg (by omega), if_neg (by omega), if_neg (by omega), if_pos h])
        rw [hdr, FN, if_neg (by omega), if_neg n35, if_pos ⟨rfl, by omega, by omega⟩]
      rw [hsk, Nat.add_zero]
      have hsubl : Fy s (a : Int) (s.length : Int) = some (s.drop a) := by
        rw [HQ (by omega), Int.toNat_natCast, Int.toNat_natCast, List.take_length]
      rcases Oj (by omega) c k0 k4 with ⟨k, n, w, z, f1, f2, f3, f4, f5, f6⟩ | ⟨k, n, w, f1, t, f2, f3⟩
      · have hr : CI s (out, (a : Int)) = (if (out.length : Int) = 500 then some (.inr (.inr ([], (a : Int), 6))) else (Eo out [(k, n, w, (a : Int))]).bind fun x7 => some (.inl (x7, ((a + z : Nat) : Int)))) := by
          rw [CI, if_pos (by omega), ex, Option.bind_some, if_neg k0, if_neg k4, f5, Option.bind_some, if_neg f4]
          by_cases c5 : (out.length : Int) = 500
          · rw [if_pos c5, if_pos c5]
          · rw [if_neg c5, if_neg c5]
            congr 1; funext x7
            by_cases q3 : kd s[a] = 3
            · rw [if_pos q3] at f6
              rw [if_pos q3, Option.some.inj f6]
            · rw [if_neg q3] at f6 ⊢
              by_cases q5 : kd s[a] = 5
              · rw [if_pos q5] at f6
                rw [if_pos q5, Option.some.inj f6]
              · rw [if_neg q5] at f6 ⊢
                obtain ⟨x8, g1, g2⟩ := An f6
                rw [g1, Option.bind_some, Option.some.inj g2]
        have hp : Cb s (out, (a : Int)) = (if (out.length : Int) = 500 then some (.inr (.inr ([], (a : Int), 6))) else (Eo out [(k, n, w, (a : Int))]).bind fun x7 => some (.inl (x7, ((a + z + CG false (s.drop (a + z)) : Nat) : Int)))) := by
          rw [Cb, if_pos (by omega), hsubl, Option.bind_some, f1, Option.bind_some, if_neg (show ¬ ((z : Int) = 0) by omega)]
          by_cases c5 : (out.length : Int) = 500
          · rw [if_pos c5, if_pos c5]
          · rw [if_neg c5, if_neg c5]
            congr 1; funext x7
            rw [BU (by omega), show (a : Int) + (z : Int) = ((a + z : Nat) : Int) by omega, KL (by omega) (by omega)]; rfl
        by_cases c5 : (out.length : Int) = 500
        · rw [if_pos c5] at hr hp
          rw [Cg hr, Cg hp]
        · rw [if_neg c5, Gj (by simp; omega), Option.bind_some] at hr hp
          rw [Eh hr, Eh hp]
          exact ih (s.length - (a + z)) (by omega) (a + z) _ (Nat.le_refl _) f3 (by simp; omega)
      · have hr : CI s (out, (a : Int)) = some (.inr (.inr ([], (a : Int), 10))) := by
          rw [CI, if_pos (by omega), ex, Option.bind_some, if_neg k0, if_neg k4, f2, Option.bind_some, if_pos f3]
        have hp : Cb s (out, (a : Int)) = some (.inr (.inr ([], (a : Int), 10))) := by
          rw [Cb, if_pos (by omega), hsubl, Option.bind_some, f1, Option.bind_some, if_pos rfl]
        rw [Cg hr, Cg hp]
    · obtain rfl : a = s.length := by omega
      rw [List.drop_length]
      show _ = Bx (Cb s) (out, ((s.length + 0 : Nat) : Int))
      rw [Nat.add_zero, Cg (by rw [CI, if_neg (by omega)]), Cg (by rw [Cb, if_neg (by omega)])]
theorem OQ {s : List UInt8} (hs : s.length ≤ 4000) : IL s = FQ s := by
  unfold IL FQ
  rw [if_neg (by omega), if_neg (by omega), show Ee s 0 = some ((0 + CG false (s.drop 0) : Nat) : Int) from KL (at_ := 0) (by omega) (by omega), Option.bind_some]
  rw [show Bx (CI s) ([], 0) = _ from Q8 hs s.length 0 [] (by omega) (by omega) (by simp)]
end Go.Proofs.YtlgjpoapclifbaaDoor
