/- Layer 40: lines. Conditions: none. -/
import Derived.Test.YthmkgdnnocemmaaDoorcM40G
import Derived.Lib.Join
namespace Go.Proofs.YthmkgdnnocemmaaDoor
set_option linter.unusedVariables false
set_option linter.unusedSimpArgs false
open Go Go.RowKit
theorem Kw {w : List UInt8} {c : UInt8} (h : c ∉ w) : Lib.split w [c] = [w] := by
  unfold Lib.split
  rw [Lib.count_miss (IQ h)]; rfl
theorem Kt {w r : List UInt8} {c : UInt8} (h : c ∉ w) : Lib.split (w ++ c :: r) [c] = w :: Lib.split r [c] := by
  have hi : Lib.index (w ++ c :: r) [c] = (w.length : Int) := IX h
  have hd : (w ++ c :: r).drop (w.length + 1) = r := by
    rw [show w ++ c :: r = (w ++ [c]) ++ r by simp, List.drop_left' (by simp)]
  have hne : ¬ (Lib.index (w ++ c :: r) [c] == -1) = true := by rw [hi]; intro e; have := beq_iff_eq.1 e; omega
  have key : ∀ k, Lib.splitK [c] 0 (k + 1) (w ++ c :: r) = w :: Lib.splitK [c] 0 k r := fun k => by
    rw [Lib.splitK, if_neg hne, hi]
    simp only [Int.toNat_natCast, Nat.add_zero, List.length_singleton]
    rw [hd, List.take_left' rfl]
  unfold Lib.split
  rw [Lib.count_hit (by simp) hi, Nat.add_comm 1]
  have e2 : (w ++ c :: r).drop (w.length + ([c] : List UInt8).length) = r := hd
  rw [e2]
  exact key _
theorem Hw {c : UInt8} : ∀ {l : List UInt8}, c ∈ l → ∃ w r, l = w ++ c :: r ∧ c ∉ w
  | x :: l, h => by
    by_cases e : x = c
    · exact ⟨[], l, by rw [e]; rfl, by simp⟩
    · rcases List.mem_cons.1 h with h | h
      · exact absurd h.symm e
      · obtain ⟨w, r, e1, e2⟩ := Hw h
        refine ⟨x :: w, r, by rw [e1]; rfl, fun hm => ?_⟩
        rcases List.mem_cons.1 hm with h | h
        · exact e h.symm
        · exact e2 h
abbrev Bd (v : Int) : Prop := -1125899906842624 ≤ v ∧ v ≤ 1125899906842624
def HJ (w : List UInt8) (ws : List (List UInt8)) : List UInt8 := w ++ (ws.map fun x => 32 :: x).flatten
theorem IU (w x : List UInt8) (ws : List (List UInt8)) : HJ w (x :: ws) = w ++ 32 :: HJ x ws := by unfold HJ; simp
theorem Ja : ∀ (n : Nat) (t : List UInt8), t.length < n → ∃ w ws, Lib.split t [32] = w :: ws ∧ t = HJ w ws
  | 0, t, h => absurd h (Nat.not_lt_zero _)
  | n + 1, t, h => by
    by_cases c : (32 : UInt8) ∈ t
    · obtain ⟨w, r, rfl, h2⟩ := Hw c
      obtain ⟨x, ws, e1, e2⟩ := Ja n r (by simp at h; omega)
      exact ⟨w, x :: ws, by rw [Kt h2, e1], by rw [IU, ← e2]⟩
    · exact ⟨t, [], Kw c, by unfold HJ; simp⟩
abbrev B6 (w : List UInt8) (ns : List Int) : List UInt8 := HJ w (ns.map Lib.itoa) ++ [10]
theorem Ix {s : List UInt8} (hs : s.length ≤ 100000) (n : Int) (w : List UInt8) :
    ((10 : UInt8) ∉ s ∧ Bc (s, n) = some (.inr n) ∧ Bo (s, n) w = some (.inr n)) ∨
    ∃ w0 ws rest, s = HJ w0 ws ++ 10 :: rest ∧ Bc (s, n) = some (.inl (HJ w0 ws)) ∧ Bw (s, n) = some (rest, CL (n + 1)) ∧ Bo (s, n) w = if w0 = w then some (.inl ws) else some (.inr n) := by
  by_cases c : (10 : UInt8) ∈ s
  · right
    obtain ⟨t, rest, rfl, h2⟩ := Hw c
    obtain ⟨w0, ws, e1, e2⟩ := Ja (t.length + 1) t (by omega)
    have hc : GP (t ++ 10 :: rest) [10] = some (t, rest, true) := by rw [Iw (by omega), Mw h2]
    have hpk : Bc (t ++ 10 :: rest, n) = some (.inl t) := by
      unfold Bc
      rw [show (t ++ 10 :: rest, n).1 = t ++ 10 :: rest from rfl, hc, Option.bind_some]; rfl
    refine ⟨w0, ws, rest, by rw [← e2], by rw [← e2]; exact hpk, ?_, ?_⟩
    · unfold Bw
      rw [show (t ++ 10 :: rest, n).1 = t ++ 10 :: rest from rfl, hc]; rfl
    · unfold Bo
      rw [hpk, Option.bind_some]
      have hsp : F4 t [32] = some (w0 :: ws) := by
        unfold F4
        rw [if_pos ⟨by simp at hs; omega, by decide⟩, e1]
      show (F4 t [32]).bind _ = _
      rw [hsp, Option.bind_some, show ix (w0 :: ws) 0 = some w0 from Eb (k := 0) rfl, Option.bind_some]
      by_cases q : w0 = w
      · rw [if_neg (fun h => h q), if_pos q, JG (by simp only [List.length_cons]; omega), Option.bind_some]
        simp
      · rw [if_pos q, if_neg q]; rfl
  · left
    have hc : GP s [10] = some (s, [], false) := by rw [Iw (by omega), ME c]
    have hpk : Bc (s, n) = some (.inr n) := by
      unfold Bc
      rw [show (s, n).1 = s from rfl, hc, Option.bind_some]; rfl
    refine ⟨c, hpk, ?_⟩
    unfold Bo
    rw [hpk]; rfl
theorem Ga (w : List UInt8) : ∀ (ws : List (List UInt8)), (∀ x ∈ ws, x.length ≤ (HJ w ws).length) ∧ ws.length ≤ (HJ w ws).length ∧ w.length ≤ (HJ w ws).length
  | [] => ⟨fun x h => (by cases h), Nat.zero_le _, (by unfold HJ; simp)⟩
  | y :: ws => by
    obtain ⟨h1, h2, h3⟩ := Ga y ws
    have : (HJ w (y :: ws)).length = w.length + 1 + (HJ y ws).length := by rw [IU]; simp; omega
    refine ⟨fun x hx => ?_, by rw [List.length_cons]; omega, by omega⟩
    rcases List.mem_cons.1 hx with rfl | hx
    · omega
    · have := h1 x hx; omega
open Classical in
noncomputable def Me (x : List UInt8) : Option Int := match Lib.atoiAll x with
  | .ok v => if Bd v ∧ Lib.itoa v = x then some v else none
  | _ => none
theorem KO {x : List UInt8} {v : Int} (h : Me x = some v) : Bd v ∧ Lib.itoa v = x := by
  unfold Me at h
  split at h
  · split at h
    · rename_i q
      rw [← Option.some.inj h]; exact q
    · cases h
  · cases h
noncomputable def J4 : List (List UInt8) → Option (List Int)
  | [] => some []
  | x :: r => (Me x).bind fun v => (J4 r).bind fun l => some (v :: l)
theorem HU : ∀ {ws : List (List UInt8)} {ns : List Int}, J4 ws = some ns → ws = ns.map Lib.itoa ∧ ∀ v ∈ ns, Bd v
  | [], ns, h => by rw [← Option.some.inj h]; exact ⟨rfl, fun v hv => by cases hv⟩
  | x :: r, ns, h => by
    obtain ⟨v, h1, h2⟩ := An (show (Me x).bind _ = some ns from h)
    obtain ⟨l, h3, h4⟩ := An h2
    obtain ⟨e1, e2⟩ := KO h1
    obtain ⟨e3, e4⟩ := HU h3
    rw [← Option.some.inj h4]
    exact ⟨by rw [List.map_cons, e2, ← e3], fun u hu => by
      rcases List.mem_cons.1 hu with rfl | hu
      · exact e1
      · exact e4 u hu⟩
abbrev Lv : Type := (List Int) ⊕ ((List Int × (List UInt8 × Int)) ⊕ (Int × (List UInt8 × Int)))
def Kh (p : List UInt8 × Int) (xs : List Int) : Option (List Int) → Lv
  | some ns => .inl (xs ++ ns)
  | none => .inr (.inr (p.2, p))
def Mh (p : List UInt8 × Int) (xs : List Int) (i : Nat) : Option Int → Option ((List Int × Int) ⊕ Lv)
  | some v => some (.inl (xs ++ [v], ((i + 1 : Nat) : Int)))
  | none => some (.inr (.inr (.inr (p.2, p))))
theorem H4 (p : List UInt8 × Int) (ws : List (List UInt8)) (hw : ws.length ≤ 100000) (hx : ∀ x ∈ ws, x.length ≤ 100000) : ∀ (d i : Nat) (xs : List Int), i + d = ws.length → xs.length ≤ i →
    BB (AH p ws) (xs, (i : Int)) = some (Kh p xs (J4 (ws.drop i)))
  | 0, i, xs, hi, hl => by
    rw [List.drop_eq_nil_of_le (by omega)]
    show _ = some (Sum.inl (xs ++ []) : Lv)
    rw [List.append_nil, Cd (by rw [AH, if_neg (by omega)])]
  | d + 1, i, xs, hi, hl => by
    have hil : i < ws.length := by omega
    have hxi := hx _ (List.getElem_mem hil)
    rw [List.drop_eq_getElem_cons hil]
    have hst : AH p ws (xs, (i : Int)) = Mh p xs i (Me ws[i]) := by
      rw [AH, if_pos (by omega), Eb (List.getElem?_eq_getElem hil), Option.bind_some]
      unfold Me
      cases hv : Lib.atoiAll ws[i] with
      | ok v =>
        rw [KL (by omega) hv, Option.bind_some]
        simp only [B3]
        by_cases b1 : v < -1125899906842624
        · rw [if_pos b1]
          rw [if_neg (fun h => by have := h.1; unfold Bd at this; omega)]; rfl
        · rw [if_neg b1]
          by_cases b2 : 1125899906842624 < v
          · rw [if_pos b2]
            rw [if_neg (fun h => by have := h.1; unfold Bd at this; omega)]; rfl
          · rw [if_neg b2, IL (by omega), Option.bind_some]
            by_cases b3 : Lib.itoa v = ws[i]
            · rw [if_pos ⟨⟨by omega, by omega⟩, b3⟩, decide_eq_false (fun h => h b3)]
              show (DB xs [v]).bind _ = _
              rw [Cz (by simp; omega), Option.bind_some, FE (by omega)]; rfl
            · rw [if_neg (fun h => b3 h.2), decide_eq_true b3]; rfl
      | «syntax» =>
        have : FY ws[i] = some (.inr 0) := by unfold FY; rw [if_pos (by omega), hv]
        rw [this]; rfl
      | range =>
        have : FY ws[i] = some (.inr (Lib.atoiSat ws[i])) := by unfold FY; rw [if_pos (by omega), hv]
        rw [this]; rfl
    show _ = some (Kh p xs ((Me ws[i]).bind fun v => (J4 (ws.drop (i + 1))).bind fun l => some (v :: l)))
    cases ho : Me ws[i] with
    | none =>
      rw [ho] at hst
      rw [Cd hst]; rfl
    | some v =>
      rw [ho] at hst
      rw [E4 hst, H4 p ws hw hx d (i + 1) (xs ++ [v]) (by omega) (by simp; omega), Option.bind_some]
      cases J4 (ws.drop (i + 1)) with
      | none => rfl
      | some l => simp [Kh]
theorem H6 {s : List UInt8} (hs : s.length ≤ 100000) (n : Int) (w : List UInt8) (c : Int) :
    (∃ ns rest, s = B6 w ns ++ rest ∧ (∀ v ∈ ns, Bd v) ∧ (c = -1 ∨ (ns.length : Int) = c) ∧ AJ (s, n) w c = some (.inl (ns, rest, CL (n + 1)))) ∨ AJ (s, n) w c = some (.inr (n, s, n)) := by
  unfold AJ
  rcases Ix hs n w with ⟨_, _, h3⟩ | ⟨w0, ws, rest, h1, _, h3, h4⟩
  · rw [h3]; exact .inr rfl
  · rw [h4]
    by_cases q : w0 = w
    · subst q
      rw [if_pos rfl, Option.bind_some]
      obtain ⟨l1, l2, l3⟩ := Ga w0 ws
      have hsl : (HJ w0 ws).length ≤ s.length := by rw [h1]; simp
      show (∃ ns rest, _ ∧ _ ∧ _ ∧ Es (BB (AH (s, n) ws) ([], 0)) _ = _) ∨ Es (BB (AH (s, n) ws) ([], 0)) _ = _
      rw [show BB (AH (s, n) ws) ([], 0) = _ from H4 (s, n) ws (by omega) (fun x hx => by have := l1 x hx; omega) ws.length 0 [] (by omega) (by simp), List.drop_zero]
      cases ha : J4 ws with
      | none => exact .inr rfl
      | some ns =>
        obtain ⟨e1, e2⟩ := HU ha
        by_cases cc : c = -1 ∨ (ns.length : Int) = c
        · left
          refine ⟨ns, rest, by rw [h1, e1]; simp, e2, cc, ?_⟩
          show (if (decide (c ≠ -1) && decide (((([] : List Int) ++ ns).length : Int) ≠ c)) = true then _ else (Bw (s, n)).bind _) = _
          rw [List.nil_append, if_neg (by simp only [Bool.and_eq_true, decide_eq_true_iff]; omega), h3]; rfl
        · right
          show (if (decide (c ≠ -1) && decide (((([] : List Int) ++ ns).length : Int) ≠ c)) = true then _ else _) = _
          rw [List.nil_append, if_pos (by simp only [Bool.and_eq_true, decide_eq_true_iff]; omega)]; rfl
    · rw [if_neg q]; exact .inr rfl
abbrev Bh (v : Int) : Prop := 0 ≤ v ∧ v < 18446744073709551616
theorem Hp : ∀ (k n : Nat), (F3 k n).length ≤ k
  | 0, _ => Nat.le_refl _
  | k + 1, n => by
    unfold F3
    split
    · simp
    · have := Hp k (n / 16)
      simp; omega
def Gn (v : Int) : List UInt8 := List.replicate (16 - (F3 16 v.toNat).length) 48 ++ F3 16 v.toNat
theorem KR (v : Int) : (Gn v).length = 16 := by
  have := Hp 16 v.toNat
  unfold Gn
  rw [List.length_append, List.length_replicate]; omega
theorem JY (c : UInt8) : ∀ k : Nat, (List.replicate k ([c] : List UInt8)).flatten = List.replicate k c
  | 0 => rfl
  | k + 1 => by rw [List.replicate_succ, List.flatten_cons, JY c k, List.replicate_succ]; rfl
theorem KW {v : Int} (h : Bh v) : Du v = some (Gn v) := by
  have hl := Hp 16 v.toNat
  unfold Du
  have h1 : BI v 16 = some (F3 16 v.toNat) := LH h.1 h.2
  have h2 : FN [48] (CL (16 - ((F3 16 v.toNat).length : Int))) = some (List.replicate (16 - (F3 16 v.toNat).length) 48) := by
    unfold FN
    rw [FE (by omega), if_pos ⟨by omega, by omega, by decide⟩, JY]
    congr 2; omega
  rw [h1, Option.bind_some, h2, Option.bind_some, Cz (by rw [List.length_replicate]; omega)]; rfl
theorem Hi : ∀ (l : List UInt8) (n : Nat) {v : Int}, n < 18446744073709551616 → FF n l = .inl v → Bh v
  | [], n, v, h, e => by
    have : (n : Int) = v := Sum.inl.inj e
    omega
  | b :: t, n, v, h, e => by
    unfold FF at e
    split at e
    · cases e
    · split at e
      · cases e
      · exact Hi t _ (by omega) e
def Md (x : List UInt8) : Option Int := match (if x = [] then Sum.inr 0 else FF 0 x : Int ⊕ Int) with
  | .inl v => if Gn v = x then some v else none
  | .inr _ => none
theorem KI {x : List UInt8} {v : Int} (h : Md x = some v) : Bh v ∧ Gn v = x := by
  unfold Md at h
  split at h
  · rename_i u hu
    split at hu
    · cases hu
    · split at h
      · rename_i q
        rw [← Option.some.inj h]; exact ⟨Hi x 0 (by decide) hu, q⟩
      · cases h
  · cases h
def Kb : List (List UInt8) → Option (List Int)
  | [] => some []
  | x :: r => (Md x).bind fun v => (Kb r).bind fun l => some (v :: l)
theorem Ia : ∀ {ws : List (List UInt8)} {ns : List Int}, Kb ws = some ns → ws = ns.map Gn ∧ ∀ v ∈ ns, Bh v
  | [], ns, h => by rw [← Option.some.inj h]; exact ⟨rfl, fun v hv => by cases hv⟩
  | x :: r, ns, h => by
    obtain ⟨v, h1, h2⟩ := An (show (Md x).bind _ = some ns from h)
    obtain ⟨l, h3, h4⟩ := An h2
    obtain ⟨e1, e2⟩ := KI h1
    obtain ⟨e3, e4⟩ := Ia h3
    rw [← Option.some.inj h4]
    exact ⟨by rw [List.map_cons, e2, ← e3], fun u hu => by
      rcases List.mem_cons.1 hu with rfl | hu
      · exact e1
      · exact e4 u hu⟩
theorem H1 (p : List UInt8 × Int) (ws : List (List UInt8)) (hw : ws.length ≤ 100000) (hx : ∀ x ∈ ws, x.length ≤ 100000) : ∀ (d i : Nat) (xs : List Int), i + d = ws.length → xs.length ≤ i →
    BB (AU p ws) (xs, (i : Int)) = some (Kh p xs (Kb (ws.drop i)))
  | 0, i, xs, hi, hl => by
    rw [List.drop_eq_nil_of_le (by omega)]
    show _ = some (Sum.inl (xs ++ []) : Lv)
    rw [List.append_nil, Cd (by rw [AU, if_neg (by omega)])]
  | d + 1, i, xs, hi, hl => by
    have hil : i < ws.length := by omega
    have hxi := hx _ (List.getElem_mem hil)
    rw [List.drop_eq_getElem_cons hil]
    have hst : AU p ws (xs, (i : Int)) = Mh p xs i (Md ws[i]) := by
      rw [AU, if_pos (by omega), Eb (List.getElem?_eq_getElem hil), Option.bind_some, LD (by omega), Option.bind_some]
      unfold Md
      cases hv : (if ws[i] = [] then Sum.inr 0 else FF 0 ws[i] : Int ⊕ Int) with
      | inl v =>
        have hb : Bh v := by
          split at hv
          · cases hv
          · exact Hi _ 0 (by decide) hv
        simp only [swap, B3]
        rw [KW hb, Option.bind_some]
        by_cases b3 : Gn v = ws[i]
        · rw [if_neg (fun h => h b3), if_pos b3, Cz (by simp; omega), Option.bind_some, FE (by omega)]; rfl
        · rw [if_pos b3, if_neg b3]; rfl
      | inr u => rfl
    show _ = some (Kh p xs ((Md ws[i]).bind fun v => (Kb (ws.drop (i + 1))).bind fun l => some (v :: l)))
    cases ho : Md ws[i] with
    | none =>
      rw [ho] at hst
      rw [Cd hst]; rfl
    | some v =>
      rw [ho] at hst
      rw [E4 hst, H1 p ws hw hx d (i + 1) (xs ++ [v]) (by omega) (by simp; omega), Option.bind_some]
      cases Kb (ws.drop (i + 1)) with
      | none => rfl
      | some l => simp [Kh]
abbrev Fh (w : List UInt8) (ns : List Int) : List UInt8 := HJ w (ns.map Gn) ++ [10]
theorem MH {s : List UInt8} (hs : s.length ≤ 100000) (n : Int) (w : List UInt8) :
    (∃ ns rest, s = Fh w ns ++ rest ∧ (∀ v ∈ ns, Bh v) ∧ BS (s, n) w = some (.inl (ns, rest, CL (n + 1)))) ∨ BS (s, n) w = some (.inr (n, s, n)) := by
  unfold BS
  rcases Ix hs n w with ⟨_, _, h3⟩ | ⟨w0, ws, rest, h1, _, h3, h4⟩
  · rw [h3]; exact .inr rfl
  · rw [h4]
    by_cases q : w0 = w
    · subst q
      rw [if_pos rfl, Option.bind_some]
      obtain ⟨l1, l2, l3⟩ := Ga w0 ws
      have hsl : (HJ w0 ws).length ≤ s.length := by rw [h1]; simp
      show (∃ ns rest, _ ∧ _ ∧ Es (BB (AU (s, n) ws) ([], 0)) _ = _) ∨ Es (BB (AU (s, n) ws) ([], 0)) _ = _
      rw [show BB (AU (s, n) ws) ([], 0) = _ from H1 (s, n) ws (by omega) (fun x hx => by have := l1 x hx; omega) ws.length 0 [] (by omega) (by simp), List.drop_zero]
      cases ha : Kb ws with
      | none => exact .inr rfl
      | some ns =>
        obtain ⟨e1, e2⟩ := Ia ha
        left
        refine ⟨ns, rest, by rw [h1, e1]; simp, e2, ?_⟩
        show (Bw (s, n)).bind _ = _
        rw [h3]; rfl
    · rw [if_neg q]; exact .inr rfl
end Go.Proofs.YthmkgdnnocemmaaDoor
