/- Layer 40: lines. Conditions: none. -/
import Derived.Test.YthmkgdnnocemmaaDoorbM40G
import Derived.Lib.Join
namespace Go.Proofs.YthmkgdnnocemmaaDoor
set_option linter.unusedVariables false
set_option linter.unusedSimpArgs false
open Go Go.RowKit
def Ol (b : UInt8) : Prop := 48 ≤ b.toNat ∧ b.toNat ≤ 57
def IV (a : Nat) (l : List UInt8) : Nat := l.foldl (fun a b => a * 10 + (b.toNat - 48)) a
theorem MZ (a : Nat) (l m : List UInt8) : IV a (l ++ m) = IV (IV a l) m := by unfold IV; rw [List.foldl_append]
theorem GJ (a : Nat) (b : UInt8) (l : List UInt8) : IV a (b :: l) = IV (a * 10 + (b.toNat - 48)) l := by unfold IV; rw [List.foldl_cons]
theorem LR : ∀ (l : List UInt8) (a : Nat), a ≤ IV a l
  | [], a => Nat.le_refl _
  | b :: l, a => by rw [GJ]; exact Nat.le_trans (by omega) (LR l _)
theorem Ie {d : Nat} (h : d < 10) : (UInt8.ofNat (48 + d)).toNat = 48 + d := by
  have : d = 0 ∨ d = 1 ∨ d = 2 ∨ d = 3 ∨ d = 4 ∨ d = 5 ∨ d = 6 ∨ d = 7 ∨ d = 8 ∨ d = 9 := by omega
  rcases this with rfl | rfl | rfl | rfl | rfl | rfl | rfl | rfl | rfl | rfl <;> rfl
theorem Gj : ∀ (k u : Nat), u < 10 ^ (k + 1) → (∀ b ∈ Lib.decDigits u, Ol b) ∧ IV 0 (Lib.decDigits u) = u ∧ Lib.decDigits u ≠ [] ∧ (Lib.decDigits u).length ≤ k + 1
  | 0, u, h => by
    have hu : u < 10 := by omega
    rw [Lib.decDigits_one hu]
    refine ⟨fun b hb => ?_, ?_, by simp, by simp⟩
    · rw [List.mem_singleton.1 hb]; unfold Ol; rw [Ie hu]; omega
    · rw [GJ, Ie hu]; show 0 * 10 + (48 + u - 48) = u; omega
  | k + 1, u, h => by
    by_cases hu : u < 10
    · obtain ⟨h1, h2, h3, h4⟩ := Gj 0 u (by omega)
      exact ⟨h1, h2, h3, by omega⟩
    · have hq : u / 10 < 10 ^ (k + 1) := by rw [Nat.pow_succ] at h; omega
      obtain ⟨h1, h2, h3, h4⟩ := Gj k (u / 10) hq
      have hm : u % 10 < 10 := by omega
      rw [Nd (by omega)]
      refine ⟨fun b hb => ?_, ?_, by simp, by rw [List.length_append, List.length_singleton]; omega⟩
      · rcases List.mem_append.1 hb with hb | hb
        · exact h1 b hb
        · rw [List.mem_singleton.1 hb]; unfold Ol; rw [Ie hm]; omega
      · rw [MZ, h2, GJ, Ie hm]; show u / 10 * 10 + (48 + u % 10 - 48) = u; omega
theorem II : ∀ (l : List UInt8) (a : Nat), (∀ b ∈ l, Ol b) → IV a l < 9223372036854775808 → Lib.parseUint10 a l = .ok (IV a l)
  | [], a, _, _ => rfl
  | c :: r, a, h, hv => by
    have hc := h c (List.mem_cons_self ..)
    have hg := LR r (a * 10 + (c.toNat - 48))
    rw [GJ] at hv ⊢
    rw [Lib.parseUint10, if_pos (show 48 ≤ c.toNat ∧ c.toNat ≤ 57 from hc), if_neg (by omega), if_neg (by omega)]
    exact II r _ (fun b hb => h b (List.mem_cons_of_mem _ hb)) hv
theorem Ni {u : Nat} (h : u ≤ 1125899906842624) : Lib.atoiAll (Lib.decDigits u) = .ok (u : Int) := by
  obtain ⟨h1, h2, h3, h4⟩ := Gj 15 u (by omega)
  cases hl : Lib.decDigits u with
  | nil => exact absurd hl h3
  | cons c r =>
    rw [hl] at h1 h2
    have hc : Ol c := h1 c (List.mem_cons_self ..)
    unfold Ol at hc
    have hp : Lib.parseMag (c :: r) = .ok u := by unfold Lib.parseMag; rw [if_neg (by simp), II _ 0 h1 (by rw [h2]; omega), h2]
    unfold Lib.atoiAll
    simp only
    rw [if_neg (by omega), hp]
    simp only
    rw [if_neg (by omega), if_neg (by omega), if_neg (by omega)]
theorem Kp {w : List UInt8} {c : UInt8} (h : c ∉ w) : Lib.split w [c] = [w] := by
  unfold Lib.split
  rw [Lib.count_miss (KH h)]; rfl
theorem Ky {w r : List UInt8} {c : UInt8} (h : c ∉ w) : Lib.split (w ++ c :: r) [c] = w :: Lib.split r [c] := by
  have hi : Lib.index (w ++ c :: r) [c] = (w.length : Int) := Ks h
  have hd : (w ++ c :: r).drop (w.length + 1) = r := by
    rw [show w ++ c :: r = (w ++ [c]) ++ r by simp, List.drop_left' (by simp)]
  have hne : ¬ (Lib.index (w ++ c :: r) [c] == -1) = true := by rw [hi]; intro e; have := beq_iff_eq.1 e; omega
  have key : ∀ k, Lib.splitK [c] 0 (k + 1) (w ++ c :: r) = w :: Lib.splitK [c] 0 k r := fun k => by
    rw [Lib.splitK, if_neg hne, hi]
    simp only [Int.toNat_natCast, Nat.add_zero, List.length_singleton]
    rw [hd, List.take_left' rfl]
  unfold Lib.split
  rw [Lib.count_hit (by simp) hi, Nat.add_comm 1]
  have e2 : (w ++ c :: r).drop (w.length + ([c] : List UInt8).length) = r := hd
  rw [e2]
  exact key _
theorem IB {c : UInt8} : ∀ {l : List UInt8}, c ∈ l → ∃ w r, l = w ++ c :: r ∧ c ∉ w
  | x :: l, h => by
    by_cases e : x = c
    · exact ⟨[], l, by rw [e]; rfl, by simp⟩
    · rcases List.mem_cons.1 h with h | h
      · exact absurd h.symm e
      · obtain ⟨w, r, e1, e2⟩ := IB h
        refine ⟨x :: w, r, by rw [e1]; rfl, fun hm => ?_⟩
        rcases List.mem_cons.1 hm with h | h
        · exact e h.symm
        · exact e2 h
abbrev Bd (v : Int) : Prop := -1125899906842624 ≤ v ∧ v ≤ 1125899906842624
theorem HI {v : Int} (h : Bd v) : Lib.atoiAll (Lib.itoa v) = .ok v ∧ ∀ b ∈ Lib.itoa v, Ol b ∨ b = 45 := by
  by_cases c : 0 ≤ v
  · obtain ⟨u, rfl⟩ : ∃ u : Nat, v = (u : Int) := ⟨v.toNat, by omega⟩
    rw [Lib.itoa_nonneg]
    exact ⟨Ni (by omega), fun b hb => .inl ((Gj 15 u (by omega)).1 b hb)⟩
  · obtain ⟨u, rfl⟩ : ∃ u : Nat, v = -(u : Int) := ⟨(-v).toNat, by omega⟩
    obtain ⟨h1, h2, h3, h4⟩ := Gj 15 u (by omega)
    rw [Lib.itoa_neg u (by omega)]
    refine ⟨?_, fun b hb => ?_⟩
    · have hp : Lib.parseMag (Lib.decDigits u) = .ok u := by unfold Lib.parseMag; rw [if_neg (by simpa using h3), II _ 0 h1 (by rw [h2]; omega), h2]
      unfold Lib.atoiAll
      simp only
      rw [if_pos (.inr (by decide)), hp]
      simp only
      rw [if_neg (fun h => h.1 (by decide)), if_neg (by omega), if_pos (by decide)]
    · rcases List.mem_cons.1 hb with rfl | hb
      · exact .inr rfl
      · exact .inl (h1 b hb)
theorem J1 {v : Int} (h : Bd v) {c : UInt8} (hc : c.toNat = 10 ∨ c.toNat = 32) : c ∉ Lib.itoa v := fun hm => by
  rcases (HI h).2 c hm with h | h
  · unfold Ol at h; omega
  · rw [h] at hc; revert hc; decide
def D0 (w : List UInt8) (ws : List (List UInt8)) : List UInt8 := w ++ (ws.map fun x => 32 :: x).flatten
theorem Gt (w x : List UInt8) (ws : List (List UInt8)) : D0 w (x :: ws) = w ++ 32 :: D0 x ws := by unfold D0; simp
theorem Nq {c : UInt8} (hc : c ≠ 32) : ∀ (ws : List (List UInt8)) {w : List UInt8}, c ∉ w → (∀ x ∈ ws, c ∉ x) → c ∉ D0 w ws
  | [], w, h, _ => by unfold D0; simpa using h
  | x :: ws, w, h, hx => by
    rw [Gt]
    have := Nq hc ws (hx x (List.mem_cons_self ..)) fun y hy => hx y (List.mem_cons_of_mem _ hy)
    simp only [List.mem_append, List.mem_cons, not_or]
    exact ⟨h, hc, this⟩
theorem JO : ∀ (ws : List (List UInt8)) {w : List UInt8}, (32 : UInt8) ∉ w → (∀ x ∈ ws, (32 : UInt8) ∉ x) → Lib.split (D0 w ws) [32] = w :: ws
  | [], w, h, _ => by unfold D0; rw [List.map_nil, List.flatten_nil, List.append_nil]; exact Kp h
  | x :: ws, w, h, hx => by
    rw [Gt, Ky h, JO ws (hx x (List.mem_cons_self ..)) fun y hy => hx y (List.mem_cons_of_mem _ hy)]
theorem KF : ∀ (n : Nat) (t : List UInt8), t.length < n → ∃ w ws, Lib.split t [32] = w :: ws ∧ t = D0 w ws
  | 0, t, h => absurd h (Nat.not_lt_zero _)
  | n + 1, t, h => by
    by_cases c : (32 : UInt8) ∈ t
    · obtain ⟨w, r, rfl, h2⟩ := IB c
      obtain ⟨x, ws, e1, e2⟩ := KF n r (by simp at h; omega)
      exact ⟨w, x :: ws, by rw [Ky h2, e1], by rw [Gt, ← e2]⟩
    · exact ⟨t, [], Kp c, by unfold D0; simp⟩
abbrev AR (w : List UInt8) (ns : List Int) : List UInt8 := D0 w (ns.map Lib.itoa) ++ [10]
theorem Kd {w rest : List UInt8} {ws : List (List UInt8)} (h10 : (10 : UInt8) ∉ w) (h32 : (32 : UInt8) ∉ w) (hw10 : ∀ x ∈ ws, (10 : UInt8) ∉ x) (hw : ∀ x ∈ ws, (32 : UInt8) ∉ x) (hl : (D0 w ws ++ 10 :: rest).length ≤ 100000) (n : Int) :
    Bl (D0 w ws ++ 10 :: rest, n) w = some (.inl ws) ∧ Bi (D0 w ws ++ 10 :: rest, n) = some (rest, CD (n + 1)) ∧ Bc (D0 w ws ++ 10 :: rest, n) = some (.inl (D0 w ws)) := by
  have hc : Hs (D0 w ws ++ 10 :: rest) [10] = some (D0 w ws, rest, true) := by rw [Hj (by omega), KV (Nq (by decide) ws h10 hw10)]
  have hpk : Bc (D0 w ws ++ 10 :: rest, n) = some (.inl (D0 w ws)) := by
    unfold Bc
    rw [show (D0 w ws ++ 10 :: rest, n).1 = D0 w ws ++ 10 :: rest from rfl, hc, Option.bind_some]; rfl
  refine ⟨?_, ?_, hpk⟩
  · unfold Bl
    rw [hpk, Option.bind_some]
    have hs : FL (D0 w ws) [32] = some (w :: ws) := by
      unfold FL
      rw [if_pos ⟨by simp at hl; omega, by decide⟩, JO ws h32 hw]
    show (FL (D0 w ws) [32]).bind _ = _
    rw [hs, Option.bind_some, show ix (w :: ws) 0 = some w from C2 (k := 0) rfl, Option.bind_some, if_neg (fun h => h rfl), Ii (by simp only [List.length_cons]; omega), Option.bind_some]
    simp
  · unfold Bi
    rw [show (D0 w ws ++ 10 :: rest, n).1 = D0 w ws ++ 10 :: rest from rfl, hc]; rfl
theorem Kb {s : List UInt8} (hs : s.length ≤ 100000) (n : Int) (w : List UInt8) :
    ((10 : UInt8) ∉ s ∧ Bc (s, n) = some (.inr n) ∧ Bl (s, n) w = some (.inr n)) ∨
    ∃ w0 ws rest, s = D0 w0 ws ++ 10 :: rest ∧ Bc (s, n) = some (.inl (D0 w0 ws)) ∧ Bi (s, n) = some (rest, CD (n + 1)) ∧ Bl (s, n) w = if w0 = w then some (.inl ws) else some (.inr n) := by
  by_cases c : (10 : UInt8) ∈ s
  · right
    obtain ⟨t, rest, rfl, h2⟩ := IB c
    obtain ⟨w0, ws, e1, e2⟩ := KF (t.length + 1) t (by omega)
    have hc : Hs (t ++ 10 :: rest) [10] = some (t, rest, true) := by rw [Hj (by omega), KV h2]
    have hpk : Bc (t ++ 10 :: rest, n) = some (.inl t) := by
      unfold Bc
      rw [show (t ++ 10 :: rest, n).1 = t ++ 10 :: rest from rfl, hc, Option.bind_some]; rfl
    refine ⟨w0, ws, rest, by rw [← e2], by rw [← e2]; exact hpk, ?_, ?_⟩
    · unfold Bi
      rw [show (t ++ 10 :: rest, n).1 = t ++ 10 :: rest from rfl, hc]; rfl
    · unfold Bl
      rw [hpk, Option.bind_some]
      have hsp : FL t [32] = some (w0 :: ws) := by
        unfold FL
        rw [if_pos ⟨by simp at hs; omega, by decide⟩, e1]
      show (FL t [32]).bind _ = _
      rw [hsp, Option.bind_some, show ix (w0 :: ws) 0 = some w0 from C2 (k := 0) rfl, Option.bind_some]
      by_cases q : w0 = w
      · rw [if_neg (fun h => h q), if_pos q, Ii (by simp only [List.length_cons]; omega), Option.bind_some]
        simp
      · rw [if_pos q, if_neg q]; rfl
  · left
    have hc : Hs s [10] = some (s, [], false) := by rw [Hj (by omega), M8 c]
    have hpk : Bc (s, n) = some (.inr n) := by
      unfold Bc
      rw [show (s, n).1 = s from rfl, hc, Option.bind_some]; rfl
    refine ⟨c, hpk, ?_⟩
    unfold Bl
    rw [hpk]; rfl
theorem F7 (w : List UInt8) : ∀ (ws : List (List UInt8)), (∀ x ∈ ws, x.length ≤ (D0 w ws).length) ∧ ws.length ≤ (D0 w ws).length ∧ w.length ≤ (D0 w ws).length
  | [] => ⟨fun x h => (by cases h), Nat.zero_le _, (by unfold D0; simp)⟩
  | y :: ws => by
    obtain ⟨h1, h2, h3⟩ := F7 y ws
    have : (D0 w (y :: ws)).length = w.length + 1 + (D0 y ws).length := by rw [Gt]; simp; omega
    refine ⟨fun x hx => ?_, by rw [List.length_cons]; omega, by omega⟩
    rcases List.mem_cons.1 hx with rfl | hx
    · omega
    · have := h1 x hx; omega
open Classical in
noncomputable def Ns (x : List UInt8) : Option Int := match Lib.atoiAll x with
  | .ok v => if Bd v ∧ Lib.itoa v = x then some v else none
  | _ => none
theorem MI {x : List UInt8} {v : Int} (h : Ns x = some v) : Bd v ∧ Lib.itoa v = x := by
  unfold Ns at h
  split at h
  · split at h
    · rename_i q
      rw [← Option.some.inj h]; exact q
    · cases h
  · cases h
theorem OK {v : Int} (h : Bd v) : Ns (Lib.itoa v) = some v := by
  unfold Ns
  rw [(HI h).1]
  exact if_pos ⟨h, rfl⟩
noncomputable def Lh : List (List UInt8) → Option (List Int)
  | [] => some []
  | x :: r => (Ns x).bind fun v => (Lh r).bind fun l => some (v :: l)
theorem JE : ∀ {ws : List (List UInt8)} {ns : List Int}, Lh ws = some ns → ws = ns.map Lib.itoa ∧ ∀ v ∈ ns, Bd v
  | [], ns, h => by rw [← Option.some.inj h]; exact ⟨rfl, fun v hv => by cases hv⟩
  | x :: r, ns, h => by
    obtain ⟨v, h1, h2⟩ := An (show (Ns x).bind _ = some ns from h)
    obtain ⟨l, h3, h4⟩ := An h2
    obtain ⟨e1, e2⟩ := MI h1
    obtain ⟨e3, e4⟩ := JE h3
    rw [← Option.some.inj h4]
    exact ⟨by rw [List.map_cons, e2, ← e3], fun u hu => by
      rcases List.mem_cons.1 hu with rfl | hu
      · exact e1
      · exact e4 u hu⟩
theorem LL : ∀ {ns : List Int}, (∀ v ∈ ns, Bd v) → Lh (ns.map Lib.itoa) = some ns
  | [], _ => rfl
  | v :: ns, h => by
    show (Ns (Lib.itoa v)).bind _ = _
    rw [OK (h v (List.mem_cons_self ..)), Option.bind_some, LL fun u hu => h u (List.mem_cons_of_mem _ hu)]; rfl
abbrev NV : Type := (List Int) ⊕ ((List Int × (List UInt8 × Int)) ⊕ (Int × (List UInt8 × Int)))
def Me (p : List UInt8 × Int) (xs : List Int) : Option (List Int) → NV
  | some ns => .inl (xs ++ ns)
  | none => .inr (.inr (p.2, p))
def Ov (p : List UInt8 × Int) (xs : List Int) (i : Nat) : Option Int → Option ((List Int × Int) ⊕ NV)
  | some v => some (.inl (xs ++ [v], ((i + 1 : Nat) : Int)))
  | none => some (.inr (.inr (.inr (p.2, p))))
theorem HH (p : List UInt8 × Int) (ws : List (List UInt8)) (hw : ws.length ≤ 100000) (hx : ∀ x ∈ ws, x.length ≤ 100000) : ∀ (d i : Nat) (xs : List Int), i + d = ws.length → xs.length ≤ i →
    Bf (AK p ws) (xs, (i : Int)) = some (Me p xs (Lh (ws.drop i)))
  | 0, i, xs, hi, hl => by
    rw [List.drop_eq_nil_of_le (by omega)]
    show _ = some (Sum.inl (xs ++ []) : NV)
    rw [List.append_nil, CP (by rw [AK, if_neg (by omega)])]
  | d + 1, i, xs, hi, hl => by
    have hil : i < ws.length := by omega
    have hxi := hx _ (List.getElem_mem hil)
    rw [List.drop_eq_getElem_cons hil]
    have hst : AK p ws (xs, (i : Int)) = Ov p xs i (Ns ws[i]) := by
      rw [AK, if_pos (by omega), C2 (List.getElem?_eq_getElem hil), Option.bind_some]
      unfold Ns
      cases hv : Lib.atoiAll ws[i] with
      | ok v =>
        rw [Nk (by omega) hv, Option.bind_some]
        simp only [B2]
        by_cases b1 : v < -1125899906842624
        · rw [if_pos b1]
          rw [if_neg (fun h => by have := h.1; unfold Bd at this; omega)]; rfl
        · rw [if_neg b1]
          by_cases b2 : 1125899906842624 < v
          · rw [if_pos b2]
            rw [if_neg (fun h => by have := h.1; unfold Bd at this; omega)]; rfl
          · rw [if_neg b2, KI (by omega), Option.bind_some]
            by_cases b3 : Lib.itoa v = ws[i]
            · rw [if_pos ⟨⟨by omega, by omega⟩, b3⟩, decide_eq_false (fun h => h b3)]
              show (DP xs [v]).bind _ = _
              rw [Ck (by simp; omega), Option.bind_some, Fp (by omega)]; rfl
            · rw [if_neg (fun h => b3 h.2), decide_eq_true b3]; rfl
      | «syntax» =>
        have : GT ws[i] = some (.inr 0) := by unfold GT; rw [if_pos (by omega), hv]
        rw [this]; rfl
      | range =>
        have : GT ws[i] = some (.inr (Lib.atoiSat ws[i])) := by unfold GT; rw [if_pos (by omega), hv]
        rw [this]; rfl
    show _ = some (Me p xs ((Ns ws[i]).bind fun v => (Lh (ws.drop (i + 1))).bind fun l => some (v :: l)))
    cases ho : Ns ws[i] with
    | none =>
      rw [ho] at hst
      rw [CP hst]; rfl
    | some v =>
      rw [ho] at hst
      rw [EV hst, HH p ws hw hx d (i + 1) (xs ++ [v]) (by omega) (by simp; omega), Option.bind_some]
      cases Lh (ws.drop (i + 1)) with
      | none => rfl
      | some l => simp [Me]
theorem JD {s : List UInt8} (hs : s.length ≤ 100000) (n : Int) (w : List UInt8) (c : Int) :
    (∃ ns rest, s = AR w ns ++ rest ∧ (∀ v ∈ ns, Bd v) ∧ (c = -1 ∨ (ns.length : Int) = c) ∧ AE (s, n) w c = some (.inl (ns, rest, CD (n + 1)))) ∨ AE (s, n) w c = some (.inr (n, s, n)) := by
  unfold AE
  rcases Kb hs n w with ⟨_, _, h3⟩ | ⟨w0, ws, rest, h1, _, h3, h4⟩
  · rw [h3]; exact .inr rfl
  · rw [h4]
    by_cases q : w0 = w
    · subst q
      rw [if_pos rfl, Option.bind_some]
      obtain ⟨l1, l2, l3⟩ := F7 w0 ws
      have hsl : (D0 w0 ws).length ≤ s.length := by rw [h1]; simp
      show (∃ ns rest, _ ∧ _ ∧ _ ∧ D6 (Bf (AK (s, n) ws) ([], 0)) _ = _) ∨ D6 (Bf (AK (s, n) ws) ([], 0)) _ = _
      rw [show Bf (AK (s, n) ws) ([], 0) = _ from HH (s, n) ws (by omega) (fun x hx => by have := l1 x hx; omega) ws.length 0 [] (by omega) (by simp), List.drop_zero]
      cases ha : Lh ws with
      | none => exact .inr rfl
      | some ns =>
        obtain ⟨e1, e2⟩ := JE ha
        by_cases cc : c = -1 ∨ (ns.length : Int) = c
        · left
          refine ⟨ns, rest, by rw [h1, e1]; simp, e2, cc, ?_⟩
          show (if (decide (c ≠ -1) && decide (((([] : List Int) ++ ns).length : Int) ≠ c)) = true then _ else (Bi (s, n)).bind _) = _
          rw [List.nil_append, if_neg (by simp only [Bool.and_eq_true, decide_eq_true_iff]; omega), h3]; rfl
        · right
          show (if (decide (c ≠ -1) && decide (((([] : List Int) ++ ns).length : Int) ≠ c)) = true then _ else _) = _
          rw [List.nil_append, if_pos (by simp only [Bool.and_eq_true, decide_eq_true_iff]; omega)]; rfl
    · rw [if_neg q]; exact .inr rfl
theorem HK {w rest : List UInt8} {ns : List Int} (h10 : (10 : UInt8) ∉ w) (h32 : (32 : UInt8) ∉ w) (hb : ∀ v ∈ ns, Bd v) {c : Int} (hc : c = -1 ∨ (ns.length : Int) = c) (hl : (AR w ns ++ rest).length ≤ 100000) (n : Int) :
    AE (AR w ns ++ rest, n) w c = some (.inl (ns, rest, CD (n + 1))) := by
  have e : AR w ns ++ rest = D0 w (ns.map Lib.itoa) ++ 10 :: rest := by simp
  rw [e] at hl ⊢
  have hm : ∀ {c : UInt8}, (c.toNat = 10 ∨ c.toNat = 32) → ∀ x ∈ ns.map Lib.itoa, c ∉ x := fun hc x hx => by
    obtain ⟨v, hv, rfl⟩ := List.mem_map.1 hx
    exact J1 (hb v hv) hc
  obtain ⟨h1, h2, _⟩ := Kd (ws := ns.map Lib.itoa) h10 h32 (hm (by decide)) (hm (by decide)) hl n
  obtain ⟨l1, l2, l3⟩ := F7 w (ns.map Lib.itoa)
  have hsl : (D0 w (ns.map Lib.itoa)).length ≤ 100000 := by simp at hl ⊢; omega
  unfold AE
  rw [h1, Option.bind_some]
  show D6 (Bf (AK _ (ns.map Lib.itoa)) ([], 0)) _ = _
  rw [show Bf (AK (D0 w (ns.map Lib.itoa) ++ 10 :: rest, n) (ns.map Lib.itoa)) ([], 0) = _ from HH _ _ (by omega) (fun x hx => by have := l1 x hx; omega) (ns.map Lib.itoa).length 0 [] (by omega) (by simp), List.drop_zero, LL hb]
  show (if (decide (c ≠ -1) && decide (((([] : List Int) ++ ns).length : Int) ≠ c)) = true then _ else (Bi (D0 w (ns.map Lib.itoa) ++ 10 :: rest, n)).bind _) = _
  rw [List.nil_append, if_neg (by simp only [Bool.and_eq_true, decide_eq_true_iff]; omega), h2]; rfl
abbrev Bh (v : Int) : Prop := 0 ≤ v ∧ v < 18446744073709551616
theorem Il : ∀ (k n : Nat), (F5 k n).length ≤ k
  | 0, _ => Nat.le_refl _
  | k + 1, n => by
    unfold F5
    split
    · simp
    · have := Il k (n / 16)
      simp; omega
def Dz (v : Int) : List UInt8 := List.replicate (16 - (F5 16 v.toNat).length) 48 ++ F5 16 v.toNat
theorem IL (v : Int) : (Dz v).length = 16 := by
  have := Il 16 v.toNat
  unfold Dz
  rw [List.length_append, List.length_replicate]; omega
theorem Lz (c : UInt8) : ∀ k : Nat, (List.replicate k ([c] : List UInt8)).flatten = List.replicate k c
  | 0 => rfl
  | k + 1 => by rw [List.replicate_succ, List.flatten_cons, Lz c k, List.replicate_succ]; rfl
theorem ND {v : Int} (h : Bh v) : D3 v = some (Dz v) := by
  have hl := Il 16 v.toNat
  unfold D3
  have h1 : Cb v 16 = some (F5 16 v.toNat) := Oc h.1 h.2
  have h2 : GD [48] (CD (16 - ((F5 16 v.toNat).length : Int))) = some (List.replicate (16 - (F5 16 v.toNat).length) 48) := by
    unfold GD
    rw [Fp (by omega), if_pos ⟨by omega, by omega, by decide⟩, Lz]
    congr 2; omega
  rw [h1, Option.bind_some, h2, Option.bind_some, Ck (by rw [List.length_replicate]; omega)]; rfl
theorem IP : ∀ (l : List UInt8) (n : Nat) {v : Int}, n < 18446744073709551616 → DF n l = .inl v → Bh v
  | [], n, v, h, e => by
    have : (n : Int) = v := Sum.inl.inj e
    omega
  | b :: t, n, v, h, e => by
    unfold DF at e
    split at e
    · cases e
    · split at e
      · cases e
      · exact IP t _ (by omega) e
def MC (x : List UInt8) : Option Int := match (if x = [] then Sum.inr 0 else DF 0 x : Int ⊕ Int) with
  | .inl v => if Dz v = x then some v else none
  | .inr _ => none
theorem NC {x : List UInt8} {v : Int} (h : MC x = some v) : Bh v ∧ Dz v = x := by
  unfold MC at h
  split at h
  · rename_i u hu
    split at hu
    · cases hu
    · split at h
      · rename_i q
        rw [← Option.some.inj h]; exact ⟨IP x 0 (by decide) hu, q⟩
      · cases h
  · cases h
theorem IF : ∀ d : Fin 16, FV (GM d.val) = some d.val ∧ 48 ≤ (GM d.val).toNat := by decide +kernel
theorem Jc (n : Nat) (b : UInt8) (t : List UInt8) : DF n (b :: t) = match FV b with | none => .inr 0 | some d => if 18446744073709551616 ≤ 16 * n + d then .inr 18446744073709551615 else DF (16 * n + d) t := rfl
theorem JI : ∀ (a b : List UInt8) (n m : Nat), DF n a = .inl (m : Int) → DF n (a ++ b) = DF m b
  | [], b, n, m, h => by
    have : (n : Int) = (m : Int) := Sum.inl.inj h
    obtain rfl : n = m := by omega
    rfl
  | c :: a, b, n, m, h => by
    rw [Jc] at h
    rw [List.cons_append, Jc]
    cases hd : FV c with
    | none => rw [hd] at h; cases h
    | some d =>
      rw [hd] at h
      simp only at h ⊢
      split at h
      · cases h
      · rename_i q
        rw [if_neg q]
        exact JI a b _ m h
theorem JR {m d : Nat} (hd : d < 16) (h : 16 * m + d < 18446744073709551616) : DF m [GM d] = .inl ((16 * m + d : Nat) : Int) := by
  unfold DF
  rw [(IF ⟨d, hd⟩).1]
  simp only
  rw [if_neg (by omega)]; rfl
theorem HR : ∀ (k : Nat) (l : List UInt8), DF 0 (List.replicate k 48 ++ l) = DF 0 l
  | 0, _ => rfl
  | k + 1, l => by
    rw [List.replicate_succ, List.cons_append, DF, show FV 48 = some 0 from by decide]
    simp only
    rw [if_neg (by decide)]
    exact HR k l
theorem Iq : ∀ (k n : Nat), n < 16 ^ k → n < 18446744073709551616 → DF 0 (F5 k n) = .inl (n : Int)
  | 0, n, h, _ => by
    obtain rfl : n = 0 := by simpa using h
    rfl
  | k + 1, n, h, h2 => by
    unfold F5
    by_cases c : n < 16
    · rw [if_pos c, JR c (by omega)]; simp
    · rw [if_neg c]
      have hk : n / 16 < 16 ^ k := by
        rw [Nat.pow_succ] at h
        omega
      rw [JI _ _ 0 (n / 16) (Iq k (n / 16) hk (by omega)), JR (Nat.mod_lt _ (by decide)) (by omega)]
      congr 1; omega
theorem OM {v : Int} (h : Bh v) : MC (Dz v) = some v := by
  have hl := IL v
  unfold MC
  rw [if_neg (fun e => by rw [e] at hl; cases hl)]
  have : DF 0 (Dz v) = .inl v := by
    unfold Dz
    rw [HR, Iq 16 v.toNat (by have := h.2; simp; omega) (by omega)]
    congr 1; omega
  rw [this]
  exact if_pos rfl
theorem Kz : ∀ (k n : Nat), ∀ b ∈ F5 k n, 48 ≤ b.toNat
  | 0, _, b, h => by cases h
  | k + 1, n, b, h => by
    unfold F5 at h
    split at h
    · rename_i c
      rw [List.mem_singleton.1 h]; exact (IF ⟨n, c⟩).2
    · rcases List.mem_append.1 h with h | h
      · exact Kz k _ b h
      · rw [List.mem_singleton.1 h]; exact (IF ⟨n % 16, Nat.mod_lt _ (by decide)⟩).2
theorem LC {v : Int} {c : UInt8} (hc : c.toNat = 10 ∨ c.toNat = 32) : c ∉ Dz v := fun hm => by
  unfold Dz at hm
  rcases List.mem_append.1 hm with h | h
  · rw [(List.mem_replicate.1 h).2] at hc; revert hc; decide
  · have := Kz _ _ c h; omega
def KR : List (List UInt8) → Option (List Int)
  | [] => some []
  | x :: r => (MC x).bind fun v => (KR r).bind fun l => some (v :: l)
theorem JF : ∀ {ws : List (List UInt8)} {ns : List Int}, KR ws = some ns → ws = ns.map Dz ∧ ∀ v ∈ ns, Bh v
  | [], ns, h => by rw [← Option.some.inj h]; exact ⟨rfl, fun v hv => by cases hv⟩
  | x :: r, ns, h => by
    obtain ⟨v, h1, h2⟩ := An (show (MC x).bind _ = some ns from h)
    obtain ⟨l, h3, h4⟩ := An h2
    obtain ⟨e1, e2⟩ := NC h1
    obtain ⟨e3, e4⟩ := JF h3
    rw [← Option.some.inj h4]
    exact ⟨by rw [List.map_cons, e2, ← e3], fun u hu => by
      rcases List.mem_cons.1 hu with rfl | hu
      · exact e1
      · exact e4 u hu⟩
theorem Lw : ∀ {ns : List Int}, (∀ v ∈ ns, Bh v) → KR (ns.map Dz) = some ns
  | [], _ => rfl
  | v :: ns, h => by
    show (MC (Dz v)).bind _ = _
    rw [OM (h v (List.mem_cons_self ..)), Option.bind_some, Lw fun u hu => h u (List.mem_cons_of_mem _ hu)]; rfl
theorem HF (p : List UInt8 × Int) (ws : List (List UInt8)) (hw : ws.length ≤ 100000) (hx : ∀ x ∈ ws, x.length ≤ 100000) : ∀ (d i : Nat) (xs : List Int), i + d = ws.length → xs.length ≤ i →
    Bf (AY p ws) (xs, (i : Int)) = some (Me p xs (KR (ws.drop i)))
  | 0, i, xs, hi, hl => by
    rw [List.drop_eq_nil_of_le (by omega)]
    show _ = some (Sum.inl (xs ++ []) : NV)
    rw [List.append_nil, CP (by rw [AY, if_neg (by omega)])]
  | d + 1, i, xs, hi, hl => by
    have hil : i < ws.length := by omega
    have hxi := hx _ (List.getElem_mem hil)
    rw [List.drop_eq_getElem_cons hil]
    have hst : AY p ws (xs, (i : Int)) = Ov p xs i (MC ws[i]) := by
      rw [AY, if_pos (by omega), C2 (List.getElem?_eq_getElem hil), Option.bind_some, NM (by omega), Option.bind_some]
      unfold MC
      cases hv : (if ws[i] = [] then Sum.inr 0 else DF 0 ws[i] : Int ⊕ Int) with
      | inl v =>
        have hb : Bh v := by
          split at hv
          · cases hv
          · exact IP _ 0 (by decide) hv
        simp only [swap, B2]
        rw [ND hb, Option.bind_some]
        by_cases b3 : Dz v = ws[i]
        · rw [if_neg (fun h => h b3), if_pos b3, Ck (by simp; omega), Option.bind_some, Fp (by omega)]; rfl
        · rw [if_pos b3, if_neg b3]; rfl
      | inr u => rfl
    show _ = some (Me p xs ((MC ws[i]).bind fun v => (KR (ws.drop (i + 1))).bind fun l => some (v :: l)))
    cases ho : MC ws[i] with
    | none =>
      rw [ho] at hst
      rw [CP hst]; rfl
    | some v =>
      rw [ho] at hst
      rw [EV hst, HF p ws hw hx d (i + 1) (xs ++ [v]) (by omega) (by simp; omega), Option.bind_some]
      cases KR (ws.drop (i + 1)) with
      | none => rfl
      | some l => simp [Me]
abbrev C9 (w : List UInt8) (ns : List Int) : List UInt8 := D0 w (ns.map Dz) ++ [10]
theorem OZ {s : List UInt8} (hs : s.length ≤ 100000) (n : Int) (w : List UInt8) :
    (∃ ns rest, s = C9 w ns ++ rest ∧ (∀ v ∈ ns, Bh v) ∧ BA (s, n) w = some (.inl (ns, rest, CD (n + 1)))) ∨ BA (s, n) w = some (.inr (n, s, n)) := by
  unfold BA
  rcases Kb hs n w with ⟨_, _, h3⟩ | ⟨w0, ws, rest, h1, _, h3, h4⟩
  · rw [h3]; exact .inr rfl
  · rw [h4]
    by_cases q : w0 = w
    · subst q
      rw [if_pos rfl, Option.bind_some]
      obtain ⟨l1, l2, l3⟩ := F7 w0 ws
      have hsl : (D0 w0 ws).length ≤ s.length := by rw [h1]; simp
      show (∃ ns rest, _ ∧ _ ∧ D6 (Bf (AY (s, n) ws) ([], 0)) _ = _) ∨ D6 (Bf (AY (s, n) ws) ([], 0)) _ = _
      rw [show Bf (AY (s, n) ws) ([], 0) = _ from HF (s, n) ws (by omega) (fun x hx => by have := l1 x hx; omega) ws.length 0 [] (by omega) (by simp), List.drop_zero]
      cases ha : KR ws with
      | none => exact .inr rfl
      | some ns =>
        obtain ⟨e1, e2⟩ := JF ha
        left
        refine ⟨ns, rest, by rw [h1, e1]; simp, e2, ?_⟩
        show (Bi (s, n)).bind _ = _
        rw [h3]; rfl
    · rw [if_neg q]; exact .inr rfl
theorem ON {w rest : List UInt8} {ns : List Int} (h10 : (10 : UInt8) ∉ w) (h32 : (32 : UInt8) ∉ w) (hb : ∀ v ∈ ns, Bh v) (hl : (C9 w ns ++ rest).length ≤ 100000) (n : Int) :
    BA (C9 w ns ++ rest, n) w = some (.inl (ns, rest, CD (n + 1))) := by
  have e : C9 w ns ++ rest = D0 w (ns.map Dz) ++ 10 :: rest := by simp
  rw [e] at hl ⊢
  have hm : ∀ {c : UInt8}, (c.toNat = 10 ∨ c.toNat = 32) → ∀ x ∈ ns.map Dz, c ∉ x := fun hc x hx => by
    obtain ⟨v, hv, rfl⟩ := List.mem_map.1 hx
    exact LC hc
  obtain ⟨h1, h2, _⟩ := Kd (ws := ns.map Dz) h10 h32 (hm (by decide)) (hm (by decide)) hl n
  obtain ⟨l1, l2, l3⟩ := F7 w (ns.map Dz)
  have hsl : (D0 w (ns.map Dz)).length ≤ 100000 := by simp at hl ⊢; omega
  unfold BA
  rw [h1, Option.bind_some]
  show D6 (Bf (AY _ (ns.map Dz)) ([], 0)) _ = _
  rw [show Bf (AY (D0 w (ns.map Dz) ++ 10 :: rest, n) (ns.map Dz)) ([], 0) = _ from HF _ _ (by omega) (fun x hx => by have := l1 x hx; omega) (ns.map Dz).length 0 [] (by omega) (by simp), List.drop_zero, Lw hb]
  show (Bi (D0 w (ns.map Dz) ++ 10 :: rest, n)).bind _ = _
  rw [h2]; rfl
end Go.Proofs.YthmkgdnnocemmaaDoor
