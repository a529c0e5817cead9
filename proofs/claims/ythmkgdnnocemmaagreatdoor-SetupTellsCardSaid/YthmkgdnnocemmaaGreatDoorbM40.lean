/- Layer 40: lines. Conditions: none. -/
import Derived.Test.YthmkgdnnocemmaaGreatDoorbM40G
import Derived.Lib.Join
namespace Go.Proofs.YthmkgdnnocemmaaGreatDoor
set_option linter.unusedVariables false
set_option linter.unusedSimpArgs false
open Go Go.RowKit
def MY (b : UInt8) : Prop := 48 ≤ b.toNat ∧ b.toNat ≤ 57
def Gv (a : Nat) (l : List UInt8) : Nat := l.foldl (fun a b => a * 10 + (b.toNat - 48)) a
theorem Om (a : Nat) (l m : List UInt8) : Gv a (l ++ m) = Gv (Gv a l) m := by unfold Gv; rw [List.foldl_append]
theorem GK (a : Nat) (b : UInt8) (l : List UInt8) : Gv a (b :: l) = Gv (a * 10 + (b.toNat - 48)) l := by unfold Gv; rw [List.foldl_cons]
theorem Nb : ∀ (l : List UInt8) (a : Nat), a ≤ Gv a l
  | [], a => Nat.le_refl _
  | b :: l, a => by rw [GK]; exact Nat.le_trans (by omega) (Nb l _)
theorem Jq {d : Nat} (h : d < 10) : (UInt8.ofNat (48 + d)).toNat = 48 + d := by
  have : d = 0 ∨ d = 1 ∨ d = 2 ∨ d = 3 ∨ d = 4 ∨ d = 5 ∨ d = 6 ∨ d = 7 ∨ d = 8 ∨ d = 9 := by omega
  rcases this with rfl | rfl | rfl | rfl | rfl | rfl | rfl | rfl | rfl | rfl <;> rfl
theorem D0 : ∀ (k u : Nat), u < 10 ^ (k + 1) → (∀ b ∈ Lib.decDigits u, MY b) ∧ Gv 0 (Lib.decDigits u) = u ∧ Lib.decDigits u ≠ [] ∧ (Lib.decDigits u).length ≤ k + 1
  | 0, u, h => by
    have hu : u < 10 := by omega
    rw [Lib.decDigits_one hu]
    refine ⟨fun b hb => ?_, ?_, by simp, by simp⟩
    · rw [List.mem_singleton.1 hb]; unfold MY; rw [Jq hu]; omega
    · rw [GK, Jq hu]; show 0 * 10 + (48 + u - 48) = u; omega
  | k + 1, u, h => by
    by_cases hu : u < 10
    · obtain ⟨h1, h2, h3, h4⟩ := D0 0 u (by omega)
      exact ⟨h1, h2, h3, by omega⟩
    · have hq : u / 10 < 10 ^ (k + 1) := by rw [Nat.pow_succ] at h; omega
      obtain ⟨h1, h2, h3, h4⟩ := D0 k (u / 10) hq
      have hm : u % 10 < 10 := by omega
      rw [Jt (by omega)]
      refine ⟨fun b hb => ?_, ?_, by simp, by rw [List.length_append, List.length_singleton]; omega⟩
      · rcases List.mem_append.1 hb with hb | hb
        · exact h1 b hb
        · rw [List.mem_singleton.1 hb]; unfold MY; rw [Jq hm]; omega
      · rw [Om, h2, GK, Jq hm]; show u / 10 * 10 + (48 + u % 10 - 48) = u; omega
theorem JV : ∀ (l : List UInt8) (a : Nat), (∀ b ∈ l, MY b) → Gv a l < 9223372036854775808 → Lib.parseUint10 a l = .ok (Gv a l)
  | [], a, _, _ => rfl
  | c :: r, a, h, hv => by
    have hc := h c (List.mem_cons_self ..)
    have hg := Nb r (a * 10 + (c.toNat - 48))
    rw [GK] at hv ⊢
    rw [Lib.parseUint10, if_pos (show 48 ≤ c.toNat ∧ c.toNat ≤ 57 from hc), if_neg (by omega), if_neg (by omega)]
    exact JV r _ (fun b hb => h b (List.mem_cons_of_mem _ hb)) hv
theorem Pk {u : Nat} (h : u ≤ 1125899906842624) : Lib.atoiAll (Lib.decDigits u) = .ok (u : Int) := by
  obtain ⟨h1, h2, h3, h4⟩ := D0 15 u (by omega)
  cases hl : Lib.decDigits u with
  | nil => exact absurd hl h3
  | cons c r =>
    rw [hl] at h1 h2
    have hc : MY c := h1 c (List.mem_cons_self ..)
    unfold MY at hc
    have hp : Lib.parseMag (c :: r) = .ok u := by unfold Lib.parseMag; rw [if_neg (by simp), JV _ 0 h1 (by rw [h2]; omega), h2]
    unfold Lib.atoiAll
    simp only
    rw [if_neg (by omega), hp]
    simp only
    rw [if_neg (by omega), if_neg (by omega), if_neg (by omega)]
theorem Hg {w : List UInt8} {c : UInt8} (h : c ∉ w) : Lib.split w [c] = [w] := by
  unfold Lib.split
  rw [Lib.count_miss (LU h)]; rfl
theorem Hn {w r : List UInt8} {c : UInt8} (h : c ∉ w) : Lib.split (w ++ c :: r) [c] = w :: Lib.split r [c] := by
  have hi : Lib.index (w ++ c :: r) [c] = (w.length : Int) := LN h
  have hd : (w ++ c :: r).drop (w.length + 1) = r := by
    rw [show w ++ c :: r = (w ++ [c]) ++ r by simp, List.drop_left' (by simp)]
  have hne : ¬ (Lib.index (w ++ c :: r) [c] == -1) = true := by rw [hi]; intro e; have := beq_iff_eq.1 e; omega
  have key : ∀ k, Lib.splitK [c] 0 (k + 1) (w ++ c :: r) = w :: Lib.splitK [c] 0 k r := fun k => by
    rw [Lib.splitK, if_neg hne, hi]
    simp only [Int.toNat_natCast, Nat.add_zero, List.length_singleton]
    rw [hd, List.take_left' rfl]
  unfold Lib.split
  rw [Lib.count_hit (by simp) hi, Nat.add_comm 1]
  have e2 : (w ++ c :: r).drop (w.length + ([c] : List UInt8).length) = r := hd
  rw [e2]
  exact key _
theorem Is {c : UInt8} : ∀ {l : List UInt8}, c ∈ l → ∃ w r, l = w ++ c :: r ∧ c ∉ w
  | x :: l, h => by
    by_cases e : x = c
    · exact ⟨[], l, by rw [e]; rfl, by simp⟩
    · rcases List.mem_cons.1 h with h | h
      · exact absurd h.symm e
      · obtain ⟨w, r, e1, e2⟩ := Is h
        refine ⟨x :: w, r, by rw [e1]; rfl, fun hm => ?_⟩
        rcases List.mem_cons.1 hm with h | h
        · exact e h.symm
        · exact e2 h
abbrev Bd (v : Int) : Prop := -1125899906842624 ≤ v ∧ v ≤ 1125899906842624
theorem NU {v : Int} (h : Bd v) : Lib.atoiAll (Lib.itoa v) = .ok v ∧ ∀ b ∈ Lib.itoa v, MY b ∨ b = 45 := by
  by_cases c : 0 ≤ v
  · obtain ⟨u, rfl⟩ : ∃ u : Nat, v = (u : Int) := ⟨v.toNat, by omega⟩
    rw [Lib.itoa_nonneg]
    exact ⟨Pk (by omega), fun b hb => .inl ((D0 15 u (by omega)).1 b hb)⟩
  · obtain ⟨u, rfl⟩ : ∃ u : Nat, v = -(u : Int) := ⟨(-v).toNat, by omega⟩
    obtain ⟨h1, h2, h3, h4⟩ := D0 15 u (by omega)
    rw [Lib.itoa_neg u (by omega)]
    refine ⟨?_, fun b hb => ?_⟩
    · have hp : Lib.parseMag (Lib.decDigits u) = .ok u := by unfold Lib.parseMag; rw [if_neg (by simpa using h3), JV _ 0 h1 (by rw [h2]; omega), h2]
      unfold Lib.atoiAll
      simp only
      rw [if_pos (.inr (by decide)), hp]
      simp only
      rw [if_neg (fun h => h.1 (by decide)), if_neg (by omega), if_pos (by decide)]
    · rcases List.mem_cons.1 hb with rfl | hb
      · exact .inr rfl
      · exact .inl (h1 b hb)
def KU (w : List UInt8) (ws : List (List UInt8)) : List UInt8 := w ++ (ws.map fun x => 32 :: x).flatten
theorem LZ (w x : List UInt8) (ws : List (List UInt8)) : KU w (x :: ws) = w ++ 32 :: KU x ws := by unfold KU; simp
theorem En : ∀ (n : Nat) (t : List UInt8), t.length < n → ∃ w ws, Lib.split t [32] = w :: ws ∧ t = KU w ws
  | 0, t, h => absurd h (Nat.not_lt_zero _)
  | n + 1, t, h => by
    by_cases c : (32 : UInt8) ∈ t
    · obtain ⟨w, r, rfl, h2⟩ := Is c
      obtain ⟨x, ws, e1, e2⟩ := En n r (by simp at h; omega)
      exact ⟨w, x :: ws, by rw [Hn h2, e1], by rw [LZ, ← e2]⟩
    · exact ⟨t, [], Hg c, by unfold KU; simp⟩
abbrev BR (w : List UInt8) (ns : List Int) : List UInt8 := KU w (ns.map Lib.itoa) ++ [10]
theorem HF (w : List UInt8) : ∀ (ws : List (List UInt8)), (∀ x ∈ ws, x.length ≤ (KU w ws).length) ∧ ws.length ≤ (KU w ws).length ∧ w.length ≤ (KU w ws).length
  | [] => ⟨fun x h => (by cases h), Nat.zero_le _, (by unfold KU; simp)⟩
  | y :: ws => by
    obtain ⟨h1, h2, h3⟩ := HF y ws
    have : (KU w (y :: ws)).length = w.length + 1 + (KU y ws).length := by rw [LZ]; simp; omega
    refine ⟨fun x hx => ?_, by rw [List.length_cons]; omega, by omega⟩
    rcases List.mem_cons.1 hx with rfl | hx
    · omega
    · have := h1 x hx; omega
open Classical in
noncomputable def Kp (x : List UInt8) : Option Int := match Lib.atoiAll x with
  | .ok v => if Bd v ∧ Lib.itoa v = x then some v else none
  | _ => none
theorem Io {x : List UInt8} {v : Int} (h : Kp x = some v) : Bd v ∧ Lib.itoa v = x := by
  unfold Kp at h
  split at h
  · split at h
    · rename_i q
      rw [← Option.some.inj h]; exact q
    · cases h
  · cases h
theorem Ra {v : Int} (h : Bd v) : Kp (Lib.itoa v) = some v := by
  unfold Kp
  rw [(NU h).1]
  exact if_pos ⟨h, rfl⟩
noncomputable def IF : List (List UInt8) → Option (List Int)
  | [] => some []
  | x :: r => (Kp x).bind fun v => (IF r).bind fun l => some (v :: l)
theorem Kr : ∀ {ws : List (List UInt8)} {ns : List Int}, IF ws = some ns → ws = ns.map Lib.itoa ∧ ∀ v ∈ ns, Bd v
  | [], ns, h => by rw [← Option.some.inj h]; exact ⟨rfl, fun v hv => by cases hv⟩
  | x :: r, ns, h => by
    obtain ⟨v, h1, h2⟩ := Ae (show (Kp x).bind _ = some ns from h)
    obtain ⟨l, h3, h4⟩ := Ae h2
    obtain ⟨e1, e2⟩ := Io h1
    obtain ⟨e3, e4⟩ := Kr h3
    rw [← Option.some.inj h4]
    exact ⟨by rw [List.map_cons, e2, ← e3], fun u hu => by
      rcases List.mem_cons.1 hu with rfl | hu
      · exact e1
      · exact e4 u hu⟩
abbrev PV : Type := (List Int) ⊕ ((List Int × (List UInt8 × Int)) ⊕ (Int × (List UInt8 × Int)))
def NN (p : List UInt8 × Int) (xs : List Int) : Option (List Int) → PV
  | some ns => .inl (xs ++ ns)
  | none => .inr (.inr (p.2, p))
def QD (p : List UInt8 × Int) (xs : List Int) (i : Nat) : Option Int → Option ((List Int × Int) ⊕ PV)
  | some v => some (.inl (xs ++ [v], ((i + 1 : Nat) : Int)))
  | none => some (.inr (.inr (.inr (p.2, p))))
theorem Kz (p : List UInt8 × Int) (ws : List (List UInt8)) (hw : ws.length ≤ 100000) (hx : ∀ x ∈ ws, x.length ≤ 100000) : ∀ (d i : Nat) (xs : List Int), i + d = ws.length → xs.length ≤ i →
    Av (Be p ws) (xs, (i : Int)) = some (NN p xs (IF (ws.drop i)))
  | 0, i, xs, hi, hl => by
    rw [List.drop_eq_nil_of_le (by omega)]
    show _ = some (Sum.inl (xs ++ []) : PV)
    rw [List.append_nil, AN (by rw [Be, if_neg (by omega)])]
  | d + 1, i, xs, hi, hl => by
    have hil : i < ws.length := by omega
    have hxi := hx _ (List.getElem_mem hil)
    rw [List.drop_eq_getElem_cons hil]
    have hst : Be p ws (xs, (i : Int)) = QD p xs i (Kp ws[i]) := by
      rw [Be, if_pos (by omega), AQ (List.getElem?_eq_getElem hil), Option.bind_some]
      unfold Kp
      cases hv : Lib.atoiAll ws[i] with
      | ok v =>
        rw [PD (by omega) hv, Option.bind_some]
        simp only [Cq]
        by_cases b1 : v < -1125899906842624
        · rw [if_pos b1]
          rw [if_neg (fun h => by have := h.1; unfold Bd at this; omega)]; rfl
        · rw [if_neg b1]
          by_cases b2 : 1125899906842624 < v
          · rw [if_pos b2]
            rw [if_neg (fun h => by have := h.1; unfold Bd at this; omega)]; rfl
          · rw [if_neg b2, Mu (by omega), Option.bind_some]
            by_cases b3 : Lib.itoa v = ws[i]
            · rw [if_pos ⟨⟨by omega, by omega⟩, b3⟩, decide_eq_false (fun h => h b3)]
              show (Dg xs [v]).bind _ = _
              rw [Bo (by simp; omega), Option.bind_some, Bx (by omega)]; rfl
            · rw [if_neg (fun h => b3 h.2), decide_eq_true b3]; rfl
      | «syntax» =>
        have : HR ws[i] = some (.inr 0) := by unfold HR; rw [if_pos (by omega), hv]
        rw [this]; rfl
      | range =>
        have : HR ws[i] = some (.inr (Lib.atoiSat ws[i])) := by unfold HR; rw [if_pos (by omega), hv]
        rw [this]; rfl
    show _ = some (NN p xs ((Kp ws[i]).bind fun v => (IF (ws.drop (i + 1))).bind fun l => some (v :: l)))
    cases ho : Kp ws[i] with
    | none =>
      rw [ho] at hst
      rw [AN hst]; rfl
    | some v =>
      rw [ho] at hst
      rw [BZ hst, Kz p ws hw hx d (i + 1) (xs ++ [v]) (by omega) (by simp; omega), Option.bind_some]
      cases IF (ws.drop (i + 1)) with
      | none => rfl
      | some l => simp [NN]
abbrev Bh (v : Int) : Prop := 0 ≤ v ∧ v < 18446744073709551616
theorem JT : ∀ (k n : Nat), (GI k n).length ≤ k
  | 0, _ => Nat.le_refl _
  | k + 1, n => by
    unfold GI
    split
    · simp
    · have := JT k (n / 16)
      simp; omega
def Fs (v : Int) : List UInt8 := List.replicate (16 - (GI 16 v.toNat).length) 48 ++ GI 16 v.toNat
theorem Iq (v : Int) : (Fs v).length = 16 := by
  have := JT 16 v.toNat
  unfold Fs
  rw [List.length_append, List.length_replicate]; omega
theorem Na (c : UInt8) : ∀ k : Nat, (List.replicate k ([c] : List UInt8)).flatten = List.replicate k c
  | 0 => rfl
  | k + 1 => by rw [List.replicate_succ, List.flatten_cons, Na c k, List.replicate_succ]; rfl
theorem Oy {v : Int} (h : Bh v) : EB v = some (Fs v) := by
  have hl := JT 16 v.toNat
  unfold EB
  have h1 : B7 v 16 = some (GI 16 v.toNat) := P0 h.1 h.2
  have h2 : HC [48] (BD (16 - ((GI 16 v.toNat).length : Int))) = some (List.replicate (16 - (GI 16 v.toNat).length) 48) := by
    unfold HC
    rw [Bx (by omega), if_pos ⟨by omega, by omega, by decide⟩, Na]
    congr 2; omega
  rw [h1, Option.bind_some, h2, Option.bind_some, Bo (by rw [List.length_replicate]; omega)]; rfl
theorem JS : ∀ (l : List UInt8) (n : Nat) {v : Int}, n < 18446744073709551616 → D8 n l = .inl v → Bh v
  | [], n, v, h, e => by
    have : (n : Int) = v := Sum.inl.inj e
    omega
  | b :: t, n, v, h, e => by
    unfold D8 at e
    split at e
    · cases e
    · split at e
      · cases e
      · exact JS t _ (by omega) e
def NM (x : List UInt8) : Option Int := match (if x = [] then Sum.inr 0 else D8 0 x : Int ⊕ Int) with
  | .inl v => if Fs v = x then some v else none
  | .inr _ => none
theorem LD {x : List UInt8} {v : Int} (h : NM x = some v) : Bh v ∧ Fs v = x := by
  unfold NM at h
  split at h
  · rename_i u hu
    split at hu
    · cases hu
    · split at h
      · rename_i q
        rw [← Option.some.inj h]; exact ⟨JS x 0 (by decide) hu, q⟩
      · cases h
  · cases h
theorem O5 : ∀ d : Fin 16, GB (Gb d.val) = some d.val ∧ 48 ≤ (Gb d.val).toNat := by decide +kernel
theorem J3 (n : Nat) (b : UInt8) (t : List UInt8) : D8 n (b :: t) = match GB b with | none => .inr 0 | some d => if 18446744073709551616 ≤ 16 * n + d then .inr 18446744073709551615 else D8 (16 * n + d) t := rfl
theorem Kt : ∀ (a b : List UInt8) (n m : Nat), D8 n a = .inl (m : Int) → D8 n (a ++ b) = D8 m b
  | [], b, n, m, h => by
    have : (n : Int) = (m : Int) := Sum.inl.inj h
    obtain rfl : n = m := by omega
    rfl
  | c :: a, b, n, m, h => by
    rw [J3] at h
    rw [List.cons_append, J3]
    cases hd : GB c with
    | none => rw [hd] at h; cases h
    | some d =>
      rw [hd] at h
      simp only at h ⊢
      split at h
      · cases h
      · rename_i q
        rw [if_neg q]
        exact Kt a b _ m h
theorem KC {m d : Nat} (hd : d < 16) (h : 16 * m + d < 18446744073709551616) : D8 m [Gb d] = .inl ((16 * m + d : Nat) : Int) := by
  unfold D8
  rw [(O5 ⟨d, hd⟩).1]
  simp only
  rw [if_neg (by omega)]; rfl
theorem Jb : ∀ (k : Nat) (l : List UInt8), D8 0 (List.replicate k 48 ++ l) = D8 0 l
  | 0, _ => rfl
  | k + 1, l => by
    rw [List.replicate_succ, List.cons_append, D8, show GB 48 = some 0 from by decide]
    simp only
    rw [if_neg (by decide)]
    exact Jb k l
theorem J4 : ∀ (k n : Nat), n < 16 ^ k → n < 18446744073709551616 → D8 0 (GI k n) = .inl (n : Int)
  | 0, n, h, _ => by
    obtain rfl : n = 0 := by simpa using h
    rfl
  | k + 1, n, h, h2 => by
    unfold GI
    by_cases c : n < 16
    · rw [if_pos c, KC c (by omega)]; simp
    · rw [if_neg c]
      have hk : n / 16 < 16 ^ k := by
        rw [Nat.pow_succ] at h
        omega
      rw [Kt _ _ 0 (n / 16) (J4 k (n / 16) hk (by omega)), KC (Nat.mod_lt _ (by decide)) (by omega)]
      congr 1; omega
theorem Rc {v : Int} (h : Bh v) : NM (Fs v) = some v := by
  have hl := Iq v
  unfold NM
  rw [if_neg (fun e => by rw [e] at hl; cases hl)]
  have : D8 0 (Fs v) = .inl v := by
    unfold Fs
    rw [Jb, J4 16 v.toNat (by have := h.2; simp; omega) (by omega)]
    congr 1; omega
  rw [this]
  exact if_pos rfl
def HV : List (List UInt8) → Option (List Int)
  | [] => some []
  | x :: r => (NM x).bind fun v => (HV r).bind fun l => some (v :: l)
theorem KR : ∀ {ws : List (List UInt8)} {ns : List Int}, HV ws = some ns → ws = ns.map Fs ∧ ∀ v ∈ ns, Bh v
  | [], ns, h => by rw [← Option.some.inj h]; exact ⟨rfl, fun v hv => by cases hv⟩
  | x :: r, ns, h => by
    obtain ⟨v, h1, h2⟩ := Ae (show (NM x).bind _ = some ns from h)
    obtain ⟨l, h3, h4⟩ := Ae h2
    obtain ⟨e1, e2⟩ := LD h1
    obtain ⟨e3, e4⟩ := KR h3
    rw [← Option.some.inj h4]
    exact ⟨by rw [List.map_cons, e2, ← e3], fun u hu => by
      rcases List.mem_cons.1 hu with rfl | hu
      · exact e1
      · exact e4 u hu⟩
theorem KN (p : List UInt8 × Int) (ws : List (List UInt8)) (hw : ws.length ≤ 100000) (hx : ∀ x ∈ ws, x.length ≤ 100000) : ∀ (d i : Nat) (xs : List Int), i + d = ws.length → xs.length ≤ i →
    Av (Br p ws) (xs, (i : Int)) = some (NN p xs (HV (ws.drop i)))
  | 0, i, xs, hi, hl => by
    rw [List.drop_eq_nil_of_le (by omega)]
    show _ = some (Sum.inl (xs ++ []) : PV)
    rw [List.append_nil, AN (by rw [Br, if_neg (by omega)])]
  | d + 1, i, xs, hi, hl => by
    have hil : i < ws.length := by omega
    have hxi := hx _ (List.getElem_mem hil)
    rw [List.drop_eq_getElem_cons hil]
    have hst : Br p ws (xs, (i : Int)) = QD p xs i (NM ws[i]) := by
      rw [Br, if_pos (by omega), AQ (List.getElem?_eq_getElem hil), Option.bind_some, PN (by omega), Option.bind_some]
      unfold NM
      cases hv : (if ws[i] = [] then Sum.inr 0 else D8 0 ws[i] : Int ⊕ Int) with
      | inl v =>
        have hb : Bh v := by
          split at hv
          · cases hv
          · exact JS _ 0 (by decide) hv
        simp only [swap, Cq]
        rw [Oy hb, Option.bind_some]
        by_cases b3 : Fs v = ws[i]
        · rw [if_neg (fun h => h b3), if_pos b3, Bo (by simp; omega), Option.bind_some, Bx (by omega)]; rfl
        · rw [if_pos b3, if_neg b3]; rfl
      | inr u => rfl
    show _ = some (NN p xs ((NM ws[i]).bind fun v => (HV (ws.drop (i + 1))).bind fun l => some (v :: l)))
    cases ho : NM ws[i] with
    | none =>
      rw [ho] at hst
      rw [AN hst]; rfl
    | some v =>
      rw [ho] at hst
      rw [BZ hst, KN p ws hw hx d (i + 1) (xs ++ [v]) (by omega) (by simp; omega), Option.bind_some]
      cases HV (ws.drop (i + 1)) with
      | none => rfl
      | some l => simp [NN]
abbrev Fo (w : List UInt8) (ns : List Int) : List UInt8 := KU w (ns.map Fs) ++ [10]
end Go.Proofs.YthmkgdnnocemmaaGreatDoor
