/- Layer 25: all that is found. Conditions: none. -/
import Derived.Test.YthhoflfhegfmcaacM25W
namespace Go.Proofs.Ythhoflfhegfmcaa
set_option linter.unusedVariables false
set_option linter.unusedSimpArgs false
open Go Go.RowKit
noncomputable def Fk (t : Tp) (h s : Int) (st : List (Int × Int) × Bool) (p : Int) : List (Int × Int) × Bool :=
  if (pe t s p).2.2.2 = true then (st.1 ++ [(s, (pe t s p).1)], st.2) else if t.2.2[h.toNat]? = some (s, p) then st else (st.1, true)
noncomputable def Ri (t : Tp) (h : Int) (M : Nat → Nat → List Int) (st : List (Int × Int) × Bool) (s : Nat) : List (Int × Int) × Bool := (M s h.toNat).foldl (Fk t h (s : Int)) st
noncomputable def LG (t : Tp) (h : Int) (M : Nat → Nat → List Int) : List (Int × Int) × Bool := (List.range t.1.toNat).foldl (Ri t h M) ([], false)
noncomputable def Rw (n : Int) (l : List (Int × Int)) : List Int := (Da n l).getD []
theorem Ro {n : Int} {l : List (Int × Int)} (hl : l.length ≤ 1000000000) : Da n l = some (Rw n l) ∧ In n l = some (Rw n l) := by
  unfold Rw
  by_cases c : Ok n l
  · obtain ⟨k, rfl⟩ : ∃ k : Nat, n = (k : Int) := ⟨n.toNat, by have := c.1; omega⟩
    rw [N5 c hl, QE c hl]; exact ⟨rfl, rfl⟩
  · obtain ⟨h1, h2⟩ := QQ c hl
    rw [h1, h2]; exact ⟨rfl, rfl⟩
noncomputable def PX (t : Tp) (M : Nat → Nat → List Int) (k h : Nat) : List Fd := (if (LG t h M).2 = true then [(5, (k : Int), (h : Int))] else []) ++ (if 0 < (Rw t.1 (LG t h M).1).length then [(6, (k : Int), (h : Int))] else [])
theorem MR (t : Tp) (M : Nat → Nat → List Int) (k h : Nat) : (PX t M k h).length ≤ 2 := by
  unfold PX
  rw [List.length_append]
  split <;> split <;> simp
section
variable {t : Tp} {old now : Rt} {P : Pn}
theorem OJ (h s : Int) (st : List (Int × Int) × Bool) (p : Int) : (Fk t h s st p).1.length ≤ st.1.length + 1 := by
  unfold Fk
  split
  · simp
  · split <;> simp
theorem Ps (ht : La t) {h : Nat} (hh : h < t.2.2.length) (s : Int) (l : List Int) (hl : l.length ≤ 1000) (st : List (Int × Int) × Bool) (hst : st.1.length ≤ 100000) :
    An (Bo (t, old, now, P) (h : Int) s l) (st.1, st.2, 0) = some ((l.foldl (Fk t h s) st).1, (l.foldl (Fk t h s) st).2) ∧ (l.foldl (Fk t h s) st).1.length ≤ st.1.length + l.length := by
  have q := Fv l (fun (x : List (Int × Int) × Bool) (k : Nat) => (x.1, x.2, (k : Int))) (Fk t h s) (Bo (t, old, now, P) (h : Int) s l) (fun x => (x.1, x.2)) (fun x k => x.1.length ≤ st.1.length + k) st (by omega) (fun x k hk hG => by
    refine ⟨?_, by have := OJ (t := t) (h : Int) s x l[k]; omega⟩
    have hx := AV (List.getElem?_eq_getElem hk)
    generalize l[k] = p at hx
    obtain ⟨r, e1, e2⟩ := LW ht (h := h) (by omega) (by omega) s p
    rw [Bo, if_pos (by omega), hx, Option.bind_some]
    show Option.bind (Option.bind (D2 t s p) _) _ = _
    rw [St ht, Option.bind_some, AL (by omega)]
    unfold Fk
    by_cases c : (pe t s p).2.2.2 = true
    · rw [if_pos c, if_pos c, Du (by simp; omega)]; rfl
    · rw [if_neg c, if_neg c]
      show Option.bind (Option.bind (C2 t s p) _) _ = _
      rw [e1, Option.bind_some]
      by_cases d : r = (h : Int)
      · rw [if_neg (fun hh => hh d), if_pos (e2.1 d)]; rfl
      · rw [if_pos d, if_neg (fun hh => d (e2.2 hh))]; rfl) (fun x => by rw [Bo, if_neg (by omega)])
  exact ⟨q.1, q.2⟩
theorem OR {M : Nat → Nat → List Int} (hM : ∀ a b, (M a b).length ≤ 41) (h : Int) (st : List (Int × Int) × Bool) (s : Nat) : (Ri t h M st s).1.length ≤ st.1.length + 41 := by
  have key : ∀ (l : List Int) (x : List (Int × Int) × Bool), (l.foldl (Fk t h (s : Int)) x).1.length ≤ x.1.length + l.length := by
    intro l
    induction l with
    | nil => intro x; simp
    | cons p l ih =>
      intro x
      have := ih (Fk t h s x p)
      have := OJ (t := t) h s x p
      rw [List.foldl_cons, List.length_cons]; omega
  have := key (M s h.toNat) st
  have := hM s h.toNat
  unfold Ri; omega
theorem OE {M : Nat → Nat → List Int} (hM : ∀ a b, (M a b).length ≤ 41) (h : Int) : (LG t h M).1.length ≤ 41 * t.1.toNat := by
  have key : ∀ (l : List Nat) (x : List (Int × Int) × Bool), (l.foldl (Ri t h M) x).1.length ≤ x.1.length + 41 * l.length := by
    intro l
    induction l with
    | nil => intro x; simp
    | cons p l ih =>
      intro x
      have := ih (Ri t h M x p)
      have := OR (t := t) hM h x p
      rw [List.foldl_cons, List.length_cons]; omega
  have := key (List.range t.1.toNat) ([], false)
  rw [List.length_range] at this
  unfold LG; simpa using this
theorem RJ {M : Nat → Nat → List Int} (ht : La t) (hM : ∀ a b, (M a b).length ≤ 41) (k h : Nat) {X : Int → List (Int × Int) → Option (List Int)} (hX : X t.1 (LG t h M).1 = some (Rw t.1 (LG t h M).1)) :
    (if (LG t h M).2 = true then (FD ([] : List Fd) [(5, (k : Int), (h : Int))]).bind fun x20 => some x20 else some []).bind (fun x19 => ((X t.1 (LG t h M).1).bind fun x22 => (if 0 < (x22.length : Int) then (FD x19 [(6, (k : Int), (h : Int))]).bind fun x23 => some x23 else some x19)).bind fun x21 => some x21) = some (PX t M k h) := by
  unfold PX
  have e1 : (if (LG t h M).2 = true then (FD ([] : List Fd) [(5, (k : Int), (h : Int))]).bind fun x20 => some x20 else some []) = some (if (LG t h M).2 = true then [(5, (k : Int), (h : Int))] else []) := by
    by_cases c : (LG t h M).2 = true
    · rw [if_pos c, if_pos c, Du (by simp)]; rfl
    · rw [if_neg c, if_neg c]
  rw [e1, Option.bind_some, hX, Option.bind_some]
  by_cases c : 0 < (Rw t.1 (LG t h M).1).length
  · rw [if_pos (by omega), if_pos c, Du (by split <;> simp)]; rfl
  · rw [if_neg (by omega), if_neg c, List.append_nil]; rfl
theorem QD {M : Nat → Nat → List Int} (ht : La t) (hM : ∀ a b, (M a b).length ≤ 41) (k : Nat) {h : Nat} (hh : h < t.2.2.length) : Cb (t, old, now, P) (Rh t.1.toNat t.2.2.length M) (k : Int) (h : Int) = some (PX t M k h) := by
  have h8 := ht.1
  have hl : (Rh t.1.toNat t.2.2.length M).length = t.1.toNat := by unfold Rh; simp
  unfold Cb
  have q := Fv (List.range t.1.toNat) (fun (x : List (Int × Int) × Bool) (k : Nat) => (x.1, x.2, (k : Int))) (Ri t h M) (BO (t, old, now, P) (Rh t.1.toNat t.2.2.length M) (h : Int)) (fun x => (x.1, x.2)) (fun x k => x.1.length ≤ 41 * k) ([], false) (by simp) (fun x s hs hG => by
    rw [List.length_range] at hs
    refine ⟨?_, by have := OR (t := t) hM (h : Int) x (List.range t.1.toNat)[s]; omega⟩
    have hMs := hM s h
    rw [BO, if_pos (by omega), show ix (Rh t.1.toNat t.2.2.length M) (s : Int) = some ((List.range t.2.2.length).map (M s)) from AV (by unfold Rh; rw [ER hs]), Option.bind_some, show ix ((List.range t.2.2.length).map (M s)) (h : Int) = some (M s h) from AV (ER hh), Option.bind_some, (Ps ht hh (s : Int) (M s h) (by omega) x (by omega)).1, Option.bind_some, AL (by omega)]
    unfold Ri
    rw [Int.toNat_natCast, List.getElem_range]; rfl) (fun x => by rw [List.length_range, BO, if_neg (by omega)])
  rw [show (([] : List (Int × Int)), false, (0 : Int)) = ([], false, ((0 : Nat) : Int)) from rfl, q.1, Option.bind_some]
  exact RJ ht hM k h (Ro (by have := OE (t := t) hM (h : Int); omega)).1
def JS (P : Pn) (old : Rt) (k : Nat) (s h : Nat) : List Int := match P.2.1[k]? with | some r => VO r P.1 s h (HB P old k s h) | none => []
theorem NO (ok : Np P) (k a b : Nat) : (JS P old k a b).length ≤ 41 := by
  have h40 := ok.1
  unfold JS
  cases P.2.1[k]? with
  | none => simp
  | some r =>
    show (_ :: _ : List Int).length ≤ 41
    rw [List.length_cons, List.length_map]
    have := List.length_filter_le (EW r a b) P.1
    omega
noncomputable def Sf (t : Tp) (old : Rt) (P : Pn) (k : Nat) : List Fd := (List.range' 0 t.2.2.length).flatMap (PX t (JS P old k) k)
noncomputable abbrev UH (t : Tp) (old : Rt) (P : Pn) : List Fd := (List.range' 0 P.2.1.length).flatMap (Sf t old P)
theorem O8 (ht : La t) (old : Rt) (P : Pn) (k : Nat) : (Sf t old P k).length ≤ 16 := by
  have := F4 (PX t (JS P old k) k) 2 (MR t _ k) t.2.2.length 0
  have := ht.1
  unfold Sf; omega
theorem RD {n H : Nat} {M M' : Nat → Nat → List Int} (h : ∀ s, s < n → ∀ b, b < H → M s b = M' s b) : Rh n H M = Rh n H M' := by
  unfold Rh
  exact EO fun s hs => EO fun b hb => h s hs b hb
theorem RH {n H : Nat} {M M' : Nat → Nat → Int} (h : ∀ s, s < n → ∀ b, b < H → M s b = M' s b) : Jm n H M = Jm n H M' := by
  unfold Jm
  exact EO fun s hs => by congr 1; exact EO fun b hb => h s hs b hb
theorem OC (ho : GG t old) (ok : Np P) : BZ (t, old, now, P) = some (UH t old P) := by
  have ht := ho.1
  have h8 := ht.1
  have h12 := ok.2.1
  unfold BZ
  have e0 : CZ old = some (Jm t.1.toNat t.2.2.length (fun s h => HB P old 0 s h)) := by
    conv => lhs; rw [Sy ho]
    exact QM (by omega) (by omega) _
  show Option.bind (CZ old) _ = _
  rw [e0, Option.bind_some]
  obtain ⟨s, h1, h2⟩ := Cl P.2.1.length (fun (x : List Fd) (k : Nat) => (x, Jm t.1.toNat t.2.2.length (fun s h => HB P old k s h), (k : Int))) (Br (t, old, now, P)) id (fun x k => x = (List.range' 0 k).flatMap (Sf t old P)) (fun x k hk hI => by
    have hr := List.getElem?_eq_getElem hk
    have hr2 := ok.2.2 _ (List.mem_of_getElem? hr)
    generalize P.2.1[k] = r at hr hr2
    refine ⟨x ++ Sf t old P k, ?_, by rw [hI, List.range'_1_concat, List.flatMap_append, Nat.zero_add]; simp⟩
    have hxl : x.length ≤ 16 * 12 := by
      rw [hI]
      have := F4 (Sf t old P) 16 (O8 ht old P) k 0
      omega
    rw [Br, if_pos (by show (k : Int) < (P.2.1.length : Int); omega)]
    show Option.bind (Option.bind (ix P.2.1 (k : Int)) _) _ = _
    rw [AV hr, Option.bind_some, R6, Option.bind_some, QJ (by omega) (by omega), Option.bind_some]
    have hrd := R9 (now := now) (old := old) ht ok hr2 ((fun s h => HB P old k s h), (fun s h => [HB P old k s h])) (fun _ _ => by simp)
    show Option.bind (Option.bind (An (A1 (t, old, now, P) r) (Jm t.1.toNat t.2.2.length (fun s h => HB P old k s h), Mo t.1.toNat t.2.2.length (fun s h => [HB P old k s h]), 0)) _) _ = _
    rw [hrd, Option.bind_some]
    have hR : Jm t.1.toNat t.2.2.length (P.1.foldl (Ji t r) ((fun s h => HB P old k s h), (fun s h => [HB P old k s h]))).1 = Jm t.1.toNat t.2.2.length (fun s h => HB P old (k + 1) s h) := RH fun s hs b hb => by
      rw [(Oq hs hb P.1 _).1]
      unfold HB
      rw [List.take_succ_eq_append_getElem hk, List.foldl_append]
      have : P.2.1[k] = r := by rw [List.getElem?_eq_getElem hk] at hr; exact Option.some.inj hr
      rw [this]; rfl
    have hMx : ∀ s, s < t.1.toNat → ∀ b, b < t.2.2.length → (P.1.foldl (Ji t r) ((fun s h => HB P old k s h), (fun s h => [HB P old k s h]))).2 s b = JS P old k s b := fun s hs b hb => by
      rw [(Oq hs hb P.1 _).2]
      unfold JS
      rw [hr]; rfl
    rw [hR]
    have hl3 : An (A2 (t, old, now, P) (k : Int) (Jm t.1.toNat t.2.2.length fun s h => HB P old (k + 1) s h) (Mo t.1.toNat t.2.2.length (P.1.foldl (Ji t r) ((fun s h => HB P old k s h), (fun s h => [HB P old k s h]))).2)) (x, 0) = some (x ++ Sf t old P k, Jm t.1.toNat t.2.2.length fun s h => HB P old (k + 1) s h) := by
      obtain ⟨y, g1, g2⟩ := Cl t.2.2.length (fun (y : List Fd) (h : Nat) => (y, (h : Int))) (A2 (t, old, now, P) (k : Int) (Jm t.1.toNat t.2.2.length fun s h => HB P old (k + 1) s h) (Mo t.1.toNat t.2.2.length (P.1.foldl (Ji t r) ((fun s h => HB P old k s h), (fun s h => [HB P old k s h]))).2)) (fun y => (y, Jm t.1.toNat t.2.2.length fun s h => HB P old (k + 1) s h)) (fun y h => y = x ++ (List.range' 0 h).flatMap (PX t (JS P old k) k)) (fun y h hh hJ => by
        refine ⟨y ++ PX t (JS P old k) k h, ?_, by rw [hJ, List.range'_1_concat, List.flatMap_append, Nat.zero_add]; simp⟩
        have hyl : y.length ≤ 16 * 12 + 16 := by
          rw [hJ, List.length_append]
          have := F4 (PX t (JS P old k) k) 2 (MR t _ k) h 0
          omega
        have hwl := MR t (JS P old k) k h
        rw [A2, if_pos (by show (h : Int) < (t.2.2.length : Int); omega), R8, Option.bind_some, RD hMx, QD ht (NO ok k) k hh, Option.bind_some, Du (by omega), Option.bind_some, AL (by omega)]; rfl)
        (fun y _ => by rw [A2, if_neg (by show ¬ (t.2.2.length : Int) < (t.2.2.length : Int); omega)]) x (by simp)
      rw [show (x, (0 : Int)) = (x, ((0 : Nat) : Int)) from rfl, g2, g1]; rfl
    show Option.bind (An (A2 (t, old, now, P) (k : Int) _ _) (x, 0)) _ = _
    rw [hl3, Option.bind_some, AL (by omega)]; rfl)
    (fun x _ => by rw [Br, if_neg (by show ¬ (P.2.1.length : Int) < (P.2.1.length : Int); omega)]; rfl) [] rfl
  rw [show (([] : List Fd), Jm t.1.toNat t.2.2.length (fun s h => HB P old 0 s h), (0 : Int)) = ([], Jm t.1.toNat t.2.2.length (fun (s h : Nat) => HB P old 0 s h), ((0 : Nat) : Int)) from rfl, h2, h1]; rfl
theorem S7 {n : Nat} (hn : n ≤ 100000) : AB (n : Int) = some [] := by
  have e : A7 ((n : Int) - A7 (0 - (([] : List (Int × Int × Int)).length : Int))) = (n : Int) := by
    have : A7 (0 - (([] : List (Int × Int × Int)).length : Int)) = 0 := by decide
    rw [this, AL (by omega)]; omega
  unfold AB
  rw [if_neg (by omega), e]
  by_cases c : 0 < (n : Int)
  · rw [if_pos c, O5 (by simp), Option.bind_some]
    unfold Uv
    rw [if_pos (by omega), Option.bind_some, SC ⟨by omega, by omega⟩, Option.bind_some, O5 ⟨by simp, by simp, by simp⟩, Option.bind_some, Option.bind_some]
    simp
  · rw [if_neg c]; rfl
theorem Rb {a b c d : List Fd} (ha : a.length ≤ 10000) (hb : b.length ≤ 10000) (hc : c.length ≤ 10000) (hd : d.length ≤ 10000) : Ay [a, b, c, d] = some (a ++ b ++ c ++ d) := by
  unfold Ay
  have l1 : An (As [a, b, c, d]) (0, 0) = some ((a.length + b.length + c.length + d.length : Nat) : Int) := by
    have st : ∀ (x : Nat) (k : Nat) (l : List Fd), k < 4 → [a, b, c, d][k]? = some l → x + l.length ≤ 100000 → As [a, b, c, d] ((x : Int), (k : Int)) = some (.inl (((x + l.length : Nat) : Int), ((k + 1 : Nat) : Int))) := fun x k l hk hl hx => by
      rw [As, if_pos (by simp; omega), AV hl, Option.bind_some, AL (by omega), if_neg (by omega), AL (by omega)]; rfl
    rw [show ((0 : Int), (0 : Int)) = (((0 : Nat) : Int), ((0 : Nat) : Int)) from rfl, B6 (st 0 0 a (by omega) rfl (by omega)), B6 (st _ 1 b (by omega) rfl (by omega)), B6 (st _ 2 c (by omega) rfl (by omega)), B6 (st _ 3 d (by omega) rfl (by omega)), Bv (e := ((0 + a.length + b.length + c.length + d.length : Nat) : Int)) (by rw [As, if_neg (by simp)])]
    rw [Nat.zero_add]
  have l2 : An (Au [a, b, c, d]) ([], 0) = some (a ++ b ++ c ++ d) := by
    have st : ∀ (x : List Fd) (k : Nat) (l : List Fd), k < 4 → [a, b, c, d][k]? = some l → x.length + l.length ≤ 100000 → Au [a, b, c, d] (x, (k : Int)) = some (.inl (x ++ l, ((k + 1 : Nat) : Int))) := fun x k l hk hl hx => by
      rw [Au, if_pos (by simp; omega), AV hl, Option.bind_some, Du (by omega), Option.bind_some, AL (by omega)]; rfl
    rw [show (([] : List Fd), (0 : Int)) = ([], ((0 : Nat) : Int)) from rfl, B6 (st [] 0 a (by omega) rfl (by simp; omega)), B6 (st _ 1 b (by omega) rfl (by simp; omega)), B6 (st _ 2 c (by omega) rfl (by simp; omega)), B6 (st _ 3 d (by omega) rfl (by simp; omega)), Bv (e := [] ++ a ++ b ++ c ++ d) (by rw [Au, if_neg (by simp)])]
    rw [List.nil_append]
  rw [l1, Option.bind_some, S7 (by omega), Option.bind_some, l2]; rfl
open Classical in
noncomputable def NY (t : Tp) (old now : Rt) (P : Pn) : List Fd := if Hv t old ∧ Hv t now then Um t old now P ++ Rj t old now P ++ U2 t P ++ UH t old P else [(1, 0, 0)]
abbrev TA (t : Tp) (r : Rt) : Prop := (∀ row ∈ r, row.length ≤ 12) ∧ t.2.1.length ≤ 30 ∧ t.2.2.length ≤ 12 ∧ r.length ≤ 12
theorem Tw (ho : GG t old) (ok : Np P) : (Um t old now P).length ≤ 64 ∧ (Rj t old now P).length ≤ 40 ∧ (U2 t P).length ≤ 12 ∧ (UH t old P).length ≤ 192 := by
  have h8 := ho.1.1
  have h40 := ok.1
  have h12 := ok.2.1
  have a1 := F4 (TU t old now P) 8 (OM ho.1 old now P) t.1.toNat 0
  have a2 := F4 (exF t old now P) 1 (Pj t old now P) P.1.length 0
  have a3 := F4 (SI t P) 1 (OX t P) (P.2.1.length - 1) 1
  have a4 := F4 (Sf t old P) 16 (O8 ho.1 old P) P.2.1.length 0
  exact ⟨Nat.le_trans a1 (by omega), Nat.le_trans a2 (by omega), Nat.le_trans a3 (by omega), Nat.le_trans a4 (by omega)⟩
theorem RB (so : TA t old) (sn : TA t now) (ok : Np P) : Dq t old now P = some (NY t old now P) := by
  have g1 := Ou (t := t) (r := old) so.2.2.2 (fun row hr => Nat.le_trans (so.1 row hr) (by decide))
  have g2 := Ou (t := t) (r := now) sn.2.2.2 (fun row hr => Nat.le_trans (sn.1 row hr) (by decide))
  unfold Dq NY
  rw [g1, Option.bind_some]
  by_cases c1 : Hv t old
  · rw [decide_eq_true c1, if_neg (by decide), g2, Option.bind_some]
    by_cases c2 : Hv t now
    · obtain ⟨l1, l2, l3, l4⟩ := Tw (now := now) c1.1 ok
      rw [decide_eq_true c2, Option.bind_some, if_neg (by decide), if_pos ⟨c1, c2⟩, Pp c1.1 c2.1 ok, Option.bind_some, RZ c1.1 c2.1 ok, Option.bind_some, Rk c1.1.1 ok, Option.bind_some, OC c1.1 ok, Option.bind_some, Rb (by omega) (by omega) (by omega) (by omega)]; rfl
    · rw [decide_eq_false c2, Option.bind_some, if_pos (by decide), if_neg (fun h => c2 h.2)]
  · rw [decide_eq_false c1, if_pos (by decide), Option.bind_some, if_pos rfl, if_neg (fun h => c1 h.1)]
end
theorem R1 {t : Tp} {old now : Rt} {P : Pn} (ho : old.length ≤ 9223372036854775807) (hn : now.length ≤ 9223372036854775807) (hr : P.2.1.length ≤ 9223372036854775807) : ∃ b, Hj t old now P = some b ∧ (b = true → TA t old ∧ TA t now ∧ Np P) := by
  unfold Hj
  rw [Hs P.2.1 hr (Ff P) (fun r => 20 < (r.2.2.length : Int)) false (fun k hk => by
    rw [Ff, if_pos (by omega), AV (List.getElem?_eq_getElem hk), Option.bind_some]) (by rw [Ff, if_neg (by omega)])]
  by_cases c : ∃ r ∈ P.2.1, 20 < (r.2.2.length : Int)
  · rw [if_pos c]; exact ⟨false, rfl, fun h => nomatch h⟩
  · rw [if_neg c, RM, Pd t old ho, Pd t now hn, Option.bind_some]
    by_cases c1 : TA t old
    · rw [decide_eq_true c1, if_pos rfl, Option.bind_some]
      by_cases c2 : TA t now
      · rw [decide_eq_true c2, if_pos rfl]
        by_cases c3 : (P.1.length : Int) ≤ 40
        · rw [if_pos c3]
          refine ⟨_, rfl, fun h => ⟨c1, c2, by omega, ?_, fun r hm => ?_⟩⟩
          · have := of_decide_eq_true h; omega
          · have : ¬ 20 < (r.2.2.length : Int) := fun h => c ⟨r, hm, h⟩
            omega
        · rw [if_neg c3]; exact ⟨false, rfl, fun h => nomatch h⟩
      · rw [decide_eq_false c2, if_neg (by decide)]; exact ⟨false, rfl, fun h => nomatch h⟩
    · rw [decide_eq_false c1, if_neg (by decide)]; exact ⟨false, rfl, fun h => nomatch h⟩
theorem SQ {P : Pn} (ok : Np P) : IE P = some P := by
  have h40 := ok.1
  have h12 := ok.2.1
  unfold IE JB
  rw [Mj P.1 (by omega) (fun m => m) (FR P.1) (fun k hk out ho => by
    have hx := AV (List.getElem?_eq_getElem hk)
    rw [FR, if_pos (by omega), hx]; rfl) (fun out => by rw [FR, if_neg (by omega)]), Option.bind_some, Option.bind_some, List.map_id']
  obtain ⟨s, h1, h2⟩ := Cl P.2.1.length (fun (x : List M8) (k : Nat) => ((k : Int), x)) (FI P) id (fun x k => x = P.2.1.take k) (fun x k hk hI => ⟨P.2.1.take (k + 1), by
    have hx := AV (List.getElem?_eq_getElem hk)
    rw [FI, if_pos (by omega), hx, Option.bind_some, Option.bind_some, Option.bind_some, Du (by rw [hI, List.length_take]; simp; omega), Option.bind_some, AL (by omega), hI, List.take_succ_eq_append_getElem hk]; rfl, rfl⟩) (fun x _ => by rw [FI, if_neg (by omega)]; rfl) [] (by simp)
  rw [show ((0 : Int), ([] : List M8)) = (((0 : Nat) : Int), []) from rfl, h2, Option.bind_some, h1, List.take_length]; rfl
end Go.Proofs.Ythhoflfhegfmcaa
