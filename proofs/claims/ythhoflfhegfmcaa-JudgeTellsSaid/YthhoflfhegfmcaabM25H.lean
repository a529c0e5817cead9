/- Layer 25: all that is found. Conditions: none. -/
import Derived.Test.YthhoflfhegfmcaabM25W
namespace Go.Proofs.Ythhoflfhegfmcaa
set_option linter.unusedVariables false
set_option linter.unusedSimpArgs false
open Go Go.RowKit
noncomputable def HG (t : Tp) (h s : Int) (st : List (Int × Int) × Bool) (p : Int) : List (Int × Int) × Bool :=
  if (pe t s p).2.2.2 = true then (st.1 ++ [(s, (pe t s p).1)], st.2) else if t.2.2[h.toNat]? = some (s, p) then st else (st.1, true)
noncomputable def Tz (t : Tp) (h : Int) (M : Nat → Nat → List Int) (st : List (Int × Int) × Bool) (s : Nat) : List (Int × Int) × Bool := (M s h.toNat).foldl (HG t h (s : Int)) st
noncomputable def Rk (t : Tp) (h : Int) (M : Nat → Nat → List Int) : List (Int × Int) × Bool := (List.range t.1.toNat).foldl (Tz t h M) ([], false)
noncomputable def U1 (n : Int) (l : List (Int × Int)) : List Int := (Dt n l).getD []
theorem Qm {n : Int} {l : List (Int × Int)} (hl : l.length ≤ 1000000000) : Dt n l = some (U1 n l) ∧ Gn n l = some (U1 n l) := by
  unfold U1
  by_cases c : Ok n l
  · obtain ⟨k, rfl⟩ : ∃ k : Nat, n = (k : Int) := ⟨n.toNat, by have := c.1; omega⟩
    rw [SE c hl, Sa c hl]; exact ⟨rfl, rfl⟩
  · obtain ⟨h1, h2⟩ := RK c hl
    rw [h1, h2]; exact ⟨rfl, rfl⟩
noncomputable def Rm (t : Tp) (M : Nat → Nat → List Int) (k h : Nat) : List Fd := (if (Rk t h M).2 = true then [(5, (k : Int), (h : Int))] else []) ++ (if 0 < (U1 t.1 (Rk t h M).1).length then [(6, (k : Int), (h : Int))] else [])
theorem Kp (t : Tp) (M : Nat → Nat → List Int) (k h : Nat) : (Rm t M k h).length ≤ 2 := by
  unfold Rm
  rw [List.length_append]
  split <;> split <;> simp
section
variable {t : Tp} {old now : Rt} {P : Pn}
theorem NB (h s : Int) (st : List (Int × Int) × Bool) (p : Int) : (HG t h s st p).1.length ≤ st.1.length + 1 := by
  unfold HG
  split
  · simp
  · split <;> simp
theorem QX (ht : KX t) {h : Nat} (hh : h < t.2.2.length) (s : Int) (l : List Int) (hl : l.length ≤ 1000) (st : List (Int × Int) × Bool) (hst : st.1.length ≤ 100000) :
    Au (BD (t, old, now, P) (h : Int) s l) (st.1, st.2, 0) = some ((l.foldl (HG t h s) st).1, (l.foldl (HG t h s) st).2) ∧ (l.foldl (HG t h s) st).1.length ≤ st.1.length + l.length := by
  have q := EM l (fun (x : List (Int × Int) × Bool) (k : Nat) => (x.1, x.2, (k : Int))) (HG t h s) (BD (t, old, now, P) (h : Int) s l) (fun x => (x.1, x.2)) (fun x k => x.1.length ≤ st.1.length + k) st (by omega) (fun x k hk hG => by
    refine ⟨?_, by have := NB (t := t) (h : Int) s x l[k]; omega⟩
    have hx := AV (List.getElem?_eq_getElem hk)
    generalize l[k] = p at hx
    obtain ⟨r, e1, e2⟩ := Nx ht (h := h) (by omega) (by omega) s p
    rw [BD, if_pos (by omega), hx, Option.bind_some]
    show Option.bind (Option.bind (Dl t s p) _) _ = _
    rw [Qg ht, Option.bind_some, AJ (by omega)]
    unfold HG
    by_cases c : (pe t s p).2.2.2 = true
    · rw [if_pos c, if_pos c, Dc (by simp; omega)]; rfl
    · rw [if_neg c, if_neg c]
      show Option.bind (Option.bind (Dj t s p) _) _ = _
      rw [e1, Option.bind_some]
      by_cases d : r = (h : Int)
      · rw [if_neg (fun hh => hh d), if_pos (e2.1 d)]; rfl
      · rw [if_pos d, if_neg (fun hh => d (e2.2 hh))]; rfl) (fun x => by rw [BD, if_neg (by omega)])
  exact ⟨q.1, q.2⟩
theorem Ts (ht : KX t) {h : Nat} (hh : h < t.2.2.length) (s : Int) (l : List Int) (hl : l.length ≤ 1000) (st : List (Int × Int) × Bool) (hst : st.1.length ≤ 100000) :
    Au (Fe t (h : Int) s l) (st.1, st.2, 0) = some ((l.foldl (HG t h s) st).1, (l.foldl (HG t h s) st).2) := by
  have q := EM l (fun (x : List (Int × Int) × Bool) (k : Nat) => (x.1, x.2, (k : Int))) (HG t h s) (Fe t (h : Int) s l) (fun x => (x.1, x.2)) (fun x k => x.1.length ≤ st.1.length + k) st (by omega) (fun x k hk hG => by
    refine ⟨?_, by have := NB (t := t) (h : Int) s x l[k]; omega⟩
    have hx := AV (List.getElem?_eq_getElem hk)
    generalize l[k] = p at hx
    have hhost := List.getElem?_eq_getElem hh
    rw [Fe, if_pos (by omega), hx, Option.bind_some, QJ, Qg ht, Option.bind_some, AJ (by omega)]
    unfold HG
    rw [Int.toNat_natCast, hhost, AV hhost]
    generalize t.2.2[h] = g
    by_cases c : (pe t s p).2.2.2 = true
    · rw [if_pos c, if_pos c, Dc (by simp; omega)]; rfl
    · rw [if_neg c, if_neg c, Option.bind_some]
      show Option.bind (Option.bind (if (!false) = true then _ else _) _) _ = _
      rw [if_pos (show (!false) = true from rfl), Option.bind_some]
      by_cases d : g.1 = s
      · rw [if_neg (fun hh => hh d), Option.bind_some, Option.bind_some, Option.bind_some]
        by_cases e : g.2 = p
        · rw [decide_eq_false (show ¬ g.2 ≠ p from fun hh => hh e), if_pos (show some g = some (s, p) by rw [← d, ← e])]; rfl
        · rw [decide_eq_true (show g.2 ≠ p from e), if_neg (show ¬ some g = some (s, p) from fun hh => e (by rw [Option.some.inj hh]))]; rfl
      · rw [if_pos d, if_neg (show ¬ some g = some (s, p) from fun hh => d (by rw [Option.some.inj hh]))]; rfl) (fun x => by rw [Fe, if_neg (by omega)])
  exact q.1
theorem N5 {M : Nat → Nat → List Int} (hM : ∀ a b, (M a b).length ≤ 41) (h : Int) (st : List (Int × Int) × Bool) (s : Nat) : (Tz t h M st s).1.length ≤ st.1.length + 41 := by
  have key : ∀ (l : List Int) (x : List (Int × Int) × Bool), (l.foldl (HG t h (s : Int)) x).1.length ≤ x.1.length + l.length := by
    intro l
    induction l with
    | nil => intro x; simp
    | cons p l ih =>
      intro x
      have := ih (HG t h s x p)
      have := NB (t := t) h s x p
      rw [List.foldl_cons, List.length_cons]; omega
  have := key (M s h.toNat) st
  have := hM s h.toNat
  unfold Tz; omega
theorem QK {M : Nat → Nat → List Int} (hM : ∀ a b, (M a b).length ≤ 41) (h : Int) : (Rk t h M).1.length ≤ 41 * t.1.toNat := by
  have key : ∀ (l : List Nat) (x : List (Int × Int) × Bool), (l.foldl (Tz t h M) x).1.length ≤ x.1.length + 41 * l.length := by
    intro l
    induction l with
    | nil => intro x; simp
    | cons p l ih =>
      intro x
      have := ih (Tz t h M x p)
      have := N5 (t := t) hM h x p
      rw [List.foldl_cons, List.length_cons]; omega
  have := key (List.range t.1.toNat) ([], false)
  rw [List.length_range] at this
  unfold Rk; simpa using this
theorem Qk {M : Nat → Nat → List Int} (ht : KX t) (hM : ∀ a b, (M a b).length ≤ 41) (k h : Nat) {X : Int → List (Int × Int) → Option (List Int)} (hX : X t.1 (Rk t h M).1 = some (U1 t.1 (Rk t h M).1)) :
    (if (Rk t h M).2 = true then (Fo ([] : List Fd) [(5, (k : Int), (h : Int))]).bind fun x20 => some x20 else some []).bind (fun x19 => ((X t.1 (Rk t h M).1).bind fun x22 => (if 0 < (x22.length : Int) then (Fo x19 [(6, (k : Int), (h : Int))]).bind fun x23 => some x23 else some x19)).bind fun x21 => some x21) = some (Rm t M k h) := by
  unfold Rm
  have e1 : (if (Rk t h M).2 = true then (Fo ([] : List Fd) [(5, (k : Int), (h : Int))]).bind fun x20 => some x20 else some []) = some (if (Rk t h M).2 = true then [(5, (k : Int), (h : Int))] else []) := by
    by_cases c : (Rk t h M).2 = true
    · rw [if_pos c, if_pos c, Dc (by simp)]; rfl
    · rw [if_neg c, if_neg c]
  rw [e1, Option.bind_some, hX, Option.bind_some]
  by_cases c : 0 < (U1 t.1 (Rk t h M).1).length
  · rw [if_pos (by omega), if_pos c, Dc (by split <;> simp)]; rfl
  · rw [if_neg (by omega), if_neg c, List.append_nil]; rfl
theorem Sh {M : Nat → Nat → List Int} (ht : KX t) (hM : ∀ a b, (M a b).length ≤ 41) (k : Nat) {h : Nat} (hh : h < t.2.2.length) : Ct (t, old, now, P) (SN t.1.toNat t.2.2.length M) (k : Int) (h : Int) = some (Rm t M k h) := by
  have h8 := ht.1
  have hl : (SN t.1.toNat t.2.2.length M).length = t.1.toNat := by unfold SN; simp
  unfold Ct
  have q := EM (List.range t.1.toNat) (fun (x : List (Int × Int) × Bool) (k : Nat) => (x.1, x.2, (k : Int))) (Tz t h M) (B3 (t, old, now, P) (SN t.1.toNat t.2.2.length M) (h : Int)) (fun x => (x.1, x.2)) (fun x k => x.1.length ≤ 41 * k) ([], false) (by simp) (fun x s hs hG => by
    rw [List.length_range] at hs
    refine ⟨?_, by have := N5 (t := t) hM (h : Int) x (List.range t.1.toNat)[s]; omega⟩
    have hMs := hM s h
    rw [B3, if_pos (by omega), show ix (SN t.1.toNat t.2.2.length M) (s : Int) = some ((List.range t.2.2.length).map (M s)) from AV (by unfold SN; rw [F8 hs]), Option.bind_some, show ix ((List.range t.2.2.length).map (M s)) (h : Int) = some (M s h) from AV (F8 hh), Option.bind_some, (QX ht hh (s : Int) (M s h) (by omega) x (by omega)).1, Option.bind_some, AJ (by omega)]
    unfold Tz
    rw [Int.toNat_natCast, List.getElem_range]; rfl) (fun x => by rw [List.length_range, B3, if_neg (by omega)])
  rw [show (([] : List (Int × Int)), false, (0 : Int)) = ([], false, ((0 : Nat) : Int)) from rfl, q.1, Option.bind_some]
  exact Qk ht hM k h (Qm (by have := QK (t := t) hM (h : Int); omega)).1
theorem TS (ho : EY t old) (ok : LN P) {M : Nat → Nat → List Int} (hM : ∀ a b, (M a b).length ≤ 41) {k : Nat} {h : Nat} (hh : h < t.2.2.length)
    (hP : ∀ s : Nat, (s : Int) < t.1 → GZ old P (k : Int) s h = some (M s h)) : Jo t old P (k : Int) (h : Int) = some (Rm t M k h) := by
  have ht := ho.1
  have h8 := ht.1
  unfold Jo
  have q := EM (List.range t.1.toNat) (fun (x : List (Int × Int) × Bool) (k : Nat) => (x.1, x.2, (k : Int))) (Tz t h M) (Gs t old P (k : Int) (h : Int)) (fun x => (x.1, x.2)) (fun x k => x.1.length ≤ 41 * k) ([], false) (by simp) (fun x s hs hG => by
    rw [List.length_range] at hs
    refine ⟨?_, by have := N5 (t := t) hM (h : Int) x (List.range t.1.toNat)[s]; omega⟩
    have hMs := hM s h
    rw [Gs, if_pos (by omega), hP s (by omega), Option.bind_some, Ts ht hh (s : Int) (M s h) (by omega) x (by omega), Option.bind_some, AJ (by omega)]
    unfold Tz
    rw [Int.toNat_natCast, List.getElem_range]; rfl) (fun x => by rw [List.length_range, Gs, if_neg (by omega)])
  rw [show (([] : List (Int × Int)), false, (0 : Int)) = ([], false, ((0 : Nat) : Int)) from rfl, q.1, Option.bind_some]
  exact Qk ht hM k h (Qm (by have := QK (t := t) hM (h : Int); omega)).2
def Lb (P : Pn) (old : Rt) (k : Nat) (s h : Nat) : List Int := match P.2.1[k]? with | some r => WQ r P.1 s h (KJ P old k s h) | none => []
theorem Oz (ok : LN P) (k a b : Nat) : (Lb P old k a b).length ≤ 41 := by
  have h40 := ok.1
  unfold Lb
  cases P.2.1[k]? with
  | none => simp
  | some r =>
    show (_ :: _ : List Int).length ≤ 41
    rw [List.length_cons, List.length_map]
    have := List.length_filter_le (FV r a b) P.1
    omega
noncomputable def Tk (t : Tp) (old : Rt) (P : Pn) (k : Nat) : List Fd := (List.range' 0 t.2.2.length).flatMap (Rm t (Lb P old k) k)
noncomputable abbrev V1 (t : Tp) (old : Rt) (P : Pn) : List Fd := (List.range' 0 P.2.1.length).flatMap (Tk t old P)
theorem Oi (ht : KX t) (old : Rt) (P : Pn) (k : Nat) : (Tk t old P k).length ≤ 16 := by
  have := GN (Rm t (Lb P old k) k) 2 (Kp t _ k) t.2.2.length 0
  have := ht.1
  unfold Tk; omega
theorem Tx {n H : Nat} {M M' : Nat → Nat → List Int} (h : ∀ s, s < n → ∀ b, b < H → M s b = M' s b) : SN n H M = SN n H M' := by
  unfold SN
  exact F1 fun s hs => F1 fun b hb => h s hs b hb
theorem TL {n H : Nat} {M M' : Nat → Nat → Int} (h : ∀ s, s < n → ∀ b, b < H → M s b = M' s b) : Kd n H M = Kd n H M' := by
  unfold Kd
  exact F1 fun s hs => by congr 1; exact F1 fun b hb => h s hs b hb
theorem Ps (ho : EY t old) (ok : LN P) : Cc (t, old, now, P) = some (V1 t old P) := by
  have ht := ho.1
  have h8 := ht.1
  have h12 := ok.2.1
  unfold Cc
  have e0 : Dg old = some (Kd t.1.toNat t.2.2.length (fun s h => KJ P old 0 s h)) := by
    conv => lhs; rw [Vj ho]
    exact Rq (by omega) (by omega) _
  show Option.bind (Dg old) _ = _
  rw [e0, Option.bind_some]
  obtain ⟨s, h1, h2⟩ := CE P.2.1.length (fun (x : List Fd) (k : Nat) => (x, Kd t.1.toNat t.2.2.length (fun s h => KJ P old k s h), (k : Int))) (BJ (t, old, now, P)) id (fun x k => x = (List.range' 0 k).flatMap (Tk t old P)) (fun x k hk hI => by
    have hr := List.getElem?_eq_getElem hk
    have hr2 := ok.2.2 _ (List.mem_of_getElem? hr)
    generalize P.2.1[k] = r at hr hr2
    refine ⟨x ++ Tk t old P k, ?_, by rw [hI, List.range'_1_concat, List.flatMap_append, Nat.zero_add]; simp⟩
    have hxl : x.length ≤ 16 * 12 := by
      rw [hI]
      have := GN (Tk t old P) 16 (Oi ht old P) k 0
      omega
    rw [BJ, if_pos (by show (k : Int) < (P.2.1.length : Int); omega)]
    show Option.bind (Option.bind (ix P.2.1 (k : Int)) _) _ = _
    rw [AV hr, Option.bind_some, Tj, Option.bind_some, R1 (by omega) (by omega), Option.bind_some]
    have hrd := ST (now := now) (old := old) ht ok hr2 ((fun s h => KJ P old k s h), (fun s h => [KJ P old k s h])) (fun _ _ => by simp)
    show Option.bind (Option.bind (Au (Bc (t, old, now, P) r) (Kd t.1.toNat t.2.2.length (fun s h => KJ P old k s h), NU t.1.toNat t.2.2.length (fun s h => [KJ P old k s h]), 0)) _) _ = _
    rw [hrd, Option.bind_some]
    have hR : Kd t.1.toNat t.2.2.length (P.1.foldl (Kc t r) ((fun s h => KJ P old k s h), (fun s h => [KJ P old k s h]))).1 = Kd t.1.toNat t.2.2.length (fun s h => KJ P old (k + 1) s h) := TL fun s hs b hb => by
      rw [(PL hs hb P.1 _).1]
      unfold KJ
      rw [List.take_succ_eq_append_getElem hk, List.foldl_append]
      have : P.2.1[k] = r := by rw [List.getElem?_eq_getElem hk] at hr; exact Option.some.inj hr
      rw [this]; rfl
    have hMx : ∀ s, s < t.1.toNat → ∀ b, b < t.2.2.length → (P.1.foldl (Kc t r) ((fun s h => KJ P old k s h), (fun s h => [KJ P old k s h]))).2 s b = Lb P old k s b := fun s hs b hb => by
      rw [(PL hs hb P.1 _).2]
      unfold Lb
      rw [hr]; rfl
    rw [hR]
    have hl3 : Au (Bd (t, old, now, P) (k : Int) (Kd t.1.toNat t.2.2.length fun s h => KJ P old (k + 1) s h) (NU t.1.toNat t.2.2.length (P.1.foldl (Kc t r) ((fun s h => KJ P old k s h), (fun s h => [KJ P old k s h]))).2)) (x, 0) = some (x ++ Tk t old P k, Kd t.1.toNat t.2.2.length fun s h => KJ P old (k + 1) s h) := by
      obtain ⟨y, g1, g2⟩ := CE t.2.2.length (fun (y : List Fd) (h : Nat) => (y, (h : Int))) (Bd (t, old, now, P) (k : Int) (Kd t.1.toNat t.2.2.length fun s h => KJ P old (k + 1) s h) (NU t.1.toNat t.2.2.length (P.1.foldl (Kc t r) ((fun s h => KJ P old k s h), (fun s h => [KJ P old k s h]))).2)) (fun y => (y, Kd t.1.toNat t.2.2.length fun s h => KJ P old (k + 1) s h)) (fun y h => y = x ++ (List.range' 0 h).flatMap (Rm t (Lb P old k) k)) (fun y h hh hJ => by
        refine ⟨y ++ Rm t (Lb P old k) k h, ?_, by rw [hJ, List.range'_1_concat, List.flatMap_append, Nat.zero_add]; simp⟩
        have hyl : y.length ≤ 16 * 12 + 16 := by
          rw [hJ, List.length_append]
          have := GN (Rm t (Lb P old k) k) 2 (Kp t _ k) h 0
          omega
        have hwl := Kp t (Lb P old k) k h
        rw [Bd, if_pos (by show (h : Int) < (t.2.2.length : Int); omega), TR, Option.bind_some, Tx hMx, Sh ht (Oz ok k) k hh, Option.bind_some, Dc (by omega), Option.bind_some, AJ (by omega)]; rfl)
        (fun y _ => by rw [Bd, if_neg (by show ¬ (t.2.2.length : Int) < (t.2.2.length : Int); omega)]) x (by simp)
      rw [show (x, (0 : Int)) = (x, ((0 : Nat) : Int)) from rfl, g2, g1]; rfl
    show Option.bind (Au (Bd (t, old, now, P) (k : Int) _ _) (x, 0)) _ = _
    rw [hl3, Option.bind_some, AJ (by omega)]; rfl)
    (fun x _ => by rw [BJ, if_neg (by show ¬ (P.2.1.length : Int) < (P.2.1.length : Int); omega)]; rfl) [] rfl
  rw [show (([] : List Fd), Kd t.1.toNat t.2.2.length (fun s h => KJ P old 0 s h), (0 : Int)) = ([], Kd t.1.toNat t.2.2.length (fun (s h : Nat) => KJ P old 0 s h), ((0 : Nat) : Int)) from rfl, h2, h1]; rfl
theorem Ot (ho : EY t old) (ok : LN P) {o : List Fd} (hol : o.length ≤ 1000) : Au (EV t old P) (o, 0) = some (o ++ V1 t old P) := by
  have ht := ho.1
  have h8 := ht.1
  have h12 := ok.2.1
  rw [show (o, (0 : Int)) = (o, ((0 : Nat) : Int)) from rfl, Ew P.2.1.length 16 2000 (Tk t old P) 0 (fun k _ => Oi ht old P k) (EV t old P) (fun k out _ hk hb => by
    have hr := List.getElem?_eq_getElem hk
    generalize P.2.1[k] = r at hr
    rw [EV, if_pos (by omega), show (out, (0 : Int)) = (out, ((0 : Nat) : Int)) from rfl, Ew t.2.2.length 2 3000 (Rm t (Lb P old k) k) 0 (fun h _ => Kp t _ k h) (Fq t old P (k : Int)) (fun h out' _ hh hb' => by
      have hwl := Kp t (Lb P old k) k h
      rw [Fq, if_pos (by omega), TS ho ok (Oz ok k) hh (fun s hs => by
        rw [Tv ho ok hr hs hh]
        unfold Lb
        rw [hr]), Option.bind_some, Dc (by omega), Option.bind_some, AJ (by omega)]; rfl) (fun h out' hh => by rw [Fq, if_neg (by omega)]) t.2.2.length 0 out (by omega) (by omega) (by omega), Option.bind_some, AJ (by omega)]; rfl) (fun k out hk => by rw [EV, if_neg (by omega)]) P.2.1.length 0 o (by omega) (by omega) (by omega)]
theorem Uy {n : Nat} (hn : n ≤ 100000) : AU (n : Int) = some [] := by
  have e : A3 ((n : Int) - A3 (0 - (([] : List (Int × Int × Int)).length : Int))) = (n : Int) := by
    have : A3 (0 - (([] : List (Int × Int × Int)).length : Int)) = 0 := by decide
    rw [this, AJ (by omega)]; omega
  unfold AU
  rw [if_neg (by omega), e]
  by_cases c : 0 < (n : Int)
  · rw [if_pos c, P0 (by simp), Option.bind_some]
    unfold VI
    rw [if_pos (by omega), Option.bind_some, TW ⟨by omega, by omega⟩, Option.bind_some, P0 ⟨by simp, by simp, by simp⟩, Option.bind_some, Option.bind_some]
    simp
  · rw [if_neg c]; rfl
theorem RS {a b c d : List Fd} (ha : a.length ≤ 10000) (hb : b.length ≤ 10000) (hc : c.length ≤ 10000) (hd : d.length ≤ 10000) : AP [a, b, c, d] = some (a ++ b ++ c ++ d) := by
  unfold AP
  have l1 : Au (AG [a, b, c, d]) (0, 0) = some ((a.length + b.length + c.length + d.length : Nat) : Int) := by
    have st : ∀ (x : Nat) (k : Nat) (l : List Fd), k < 4 → [a, b, c, d][k]? = some l → x + l.length ≤ 100000 → AG [a, b, c, d] ((x : Int), (k : Int)) = some (.inl (((x + l.length : Nat) : Int), ((k + 1 : Nat) : Int))) := fun x k l hk hl hx => by
      rw [AG, if_pos (by simp; omega), AV hl, Option.bind_some, AJ (by omega), if_neg (by omega), AJ (by omega)]; rfl
    rw [show ((0 : Int), (0 : Int)) = (((0 : Nat) : Int), ((0 : Nat) : Int)) from rfl, BO (st 0 0 a (by omega) rfl (by omega)), BO (st _ 1 b (by omega) rfl (by omega)), BO (st _ 2 c (by omega) rfl (by omega)), BO (st _ 3 d (by omega) rfl (by omega)), A7 (e := ((0 + a.length + b.length + c.length + d.length : Nat) : Int)) (by rw [AG, if_neg (by simp)])]
    rw [Nat.zero_add]
  have l2 : Au (AF [a, b, c, d]) ([], 0) = some (a ++ b ++ c ++ d) := by
    have st : ∀ (x : List Fd) (k : Nat) (l : List Fd), k < 4 → [a, b, c, d][k]? = some l → x.length + l.length ≤ 100000 → AF [a, b, c, d] (x, (k : Int)) = some (.inl (x ++ l, ((k + 1 : Nat) : Int))) := fun x k l hk hl hx => by
      rw [AF, if_pos (by simp; omega), AV hl, Option.bind_some, Dc (by omega), Option.bind_some, AJ (by omega)]; rfl
    rw [show (([] : List Fd), (0 : Int)) = ([], ((0 : Nat) : Int)) from rfl, BO (st [] 0 a (by omega) rfl (by simp; omega)), BO (st _ 1 b (by omega) rfl (by simp; omega)), BO (st _ 2 c (by omega) rfl (by simp; omega)), BO (st _ 3 d (by omega) rfl (by simp; omega)), A7 (e := [] ++ a ++ b ++ c ++ d) (by rw [AF, if_neg (by simp)])]
    rw [List.nil_append]
  rw [l1, Option.bind_some, Uy (by omega), Option.bind_some, l2]; rfl
open Classical in
noncomputable def Q3 (t : Tp) (old now : Rt) (P : Pn) : List Fd := if IQ t old ∧ IQ t now then V0 t old now P ++ VQ t old now P ++ VU t P ++ V1 t old P else [(1, 0, 0)]
abbrev T2 (t : Tp) (r : Rt) : Prop := (∀ row ∈ r, row.length ≤ 12) ∧ t.2.1.length ≤ 30 ∧ t.2.2.length ≤ 12 ∧ r.length ≤ 12
theorem PW (ho : EY t old) (ok : LN P) : (V0 t old now P).length ≤ 64 ∧ (VQ t old now P).length ≤ 40 ∧ (VU t P).length ≤ 12 ∧ (V1 t old P).length ≤ 192 := by
  have h8 := ho.1.1
  have h40 := ok.1
  have h12 := ok.2.1
  have a1 := GN (U4 t old now P) 8 (NS ho.1 old now P) t.1.toNat 0
  have a2 := GN (exF t old now P) 1 (NR t old now P) P.1.length 0
  have a3 := GN (SP t P) 1 (N6 t P) (P.2.1.length - 1) 1
  have a4 := GN (Tk t old P) 16 (Oi ho.1 old P) P.2.1.length 0
  exact ⟨Nat.le_trans a1 (by omega), Nat.le_trans a2 (by omega), Nat.le_trans a3 (by omega), Nat.le_trans a4 (by omega)⟩
theorem S5 (so : T2 t old) (sn : T2 t now) (ok : LN P) : DG t old now P = some (Q3 t old now P) := by
  have g1 := Sw (t := t) (r := old) so.2.2.2 (fun row hr => Nat.le_trans (so.1 row hr) (by decide))
  have g2 := Sw (t := t) (r := now) sn.2.2.2 (fun row hr => Nat.le_trans (sn.1 row hr) (by decide))
  unfold DG Q3
  rw [g1, Option.bind_some]
  by_cases c1 : IQ t old
  · rw [decide_eq_true c1, if_neg (by decide), g2, Option.bind_some]
    by_cases c2 : IQ t now
    · obtain ⟨l1, l2, l3, l4⟩ := PW (now := now) c1.1 ok
      rw [decide_eq_true c2, Option.bind_some, if_neg (by decide), if_pos ⟨c1, c2⟩, QW c1.1 c2.1 ok, Option.bind_some, Tw c1.1 c2.1 ok, Option.bind_some, TO c1.1.1 ok, Option.bind_some, Ps c1.1 ok, Option.bind_some, RS (by omega) (by omega) (by omega) (by omega)]; rfl
    · rw [decide_eq_false c2, Option.bind_some, if_pos (by decide), if_neg (fun h => c2 h.2)]
  · rw [decide_eq_false c1, if_pos (by decide), Option.bind_some, if_pos rfl, if_neg (fun h => c1 h.1)]
theorem Ru (so : T2 t old) (sn : T2 t now) (ok : LN P) : Ik t old now P = some (Q3 t old now P) := by
  have g1 := Qv (t := t) (r := old) so.2.2.2 (fun row hr => Nat.le_trans (so.1 row hr) (by decide))
  have g2 := Qv (t := t) (r := now) sn.2.2.2 (fun row hr => Nat.le_trans (sn.1 row hr) (by decide))
  unfold Ik Q3
  rw [g1, Option.bind_some]
  by_cases c1 : IQ t old
  · rw [decide_eq_true c1, if_neg (by decide), g2, Option.bind_some]
    by_cases c2 : IQ t now
    · obtain ⟨l1, l2, l3, l4⟩ := PW (now := now) c1.1 ok
      rw [decide_eq_true c2, Option.bind_some, if_neg (by decide), if_pos ⟨c1, c2⟩]
      unfold JE
      rw [Pz c1.1 c2.1 ok, Option.bind_some, RL c1.1 c2.1 ok (by omega), Option.bind_some, Option.bind_some, RE c1.1.1 ok, Option.bind_some, Dc (by rw [List.length_append]; omega), Option.bind_some, Ot c1.1 ok (by rw [List.length_append, List.length_append]; omega)]; rfl
    · rw [decide_eq_false c2, Option.bind_some, if_pos (by decide), if_neg (fun h => c2 h.2)]
  · rw [decide_eq_false c1, if_pos (by decide), Option.bind_some, if_pos rfl, if_neg (fun h => c1 h.1)]
end
theorem SY {t : Tp} {old now : Rt} {P : Pn} (ho : old.length ≤ 9223372036854775807) (hn : now.length ≤ 9223372036854775807) (hr : P.2.1.length ≤ 9223372036854775807) : ∃ b, Il t old now P = some b ∧ (b = true → T2 t old ∧ T2 t now ∧ LN P) := by
  unfold Il
  rw [Eh P.2.1 hr (Fy P) (fun r => 20 < (r.2.2.length : Int)) false (fun k hk => by
    rw [Fy, if_pos (by omega), AV (List.getElem?_eq_getElem hk), Option.bind_some]) (by rw [Fy, if_neg (by omega)])]
  by_cases c : ∃ r ∈ P.2.1, 20 < (r.2.2.length : Int)
  · rw [if_pos c]; exact ⟨false, rfl, fun h => nomatch h⟩
  · rw [if_neg c, Qs, Qw t old ho, Qw t now hn, Option.bind_some]
    by_cases c1 : T2 t old
    · rw [decide_eq_true c1, if_pos rfl, Option.bind_some]
      by_cases c2 : T2 t now
      · rw [decide_eq_true c2, if_pos rfl]
        by_cases c3 : (P.1.length : Int) ≤ 40
        · rw [if_pos c3]
          refine ⟨_, rfl, fun h => ⟨c1, c2, by omega, ?_, fun r hm => ?_⟩⟩
          · have := of_decide_eq_true h; omega
          · have : ¬ 20 < (r.2.2.length : Int) := fun h => c ⟨r, hm, h⟩
            omega
        · rw [if_neg c3]; exact ⟨false, rfl, fun h => nomatch h⟩
      · rw [decide_eq_false c2, if_neg (by decide)]; exact ⟨false, rfl, fun h => nomatch h⟩
    · rw [decide_eq_false c1, if_neg (by decide)]; exact ⟨false, rfl, fun h => nomatch h⟩
theorem UK {P : Pn} (ok : LN P) : Jy P = some P := by
  have h40 := ok.1
  have h12 := ok.2.1
  unfold Jy KE
  rw [M9 P.1 (by omega) (fun m => m) (Gp P.1) (fun k hk out ho => by
    have hx := AV (List.getElem?_eq_getElem hk)
    rw [Gp, if_pos (by omega), hx]; rfl) (fun out => by rw [Gp, if_neg (by omega)]), Option.bind_some, Option.bind_some, List.map_id']
  obtain ⟨s, h1, h2⟩ := CE P.2.1.length (fun (x : List O3) (k : Nat) => ((k : Int), x)) (Gj P) id (fun x k => x = P.2.1.take k) (fun x k hk hI => ⟨P.2.1.take (k + 1), by
    have hx := AV (List.getElem?_eq_getElem hk)
    rw [Gj, if_pos (by omega), hx, Option.bind_some, Option.bind_some, Option.bind_some, Dc (by rw [hI, List.length_take]; simp; omega), Option.bind_some, AJ (by omega), hI, List.take_succ_eq_append_getElem hk]; rfl, rfl⟩) (fun x _ => by rw [Gj, if_neg (by omega)]; rfl) [] (by simp)
  rw [show ((0 : Int), ([] : List O3)) = (((0 : Nat) : Int), []) from rfl, h2, Option.bind_some, h1, List.take_length]; rfl
theorem UN {a : List Fd} (ha : a.length ≤ 1000000) : Jq a a = some true := by
  unfold Jq
  rw [if_neg (by simp), Eh a (by omega) (Gb a a) (fun _ => False) false (fun k hk => by
    have hx := AV (List.getElem?_eq_getElem hk)
    rw [Gb, if_pos (by omega), hx]
    simp) (by rw [Gb, if_neg (by omega)]), if_neg (by simp), Qs]
theorem Ux (k : Int) : Jd k = some (CW k) := by
  unfold Jd CW
  by_cases c : k < 1 ∨ 6 < k
  · rw [if_pos (by simpa using c), if_neg (by omega), if_neg (by omega), if_neg (by omega), if_neg (by omega), if_neg (by omega), if_neg (by omega)]
  · rw [if_neg (by simpa using c)]
    have : k = 1 ∨ k = 2 ∨ k = 3 ∨ k = 4 ∨ k = 5 ∨ k = 6 := by omega
    rcases this with h | h | h | h | h | h <;> subst h <;> rfl
theorem Lv {t : Tp} {old now : Rt} {P : Pn} (ho : old.length ≤ 9223372036854775807) (hn : now.length ≤ 9223372036854775807) (hr : P.2.1.length ≤ 9223372036854775807) (kind : Int) : EK t old now P kind = some true := by
  obtain ⟨b, e, hb⟩ := SY (t := t) ho hn hr
  unfold EK
  rw [e, Option.bind_some]
  cases b with
  | false => rw [if_pos (show (!false) = true from rfl), P5]; rfl
  | true =>
    obtain ⟨so, sn, ok⟩ := hb rfl
    have hlen : (Q3 t old now P).length ≤ 1000 := by
      unfold Q3
      split
      · rename_i h
        obtain ⟨l1, l2, l3, l4⟩ := PW (now := now) h.1.1 ok
        simp only [List.length_append]; omega
      · simp
    rw [if_neg (by decide), UK ok, Option.bind_some, S5 so sn ok, Option.bind_some, Ru so sn ok, Option.bind_some, UN (by omega), Option.bind_some, if_pos rfl, Ux, Option.bind_some, if_pos rfl, P5]; rfl
theorem LC (p0 : Tp) {A : Prop} (_ : A) (p1 : Rt) {K1 : _ → Prop} (ok1 : Ol K1 p1) (p2 : Rt) {K2 : _ → Prop} (ok2 : Ol K2 p2) (p3 : Pn) {K3 K4 K5 : _ → Prop} (ok3 : HH K3 (HH (Ol K4) K5) p3) (p4 : Int) {C : Prop} (_ : C) : EK p0 p1 p2 p3 p4 = some true := Lv ok1.1 ok2.1 ok3.2.1.1 p4
end Go.Proofs.Ythhoflfhegfmcaa
