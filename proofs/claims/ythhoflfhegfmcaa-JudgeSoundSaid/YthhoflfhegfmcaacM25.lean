/- Layer 25: findings. Conditions: none. -/
import Derived.Test.YthhoflfhegfmcaacM21R
import Derived.Test.YthhoflfhegfmcaacM20
import Derived.Test.YthhoflfhegfmcaacEV
namespace Go.Proofs.Ythhoflfhegfmcaa
set_option linter.unusedVariables false
set_option linter.unusedSimpArgs false
open Go Go.RowKit
theorem RM {α β : Type} (t : α) (k : α → Option β) : EZ (some (Sum.inl t)) k = k t := rfl
def M5 {α : Type} (P : α → Bool) : List α → Nat → Int
  | [], _ => -1
  | x :: l, k => if P x = true then (k : Int) else M5 P l (k + 1)
theorem Nn {α : Type} (l : List α) (hl : l.length ≤ 1000000) (P : α → Bool) (step : Int → Option (Int ⊕ (Unit ⊕ Int)))
    (hs : ∀ k (hk : k < l.length), step (k : Int) = if P l[k] = true then some (.inr (.inr (k : Int))) else some (.inl (A7 ((k : Int) + 1)))) (he : step (l.length : Int) = some (.inr (.inl ()))) :
    EZ (An step 0) (fun _ => some (-1)) = some (M5 P l 0) := by
  have key : ∀ (d k : Nat), k + d = l.length → EZ (An step (k : Int)) (fun _ => some (-1)) = some (M5 P (l.drop k) k) := by
    intro d
    induction d with
    | zero =>
      intro k hk
      obtain rfl : k = l.length := by omega
      rw [Bv he, List.drop_eq_nil_of_le (Nat.le_refl _)]; rfl
    | succ d ih =>
      intro k hk
      have hk2 : k < l.length := by omega
      have h := hs k hk2
      rw [List.drop_eq_getElem_cons hk2]
      show _ = some (if P l[k] = true then (k : Int) else M5 P (l.drop (k + 1)) (k + 1))
      by_cases c : P l[k] = true
      · rw [if_pos c] at h
        rw [if_pos c, Bv h]; rfl
      · rw [if_neg c, AL (by omega)] at h
        rw [if_neg c, B6 h]
        exact ih (k + 1) (by omega)
  exact key l.length 0 (by omega)
theorem Mf {α : Type} (P : α → Bool) : ∀ (l : List α) (k : Nat), (M5 P l k = -1 ∧ ∀ x ∈ l, P x = false) ∨ ∃ (j : Nat) (x : α), l[j]? = some x ∧ P x = true ∧ M5 P l k = ((k + j : Nat) : Int) ∧ ∀ (i : Nat) (y : α), i < j → l[i]? = some y → P y = false
  | [], k => .inl ⟨rfl, fun x hx => by cases hx⟩
  | x :: l, k => by
    by_cases c : P x = true
    · exact .inr ⟨0, x, rfl, c, if_pos c, fun i y hi => by omega⟩
    · have e : M5 P (x :: l) k = M5 P l (k + 1) := if_neg c
      rcases Mf P l (k + 1) with ⟨h1, h2⟩ | ⟨j, y, h1, h2, h3, h4⟩
      · exact .inl ⟨e.trans h1, fun y hy => by
          rcases List.mem_cons.1 hy with rfl | hy
          · simpa using c
          · exact h2 y hy⟩
      · refine .inr ⟨j + 1, y, h1, h2, by rw [e, h3]; omega, fun i z hi hz => ?_⟩
        cases i with
        | zero => simp at hz; subst hz; simpa using c
        | succ i => exact h4 i z (by omega) (by simpa using hz)
theorem OH {α : Type} (P : α → Bool) (l : List α) [Decidable (∃ x ∈ l, P x = true)] : decide (0 ≤ M5 P l 0) = decide (∃ x ∈ l, P x = true) := by
  rcases Mf P l 0 with ⟨h1, h2⟩ | ⟨j, x, h1, h2, h3, h4⟩
  · rw [h1, decide_eq_false (p := ∃ x ∈ l, P x = true) (fun ⟨x, hx, h⟩ => by rw [h2 x hx] at h; cases h)]; rfl
  · rw [h3, decide_eq_true (show ∃ x ∈ l, P x = true from ⟨x, List.mem_of_getElem? h1, h2⟩), decide_eq_true (by omega)]
theorem Fv {α σ τ ε : Type} (l : List α) (mkS : σ → Nat → τ) (f : σ → α → σ) (step : τ → Option (τ ⊕ ε)) (fin : σ → ε) (G : σ → Nat → Prop) (s0 : σ) (h0 : G s0 0)
    (hs : ∀ s k (hk : k < l.length), G s k → step (mkS s k) = some (.inl (mkS (f s l[k]) (k + 1))) ∧ G (f s l[k]) (k + 1))
    (he : ∀ s, step (mkS s l.length) = some (.inr (fin s))) : An step (mkS s0 0) = some (fin (l.foldl f s0)) ∧ G (l.foldl f s0) l.length := by
  obtain ⟨s, ⟨h1, h3⟩, h2⟩ := Cl l.length mkS step fin (fun s k => s = (l.take k).foldl f s0 ∧ G s k)
    (fun s k hk ⟨hI, hG⟩ => ⟨f s l[k], (hs s k hk hG).1, by rw [hI, List.take_succ_eq_append_getElem hk, List.foldl_append]; rfl, (hs s k hk hG).2⟩) (fun s _ => he s) s0 ⟨rfl, h0⟩
  rw [List.take_length] at h1
  subst h1
  exact ⟨h2, h3⟩
abbrev MS := Int × Int × Int × Int
abbrev M8 := Int × Int × List Int
abbrev Fd := Int × Int × Int
abbrev Pn := List MS × List M8 × Int × Int × Int × Int
abbrev Ch := Tp × Rt × Rt × Pn
theorem Iv {β : Type} (n c B : Nat) (g : Nat → List β) (k0 : Nat) (hg : ∀ k, k < n → (g k).length ≤ c) (step : List β × Int → Option ((List β × Int) ⊕ List β))
    (hs : ∀ (k : Nat) (out : List β), k0 ≤ k → k < n → out.length ≤ B → step (out, (k : Int)) = some (.inl (out ++ g k, ((k + 1 : Nat) : Int)))) (he : ∀ (k : Nat) (out : List β), n ≤ k → step (out, (k : Int)) = some (.inr out)) :
    ∀ (d k : Nat) (out : List β), n - k = d → k0 ≤ k → out.length + d * c ≤ B → An step (out, (k : Int)) = some (out ++ (List.range' k d).flatMap g)
  | 0, k, out, hd, hk, hb => by rw [Bv (he k out (by omega))]; simp
  | d + 1, k, out, hd, hk, hb => by
    have hb' : out.length + (d * c + c) ≤ B := by rwa [Nat.succ_mul] at hb
    have hg' := hg k (by omega)
    rw [B6 (hs k out hk (by omega) (by omega)), Iv n c B g k0 hg step hs he d (k + 1) (out ++ g k) (by omega) (by omega) (by rw [List.length_append]; omega)]
    rw [List.range'_succ, List.flatMap_cons, List.append_assoc]
theorem ON {β : Type} {out : List β} (h : out.length ≤ 100000000) (b : Bool) (z : β) : (if b = true then (FD out [z]).bind fun x => some x else some out) = some (out ++ if b = true then [z] else []) := by
  cases b
  · simp
  · rw [if_pos rfl, if_pos rfl, Du (by simp; omega)]; rfl
theorem ER {α : Type} {n : Nat} {f : Nat → α} {i : Nat} (h : i < n) : ((List.range n).map f)[i]? = some (f i) := by simp [h]
theorem Lc {α : Type} {n : Nat} {f : Nat → α} {i : Nat} (x : α) : ((List.range n).map f).set i x = (List.range n).map (fun s => if s = i then x else f s) := by
  refine List.ext_getElem? fun j => ?_
  by_cases hj : j < n
  · rw [ER hj]
    by_cases c : i = j
    · subst c; rw [List.getElem?_set_self (by simpa using hj), if_pos rfl]
    · rw [List.getElem?_set_ne c, ER hj, if_neg (fun e => c e.symm)]
  · rw [List.getElem?_eq_none (by simp; omega), List.getElem?_eq_none (by simp; omega)]
theorem EO {α : Type} {n : Nat} {f g : Nat → α} (h : ∀ i, i < n → f i = g i) : (List.range n).map f = (List.range n).map g := List.map_congr_left fun i hi => h i (List.mem_range.1 hi)
def Oi (r : M8) (m : MS) : Bool := decide (m.2.2.2 = r.1) && decide (m.1 ∈ r.2.2)
theorem TV {l : List Int} (hl : l.length ≤ 1000) (x : Int) : JP l x = some (decide (x ∈ l)) := by
  unfold JP
  rw [Hs l (by omega) (Gp l x) (fun y => y = x) true (fun k hk => by
    rw [Gp, if_pos (by omega), AV (List.getElem?_eq_getElem hk), Option.bind_some]) (by rw [Gp, if_neg (by omega)])]
  by_cases c : ∃ y ∈ l, y = x
  · obtain ⟨y, hy, rfl⟩ := c
    rw [if_pos ⟨y, hy, rfl⟩, decide_eq_true hy]; rfl
  · rw [if_neg c, decide_eq_false (fun h => c ⟨x, h, rfl⟩)]; rfl
theorem N8 {l : List Int} (hl : l.length ≤ 1000) (x : Int) : BB l x = some (decide (x ∈ l)) := by
  unfold BB Cn
  rw [Nn l (by omega) (fun y => decide (x = y)) (BC l x) (fun k hk => by
    rw [BC, if_pos (by omega), AV (List.getElem?_eq_getElem hk), Option.bind_some]
    by_cases c : x = l[k]
    · rw [if_pos c, if_pos (decide_eq_true c)]
    · rw [if_neg c, if_neg (by simpa using c)]) (by rw [BC, if_neg (by omega)]), Option.bind_some]
  congr 1
  rw [OH (fun y => decide (x = y)) l]
  refine decide_eq_decide.2 ⟨fun ⟨y, hy, h⟩ => ?_, fun h => ⟨x, h, decide_eq_true rfl⟩⟩
  rw [of_decide_eq_true h]; exact hy
theorem LA {r : M8} (hr : r.2.2.length ≤ 1000) (m : MS) : Cu r m = some (Oi r m) := by
  unfold Cu Oi
  by_cases c : m.2.2.2 = r.1
  · rw [if_pos c, N8 hr, decide_eq_true c]; rfl
  · rw [if_neg c, decide_eq_false c]; rfl
theorem Tu {P : Pn} {k : Nat} {r : M8} (hk : P.2.1[k]? = some r) (hr : r.2.2.length ≤ 1000) (m : MS) : Ht P (k : Int) m = some (Oi r m) := by
  unfold Ht Oi
  rw [AV hk, Option.bind_some]
  by_cases c : r.1 = m.2.2.2
  · rw [if_pos c, Option.bind_some, TV hr, decide_eq_true c.symm]; rfl
  · rw [if_neg c, decide_eq_false (fun e => c e.symm)]; rfl
abbrev Tq (Rs : List M8) (m : MS) : Bool := decide (∃ r ∈ Rs, Oi r m = true)
abbrev Np (P : Pn) : Prop := P.1.length ≤ 40 ∧ P.2.1.length ≤ 12 ∧ ∀ r ∈ P.2.1, r.2.2.length ≤ 20
theorem P9 {c : Ch} (ok : Np c.2.2.2) (m : MS) : Bg c m = some (Tq c.2.2.2.2.1 m) := by
  have hl := ok.2.1
  unfold Bg AK AQ
  rw [Nn c.2.2.2.2.1 (by omega) (fun r => Oi r m) (Az c.2.2.2.2.1 m) (fun k hk => by
    have := ok.2.2 _ (List.getElem_mem hk)
    rw [Az, if_pos (by omega), AV (List.getElem?_eq_getElem hk), Option.bind_some]
    unfold BN
    rw [LA (by omega), Option.bind_some, Option.bind_some]) (by rw [Az, if_neg (by omega)]), Option.bind_some, Option.bind_some]
  congr 1
  exact OH (fun r => Oi r m) c.2.2.2.2.1
def Tm (Rs : List M8) (sw h port : Int) (m : MS) : Bool := decide (m.1 = sw) && (decide (m.2.1 = h) && (decide (m.2.2.1 = port) && Tq Rs m))
def Uu (P : Pn) (sw h port : Int) : Nat := (P.1.filter (Tm P.2.1 sw h port)).length
theorem QC (L : List MS) (hl : L.length ≤ 1000) (q : MS → Bool) (step : Int × Int → Option ((Int × Int) ⊕ Int))
    (hs : ∀ (k : Nat) (hk : k < L.length) (x : Int), 0 ≤ x ∧ x ≤ 1000 → step (x, (k : Int)) = some (.inl (if q L[k] = true then x + 1 else x, ((k + 1 : Nat) : Int)))) (he : ∀ x, step (x, (L.length : Int)) = some (.inr x)) : An step (0, 0) = some ((L.filter q).length : Int) := by
  obtain ⟨s, h1, h2⟩ := Cl L.length (fun (x : Int) (k : Nat) => (x, (k : Int))) step id (fun x k => x = (((L.take k).filter q).length : Int)) (fun x k hk hI => by
    have hle : ((L.take k).filter q).length ≤ 1000 := Nat.le_trans (List.length_filter_le _ _) (by rw [List.length_take]; omega)
    refine ⟨_, hs k hk x (by omega), ?_⟩
    show _ = (((L.take (k + 1)).filter q).length : Int)
    rw [List.take_succ_eq_append_getElem hk, List.filter_append, List.length_append, hI]
    by_cases c : q L[k] = true
    · rw [if_pos c, List.filter_cons_of_pos c]; simp
    · rw [if_neg c, List.filter_cons_of_neg c]; simp) (fun x _ => he x) 0 (by simp)
  rw [List.take_length] at h1
  rw [show ((0 : Int), (0 : Int)) = ((0 : Int), ((0 : Nat) : Int)) from rfl, h2, h1]; rfl
theorem Pq {c : Ch} (ok : Np c.2.2.2) (sw h port : Int) : A5 c sw h port = some (Uu c.2.2.2 sw h port : Int) := by
  have hl := ok.1
  unfold A5
  rw [QC c.2.2.2.1 (by omega) (Tm c.2.2.2.2.1 sw h port) (BG c sw h port) (fun k hk x hx => by
    rw [BG, if_pos (by omega), AV (List.getElem?_eq_getElem hk), Option.bind_some, P9 ok, AL (by omega), AL (by omega)]
    have e : (if (c.2.2.2.1[k]).1 = sw then if (c.2.2.2.1[k]).2.1 = h then if (c.2.2.2.1[k]).2.2.1 = port then (some (Tq c.2.2.2.2.1 c.2.2.2.1[k])).bind fun x7 => some x7 else some false else some false else some false) = some (Tm c.2.2.2.2.1 sw h port c.2.2.2.1[k]) := by
      unfold Tm
      by_cases c1 : (c.2.2.2.1[k]).1 = sw
      · by_cases c2 : (c.2.2.2.1[k]).2.1 = h
        · by_cases c3 : (c.2.2.2.1[k]).2.2.1 = port
          · rw [if_pos c1, if_pos c2, if_pos c3, decide_eq_true c1, decide_eq_true c2, decide_eq_true c3]; rfl
          · rw [if_pos c1, if_pos c2, if_neg c3, decide_eq_false c3]; simp
        · rw [if_pos c1, if_neg c2, decide_eq_false c2]; simp
      · rw [if_neg c1, decide_eq_false c1]; simp
    rw [e, Option.bind_some]
    by_cases q : Tm c.2.2.2.2.1 sw h port c.2.2.2.1[k] = true
    · rw [if_pos q, if_pos q]; rfl
    · rw [if_neg q, if_neg q]; rfl) (fun x => by rw [BG, if_neg (by omega)]), Option.bind_some]; rfl
def TD (old now : Rt) (P : Pn) (sw h : Nat) : Bool := decide (Fm now sw h ≠ Fm old sw h) && decide ((Uu P sw h (Fm now sw h) : Int) ≠ 1)
def TI (old now : Rt) (P : Pn) (sw h : Nat) : List Fd := if TD old now P sw h = true then [(2, (sw : Int), (h : Int))] else []
def TU (t : Tp) (old now : Rt) (P : Pn) (sw : Nat) : List Fd := (List.range' 0 t.2.2.length).flatMap (TI old now P sw)
theorem OT (old now : Rt) (P : Pn) (sw h : Nat) : (TI old now P sw h).length ≤ 1 := by unfold TI; split <;> simp
theorem F4 {β : Type} (g : Nat → List β) (c : Nat) (hg : ∀ k, (g k).length ≤ c) : ∀ (d k : Nat), ((List.range' k d).flatMap g).length ≤ d * c
  | 0, k => by simp
  | d + 1, k => by
    rw [List.range'_succ, List.flatMap_cons, List.length_append, Nat.succ_mul]
    have := F4 g c hg d (k + 1)
    have := hg k
    omega
abbrev Um (t : Tp) (old now : Rt) (P : Pn) : List Fd := (List.range' 0 t.1.toNat).flatMap (TU t old now P)
theorem OM {t : Tp} (hok : La t) (old now : Rt) (P : Pn) (sw : Nat) : (TU t old now P sw).length ≤ 8 := by
  have := F4 (TI old now P sw) 1 (OT old now P sw) t.2.2.length 0
  have h8 := hok.1
  unfold TU; omega
section
variable {t : Tp} {old now : Rt} {P : Pn}
theorem RC (ho : GG t old) (hn : GG t now) (ok : Np P) {sw h : Nat} (hs : (sw : Int) < t.1) (hh : h < t.2.2.length) {row : List Int} (er : ix now sw = some row) :
    ((ix row (h : Int)).bind fun x9 => ((ix old sw).bind fun x11 => (ix x11 (h : Int)).bind fun x12 => (if x9 ≠ x12 then (A5 (t, old, now, P) sw h x9).bind fun x13 => some (decide (x13 ≠ 1)) else some false)).bind fun x10 => some x10) = some (TD old now P sw h) := by
  obtain ⟨row', e1, _, e2, _⟩ := hn.port (sw := sw) (h := h) ⟨by omega, hs⟩ ⟨by omega, by omega⟩
  obtain ⟨ro, f1, _, f2, _⟩ := ho.port (sw := sw) (h := h) ⟨by omega, hs⟩ ⟨by omega, by omega⟩
  rw [e1] at er
  cases er
  rw [e2, Option.bind_some, f1, Option.bind_some, f2, Option.bind_some]
  unfold TD
  by_cases c : Fm now sw h ≠ Fm old sw h
  · rw [if_pos c, Pq (c := (t, old, now, P)) ok, decide_eq_true c]; rfl
  · rw [if_neg c, decide_eq_false c]; rfl
theorem Pp (ho : GG t old) (hn : GG t now) (ok : Np P) : B7 (t, old, now, P) = some (Um t old now P) := by
  have h8 := hn.1.1
  have hnl := hn.2.1
  unfold B7
  rw [show (([] : List Fd), (0 : Int)) = ([], ((0 : Nat) : Int)) from rfl, Iv t.1.toNat 8 1000 (TU t old now P) 0 (fun k _ => OM hn.1 old now P k) (BA (t, old, now, P)) (fun sw out _ hs hb => by
    have hs' : (sw : Int) < t.1 := by omega
    obtain ⟨row, e1, e2, e3, _, _⟩ := hn.row (sw := sw) ⟨by omega, hs'⟩
    rw [BA, if_pos (by show (sw : Int) < (now.length : Int); omega)]
    show Option.bind (Option.bind (ix now sw) fun x5 => An (Bh (t, old, now, P) sw x5) (out, 0)) _ = _
    rw [e1, Option.bind_some, show (out, (0 : Int)) = (out, ((0 : Nat) : Int)) from rfl, Iv t.2.2.length 1 2000 (TI old now P sw) 0 (fun k _ => OT old now P sw k) (Bh (t, old, now, P) sw row) (fun h out' _ hh hb' => by
      have hst := RC ho hn ok hs' hh e1
      rw [Bh, if_pos (by omega)]
      obtain ⟨row', e1', _, e2', _⟩ := hn.port (sw := sw) (h := h) ⟨by omega, hs'⟩ ⟨by omega, by omega⟩
      rw [e1] at e1'
      cases e1'
      rw [e2', Option.bind_some] at hst ⊢
      have hst' : ((ix old sw).bind fun x11 => (ix x11 (h : Int)).bind fun x12 => (if Fm now sw h ≠ x12 then (A5 (t, old, now, P) sw h (Fm now sw h)).bind fun x13 => some (decide (x13 ≠ 1)) else some false)) = some (TD old now P sw h) := by
        revert hst
        generalize ((ix old sw).bind fun x11 => (ix x11 (h : Int)).bind fun x12 => (if Fm now sw h ≠ x12 then (A5 (t, old, now, P) sw h (Fm now sw h)).bind fun x13 => some (decide (x13 ≠ 1)) else some false)) = X
        intro hst
        cases X with
        | none => cases hst
        | some b => exact hst
      show Option.bind (Option.bind ((ix old sw).bind fun x11 => (ix x11 (h : Int)).bind fun x12 => (if Fm now sw h ≠ x12 then (A5 (t, old, now, P) sw h (Fm now sw h)).bind fun x13 => some (decide (x13 ≠ 1)) else some false)) _) _ = _
      rw [hst', Option.bind_some, ON (by omega), Option.bind_some, AL (by omega)]; rfl) (fun k out' hk => by rw [Bh, if_neg (by omega)]) t.2.2.length 0 out (by omega) (by omega) (by omega), Option.bind_some, AL (by omega)]; rfl) (fun k out hk => by rw [BA, if_neg (by show ¬ (k : Int) < (now.length : Int); omega)]) t.1.toNat 0 [] (by omega) (by omega) (by simp; omega), Option.bind_some, List.nil_append]
def TC (t : Tp) (old now : Rt) (P : Pn) (m : MS) : Bool := !(EQ t m) || (decide (m.2.2.1 ≠ Fm now m.1 m.2.1) || (decide (m.2.2.1 = Fm old m.1 m.2.1) || !(Tq P.2.1 m)))
def exF (t : Tp) (old now : Rt) (P : Pn) (k : Nat) : List Fd := match P.1[k]? with | some m => if TC t old now P m = true then [(3, (k : Int), m.2.1)] else [] | none => []
theorem Pj (t : Tp) (old now : Rt) (P : Pn) (k : Nat) : (exF t old now P k).length ≤ 1 := by
  unfold exF
  cases P.1[k]? with
  | none => simp
  | some m => simp only; split <;> simp
abbrev Rj (t : Tp) (old now : Rt) (P : Pn) : List Fd := (List.range' 0 P.1.length).flatMap (exF t old now P)
theorem Ki {m : MS} : EQ t m = true ↔ (0 ≤ m.1 ∧ m.1 < t.1) ∧ 0 ≤ m.2.1 ∧ m.2.1 < (t.2.2.length : Int) := by
  unfold EQ
  simp only [Bool.and_eq_true, decide_eq_true_eq]
  exact ⟨fun ⟨a, b, c, d⟩ => ⟨⟨a, b⟩, c, d⟩, fun ⟨⟨a, b⟩, c, d⟩ => ⟨a, b, c, d⟩⟩
theorem RZ (ho : GG t old) (hn : GG t now) (ok : Np P) : Cg (t, old, now, P) = some (Rj t old now P) := by
  have h40 := ok.1
  unfold Cg
  rw [show (([] : List Fd), (0 : Int)) = ([], ((0 : Nat) : Int)) from rfl, Iv P.1.length 1 1000 (exF t old now P) 0 (fun k _ => Pj t old now P k) (BU (t, old, now, P)) (fun k out _ hk hb => by
    have hm := List.getElem?_eq_getElem hk
    generalize P.1[k] = m at hm
    rw [BU, if_pos (by show (k : Int) < (P.1.length : Int); omega)]
    show Option.bind (Option.bind (ix P.1 k) _) _ = _
    rw [AV hm, Option.bind_some, P9 (c := (t, old, now, P)) ok]
    have hst : (if (!(AU (t, old, now, P) m)) = true then some true else (ix now m.1).bind fun x7 => (ix x7 m.2.1).bind fun x8 => (if m.2.2.1 ≠ x8 then some true else (ix old m.1).bind fun x9 => (ix x9 m.2.1).bind fun x10 => (if m.2.2.1 = x10 then some true else (some (Tq P.2.1 m)).bind fun x11 => some (!x11)))) = some (TC t old now P m) := by
      unfold TC
      show (if (!(EQ t m)) = true then _ else _) = _
      by_cases c : EQ t m = true
      · obtain ⟨row, e1, _, e2, _⟩ := hn.port (Ki.1 c).1 (Ki.1 c).2
        obtain ⟨ro, f1, _, f2, _⟩ := ho.port (Ki.1 c).1 (Ki.1 c).2
        rw [c, if_neg (by decide), e1, Option.bind_some, e2, Option.bind_some, f1, Option.bind_some, f2, Option.bind_some]
        by_cases c1 : m.2.2.1 ≠ Fm now m.1 m.2.1
        · rw [if_pos c1, decide_eq_true c1]; rfl
        · rw [if_neg c1, decide_eq_false c1]
          by_cases c2 : m.2.2.1 = Fm old m.1 m.2.1
          · rw [if_pos c2, decide_eq_true c2]; rfl
          · rw [if_neg c2, decide_eq_false c2]; rfl
      · rw [Bool.not_eq_true] at c
        rw [c, if_pos (show (!false) = true from rfl)]; rfl
    show Option.bind (Option.bind (if (!(AU (t, old, now, P) m)) = true then some true else (ix now m.1).bind fun x7 => (ix x7 m.2.1).bind fun x8 => (if m.2.2.1 ≠ x8 then some true else (ix old m.1).bind fun x9 => (ix x9 m.2.1).bind fun x10 => (if m.2.2.1 = x10 then some true else (some (Tq P.2.1 m)).bind fun x11 => some (!x11)))) _) _ = _
    rw [hst, Option.bind_some, ON (by omega), Option.bind_some, AL (by omega)]
    unfold exF
    rw [hm]; rfl) (fun k out hk => by rw [BU, if_neg (by show ¬ (k : Int) < (P.1.length : Int); omega)]) P.1.length 0 [] (by omega) (by omega) (by simp; omega), Option.bind_some, List.nil_append]
noncomputable def VB (t : Tp) (P : Pn) (k : Nat) : Bool := match P.2.1[k]?, P.2.1[k - 1]? with | some r, some q => decide (Bc r.2.1 - Bc q.2.1 < 2 * (min (max P.2.2.1 0) 1048576) + Hd t + 1) | _, _ => false
noncomputable def SI (t : Tp) (P : Pn) (k : Nat) : List Fd := if VB t P k = true then [(4, (k : Int), 0)] else []
theorem OX (t : Tp) (P : Pn) (k : Nat) : (SI t P k).length ≤ 1 := by unfold SI; split <;> simp
noncomputable abbrev U2 (t : Tp) (P : Pn) : List Fd := (List.range' 1 (P.2.1.length - 1)).flatMap (SI t P)
theorem Q1 (x : Int) : -1125899906842624 ≤ Bc x ∧ Bc x ≤ 1125899906842624 := by unfold Bc; omega
theorem Rk (ht : La t) (ok : Np P) : Ck (t, old, now, P) = some (U2 t P) := by
  have h12 := ok.2.1
  obtain ⟨_, l0, l1⟩ := OD ht
  unfold Ck
  show Option.bind (FL t (min (max P.2.2.1 0) 1048576)) _ = _
  rw [Tv ht (by omega), Option.bind_some, show (([] : List Fd), (1 : Int)) = ([], ((1 : Nat) : Int)) from rfl, Iv P.2.1.length 1 1000 (SI t P) 1 (fun k _ => OX t P k) (BX (t, old, now, P) _) (fun k out h1 hk hb => by
    have hr := List.getElem?_eq_getElem hk
    have hq := List.getElem?_eq_getElem (l := P.2.1) (i := k - 1) (by omega)
    generalize P.2.1[k] = r at hr
    generalize P.2.1[k - 1] = q at hq
    have b1 := Q1 r.2.1
    have b2 := Q1 q.2.1
    rw [BX, if_pos (by show (k : Int) < (P.2.1.length : Int); omega)]
    show Option.bind ((ix P.2.1 (k : Int)).bind fun x6 => (ix P.2.1 (A7 ((k : Int) - 1))).bind _) _ = _
    rw [AV hr, Option.bind_some, AL (by omega), show (k : Int) - 1 = ((k - 1 : Nat) : Int) by omega, AV hq, Option.bind_some, AL (by omega), AL (by omega)]
    have e : SI t P k = if Bc r.2.1 - Bc q.2.1 < 2 * (min (max P.2.2.1 0) 1048576) + Hd t + 1 then [(4, (k : Int), 0)] else [] := by
      unfold SI VB
      rw [hr, hq]
      simp only [decide_eq_true_eq]
    rw [e]
    by_cases c : Bc r.2.1 - Bc q.2.1 < 2 * (min (max P.2.2.1 0) 1048576) + Hd t + 1
    · rw [if_pos c, if_pos c, Du (by simp; omega)]; rfl
    · rw [if_neg c, if_neg c, List.append_nil]; rfl) (fun k out hk => by rw [BX, if_neg (by show ¬ (k : Int) < (P.2.1.length : Int); omega)]) (P.2.1.length - 1) 1 [] (by omega) (by omega) (by simp; omega), Option.bind_some, List.nil_append]
end
end Go.Proofs.Ythhoflfhegfmcaa
