/- Layer 25: findings. Conditions: none. -/
import Derived.Test.YthhoflfhegfmcaaGreatcM24
import Derived.Test.YthhoflfhegfmcaaGreatcM20
import Derived.Test.YthhoflfhegfmcaaGreatcEV
namespace Go.Proofs.YthhoflfhegfmcaaGreat
set_option linter.unusedVariables false
set_option linter.unusedSimpArgs false
open Go Go.RowKit
def PA {α : Type} (P : α → Bool) : List α → Nat → Int
  | [], _ => -1
  | x :: l, k => if P x = true then (k : Int) else PA P l (k + 1)
theorem Qm {α : Type} (l : List α) (hl : l.length ≤ 1000000) (P : α → Bool) (step : Int → Option (Int ⊕ (Unit ⊕ Int)))
    (hs : ∀ k (hk : k < l.length), step (k : Int) = if P l[k] = true then some (.inr (.inr (k : Int))) else some (.inl (An ((k : Int) + 1)))) (he : step (l.length : Int) = some (.inr (.inl ()))) :
    GT (Aq step 0) (fun _ => some (-1)) = some (PA P l 0) := by
  have key : ∀ (d k : Nat), k + d = l.length → GT (Aq step (k : Int)) (fun _ => some (-1)) = some (PA P (l.drop k) k) := by
    intro d
    induction d with
    | zero =>
      intro k hk
      obtain rfl : k = l.length := by omega
      rw [Av he, List.drop_eq_nil_of_le (Nat.le_refl _)]; rfl
    | succ d ih =>
      intro k hk
      have hk2 : k < l.length := by omega
      have h := hs k hk2
      rw [List.drop_eq_getElem_cons hk2]
      show _ = some (if P l[k] = true then (k : Int) else PA P (l.drop (k + 1)) (k + 1))
      by_cases c : P l[k] = true
      · rw [if_pos c] at h
        rw [if_pos c, Av h]; rfl
      · rw [if_neg c, Aj (by omega)] at h
        rw [if_neg c, A7 h]
        exact ih (k + 1) (by omega)
  exact key l.length 0 (by omega)
theorem Ph {α : Type} (P : α → Bool) : ∀ (l : List α) (k : Nat), (PA P l k = -1 ∧ ∀ x ∈ l, P x = false) ∨ ∃ (j : Nat) (x : α), l[j]? = some x ∧ P x = true ∧ PA P l k = ((k + j : Nat) : Int) ∧ ∀ (i : Nat) (y : α), i < j → l[i]? = some y → P y = false
  | [], k => .inl ⟨rfl, fun x hx => by cases hx⟩
  | x :: l, k => by
    by_cases c : P x = true
    · exact .inr ⟨0, x, rfl, c, if_pos c, fun i y hi => by omega⟩
    · have e : PA P (x :: l) k = PA P l (k + 1) := if_neg c
      rcases Ph P l (k + 1) with ⟨h1, h2⟩ | ⟨j, y, h1, h2, h3, h4⟩
      · exact .inl ⟨e.trans h1, fun y hy => by
          rcases List.mem_cons.1 hy with rfl | hy
          · simpa using c
          · exact h2 y hy⟩
      · refine .inr ⟨j + 1, y, h1, h2, by rw [e, h3]; omega, fun i z hi hz => ?_⟩
        cases i with
        | zero => simp at hz; subst hz; simpa using c
        | succ i => exact h4 i z (by omega) (by simpa using hz)
theorem Sh {α : Type} (P : α → Bool) (l : List α) [Decidable (∃ x ∈ l, P x = true)] : decide (0 ≤ PA P l 0) = decide (∃ x ∈ l, P x = true) := by
  rcases Ph P l 0 with ⟨h1, h2⟩ | ⟨j, x, h1, h2, h3, h4⟩
  · rw [h1, decide_eq_false (p := ∃ x ∈ l, P x = true) (fun ⟨x, hx, h⟩ => by rw [h2 x hx] at h; cases h)]; rfl
  · rw [h3, decide_eq_true (show ∃ x ∈ l, P x = true from ⟨x, List.mem_of_getElem? h1, h2⟩), decide_eq_true (by omega)]
theorem Ly {α σ τ ε : Type} (l : List α) (mkS : σ → Nat → τ) (f : σ → α → σ) (step : τ → Option (τ ⊕ ε)) (fin : σ → ε) (G : σ → Nat → Prop) (s0 : σ) (h0 : G s0 0)
    (hs : ∀ s k (hk : k < l.length), G s k → step (mkS s k) = some (.inl (mkS (f s l[k]) (k + 1))) ∧ G (f s l[k]) (k + 1))
    (he : ∀ s, step (mkS s l.length) = some (.inr (fin s))) : Aq step (mkS s0 0) = some (fin (l.foldl f s0)) ∧ G (l.foldl f s0) l.length := by
  obtain ⟨s, ⟨h1, h3⟩, h2⟩ := DM l.length mkS step fin (fun s k => s = (l.take k).foldl f s0 ∧ G s k)
    (fun s k hk ⟨hI, hG⟩ => ⟨f s l[k], (hs s k hk hG).1, by rw [hI, List.take_succ_eq_append_getElem hk, List.foldl_append]; rfl, (hs s k hk hG).2⟩) (fun s _ => he s) s0 ⟨rfl, h0⟩
  rw [List.take_length] at h1
  subst h1
  exact ⟨h2, h3⟩
abbrev Q1 := Int × Int × Int × Int
abbrev Fd := Int × Int × Int
abbrev Pn := List Q1 × List Pf × Int × Int × Int × Int
abbrev Ch := Tp × Rt × Rt × Pn
def HI (p0 : Tp) (p1 : Q1) : Bool := (decide (0 ≤ p1.1) && (decide (p1.1 < p0.1) && (decide (0 ≤ p1.2.1) && decide (p1.2.1 < (p0.2.2.length : Int)))))
section
variable {t : Tp} {old now : Rt} {P : Pn}
theorem KZ {β : Type} (n c B : Nat) (g : Nat → List β) (k0 : Nat) (hg : ∀ k, k < n → (g k).length ≤ c) (step : List β × Int → Option ((List β × Int) ⊕ List β))
    (hs : ∀ (k : Nat) (out : List β), k0 ≤ k → k < n → out.length ≤ B → step (out, (k : Int)) = some (.inl (out ++ g k, ((k + 1 : Nat) : Int)))) (he : ∀ (k : Nat) (out : List β), n ≤ k → step (out, (k : Int)) = some (.inr out)) :
    ∀ (d k : Nat) (out : List β), n - k = d → k0 ≤ k → out.length + d * c ≤ B → Aq step (out, (k : Int)) = some (out ++ (List.range' k d).flatMap g)
  | 0, k, out, hd, hk, hb => by rw [Av (he k out (by omega))]; simp
  | d + 1, k, out, hd, hk, hb => by
    have hb' : out.length + (d * c + c) ≤ B := by rwa [Nat.succ_mul] at hb
    have hg' := hg k (by omega)
    rw [A7 (hs k out hk (by omega) (by omega)), KZ n c B g k0 hg step hs he d (k + 1) (out ++ g k) (by omega) (by omega) (by rw [List.length_append]; omega)]
    rw [List.range'_succ, List.flatMap_cons, List.append_assoc]
theorem Sr {β : Type} {out : List β} (h : out.length ≤ 100000000) (b : Bool) (z : β) : (if b = true then (HN out [z]).bind fun x => some x else some out) = some (out ++ if b = true then [z] else []) := by
  cases b
  · simp
  · rw [if_pos rfl, if_pos rfl, EC (by simp; omega)]; rfl
theorem HR {α : Type} {n : Nat} {f : Nat → α} {i : Nat} (h : i < n) : ((List.range n).map f)[i]? = some (f i) := by simp [h]
theorem MX {α : Type} {n : Nat} {f : Nat → α} {i : Nat} (x : α) : ((List.range n).map f).set i x = (List.range n).map (fun s => if s = i then x else f s) := by
  refine List.ext_getElem? fun j => ?_
  by_cases hj : j < n
  · rw [HR hj]
    by_cases c : i = j
    · subst c; rw [List.getElem?_set_self (by simpa using hj), if_pos rfl]
    · rw [List.getElem?_set_ne c, HR hj, if_neg (fun e => c e.symm)]
  · rw [List.getElem?_eq_none (by simp; omega), List.getElem?_eq_none (by simp; omega)]
theorem Hu {α : Type} {n : Nat} {f g : Nat → α} (h : ∀ i, i < n → f i = g i) : (List.range n).map f = (List.range n).map g := List.map_congr_left fun i hi => h i (List.mem_range.1 hi)
def Rf (r : Pf) (m : Q1) : Bool := decide (m.2.2.2 = r.1) && decide (m.1 ∈ r.2.2)
theorem Rx {l : List Int} (hl : l.length ≤ 1000) (x : Int) : CP l x = some (decide (x ∈ l)) := by
  unfold CP DL
  rw [Qm l (by omega) (fun y => decide (x = y)) (CR l x) (fun k hk => by
    rw [CR, if_pos (by omega), BA (List.getElem?_eq_getElem hk), Option.bind_some]
    by_cases c : x = l[k]
    · rw [if_pos c, if_pos (decide_eq_true c)]
    · rw [if_neg c, if_neg (by simpa using c)]) (by rw [CR, if_neg (by omega)]), Option.bind_some]
  congr 1
  rw [Sh (fun y => decide (x = y)) l]
  refine decide_eq_decide.2 ⟨fun ⟨y, hy, h⟩ => ?_, fun h => ⟨x, h, decide_eq_true rfl⟩⟩
  rw [of_decide_eq_true h]; exact hy
theorem Og {r : Pf} (hr : r.2.2.length ≤ 1000) (m : Q1) : DR r m = some (Rf r m) := by
  unfold DR Rf
  by_cases c : m.2.2.2 = r.1
  · rw [if_pos c, Rx hr, decide_eq_true c]; rfl
  · rw [if_neg c, decide_eq_false c]; rfl
abbrev WF (Rs : List Pf) (m : Q1) : Bool := decide (∃ r ∈ Rs, Rf r m = true)
abbrev SO (P : Pn) : Prop := P.1.length ≤ 64 ∧ P.2.1.length ≤ 12 ∧ ∀ r ∈ P.2.1, r.2.2.length ≤ 20
theorem Ul {c : Ch} (ok : SO c.2.2.2) (m : Q1) : Ct c m = some (WF c.2.2.2.2.1 m) := by
  have hl := ok.2.1
  unfold Ct Bu BC
  rw [Qm c.2.2.2.2.1 (by omega) (fun r => Rf r m) (Be c.2.2.2.2.1 m) (fun k hk => by
    have := ok.2.2 _ (List.getElem_mem hk)
    rw [Be, if_pos (by omega), BA (List.getElem?_eq_getElem hk), Option.bind_some]
    unfold CZ
    rw [Og (by omega), Option.bind_some, Option.bind_some]) (by rw [Be, if_neg (by omega)]), Option.bind_some, Option.bind_some]
  congr 1
  exact Sh (fun r => Rf r m) c.2.2.2.2.1
def UE (Rs : List Pf) (sw h port : Int) (m : Q1) : Bool := decide (m.1 = sw) && (decide (m.2.1 = h) && (decide (m.2.2.1 = port) && WF Rs m))
def XV (P : Pn) (sw h port : Int) : Nat := (P.1.filter (UE P.2.1 sw h port)).length
theorem Uh (L : List Q1) (hl : L.length ≤ 1000) (q : Q1 → Bool) (step : Int × Int → Option ((Int × Int) ⊕ Int))
    (hs : ∀ (k : Nat) (hk : k < L.length) (x : Int), 0 ≤ x ∧ x ≤ 1000 → step (x, (k : Int)) = some (.inl (if q L[k] = true then x + 1 else x, ((k + 1 : Nat) : Int)))) (he : ∀ x, step (x, (L.length : Int)) = some (.inr x)) : Aq step (0, 0) = some ((L.filter q).length : Int) := by
  obtain ⟨s, h1, h2⟩ := DM L.length (fun (x : Int) (k : Nat) => (x, (k : Int))) step id (fun x k => x = (((L.take k).filter q).length : Int)) (fun x k hk hI => by
    have hle : ((L.take k).filter q).length ≤ 1000 := Nat.le_trans (List.length_filter_le _ _) (by rw [List.length_take]; omega)
    refine ⟨_, hs k hk x (by omega), ?_⟩
    show _ = (((L.take (k + 1)).filter q).length : Int)
    rw [List.take_succ_eq_append_getElem hk, List.filter_append, List.length_append, hI]
    by_cases c : q L[k] = true
    · rw [if_pos c, List.filter_cons_of_pos c]; simp
    · rw [if_neg c, List.filter_cons_of_neg c]; simp) (fun x _ => he x) 0 (by simp)
  rw [List.take_length] at h1
  rw [show ((0 : Int), (0 : Int)) = ((0 : Int), ((0 : Nat) : Int)) from rfl, h2, h1]; rfl
theorem SL {c : Ch} (ok : SO c.2.2.2) (sw h port : Int) : B5 c sw h port = some (XV c.2.2.2 sw h port : Int) := by
  have hl := ok.1
  unfold B5
  rw [Uh c.2.2.2.1 (by omega) (UE c.2.2.2.2.1 sw h port) (CO c sw h port) (fun k hk x hx => by
    rw [CO, if_pos (by omega), BA (List.getElem?_eq_getElem hk), Option.bind_some, Ul ok, Aj (by omega), Aj (by omega)]
    have e : (if (c.2.2.2.1[k]).1 = sw then if (c.2.2.2.1[k]).2.1 = h then if (c.2.2.2.1[k]).2.2.1 = port then (some (WF c.2.2.2.2.1 c.2.2.2.1[k])).bind fun x7 => some x7 else some false else some false else some false) = some (UE c.2.2.2.2.1 sw h port c.2.2.2.1[k]) := by
      unfold UE
      by_cases c1 : (c.2.2.2.1[k]).1 = sw
      · by_cases c2 : (c.2.2.2.1[k]).2.1 = h
        · by_cases c3 : (c.2.2.2.1[k]).2.2.1 = port
          · rw [if_pos c1, if_pos c2, if_pos c3, decide_eq_true c1, decide_eq_true c2, decide_eq_true c3]; rfl
          · rw [if_pos c1, if_pos c2, if_neg c3, decide_eq_false c3]; simp
        · rw [if_pos c1, if_neg c2, decide_eq_false c2]; simp
      · rw [if_neg c1, decide_eq_false c1]; simp
    rw [e, Option.bind_some]
    by_cases q : UE c.2.2.2.2.1 sw h port c.2.2.2.1[k] = true
    · rw [if_pos q, if_pos q]; rfl
    · rw [if_neg q, if_neg q]; rfl) (fun x => by rw [CO, if_neg (by omega)]), Option.bind_some]; rfl
def Xd (old now : Rt) (P : Pn) (sw h : Nat) : Bool := decide (Fb now sw h ≠ Fb old sw h) && decide ((XV P sw h (Fb now sw h) : Int) ≠ 1)
def TJ (old now : Rt) (P : Pn) (sw h : Nat) : List Fd := if Xd old now P sw h = true then [(2, (sw : Int), (h : Int))] else []
def UF (t : Tp) (old now : Rt) (P : Pn) (sw : Nat) : List Fd := (List.range' 0 t.2.2.length).flatMap (TJ old now P sw)
theorem Sp (old now : Rt) (P : Pn) (sw h : Nat) : (TJ old now P sw h).length ≤ 1 := by unfold TJ; split <;> simp
theorem IU {β : Type} (g : Nat → List β) (c : Nat) (hg : ∀ k, (g k).length ≤ c) : ∀ (d k : Nat), ((List.range' k d).flatMap g).length ≤ d * c
  | 0, k => by simp
  | d + 1, k => by
    rw [List.range'_succ, List.flatMap_cons, List.length_append, Nat.succ_mul]
    have := IU g c hg d (k + 1)
    have := hg k
    omega
abbrev Yf (t : Tp) (old now : Rt) (P : Pn) : List Fd := (List.range' 0 t.1.toNat).flatMap (UF t old now P)
theorem RX {t : Tp} (hok : OD t) (old now : Rt) (P : Pn) (sw : Nat) : (UF t old now P sw).length ≤ 8 := by
  have := IU (TJ old now P sw) 1 (Sp old now P sw) t.2.2.length 0
  have h8 := hok.1
  unfold UF; omega
theorem U0 (ho : JR t old) (hn : JR t now) (ok : SO P) {sw h : Nat} (hs : (sw : Int) < t.1) (hh : h < t.2.2.length) {row : List Int} (er : ix now sw = some row) :
    ((ix row (h : Int)).bind fun x9 => ((ix old sw).bind fun x11 => (ix x11 (h : Int)).bind fun x12 => (if x9 ≠ x12 then (B5 (t, old, now, P) sw h x9).bind fun x13 => some (decide (x13 ≠ 1)) else some false)).bind fun x10 => some x10) = some (Xd old now P sw h) := by
  obtain ⟨row', e1, _, e2, _⟩ := hn.port (sw := sw) (h := h) ⟨by omega, hs⟩ ⟨by omega, by omega⟩
  obtain ⟨ro, f1, _, f2, _⟩ := ho.port (sw := sw) (h := h) ⟨by omega, hs⟩ ⟨by omega, by omega⟩
  rw [e1] at er
  cases er
  rw [e2, Option.bind_some, f1, Option.bind_some, f2, Option.bind_some]
  unfold Xd
  by_cases c : Fb now sw h ≠ Fb old sw h
  · rw [if_pos c, SL (c := (t, old, now, P)) ok, decide_eq_true c]; rfl
  · rw [if_neg c, decide_eq_false c]; rfl
theorem SB (ho : JR t old) (hn : JR t now) (ok : SO P) : Do (t, old, now, P) = some (Yf t old now P) := by
  have h8 := hn.1.1
  have hnl := hn.2.1
  unfold Do
  rw [show (([] : List Fd), (0 : Int)) = ([], ((0 : Nat) : Int)) from rfl, KZ t.1.toNat 8 1000 (UF t old now P) 0 (fun k _ => RX hn.1 old now P k) (CQ (t, old, now, P)) (fun sw out _ hs hb => by
    have hs' : (sw : Int) < t.1 := by omega
    obtain ⟨row, e1, e2, e3, _, _⟩ := hn.row (sw := sw) ⟨by omega, hs'⟩
    rw [CQ, if_pos (by show (sw : Int) < (now.length : Int); omega)]
    show Option.bind (Option.bind (ix now sw) fun x5 => Aq (Cs (t, old, now, P) sw x5) (out, 0)) _ = _
    rw [e1, Option.bind_some, show (out, (0 : Int)) = (out, ((0 : Nat) : Int)) from rfl, KZ t.2.2.length 1 2000 (TJ old now P sw) 0 (fun k _ => Sp old now P sw k) (Cs (t, old, now, P) sw row) (fun h out' _ hh hb' => by
      have hst := U0 ho hn ok hs' hh e1
      rw [Cs, if_pos (by omega)]
      obtain ⟨row', e1', _, e2', _⟩ := hn.port (sw := sw) (h := h) ⟨by omega, hs'⟩ ⟨by omega, by omega⟩
      rw [e1] at e1'
      cases e1'
      rw [e2', Option.bind_some] at hst ⊢
      have hst' : ((ix old sw).bind fun x11 => (ix x11 (h : Int)).bind fun x12 => (if Fb now sw h ≠ x12 then (B5 (t, old, now, P) sw h (Fb now sw h)).bind fun x13 => some (decide (x13 ≠ 1)) else some false)) = some (Xd old now P sw h) := by
        revert hst
        generalize ((ix old sw).bind fun x11 => (ix x11 (h : Int)).bind fun x12 => (if Fb now sw h ≠ x12 then (B5 (t, old, now, P) sw h (Fb now sw h)).bind fun x13 => some (decide (x13 ≠ 1)) else some false)) = X
        intro hst
        cases X with
        | none => cases hst
        | some b => exact hst
      show Option.bind (Option.bind ((ix old sw).bind fun x11 => (ix x11 (h : Int)).bind fun x12 => (if Fb now sw h ≠ x12 then (B5 (t, old, now, P) sw h (Fb now sw h)).bind fun x13 => some (decide (x13 ≠ 1)) else some false)) _) _ = _
      rw [hst', Option.bind_some, Sr (by omega), Option.bind_some, Aj (by omega)]; rfl) (fun k out' hk => by rw [Cs, if_neg (by omega)]) t.2.2.length 0 out (by omega) (by omega) (by omega), Option.bind_some, Aj (by omega)]; rfl) (fun k out hk => by rw [CQ, if_neg (by show ¬ (k : Int) < (now.length : Int); omega)]) t.1.toNat 0 [] (by omega) (by omega) (by simp; omega), Option.bind_some, List.nil_append]
def Xq (t : Tp) (old now : Rt) (P : Pn) (m : Q1) : Bool := !(HI t m) || (decide (m.2.2.1 ≠ Fb now m.1 m.2.1) || (decide (m.2.2.1 = Fb old m.1 m.2.1) || !(WF P.2.1 m)))
def exF (t : Tp) (old now : Rt) (P : Pn) (k : Nat) : List Fd := match P.1[k]? with | some m => if Xq t old now P m = true then [(3, (k : Int), m.2.1)] else [] | none => []
theorem RT (t : Tp) (old now : Rt) (P : Pn) (k : Nat) : (exF t old now P k).length ≤ 1 := by
  unfold exF
  cases P.1[k]? with
  | none => simp
  | some m => simp only; split <;> simp
abbrev Yk (t : Tp) (old now : Rt) (P : Pn) : List Fd := (List.range' 0 P.1.length).flatMap (exF t old now P)
theorem LA {m : Q1} : HI t m = true ↔ (0 ≤ m.1 ∧ m.1 < t.1) ∧ 0 ≤ m.2.1 ∧ m.2.1 < (t.2.2.length : Int) := by
  unfold HI
  simp only [Bool.and_eq_true, decide_eq_true_eq]
  exact ⟨fun ⟨a, b, c, d⟩ => ⟨⟨a, b⟩, c, d⟩, fun ⟨⟨a, b⟩, c, d⟩ => ⟨a, b, c, d⟩⟩
theorem Vd (ho : JR t old) (hn : JR t now) (ok : SO P) : DG (t, old, now, P) = some (Yk t old now P) := by
  have h40 := ok.1
  unfold DG
  rw [show (([] : List Fd), (0 : Int)) = ([], ((0 : Nat) : Int)) from rfl, KZ P.1.length 1 1000 (exF t old now P) 0 (fun k _ => RT t old now P k) (Db (t, old, now, P)) (fun k out _ hk hb => by
    have hm := List.getElem?_eq_getElem hk
    generalize P.1[k] = m at hm
    rw [Db, if_pos (by show (k : Int) < (P.1.length : Int); omega)]
    show Option.bind (Option.bind (ix P.1 k) _) _ = _
    rw [BA hm, Option.bind_some, Ul (c := (t, old, now, P)) ok]
    have hst : (if (!(BJ (t, old, now, P) m)) = true then some true else (ix now m.1).bind fun x7 => (ix x7 m.2.1).bind fun x8 => (if m.2.2.1 ≠ x8 then some true else (ix old m.1).bind fun x9 => (ix x9 m.2.1).bind fun x10 => (if m.2.2.1 = x10 then some true else (some (WF P.2.1 m)).bind fun x11 => some (!x11)))) = some (Xq t old now P m) := by
      unfold Xq
      show (if (!(HI t m)) = true then _ else _) = _
      by_cases c : HI t m = true
      · obtain ⟨row, e1, _, e2, _⟩ := hn.port (LA.1 c).1 (LA.1 c).2
        obtain ⟨ro, f1, _, f2, _⟩ := ho.port (LA.1 c).1 (LA.1 c).2
        rw [c, if_neg (by decide), e1, Option.bind_some, e2, Option.bind_some, f1, Option.bind_some, f2, Option.bind_some]
        by_cases c1 : m.2.2.1 ≠ Fb now m.1 m.2.1
        · rw [if_pos c1, decide_eq_true c1]; rfl
        · rw [if_neg c1, decide_eq_false c1]
          by_cases c2 : m.2.2.1 = Fb old m.1 m.2.1
          · rw [if_pos c2, decide_eq_true c2]; rfl
          · rw [if_neg c2, decide_eq_false c2]; rfl
      · rw [Bool.not_eq_true] at c
        rw [c, if_pos (show (!false) = true from rfl)]; rfl
    show Option.bind (Option.bind (if (!(BJ (t, old, now, P) m)) = true then some true else (ix now m.1).bind fun x7 => (ix x7 m.2.1).bind fun x8 => (if m.2.2.1 ≠ x8 then some true else (ix old m.1).bind fun x9 => (ix x9 m.2.1).bind fun x10 => (if m.2.2.1 = x10 then some true else (some (WF P.2.1 m)).bind fun x11 => some (!x11)))) _) _ = _
    rw [hst, Option.bind_some, Sr (by omega), Option.bind_some, Aj (by omega)]
    unfold exF
    rw [hm]; rfl) (fun k out hk => by rw [Db, if_neg (by show ¬ (k : Int) < (P.1.length : Int); omega)]) P.1.length 0 [] (by omega) (by omega) (by simp; omega), Option.bind_some, List.nil_append]
noncomputable def YI (t : Tp) (P : Pn) (k : Nat) : Bool := match P.2.1[k]?, P.2.1[k - 1]? with | some r, some q => decide (BG r.2.1 - BG q.2.1 < 2 * (min (max P.2.2.1 0) 1048576) + Cp t + 1) | _, _ => false
noncomputable def UJ (t : Tp) (P : Pn) (k : Nat) : List Fd := if YI t P k = true then [(4, (k : Int), 0)] else []
theorem Se (t : Tp) (P : Pn) (k : Nat) : (UJ t P k).length ≤ 1 := by unfold UJ; split <;> simp
noncomputable abbrev XM (t : Tp) (P : Pn) : List Fd := (List.range' 1 (P.2.1.length - 1)).flatMap (UJ t P)
theorem T1 (x : Int) : -1125899906842624 ≤ BG x ∧ BG x ≤ 1125899906842624 := by unfold BG; omega
theorem U3 (ht : OD t) (ok : SO P) : DK (t, old, now, P) = some (XM t P) := by
  have h12 := ok.2.1
  obtain ⟨_, l0, l1⟩ := NI ht
  unfold DK
  show Option.bind (HG t (min (max P.2.2.1 0) 1048576)) _ = _
  rw [Tm ht (by omega), Option.bind_some, show (([] : List Fd), (1 : Int)) = ([], ((1 : Nat) : Int)) from rfl, KZ P.2.1.length 1 1000 (UJ t P) 1 (fun k _ => Se t P k) (Da (t, old, now, P) _) (fun k out h1 hk hb => by
    have hr := List.getElem?_eq_getElem hk
    have hq := List.getElem?_eq_getElem (l := P.2.1) (i := k - 1) (by omega)
    generalize P.2.1[k] = r at hr
    generalize P.2.1[k - 1] = q at hq
    have b1 := T1 r.2.1
    have b2 := T1 q.2.1
    rw [Da, if_pos (by show (k : Int) < (P.2.1.length : Int); omega)]
    show Option.bind ((ix P.2.1 (k : Int)).bind fun x6 => (ix P.2.1 (An ((k : Int) - 1))).bind _) _ = _
    rw [BA hr, Option.bind_some, Aj (by omega), show (k : Int) - 1 = ((k - 1 : Nat) : Int) by omega, BA hq, Option.bind_some, Aj (by omega), Aj (by omega)]
    have e : UJ t P k = if BG r.2.1 - BG q.2.1 < 2 * (min (max P.2.2.1 0) 1048576) + Cp t + 1 then [(4, (k : Int), 0)] else [] := by
      unfold UJ YI
      rw [hr, hq]
      simp only [decide_eq_true_eq]
    rw [e]
    by_cases c : BG r.2.1 - BG q.2.1 < 2 * (min (max P.2.2.1 0) 1048576) + Cp t + 1
    · rw [if_pos c, if_pos c, EC (by simp; omega)]; rfl
    · rw [if_neg c, if_neg c, List.append_nil]; rfl) (fun k out hk => by rw [Da, if_neg (by show ¬ (k : Int) < (P.2.1.length : Int); omega)]) (P.2.1.length - 1) 1 [] (by omega) (by omega) (by simp; omega), Option.bind_some, List.nil_append]
end
end Go.Proofs.YthhoflfhegfmcaaGreat
namespace Go.Proofs.YthhoflfhegfmcaaGreat
set_option linter.unusedVariables false
set_option linter.unusedSimpArgs false
open Go Go.RowKit
section
variable {t : Tp} {old now : Rt} {P : Pn}
abbrev ZK := List (Nat × List Int)
abbrev Yw := List (Nat × List (Nat × List Int))
def Qv (n H : Nat) (R : Nat → Nat → Int) : List (List Int) := (List.range n).map fun s => (List.range H).map (R s)
def LU (n H : Nat) (R : Nat → Nat → Int) : ZK := (List.range n).map fun s => (2, (List.range H).map (R s))
def UI (n H : Nat) (M : Nat → Nat → List Int) : List (List (List Int)) := (List.range n).map fun s => (List.range H).map (M s)
def P7 (n H : Nat) (M : Nat → Nat → List Int) : Yw := (List.range n).map fun s => (2, (List.range H).map fun h => (2, M s h))
theorem Lb {α β γ : Type} {g : β → Option γ} {f : α → β} {k : α → γ} : ∀ {l : List α}, (∀ x ∈ l, g (f x) = some (k x)) → Ji g (l.map f) = some (l.map k)
  | [], _ => rfl
  | x :: l, h => by
    have ih := Lb (g := g) (f := f) (k := k) (l := l) fun y hy => h y (List.mem_cons_of_mem _ hy)
    show (g (f x)).bind (fun a => (Ji g (l.map f)).bind fun b => some (a :: b)) = _
    rw [h x (List.mem_cons_self ..), ih]; rfl
theorem Vp (n H : Nat) (R : Nat → Nat → Int) : Ji S4 (LU n H R) = some (Qv n H R) := Lb fun s _ => by show WV _ = _; unfold WV; rw [if_pos (.inr rfl)]
theorem Vi (n H : Nat) (M : Nat → Nat → List Int) : Ji UQ (P7 n H M) = some (UI n H M) := Lb fun s _ => by
  show XZ S4 _ = _
  unfold XZ
  rw [if_pos rfl]
  exact Lb fun h _ => by show WV _ = _; unfold WV; rw [if_pos (.inr rfl)]
theorem XR {t : Tp} {r : Rt} (ho : JR t r) : r = Qv t.1.toNat t.2.2.length (fun s h => Fb r s h) := by
  have hl := ho.2.1
  unfold Qv
  refine List.ext_getElem? fun s => ?_
  by_cases c : s < t.1.toNat
  · obtain ⟨row, e1, e2, e3, _, e5⟩ := ho.row (sw := s) ⟨by omega, by omega⟩
    rw [Int.toNat_natCast] at e2 e5
    rw [HR c, e2]
    congr 1
    refine List.ext_getElem? fun h => ?_
    by_cases d : h < t.2.2.length
    · rw [HR d]
      show row[h]? = some ((List.getD r ((s : Int)).toNat []).getD ((h : Int)).toNat 0)
      rw [Int.toNat_natCast, Int.toNat_natCast, e5, List.getD_eq_getElem?_getD]
      rw [List.getElem?_eq_getElem (by omega)]; rfl
    · rw [List.getElem?_eq_none (by omega), List.getElem?_eq_none (by simp; omega)]
  · rw [List.getElem?_eq_none (by omega), List.getElem?_eq_none (by simp; omega)]
theorem VN {l : List Int} (h : l.length ≤ 1000) : Dq l = some l := by
  unfold Dq
  rw [EC (by simp; omega)]; rfl
theorem TN {n H : Nat} (hn : n ≤ 8) (hH : H ≤ 8) (R : Nat → Nat → Int) : EB (Qv n H R) = some (LU n H R) := by
  have hl : (Qv n H R).length = n := by unfold Qv; simp
  unfold EB
  rw [SG (Qv n H R) (by omega) (fun row => ((2 : Nat), row)) (En (Qv n H R)) (fun k hk out ho => by
    have h1 : (Qv n H R)[k].length ≤ 1000 := by
      obtain ⟨s, _, e⟩ := List.mem_map.1 (show (Qv n H R)[k] ∈ (List.range n).map fun s => (List.range H).map (R s) from List.getElem_mem hk)
      rw [← e, List.length_map, List.length_range]; omega
    rw [En, if_pos (by omega), BA (List.getElem?_eq_getElem hk), Option.bind_some, VN h1, Option.bind_some]) (fun out => by rw [En, if_neg (by omega)]), Option.bind_some]
  unfold Qv LU
  rw [List.map_map]; rfl
theorem Lh {α : Type} (l : List α) (i : Nat) (x : α) : Ah l (i : Int) x = l.set i x := by unfold Ah; rw [Int.toNat_natCast]
def Nr (n H : Nat) (R : Nat → Nat → Int) (a b : Nat) : Yw := (List.range n).map fun s => if s = a then (2, (List.range b).map fun h => (2, [R s h])) else if s < a then (2, (List.range H).map fun h => (2, [R s h])) else (2, [])
theorem T0 {n H : Nat} (hn : n ≤ 8) (hH : H ≤ 8) (R : Nat → Nat → Int) : FR (Qv n H R) = some (P7 n H (fun s h => [R s h])) := by
  have hl : (Qv n H R).length = n := by unfold Qv; simp
  unfold FR
  rw [hl, TM ⟨by omega, by omega⟩, Option.bind_some]
  have h0 : List.replicate (n : Int).toNat ((2, []) : Nat × List (Nat × List Int)) = Nr n H R 0 0 := by
    unfold Nr
    rw [Int.toNat_natCast, List.map_congr_left (g := fun _ => ((2, []) : Nat × List (Nat × List Int))) (fun s hs => by
      by_cases c : s = 0
      · rw [if_pos c]; rfl
      · rw [if_neg c, if_neg (by omega)])]
    rw [List.map_const', List.length_range]
  have hin : ∀ a, a < n → Aq (DX (a : Int) ((List.range H).map (R a))) (Nr n H R a 0, 0) = some (Nr n H R a H) := fun a ha => by
    obtain ⟨s, h1, h2⟩ := DM H (fun (x : Yw) (k : Nat) => (x, (k : Int))) (DX (a : Int) ((List.range H).map (R a))) id (fun x k => x = Nr n H R a k) (fun x k hk hI => by
      refine ⟨Nr n H R a (k + 1), ?_, rfl⟩
      subst hI
      have g1 : (Nr n H R a k)[a]? = some (2, (List.range k).map fun h => ((2 : Nat), [R a h])) := by unfold Nr; rw [HR ha, if_pos rfl]
      have g2 : ((Nr n H R a k).set a (0, []))[a]? = some (0, []) := List.getElem?_set_self (by unfold Nr; simp [ha])
      have e : ((Nr n H R a k).set a (0, [])).set a (2, (List.range k).map (fun h => ((2 : Nat), [R a h])) ++ [(2, [R a k])]) = Nr n H R a (k + 1) := by
        rw [List.set_set]
        unfold Nr
        rw [MX]
        refine Hu fun s hs => ?_
        by_cases c : s = a
        · subst c
          rw [if_pos rfl, if_pos rfl, List.range_succ, List.map_append]; rfl
        · rw [if_neg c, if_neg c, if_neg c]
      rw [DX, if_pos (by simp; omega), BA (HR hk), Option.bind_some, BA g1, Option.bind_some]
      show (KW 2).bind _ = _
      unfold KW
      rw [if_pos rfl, Option.bind_some, EC (by simp; omega), Option.bind_some, Lh, BA g2, Option.bind_some, Lh, Aj (by omega), e]; rfl)
      (fun x _ => by rw [DX, if_neg (by simp)]; rfl) (Nr n H R a 0) rfl
    rw [show (Nr n H R a 0, (0 : Int)) = (Nr n H R a 0, ((0 : Nat) : Int)) from rfl, h2, h1]; rfl
  obtain ⟨s, h1, h2⟩ := DM n (fun (x : Yw) (k : Nat) => (x, (k : Int))) (Eo (Qv n H R)) id (fun x k => x = Nr n H R k 0) (fun x k hk hI => by
    refine ⟨Nr n H R (k + 1) 0, ?_, rfl⟩
    subst hI
    have e : Nr n H R k H = Nr n H R (k + 1) 0 := by
      unfold Nr
      refine Hu fun s hs => ?_
      by_cases c : s = k
      · subst c
        rw [if_pos rfl, if_neg (by omega), if_pos (by omega)]
      · rw [if_neg c]
        by_cases d : s = k + 1
        · subst d
          rw [if_neg (by omega), if_pos rfl]; rfl
        · rw [if_neg d]
          by_cases f : s < k
          · rw [if_pos f, if_pos (by omega)]
          · rw [if_neg f, if_neg (by omega)]
    rw [Eo, if_pos (by omega), show ix (Qv n H R) (k : Int) = some ((List.range H).map (R k)) from BA (by unfold Qv; rw [HR hk]), Option.bind_some, hin k hk, Option.bind_some, Aj (by omega), e]; rfl)
    (fun x _ => by rw [Eo, if_neg (by omega)]; rfl) (Nr n H R 0 0) rfl
  rw [h0, show (Nr n H R 0 0, (0 : Int)) = (Nr n H R 0 0, ((0 : Nat) : Int)) from rfl, h2, Option.bind_some, h1]
  congr 1
  unfold Nr P7
  exact Hu fun s hs => by rw [if_neg (by omega), if_pos hs]
def ME {α : Type} (f : Nat → Nat → α) (a b : Nat) (v : α) : Nat → Nat → α := fun s h => if s = a then (if h = b then v else f s h) else f s h
abbrev T4 := (Nat → Nat → Int) × (Nat → Nat → List Int)
def LE (t : Tp) (r : Pf) (s : T4) (m : Q1) : T4 := if (HI t m && Rf r m) = true then (ME s.1 m.1.toNat m.2.1.toNat m.2.2.1, ME s.2 m.1.toNat m.2.1.toNat (s.2 m.1.toNat m.2.1.toNat ++ [m.2.2.1])) else s
theorem WG {n H : Nat} {R : Nat → Nat → Int} {a b : Nat} (ha : a < n) (v : Int) : (LU n H R).set a (2, ((List.range H).map (R a)).set b v) = LU n H (ME R a b v) := by
  unfold LU
  rw [MX]
  refine Hu fun s hs => ?_
  by_cases c : s = a
  · subst c
    rw [if_pos rfl, MX]
    congr 1
    exact Hu fun h _ => by unfold ME; rw [if_pos rfl]
  · rw [if_neg c]
    congr 1
    exact Hu fun h _ => by unfold ME; rw [if_neg c]
theorem Wr {n H : Nat} {M : Nat → Nat → List Int} {a b : Nat} (ha : a < n) (v : List Int) : (P7 n H M).set a (2, ((List.range H).map fun h => ((2 : Nat), M a h)).set b (2, v)) = P7 n H (ME M a b v) := by
  unfold P7
  rw [MX]
  refine Hu fun s hs => ?_
  by_cases c : s = a
  · subst c
    rw [if_pos rfl, MX]
    congr 1
    exact Hu fun h _ => by
      unfold ME
      rw [if_pos rfl]
      by_cases d : h = b
      · rw [if_pos d, if_pos d]
      · rw [if_neg d, if_neg d]
  · rw [if_neg c]
    congr 1
    exact Hu fun h _ => by unfold ME; rw [if_neg c]
theorem Um : KW 2 = some () := by unfold KW; rw [if_pos rfl]
theorem WD : Q6 2 = some () := by unfold Q6; rw [if_pos (.inr rfl)]
theorem Vj (ht : OD t) (ok : SO P) {r : Pf} (hr : r.2.2.length ≤ 20) (s0 : T4) (hs0 : ∀ a b, (s0.2 a b).length ≤ 1) :
    Aq (BZ (t, old, now, P) r) (LU t.1.toNat t.2.2.length s0.1, P7 t.1.toNat t.2.2.length s0.2, 0) = some (LU t.1.toNat t.2.2.length (P.1.foldl (LE t r) s0).1, P7 t.1.toNat t.2.2.length (P.1.foldl (LE t r) s0).2) := by
  have h40 := ok.1
  have h := Ly P.1 (fun (s : T4) (k : Nat) => (LU t.1.toNat t.2.2.length s.1, P7 t.1.toNat t.2.2.length s.2, (k : Int))) (LE t r) (BZ (t, old, now, P) r) (fun s => (LU t.1.toNat t.2.2.length s.1, P7 t.1.toNat t.2.2.length s.2)) (fun s k => ∀ a b, (s.2 a b).length ≤ 1 + k) s0 hs0
    (fun s k hk hG => by
      have hm := List.getElem?_eq_getElem hk
      generalize P.1[k] = m at hm
      refine ⟨?_, ?_⟩
      · rw [BZ, if_pos (by show (k : Int) < (P.1.length : Int); omega)]
        show Option.bind (Option.bind (ix P.1 (k : Int)) _) _ = _
        rw [BA hm, Option.bind_some]
        have hst : (if (BJ (t, old, now, P) m) = true then (DR r m).bind fun x22 => some (LU t.1.toNat t.2.2.length s.1, P7 t.1.toNat t.2.2.length s.2, x22) else some (LU t.1.toNat t.2.2.length s.1, P7 t.1.toNat t.2.2.length s.2, false)) = some (LU t.1.toNat t.2.2.length s.1, P7 t.1.toNat t.2.2.length s.2, HI t m && Rf r m) := by
          show (if HI t m = true then _ else _) = _
          by_cases c : HI t m = true
          · rw [if_pos c, Og (by omega), c]; rfl
          · rw [if_neg c]
            rw [Bool.not_eq_true] at c
            rw [c]; rfl
        rw [hst, Option.bind_some]
        show Option.bind (if (HI t m && Rf r m) = true then _ else _) _ = _
        unfold LE
        by_cases c : (HI t m && Rf r m) = true
        · rw [if_pos c, if_pos c]
          obtain ⟨⟨a0, a1⟩, b0, b1⟩ := LA.1 (Bool.and_eq_true_iff.1 c).1
          obtain ⟨a, ha⟩ : ∃ a : Nat, m.1 = (a : Int) := ⟨m.1.toNat, by omega⟩
          obtain ⟨b, hb⟩ : ∃ b : Nat, m.2.1 = (b : Int) := ⟨m.2.1.toNat, by omega⟩
          rw [ha] at a1
          rw [hb] at b1
          have hA : a < t.1.toNat := by omega
          have hB : b < t.2.2.length := by omega
          have e1 : (P7 t.1.toNat t.2.2.length s.2)[a]? = some (2, (List.range t.2.2.length).map fun h => ((2 : Nat), s.2 a h)) := by unfold P7; rw [HR hA]
          have e2 : ((List.range t.2.2.length).map fun h => ((2 : Nat), s.2 a h))[b]? = some (2, s.2 a b) := HR hB
          have e3 : (((List.range t.2.2.length).map fun h => ((2 : Nat), s.2 a h)).set b (0, []))[b]? = some (0, []) := List.getElem?_set_self (by simp [hB])
          have e4 : (LU t.1.toNat t.2.2.length s.1)[a]? = some (2, (List.range t.2.2.length).map (s.1 a)) := by unfold LU; rw [HR hA]
          have e5 : ((List.range t.2.2.length).map (s.1 a))[b]? = some (s.1 a b) := HR hB
          have hlen := hG a b
          rw [ha, hb, BA e1, Option.bind_some]
          show Option.bind (Option.bind (ix ((List.range t.2.2.length).map fun h => ((2 : Nat), s.2 a h)) (b : Int)) _) _ = _
          rw [BA e2, Option.bind_some]
          show Option.bind (Option.bind (KW 2) fun _ => (KW 2).bind fun _ => (HN (s.2 a b) [m.2.2.1]).bind _) _ = _
          rw [Um, Option.bind_some, Option.bind_some, EC (by simp; omega), Option.bind_some]
          show Option.bind (Option.bind (ix (Ah ((List.range t.2.2.length).map fun h => ((2 : Nat), s.2 a h)) (b : Int) (0, [])) (b : Int)) _) _ = _
          rw [Lh, BA e3, Option.bind_some, BA e4, Option.bind_some]
          show Option.bind (Option.bind (ix ((List.range t.2.2.length).map (s.1 a)) (b : Int)) _) _ = _
          rw [BA e5, Option.bind_some]
          show Option.bind (Option.bind (Q6 2) fun _ => (KW 2).bind fun _ => some (Ah (LU t.1.toNat t.2.2.length s.1) (a : Int) (2, Ah ((List.range t.2.2.length).map (s.1 a)) (b : Int) m.2.2.1), Ah (Ah (P7 t.1.toNat t.2.2.length s.2) (a : Int) (2, ((List.range t.2.2.length).map fun h => ((2 : Nat), s.2 a h)).set b (0, []))) (a : Int) (2, Ah (((List.range t.2.2.length).map fun h => ((2 : Nat), s.2 a h)).set b (0, [])) (b : Int) (2, s.2 a b ++ [m.2.2.1])))) _ = _
          rw [WD, Option.bind_some, Um, Option.bind_some, Option.bind_some]
          simp only [Lh, List.set_set, Int.toNat_natCast]
          rw [WG hA, Wr hA, Aj (by omega)]; rfl
        · rw [if_neg c, if_neg c, Option.bind_some, Aj (by omega)]; rfl
      · intro a b
        unfold LE
        by_cases c : (HI t m && Rf r m) = true
        · rw [if_pos c]
          show (ME s.2 _ _ _ a b).length ≤ _
          unfold ME
          have := hG m.1.toNat m.2.1.toNat
          have := hG a b
          split
          · split
            · rw [List.length_append, List.length_singleton]; omega
            · omega
          · omega
        · rw [if_neg c]
          have := hG a b
          omega)
    (fun s => by rw [BZ, if_neg (by show ¬ (P.1.length : Int) < (P.1.length : Int); omega)])
  exact h.1
def JP (r : Pf) (s h : Int) (m : Q1) : Bool := decide (m.1 = s) && (decide (m.2.1 = h) && Rf r m)
def XQ (r : Pf) (L : List Q1) (s h : Int) (x : Int) : Int := L.foldl (fun x m => if JP r s h m = true then m.2.2.1 else x) x
def ZR (r : Pf) (L : List Q1) (s h : Int) (x : Int) : List Int := x :: (L.filter (JP r s h)).map (·.2.2.1)
def Nb (P : Pn) (old : Rt) (k : Nat) (s h : Int) : Int := (P.2.1.take k).foldl (fun x r => XQ r P.1 s h x) (Fb old s h)
theorem W1 {r : Pf} {m : Q1} {s h : Nat} (hs : s < t.1.toNat) (hh : h < t.2.2.length) : JP r s h m = ((HI t m && Rf r m) && (decide (m.1.toNat = s) && decide (m.2.1.toNat = h))) := by
  rw [Bool.eq_iff_iff]
  unfold JP
  simp only [Bool.and_eq_true, decide_eq_true_eq, LA]
  constructor
  · rintro ⟨h1, h2, h3⟩
    exact ⟨⟨⟨⟨by omega, by omega⟩, by omega, by omega⟩, h3⟩, by omega, by omega⟩
  · rintro ⟨⟨⟨⟨a, b⟩, c, d⟩, e⟩, f, g⟩
    exact ⟨by omega, by omega, e⟩
theorem RA {r : Pf} {s h : Nat} (hs : s < t.1.toNat) (hh : h < t.2.2.length) : ∀ (L : List Q1) (q : T4), (L.foldl (LE t r) q).1 s h = XQ r L s h (q.1 s h) ∧ (L.foldl (LE t r) q).2 s h = q.2 s h ++ (L.filter (JP r s h)).map (·.2.2.1)
  | [], q => ⟨rfl, by simp⟩
  | m :: L, q => by
    have ih := RA (r := r) hs hh L (LE t r q m)
    have hhit := W1 (t := t) (r := r) (m := m) hs hh
    show (L.foldl (LE t r) (LE t r q m)).1 s h = XQ r L s h (if JP r s h m = true then m.2.2.1 else q.1 s h) ∧ _
    rw [List.foldl_cons, ih.1, ih.2, List.filter_cons]
    unfold LE
    by_cases c : (HI t m && Rf r m) = true
    · rw [if_pos c]
      rw [c, Bool.true_and] at hhit
      show XQ r L s h (ME q.1 _ _ _ s h) = _ ∧ ME q.2 _ _ _ s h ++ _ = _
      unfold ME
      by_cases d : s = m.1.toNat
      · by_cases e : h = m.2.1.toNat
        · rw [if_pos d, if_pos e, if_pos d, if_pos e, hhit, decide_eq_true d.symm, decide_eq_true e.symm]
          refine ⟨rfl, ?_⟩
          rw [← d, ← e]
          simp
        · rw [if_pos d, if_neg e, if_pos d, if_neg e, hhit, decide_eq_false (show ¬ m.2.1.toNat = h from fun q => e q.symm), Bool.and_false]
          exact ⟨rfl, rfl⟩
      · rw [if_neg d, if_neg d, hhit, decide_eq_false (show ¬ m.1.toNat = s from fun q => d q.symm), Bool.false_and]
        exact ⟨rfl, rfl⟩
    · rw [if_neg c]
      rw [Bool.not_eq_true] at c
      rw [hhit, c, Bool.false_and]
      exact ⟨rfl, rfl⟩
end
end Go.Proofs.YthhoflfhegfmcaaGreat
namespace Go.Proofs.YthhoflfhegfmcaaGreat
noncomputable section
set_option linter.unusedVariables false
set_option linter.unusedSimpArgs false
open Go Go.RowKit
section
variable {t : Tp} {old now : Rt} {P : Pn}
theorem Xb {n : Int} {l : List (Int × Int)} (hl : l.length ≤ 1000000000) : Er n l = some ((Er n l).getD []) := by
  by_cases c : Ok n l
  · obtain ⟨k, rfl⟩ : ∃ k : Nat, n = (k : Int) := ⟨n.toNat, by have := c.1; omega⟩
    rw [Qz c hl]; rfl
  · have : Er n l = some [] := by
      unfold Er
      rw [Qs _ _ hl, decide_eq_false c]; rfl
    rw [this]; rfl
def Kq (t : Tp) (h s : Int) (st : List (Int × Int) × Bool) (p : Int) : List (Int × Int) × Bool :=
  if (pe t s p).2.2.2 = true then (st.1 ++ [(s, (pe t s p).1)], st.2) else if t.2.2[h.toNat]? = some (s, p) then st else (st.1, true)
def U1 (t : Tp) (h : Int) (M : Nat → Nat → List Int) (st : List (Int × Int) × Bool) (s : Nat) : List (Int × Int) × Bool := (M s h.toNat).foldl (Kq t h (s : Int)) st
def Pj (t : Tp) (h : Int) (M : Nat → Nat → List Int) : List (Int × Int) × Bool := (List.range t.1.toNat).foldl (U1 t h M) ([], false)
def Yb (n : Int) (l : List (Int × Int)) : List Int := (Er n l).getD []
def S9 (t : Tp) (M : Nat → Nat → List Int) (k h : Nat) : List Fd := (if (Pj t h M).2 = true then [(5, (k : Int), (h : Int))] else []) ++ (if 0 < (Yb t.1 (Pj t h M).1).length then [(6, (k : Int), (h : Int))] else [])
theorem PY (t : Tp) (M : Nat → Nat → List Int) (k h : Nat) : (S9 t M k h).length ≤ 2 := by
  unfold S9
  rw [List.length_append]
  split <;> split <;> simp
theorem Sn (h s : Int) (st : List (Int × Int) × Bool) (p : Int) : (Kq t h s st p).1.length ≤ st.1.length + 1 := by
  unfold Kq
  split
  · simp
  · split <;> simp
theorem SE (ht : OD t) {h : Nat} (hh : h < t.2.2.length) (s : Int) (l : List Int) (hl : l.length ≤ 1000) (st : List (Int × Int) × Bool) (hst : st.1.length ≤ 100000) :
    Aq (CA (t, old, now, P) (h : Int) s l) (st.1, st.2, 0) = some ((l.foldl (Kq t h s) st).1, (l.foldl (Kq t h s) st).2) ∧ (l.foldl (Kq t h s) st).1.length ≤ st.1.length + l.length := by
  have q := Ly l (fun (x : List (Int × Int) × Bool) (k : Nat) => (x.1, x.2, (k : Int))) (Kq t h s) (CA (t, old, now, P) (h : Int) s l) (fun x => (x.1, x.2)) (fun x k => x.1.length ≤ st.1.length + k) st (by omega) (fun x k hk hG => by
    refine ⟨?_, by have := Sn (t := t) (h : Int) s x l[k]; omega⟩
    have hx := BA (List.getElem?_eq_getElem hk)
    generalize l[k] = p at hx
    obtain ⟨r, e1, e2⟩ := O2 ht (h := h) (by omega) (by omega) s p
    rw [CA, if_pos (by omega), hx, Option.bind_some]
    show Option.bind (Option.bind (F5 t s p) _) _ = _
    rw [We ht, Option.bind_some, Aj (by omega)]
    unfold Kq
    by_cases c : (pe t s p).2.2.2 = true
    · rw [if_pos c, if_pos c, EC (by simp; omega)]; rfl
    · rw [if_neg c, if_neg c]
      show Option.bind (Option.bind (EE t s p) _) _ = _
      rw [e1, Option.bind_some]
      by_cases d : r = (h : Int)
      · rw [if_neg (fun hh => hh d), if_pos (e2.1 d)]; rfl
      · rw [if_pos d, if_neg (fun hh => d (e2.2 hh))]; rfl) (fun x => by rw [CA, if_neg (by omega)])
  exact ⟨q.1, q.2⟩
theorem R8 {M : Nat → Nat → List Int} (hM : ∀ a b, (M a b).length ≤ 65) (h : Int) (st : List (Int × Int) × Bool) (s : Nat) : (U1 t h M st s).1.length ≤ st.1.length + 65 := by
  have key : ∀ (l : List Int) (x : List (Int × Int) × Bool), (l.foldl (Kq t h (s : Int)) x).1.length ≤ x.1.length + l.length := by
    intro l
    induction l with
    | nil => intro x; simp
    | cons p l ih =>
      intro x
      have := ih (Kq t h s x p)
      have := Sn (t := t) h s x p
      rw [List.foldl_cons, List.length_cons]; omega
  have := key (M s h.toNat) st
  have := hM s h.toNat
  unfold U1; omega
theorem RM {M : Nat → Nat → List Int} (hM : ∀ a b, (M a b).length ≤ 65) (h : Int) : (Pj t h M).1.length ≤ 65 * t.1.toNat := by
  have key : ∀ (l : List Nat) (x : List (Int × Int) × Bool), (l.foldl (U1 t h M) x).1.length ≤ x.1.length + 65 * l.length := by
    intro l
    induction l with
    | nil => intro x; simp
    | cons p l ih =>
      intro x
      have := ih (U1 t h M x p)
      have := R8 (t := t) hM h x p
      rw [List.foldl_cons, List.length_cons]; omega
  have := key (List.range t.1.toNat) ([], false)
  rw [List.length_range] at this
  unfold Pj; simpa using this
theorem UU {M : Nat → Nat → List Int} (ht : OD t) (hM : ∀ a b, (M a b).length ≤ 65) (k h : Nat) {X : Int → List (Int × Int) → Option (List Int)} (hX : X t.1 (Pj t h M).1 = some (Yb t.1 (Pj t h M).1)) :
    (if (Pj t h M).2 = true then (HN ([] : List Fd) [(5, (k : Int), (h : Int))]).bind fun x20 => some x20 else some []).bind (fun x19 => ((X t.1 (Pj t h M).1).bind fun x22 => (if 0 < (x22.length : Int) then (HN x19 [(6, (k : Int), (h : Int))]).bind fun x23 => some x23 else some x19)).bind fun x21 => some x21) = some (S9 t M k h) := by
  unfold S9
  have e1 : (if (Pj t h M).2 = true then (HN ([] : List Fd) [(5, (k : Int), (h : Int))]).bind fun x20 => some x20 else some []) = some (if (Pj t h M).2 = true then [(5, (k : Int), (h : Int))] else []) := by
    by_cases c : (Pj t h M).2 = true
    · rw [if_pos c, if_pos c, EC (by simp)]; rfl
    · rw [if_neg c, if_neg c]
  rw [e1, Option.bind_some, hX, Option.bind_some]
  by_cases c : 0 < (Yb t.1 (Pj t h M).1).length
  · rw [if_pos (by omega), if_pos c, EC (by split <;> simp)]; rfl
  · rw [if_neg (by omega), if_neg c, List.append_nil]; rfl
theorem Tk {M : Nat → Nat → List Int} (ht : OD t) (hM : ∀ a b, (M a b).length ≤ 65) (k : Nat) {h : Nat} (hh : h < t.2.2.length) : Dx (t, old, now, P) (UI t.1.toNat t.2.2.length M) (k : Int) (h : Int) = some (S9 t M k h) := by
  have h8 := ht.1
  have hl : (UI t.1.toNat t.2.2.length M).length = t.1.toNat := by unfold UI; simp
  unfold Dx
  have q := Ly (List.range t.1.toNat) (fun (x : List (Int × Int) × Bool) (k : Nat) => (x.1, x.2, (k : Int))) (U1 t h M) (C0 (t, old, now, P) (UI t.1.toNat t.2.2.length M) (h : Int)) (fun x => (x.1, x.2)) (fun x k => x.1.length ≤ 65 * k) ([], false) (by simp) (fun x s hs hG => by
    rw [List.length_range] at hs
    refine ⟨?_, by have := R8 (t := t) hM (h : Int) x (List.range t.1.toNat)[s]; omega⟩
    have hMs := hM s h
    rw [C0, if_pos (by omega), show ix (UI t.1.toNat t.2.2.length M) (s : Int) = some ((List.range t.2.2.length).map (M s)) from BA (by unfold UI; rw [HR hs]), Option.bind_some, show ix ((List.range t.2.2.length).map (M s)) (h : Int) = some (M s h) from BA (HR hh), Option.bind_some, (SE ht hh (s : Int) (M s h) (by omega) x (by omega)).1, Option.bind_some, Aj (by omega)]
    unfold U1
    rw [Int.toNat_natCast, List.getElem_range]; rfl) (fun x => by rw [List.length_range, C0, if_neg (by omega)])
  rw [show (([] : List (Int × Int)), false, (0 : Int)) = ([], false, ((0 : Nat) : Int)) from rfl, q.1, Option.bind_some]
  exact UU ht hM k h (Xb (by have := RM (t := t) hM (h : Int); omega))
def NE (P : Pn) (old : Rt) (k : Nat) (s h : Nat) : List Int := match P.2.1[k]? with | some r => ZR r P.1 s h (Nb P old k s h) | none => []
theorem Oj (ok : SO P) (k a b : Nat) : (NE P old k a b).length ≤ 65 := by
  have h40 := ok.1
  unfold NE
  cases P.2.1[k]? with
  | none => simp
  | some r =>
    show (_ :: _ : List Int).length ≤ 65
    rw [List.length_cons, List.length_map]
    have := List.length_filter_le (JP r a b) P.1
    omega
def Vc (t : Tp) (old : Rt) (P : Pn) (k : Nat) : List Fd := (List.range' 0 t.2.2.length).flatMap (S9 t (NE P old k) k)
noncomputable abbrev Yj (t : Tp) (old : Rt) (P : Pn) : List Fd := (List.range' 0 P.2.1.length).flatMap (Vc t old P)
theorem R6 (ht : OD t) (old : Rt) (P : Pn) (k : Nat) : (Vc t old P k).length ≤ 16 := by
  have := IU (S9 t (NE P old k) k) 2 (PY t _ k) t.2.2.length 0
  have := ht.1
  unfold Vc; omega
theorem UT {n H : Nat} {M M' : Nat → Nat → List Int} (h : ∀ s, s < n → ∀ b, b < H → M s b = M' s b) : UI n H M = UI n H M' := by
  unfold UI
  exact Hu fun s hs => Hu fun b hb => h s hs b hb
theorem VU {n H : Nat} {M M' : Nat → Nat → Int} (h : ∀ s, s < n → ∀ b, b < H → M s b = M' s b) : LU n H M = LU n H M' := by
  unfold LU
  exact Hu fun s hs => by congr 1; exact Hu fun b hb => h s hs b hb
theorem RC (ho : JR t old) (ok : SO P) : Dd (t, old, now, P) = some (Yj t old P) := by
  have ht := ho.1
  have h8 := ht.1
  have h12 := ok.2.1
  unfold Dd
  have e0 : EB old = some (LU t.1.toNat t.2.2.length (fun s h => Nb P old 0 s h)) := by
    conv => lhs; rw [XR ho]
    exact TN (by omega) (by omega) _
  show Option.bind (EB old) _ = _
  rw [e0, Option.bind_some]
  obtain ⟨s, h1, h2⟩ := DM P.2.1.length (fun (x : List Fd) (k : Nat) => (x, LU t.1.toNat t.2.2.length (fun s h => Nb P old k s h), (k : Int))) (CD (t, old, now, P)) id (fun x k => x = (List.range' 0 k).flatMap (Vc t old P)) (fun x k hk hI => by
    have hr := List.getElem?_eq_getElem hk
    have hr2 := ok.2.2 _ (List.mem_of_getElem? hr)
    generalize P.2.1[k] = r at hr hr2
    refine ⟨x ++ Vc t old P k, ?_, by rw [hI, List.range'_1_concat, List.flatMap_append, Nat.zero_add]; simp⟩
    have hxl : x.length ≤ 16 * 12 := by
      rw [hI]
      have := IU (Vc t old P) 16 (R6 ht old P) k 0
      omega
    rw [CD, if_pos (by show (k : Int) < (P.2.1.length : Int); omega)]
    show Option.bind (Option.bind (ix P.2.1 (k : Int)) _) _ = _
    rw [BA hr, Option.bind_some, Vp, Option.bind_some, T0 (by omega) (by omega), Option.bind_some]
    have hrd := Vj (now := now) (old := old) ht ok hr2 ((fun s h => Nb P old k s h), (fun s h => [Nb P old k s h])) (fun _ _ => by simp)
    show Option.bind (Option.bind (Aq (BZ (t, old, now, P) r) (LU t.1.toNat t.2.2.length (fun s h => Nb P old k s h), P7 t.1.toNat t.2.2.length (fun s h => [Nb P old k s h]), 0)) _) _ = _
    rw [hrd, Option.bind_some]
    have hR : LU t.1.toNat t.2.2.length (P.1.foldl (LE t r) ((fun s h => Nb P old k s h), (fun s h => [Nb P old k s h]))).1 = LU t.1.toNat t.2.2.length (fun s h => Nb P old (k + 1) s h) := VU fun s hs b hb => by
      rw [(RA hs hb P.1 _).1]
      unfold Nb
      rw [List.take_succ_eq_append_getElem hk, List.foldl_append]
      have : P.2.1[k] = r := by rw [List.getElem?_eq_getElem hk] at hr; exact Option.some.inj hr
      rw [this]; rfl
    have hMx : ∀ s, s < t.1.toNat → ∀ b, b < t.2.2.length → (P.1.foldl (LE t r) ((fun s h => Nb P old k s h), (fun s h => [Nb P old k s h]))).2 s b = NE P old k s b := fun s hs b hb => by
      rw [(RA hs hb P.1 _).2]
      unfold NE
      rw [hr]; rfl
    rw [hR]
    have hl3 : Aq (B0 (t, old, now, P) (k : Int) (LU t.1.toNat t.2.2.length fun s h => Nb P old (k + 1) s h) (P7 t.1.toNat t.2.2.length (P.1.foldl (LE t r) ((fun s h => Nb P old k s h), (fun s h => [Nb P old k s h]))).2)) (x, 0) = some (x ++ Vc t old P k, LU t.1.toNat t.2.2.length fun s h => Nb P old (k + 1) s h) := by
      obtain ⟨y, g1, g2⟩ := DM t.2.2.length (fun (y : List Fd) (h : Nat) => (y, (h : Int))) (B0 (t, old, now, P) (k : Int) (LU t.1.toNat t.2.2.length fun s h => Nb P old (k + 1) s h) (P7 t.1.toNat t.2.2.length (P.1.foldl (LE t r) ((fun s h => Nb P old k s h), (fun s h => [Nb P old k s h]))).2)) (fun y => (y, LU t.1.toNat t.2.2.length fun s h => Nb P old (k + 1) s h)) (fun y h => y = x ++ (List.range' 0 h).flatMap (S9 t (NE P old k) k)) (fun y h hh hJ => by
        refine ⟨y ++ S9 t (NE P old k) k h, ?_, by rw [hJ, List.range'_1_concat, List.flatMap_append, Nat.zero_add]; simp⟩
        have hyl : y.length ≤ 16 * 12 + 16 := by
          rw [hJ, List.length_append]
          have := IU (S9 t (NE P old k) k) 2 (PY t _ k) h 0
          omega
        have hwl := PY t (NE P old k) k h
        rw [B0, if_pos (by show (h : Int) < (t.2.2.length : Int); omega), Vi, Option.bind_some, UT hMx, Tk ht (Oj ok k) k hh, Option.bind_some, EC (by omega), Option.bind_some, Aj (by omega)]; rfl)
        (fun y _ => by rw [B0, if_neg (by show ¬ (t.2.2.length : Int) < (t.2.2.length : Int); omega)]) x (by simp)
      rw [show (x, (0 : Int)) = (x, ((0 : Nat) : Int)) from rfl, g2, g1]; rfl
    show Option.bind (Aq (B0 (t, old, now, P) (k : Int) _ _) (x, 0)) _ = _
    rw [hl3, Option.bind_some, Aj (by omega)]; rfl)
    (fun x _ => by rw [CD, if_neg (by show ¬ (P.2.1.length : Int) < (P.2.1.length : Int); omega)]; rfl) [] rfl
  rw [show (([] : List Fd), LU t.1.toNat t.2.2.length (fun s h => Nb P old 0 s h), (0 : Int)) = ([], LU t.1.toNat t.2.2.length (fun (s h : Nat) => Nb P old 0 s h), ((0 : Nat) : Int)) from rfl, h2, h1]; rfl
theorem WC {n : Nat} (hn : n ≤ 100000) : Bh (n : Int) = some [] := by
  have e : An ((n : Int) - An (0 - (([] : List (Int × Int × Int)).length : Int))) = (n : Int) := by
    have : An (0 - (([] : List (Int × Int × Int)).length : Int)) = 0 := by decide
    rw [this, Aj (by omega)]; omega
  unfold Bh
  rw [if_neg (by omega), e]
  by_cases c : 0 < (n : Int)
  · rw [if_pos c, IJ (by simp), Option.bind_some]
    unfold XI
    rw [if_pos (by omega), Option.bind_some, TM ⟨by omega, by omega⟩, Option.bind_some, IJ ⟨by simp, by simp, by simp⟩, Option.bind_some, Option.bind_some]
    simp
  · rw [if_neg c]; rfl
theorem TE {a b c d : List Fd} (ha : a.length ≤ 10000) (hb : b.length ≤ 10000) (hc : c.length ≤ 10000) (hd : d.length ≤ 10000) : Bd [a, b, c, d] = some (a ++ b ++ c ++ d) := by
  unfold Bd
  have l1 : Aq (AU [a, b, c, d]) (0, 0) = some ((a.length + b.length + c.length + d.length : Nat) : Int) := by
    have st : ∀ (x : Nat) (k : Nat) (l : List Fd), k < 4 → [a, b, c, d][k]? = some l → x + l.length ≤ 100000 → AU [a, b, c, d] ((x : Int), (k : Int)) = some (.inl (((x + l.length : Nat) : Int), ((k + 1 : Nat) : Int))) := fun x k l hk hl hx => by
      rw [AU, if_pos (by simp; omega), BA hl, Option.bind_some, Aj (by omega), if_neg (by omega), Aj (by omega)]; rfl
    rw [show ((0 : Int), (0 : Int)) = (((0 : Nat) : Int), ((0 : Nat) : Int)) from rfl, A7 (st 0 0 a (by omega) rfl (by omega)), A7 (st _ 1 b (by omega) rfl (by omega)), A7 (st _ 2 c (by omega) rfl (by omega)), A7 (st _ 3 d (by omega) rfl (by omega)), Av (e := ((0 + a.length + b.length + c.length + d.length : Nat) : Int)) (by rw [AU, if_neg (by simp)])]
    rw [Nat.zero_add]
  have l2 : Aq (AS [a, b, c, d]) ([], 0) = some (a ++ b ++ c ++ d) := by
    have st : ∀ (x : List Fd) (k : Nat) (l : List Fd), k < 4 → [a, b, c, d][k]? = some l → x.length + l.length ≤ 100000 → AS [a, b, c, d] (x, (k : Int)) = some (.inl (x ++ l, ((k + 1 : Nat) : Int))) := fun x k l hk hl hx => by
      rw [AS, if_pos (by simp; omega), BA hl, Option.bind_some, EC (by omega), Option.bind_some, Aj (by omega)]; rfl
    rw [show (([] : List Fd), (0 : Int)) = ([], ((0 : Nat) : Int)) from rfl, A7 (st [] 0 a (by omega) rfl (by simp; omega)), A7 (st _ 1 b (by omega) rfl (by simp; omega)), A7 (st _ 2 c (by omega) rfl (by simp; omega)), A7 (st _ 3 d (by omega) rfl (by simp; omega)), Av (e := [] ++ a ++ b ++ c ++ d) (by rw [AS, if_neg (by simp)])]
    rw [List.nil_append]
  rw [l1, Option.bind_some, WC (by omega), Option.bind_some, l2]; rfl
open Classical in
def SX (t : Tp) (old now : Rt) (P : Pn) : List Fd := if CJ t old ∧ CJ t now then Yf t old now P ++ Yk t old now P ++ XM t P ++ Yj t old P else [(1, 0, 0)]
abbrev Zz (t : Tp) (r : Rt) : Prop := (∀ row ∈ r, row.length ≤ 12) ∧ t.2.1.length ≤ 30 ∧ t.2.2.length ≤ 12 ∧ r.length ≤ 12
theorem W5 (ho : JR t old) (ok : SO P) : (Yf t old now P).length ≤ 64 ∧ (Yk t old now P).length ≤ 64 ∧ (XM t P).length ≤ 12 ∧ (Yj t old P).length ≤ 192 := by
  have h8 := ho.1.1
  have h40 := ok.1
  have h12 := ok.2.1
  have a1 := IU (UF t old now P) 8 (RX ho.1 old now P) t.1.toNat 0
  have a2 := IU (exF t old now P) 1 (RT t old now P) P.1.length 0
  have a3 := IU (UJ t P) 1 (Se t P) (P.2.1.length - 1) 1
  have a4 := IU (Vc t old P) 16 (R6 ho.1 old P) P.2.1.length 0
  exact ⟨Nat.le_trans a1 (by omega), Nat.le_trans a2 (by omega), Nat.le_trans a3 (by omega), Nat.le_trans a4 (by omega)⟩
theorem R0 (so : Zz t old) (sn : Zz t now) (ok : SO P) : EH t old now P = some (SX t old now P) := by
  have g1 := MZ (t := t) (r := old) so.2.2.2 (fun row hr => Nat.le_trans (so.1 row hr) (by decide))
  have g2 := MZ (t := t) (r := now) sn.2.2.2 (fun row hr => Nat.le_trans (sn.1 row hr) (by decide))
  unfold EH SX
  rw [g1, Option.bind_some]
  by_cases c1 : CJ t old
  · rw [decide_eq_true c1, if_neg (by decide), g2, Option.bind_some]
    by_cases c2 : CJ t now
    · obtain ⟨l1, l2, l3, l4⟩ := W5 (now := now) c1.1 ok
      rw [decide_eq_true c2, Option.bind_some, if_neg (by decide), if_pos ⟨c1, c2⟩, SB c1.1 c2.1 ok, Option.bind_some, Vd c1.1 c2.1 ok, Option.bind_some, U3 c1.1.1 ok, Option.bind_some, RC c1.1 ok, Option.bind_some, TE (by omega) (by omega) (by omega) (by omega)]; rfl
    · rw [decide_eq_false c2, Option.bind_some, if_pos (by decide), if_neg (fun h => c2 h.2)]
  · rw [decide_eq_false c1, if_pos (by decide), Option.bind_some, if_pos rfl, if_neg (fun h => c1 h.1)]
end
end
end Go.Proofs.YthhoflfhegfmcaaGreat
namespace Go.Proofs.YthhoflfhegfmcaaGreat
set_option linter.unusedVariables false
set_option linter.unusedSimpArgs false
open Go Go.RowKit
section
variable {t : Tp} {old now : Rt} {P : Pn}
theorem VQ {t : Tp} (hok : OD t) {a p : Int} (h : (pe t a p).2.2.2 = true) : (a, p) ∉ t.2.2 := by
  obtain ⟨R, e, hR⟩ := MD hok.1.2.2.1 a p
  have he : pe t a p = R := by unfold pe; rw [e]; rfl
  rw [he] at h
  rcases hR with ⟨h1, _⟩ | ⟨i, x, hi, hs⟩
  · rw [h1] at h; cases h
  · obtain ⟨m1, m2⟩ := Qy hs
    have hx := List.mem_of_getElem? hi
    have hp : ∀ q ∈ Ix x, q ∈ pl t := fun q hq => by
      unfold pl; exact List.mem_append_left _ (List.mem_flatMap.2 ⟨x, hx, hq⟩)
    exact U6 hx m1 (R7 hok (hp _ m1)).2.2.2.2
theorem LY {t : Tp} {r : Rt} (hr : CJ t r) {s h : Int} (hs : 0 ≤ s ∧ s < t.1) (hh : 0 ≤ h ∧ h < (t.2.2.length : Int)) {l : List Int} (hw : Wy t r h (s :: l)) : ((pe t s (Fb r s h)).2.2.2 = false ∧ t.2.2[h.toNat]? = some (s, Fb r s h)) ∨ ((pe t s (Fb r s h)).2.2.2 = true ∧ ∃ l', l = (pe t s (Fb r s h)).1 :: l' ∧ Wy t r h l ∧ 0 ≤ (pe t s (Fb r s h)).1 ∧ (pe t s (Fb r s h)).1 < t.1) := by
  cases hw with
  | last hm =>
    left
    refine ⟨?_, hm⟩
    cases hp : (pe t s (Fb r s h)).2.2.2 with
    | false => rfl
    | true => exact absurd (List.mem_of_getElem? hm) (VQ hr.1.1 hp)
  | go h1 h2 h3 =>
    right
    have hv := (UA hr.1.1 h2).2
    unfold nx at h2
    by_cases c : (pe t s (Fb r s h)).2.2.2 = true
    · rw [if_pos c] at h2
      cases h2
      exact ⟨c, _, rfl, h3, hv⟩
    · rw [if_neg c] at h2; cases h2
theorem foldl_mem' {σ β : Type} {f : σ → β → σ} {Q : σ → Prop} : ∀ (l : List β) (x : σ), (∀ x, ∀ b ∈ l, Q x → Q (f x b)) → Q x → Q (l.foldl f x)
  | [], _, _, h => h
  | b :: l, x, hk, h => foldl_mem' l (f x b) (fun x c hc => hk x c (List.mem_cons_of_mem _ hc)) (hk x b (List.mem_cons_self ..) h)
theorem PU {α β : Type} {q : β} {c : α → Bool} {f : β → α → β} : ∀ (l : List α) (x : β), (∀ a ∈ l, ∀ x, f x a = if c a = true then q else x) → l.foldl f x = if l.any c = true then q else x
  | [], x, _ => rfl
  | a :: l, x, h => by
    rw [List.foldl_cons, PU l (f x a) fun b hb => h b (List.mem_cons_of_mem _ hb), h a (List.mem_cons_self ..), List.any_cons]
    by_cases d : c a = true
    · rw [if_pos d, d, Bool.true_or, if_pos rfl]; split <;> rfl
    · rw [if_neg d]
      rw [Bool.not_eq_true] at d
      rw [d, Bool.false_or]
open Classical in
noncomputable def dst (t : Tp) (r : Rt) (h s : Int) : Nat := if e : ∃ l, Wy t r h (s :: l) then (Classical.choose e).length else 0
theorem Py {r : Rt} {h s : Int} {l : List Int} (hw : Wy t r h (s :: l)) : dst t r h s = l.length := by
  have e : ∃ l, Wy t r h (s :: l) := ⟨l, hw⟩
  have := (Classical.choose_spec e).det hw rfl
  unfold dst
  rw [dif_pos e]
  exact congrArg List.length (List.cons.inj this).2
theorem Rk {r : Rt} (g : CJ t r) {s h : Int} (hs : 0 ≤ s ∧ s < t.1) (hh : 0 ≤ h ∧ h < (t.2.2.length : Int)) : dst t r h s ≤ 8 := by
  obtain ⟨l, hl⟩ := g.2 s h hs hh
  have h8 := g.1.1.1
  have hin := hl.in_ g.1.1 (fun x e => by rw [← Option.some.inj e]; exact hs)
  have hnd := Hn t.1.toNat (s :: l) hl.nodup (fun x hx => by have := hin x hx; omega)
  rw [List.length_cons] at hnd
  rw [Py hl]; omega
theorem RU {r : Rt} (g : CJ t r) {s h : Int} (hs : 0 ≤ s ∧ s < t.1) (hh : 0 ≤ h ∧ h < (t.2.2.length : Int)) : (pe t s (Fb r s h)).2.2.2 = true ∨ t.2.2[h.toNat]? = some (s, Fb r s h) := by
  obtain ⟨l, hl⟩ := g.2 s h hs hh
  rcases LY g hs hh hl with h1 | h1
  · exact .inr h1.2
  · exact .inl h1.1
theorem QY {r : Rt} (g : CJ t r) {s h : Int} (hs : 0 ≤ s ∧ s < t.1) (hh : 0 ≤ h ∧ h < (t.2.2.length : Int)) (c : (pe t s (Fb r s h)).2.2.2 = true) : dst t r h s = dst t r h (pe t s (Fb r s h)).1 + 1 := by
  obtain ⟨l, hl⟩ := g.2 s h hs hh
  rcases LY g hs hh hl with h1 | ⟨_, l', e, h2, _⟩
  · rw [h1.1] at c; cases c
  · subst e
    rw [Py hl, Py h2]; rfl
theorem Sj (go : CJ t old) (gn : CJ t now) {M : Nat → Nat → List Int} (hM41 : ∀ a b, (M a b).length ≤ 65) {k h : Nat} (hh : h < t.2.2.length) (no : Int)
    (hM : ∀ s : Nat, (s : Int) < t.1 → ∀ p ∈ M s h, (p = Fb now s h ∧ (dst t now h s : Int) ≤ no) ∨ (p = Fb old s h ∧ no ≤ (dst t now h s : Int))) (h9 : no ≤ 100) : S9 t M k h = [] := by
  have ht := go.1.1
  have h8 := ht.1
  have hlen := RM (t := t) hM41 (h : Int)
  have hc : (Pj t h M).2 = false := by
    unfold Pj
    refine foldl_mem' (Q := fun (x : List (Int × Int) × Bool) => x.2 = false) _ _ (fun x s hs hx => ?_) rfl
    have hs' := List.mem_range.1 hs
    unfold U1
    refine foldl_mem' (Q := fun (x : List (Int × Int) × Bool) => x.2 = false) _ _ (fun x p hp hx => ?_) hx
    rw [Int.toNat_natCast] at hp
    have hpo : (pe t s p).2.2.2 = true ∨ t.2.2[((h : Int)).toNat]? = some ((s : Int), p) := by
      rcases hM s (by omega) p hp with ⟨rfl, _⟩ | ⟨rfl, _⟩
      · exact RU gn ⟨by omega, by omega⟩ ⟨by omega, by omega⟩
      · exact RU go ⟨by omega, by omega⟩ ⟨by omega, by omega⟩
    unfold Kq
    split
    · exact hx
    · rename_i c
      split
      · exact hx
      · rename_i d
        rcases hpo with e | e
        · exact absurd e c
        · exact absurd e d
  have hed : ∀ e ∈ (Pj t h M).1, ∃ s : Nat, (s : Int) < t.1 ∧ ∃ p ∈ M s h, (pe t s p).2.2.2 = true ∧ e = ((s : Int), (pe t s p).1) := by
    unfold Pj
    refine foldl_mem' (Q := fun (x : List (Int × Int) × Bool) => ∀ e ∈ x.1, ∃ s : Nat, (s : Int) < t.1 ∧ ∃ p ∈ M s h, (pe t s p).2.2.2 = true ∧ e = ((s : Int), (pe t s p).1)) _ _ (fun x s hs hx => ?_) (by intro e he; cases he)
    have hs' := List.mem_range.1 hs
    unfold U1
    refine foldl_mem' (Q := fun (x : List (Int × Int) × Bool) => ∀ e ∈ x.1, ∃ s : Nat, (s : Int) < t.1 ∧ ∃ p ∈ M s h, (pe t s p).2.2.2 = true ∧ e = ((s : Int), (pe t s p).1)) _ _ (fun x p hp hx => ?_) hx
    rw [Int.toNat_natCast] at hp
    unfold Kq
    split
    · rename_i c
      intro e he
      rcases List.mem_append.1 he with he | he
      · exact hx e he
      · exact ⟨s, by omega, p, hp, c, List.mem_singleton.1 he⟩
    · split <;> exact hx
  have ok : Ok (t.1.toNat : Int) (Pj t h M).1 := ⟨by omega, by omega, fun e he => by
    obtain ⟨s, hs, p, _, c, rfl⟩ := hed e he
    have := Uo ht c
    exact ⟨by show 0 ≤ (s : Int); omega, by show (s : Int) < _; omega, by show 0 ≤ (pe t s p).1; omega, by show (pe t s p).1 < _; omega⟩⟩
  have hcl : Rb (Pj t h M).1 (fun x => 2000 - if (dst t now h x : Int) < no then dst t now h x else 1000 + dst t old h x) := fun a b hj => by
    obtain ⟨s, hs, p, hp, c, e⟩ := hed _ hj
    have e1 := congrArg Prod.fst e
    have e2 := congrArg Prod.snd e
    simp only at e1 e2
    obtain rfl : a = s := by omega
    have hin := Uo ht c
    have bd1 := Rk gn (s := a) (h := h) ⟨by omega, by omega⟩ ⟨by omega, by omega⟩
    have bd2 := Rk go (s := a) (h := h) ⟨by omega, by omega⟩ ⟨by omega, by omega⟩
    rcases hM a hs p hp with ⟨rfl, h1⟩ | ⟨rfl, h1⟩
    · have hn := QY gn ⟨by omega, by omega⟩ ⟨by omega, by omega⟩ c
      rw [← e2] at hn
      simp only []
      rw [if_pos (show (dst t now h b : Int) < no by omega)]
      split <;> omega
    · have hn := QY go ⟨by omega, by omega⟩ ⟨by omega, by omega⟩ c
      rw [← e2] at hn
      simp only []
      rw [if_neg (show ¬ (dst t now h a : Int) < no by omega)]
      split <;> omega
  have hl : Yb t.1 (Pj t h M).1 = [] := by
    have hq := Qz ok (show (Pj t h M).1.length ≤ 1000000000 by omega)
    rw [show ((t.1.toNat : Nat) : Int) = t.1 by omega, QN ok hcl] at hq
    unfold Yb
    rw [hq]; rfl
  unfold S9
  rw [hc, hl]; rfl
abbrev Np (L : List Mv) (R : List Pf) : Prop := R.length ≤ 12 ∧ R.Pairwise (fun a b => a.1 < b.1) ∧ (∀ r ∈ R, r.2.2.length ≤ 20 ∧ r.2.2 = Mm L r.1) ∧ ∀ n ∈ CH L, ∃ r ∈ R, r.1 = n
noncomputable def Me (L : List Mv) (f : Nat → Int) : List Pf := (List.range (CH L).length).map fun (k : Nat) => ((CH L).getD k 0, f k, Mm L ((CH L).getD k 0))
section
variable {L : List Mv} {R : List Pf}
theorem Lp (go : CJ t old) (gn : CJ t now) (hL : Iz t old now L) {m : Mv} (hm : m ∈ L) : (0 ≤ m.1 ∧ m.1 < 8) ∧ 1 ≤ m.2.2.2 ∧ m.2.2.2 < 8 ∧ m.2.2.2 = (dst t now m.2.1 m.1 : Int) ∧ m.2.2.1 = Fb now m.1 m.2.1 ∧ (0 ≤ m.2.1 ∧ m.2.1 < (t.2.2.length : Int)) ∧ m.1 < t.1 ∧ Fb now m.1 m.2.1 ≠ Fb old m.1 m.2.1 := by
  have hi := (hL.2.2.2 m).1 hm
  have hb := Oh.bd go gn hi
  obtain ⟨q1, q2, q3, q4, l, q5, q6⟩ := hi
  refine ⟨hb.1, hb.2.1, hb.2.2.2, ?_, q3, q2, q1.2, q4⟩
  rw [q6, Py q5]
theorem Rq {l : List Int} (h : l.Pairwise (· < ·)) : l.Nodup := h.imp fun h e => by omega
theorem LK {P : Int → Prop} (hP : ∀ x, P x → x < 8) : (QX P).length ≤ 8 := Hn 8 _ (Rq Li) fun x hx => by
  obtain ⟨h1, h2⟩ := Jg.1 hx
  have := hP x h2
  omega
theorem U9 {j k : Nat} (hjk : j < k) (hk : k < (CH L).length) : (CH L).getD j 0 < (CH L).getD k 0 := by
  have := List.pairwise_iff_getElem.1 (Li (P := fun n => ∃ m ∈ L, m.2.2.2 = n)) j k (by show j < (CH L).length; omega) hk hjk
  rw [List.getD_eq_getElem?_getD, List.getD_eq_getElem?_getD, List.getElem?_eq_getElem hk, List.getElem?_eq_getElem (show j < (CH L).length by omega)]
  exact this
theorem K0 {f : Nat → Int} {k : Nat} (h : k < (CH L).length) : (Me L f)[k]? = some ((CH L).getD k 0, f k, Mm L ((CH L).getD k 0)) := by
  unfold Me
  rw [List.getElem?_map, List.getElem?_range h]; rfl
theorem Ob (f : Nat → Int) : (Me L f).length = (CH L).length := by unfold Me; simp
theorem RR (go : CJ t old) (gn : CJ t now) (hL : Iz t old now L) (f : Nat → Int) : Np L (Me L f) := by
  have hr8 : (CH L).length ≤ 8 := LK fun x ⟨m, hm, e⟩ => by have := Lp go gn hL hm; omega
  refine ⟨by rw [Ob]; omega, ?_, fun r hr => ?_, fun n hn => ?_⟩
  · unfold Me
    rw [List.pairwise_map]
    refine List.Pairwise.imp_of_mem ?_ List.pairwise_lt_range
    intro a b ha hb hab
    exact U9 hab (List.mem_range.1 hb)
  · obtain ⟨k, hk, rfl⟩ := List.mem_map.1 hr
    refine ⟨?_, rfl⟩
    have : (Mm L ((CH L).getD k 0)).length ≤ 8 := LK fun x ⟨m, hm, _, e⟩ => by have := Lp go gn hL hm; omega
    show (Mm L ((CH L).getD k 0)).length ≤ 20
    omega
  · obtain ⟨k, hk, e⟩ := List.getElem_of_mem hn
    refine ⟨_, List.mem_of_getElem? (K0 (f := f) hk), ?_⟩
    show (CH L).getD k 0 = n
    rw [List.getD_eq_getElem?_getD, List.getElem?_eq_getElem hk]; exact e
theorem Wd (go : CJ t old) (gn : CJ t now) (hL : Iz t old now L) (hR : Np L R) {r : Pf} (hr : r ∈ R) {m : Mv} (hm : m ∈ L) : Rf r m = decide (m.2.2.2 = r.1) := by
  unfold Rf
  by_cases c : m.2.2.2 = r.1
  · have hb := Lp go gn hL hm
    rw [decide_eq_true c, (hR.2.2.1 r hr).2, decide_eq_true (show m.1 ∈ Mm L r.1 from Jg.2 ⟨by omega, m, hm, c, rfl⟩)]; rfl
  · rw [decide_eq_false c]; rfl
theorem Wc (go : CJ t old) (gn : CJ t now) (hL : Iz t old now L) (hR : Np L R) {m : Mv} (hm : m ∈ L) : WF R m = true := by
  have hb := Lp go gn hL hm
  obtain ⟨r, hr, e⟩ := hR.2.2.2 m.2.2.2 (Jg.2 ⟨by omega, m, hm, rfl⟩)
  exact decide_eq_true ⟨r, hr, by rw [Wd go gn hL hR hr hm, decide_eq_true e.symm]⟩
theorem Uc (gn : CJ t now) (hL : Iz t old now L) {s h : Nat} (hs : (s : Int) < t.1) (hh : h < t.2.2.length) (hne : Fb now s h ≠ Fb old s h) : ∃ m ∈ L, m.1 = (s : Int) ∧ m.2.1 = (h : Int) := by
  obtain ⟨l, hl⟩ := gn.2 (s : Int) (h : Int) ⟨by omega, hs⟩ ⟨by omega, by omega⟩
  exact ⟨((s : Int), (h : Int), Fb now s h, (l.length : Int)), (hL.2.2.2 _).2 ⟨⟨by show 0 ≤ (s : Int); omega, hs⟩, ⟨by show 0 ≤ (h : Int); omega, by show (h : Int) < _; omega⟩, rfl, hne, l, hl, rfl⟩, rfl, rfl⟩
theorem V0 (go : CJ t old) (gn : CJ t now) (hL : Iz t old now L) {P : Pn} (hR : Np L P.2.1) (hs : P.1.Sublist L) (s h : Nat) :
    ((∃ m ∈ P.1, m.1 = (s : Int) ∧ m.2.1 = (h : Int)) → XV P s h (Fb now s h) = 1) ∧ ((¬ ∃ m ∈ P.1, m.1 = (s : Int) ∧ m.2.1 = (h : Int)) → XV P s h (Fb now s h) = 0) := by
  have hct : ∀ m ∈ P.1, (UE P.2.1 s h (Fb now s h) m = true ↔ m.1 = (s : Int) ∧ m.2.1 = (h : Int)) := fun m hm => by
    have hb := Lp go gn hL (hs.subset hm)
    unfold UE
    rw [Wc go gn hL hR (hs.subset hm)]
    simp only [Bool.and_eq_true, decide_eq_true_eq, and_true]
    constructor
    · rintro ⟨a, b, _⟩; exact ⟨a, b⟩
    · rintro ⟨a, b⟩; exact ⟨a, b, by rw [hb.2.2.2.2.1, a, b]⟩
  have hpw : (P.1.filter (UE P.2.1 s h (Fb now s h))).Pairwise LJ := (hL.2.2.1.sublist hs).filter _
  unfold XV
  constructor
  · rintro ⟨m, hm, e⟩
    have hmem := List.mem_filter.2 ⟨hm, (hct m hm).2 e⟩
    have hall : ∀ x ∈ P.1.filter (UE P.2.1 s h (Fb now s h)), x.1 = (s : Int) ∧ x.2.1 = (h : Int) := fun x hx => by
      obtain ⟨h1, h2⟩ := List.mem_filter.1 hx
      exact (hct x h1).1 h2
    generalize P.1.filter (UE P.2.1 s h (Fb now s h)) = F at hpw hmem hall
    match F, hpw, hmem, hall with
    | [], _, hmem, _ => cases hmem
    | [a], _, _, _ => rfl
    | a :: b :: l, hpw, _, hall =>
      have h1 := List.rel_of_pairwise_cons hpw (List.mem_cons_self ..)
      have ha := hall a (List.mem_cons_self ..)
      have hb := hall b (List.mem_cons_of_mem _ (List.mem_cons_self ..))
      exact absurd ⟨by rw [ha.1, hb.1], by rw [ha.2, hb.2]⟩ h1
  · intro hno
    have : P.1.filter (UE P.2.1 s h (Fb now s h)) = [] := List.filter_eq_nil_iff.2 fun m hm hc => hno ⟨m, hm, (hct m hm).1 hc⟩
    rw [this]; rfl
theorem TV (go : CJ t old) (gn : CJ t now) (hL : Iz t old now L) {P : Pn} (hR : Np L P.2.1) (hs : P.1.Sublist L) {s h : Nat} (hm : Fb now s h ≠ Fb old s h → ∃ m ∈ P.1, m.1 = (s : Int) ∧ m.2.1 = (h : Int)) : TJ old now P s h = [] := by
  unfold TJ
  rw [if_neg]
  intro hb
  unfold Xd at hb
  simp only [Bool.and_eq_true, decide_eq_true_eq] at hb
  exact hb.2 (by rw [(V0 go gn hL hR hs s h).1 (hm hb.1)]; rfl)
theorem Wu (go : CJ t old) (gn : CJ t now) (hL : Iz t old now L) {P : Pn} (hR : Np L P.2.1) (hs : P.1.Sublist L) {s h : Nat} (hne : Fb now s h ≠ Fb old s h) (hm : ¬ ∃ m ∈ P.1, m.1 = (s : Int) ∧ m.2.1 = (h : Int)) : TJ old now P s h = [(2, (s : Int), (h : Int))] := by
  unfold TJ
  rw [if_pos]
  unfold Xd
  rw [(V0 go gn hL hR hs s h).2 hm, decide_eq_true hne]; rfl
theorem WR (go : CJ t old) (gn : CJ t now) (hL : Iz t old now L) {P : Pn} (hR : Np L P.2.1) (hs : P.1.Sublist L) : Yk t old now P = [] := List.flatMap_eq_nil_iff.2 fun k hk => by
  unfold exF
  cases e : P.1[k]? with
  | none => rfl
  | some m =>
    have hm := hs.subset (List.mem_of_getElem? e)
    have hb := Lp go gn hL hm
    have hx : Xq t old now P m = false := by
      unfold Xq
      rw [Wc go gn hL hR hm, LA.2 ⟨⟨hb.1.1, hb.2.2.2.2.2.2.1⟩, hb.2.2.2.2.2.1⟩, decide_eq_false (show ¬ m.2.2.1 ≠ Fb now m.1 m.2.1 from fun h => h hb.2.2.2.2.1), decide_eq_false (show ¬ m.2.2.1 = Fb old m.1 m.2.1 from fun h => hb.2.2.2.2.2.2.2 (by rw [← h, hb.2.2.2.2.1]))]; rfl
    simp only [hx]; rfl
theorem Wf (go : CJ t old) (gn : CJ t now) (hL : Iz t old now L) {P : Pn} (hP : P.1 = L) (hR : Np L P.2.1) {k : Nat} {r : Pf} (hr : P.2.1[k]? = some r) {s h : Nat} (hs : (s : Int) < t.1) (hh : h < t.2.2.length) :
    ∀ p ∈ NE P old k s h, (p = Fb now s h ∧ (dst t now h s : Int) ≤ r.1) ∨ (p = Fb old s h ∧ r.1 ≤ (dst t now h s : Int)) := by
  have hrm := List.mem_of_getElem? hr
  obtain ⟨hkl, hrk⟩ := List.getElem?_eq_some_iff.1 hr
  have hit : ∀ r' ∈ P.2.1, ∀ m ∈ L, (JP r' s h m = true ↔ (m.1 = (s : Int) ∧ m.2.1 = (h : Int)) ∧ m.2.2.2 = r'.1) := fun r' h1 m h2 => by
    unfold JP
    rw [Wd go gn hL hR h1 h2]
    simp only [Bool.and_eq_true, decide_eq_true_eq]
    exact ⟨fun ⟨a, b, c⟩ => ⟨⟨a, b⟩, c⟩, fun ⟨⟨a, b⟩, c⟩ => ⟨a, b, c⟩⟩
  have hnum : ∀ m ∈ L, m.1 = (s : Int) ∧ m.2.1 = (h : Int) → m.2.2.2 = (dst t now h s : Int) ∧ m.2.2.1 = Fb now s h := fun m hm ⟨e1, e2⟩ => by
    have hb := Lp go gn hL hm
    exact ⟨by rw [hb.2.2.2.1, e1, e2], by rw [hb.2.2.2.2.1, e1, e2]⟩
  have hat : Nb P old k s h = if (P.2.1.take k).any (fun r => P.1.any (JP r s h)) = true then Fb now s h else Fb old s h := by
    unfold Nb
    exact PU _ _ fun r' hr' x => by
      unfold XQ
      refine PU _ _ fun m hm x => ?_
      by_cases c : JP r' s h m = true
      · rw [if_pos c, if_pos c]
        rw [hP] at hm
        exact (hnum m hm ((hit r' (List.mem_of_mem_take hr') m hm).1 c).1).2
      · rw [if_neg c, if_neg c]
  intro p hp
  unfold NE at hp
  rw [hr] at hp
  rcases List.mem_cons.1 (show p ∈ Nb P old k s h :: (P.1.filter (JP r s h)).map (·.2.2.1) from hp) with rfl | hp
  · rw [hat]
    by_cases c : (P.2.1.take k).any (fun r => P.1.any (JP r s h)) = true
    · rw [if_pos c]
      obtain ⟨r', h1, h2⟩ := List.any_eq_true.1 c
      obtain ⟨m, h3, h4⟩ := List.any_eq_true.1 h2
      rw [hP] at h3
      obtain ⟨h5, h6⟩ := (hit r' (List.mem_of_mem_take h1) m h3).1 h4
      have h7 := (hnum m h3 h5).1
      obtain ⟨j, hj, rfl⟩ := List.getElem_of_mem h1
      rw [List.length_take] at hj
      have := List.pairwise_iff_getElem.1 hR.2.1 j k (by omega) hkl (by omega)
      rw [List.getElem_take] at h6
      rw [hrk] at this
      exact .inl ⟨rfl, by omega⟩
    · rw [if_neg c]
      by_cases hne : Fb now s h ≠ Fb old s h
      · obtain ⟨m, hm, e⟩ := Uc gn hL hs hh hne
        have hb := Lp go gn hL hm
        have hn := (hnum m hm e).1
        obtain ⟨r', h1, h2⟩ := hR.2.2.2 m.2.2.2 (Jg.2 ⟨by omega, m, hm, rfl⟩)
        refine .inr ⟨rfl, ?_⟩
        refine Classical.byContradiction fun hlt => c ?_
        obtain ⟨j, hj, rfl⟩ := List.getElem_of_mem h1
        have hjk : j < k := by
          refine Classical.byContradiction fun hjk => ?_
          by_cases e : j = k
          · subst e; rw [hrk] at h2; omega
          · have := List.pairwise_iff_getElem.1 hR.2.1 k j hkl hj (by omega)
            rw [hrk] at this; omega
        refine List.any_eq_true.2 ⟨P.2.1[j], ?_, List.any_eq_true.2 ⟨m, by rw [hP]; exact hm, (hit _ h1 m hm).2 ⟨e, h2.symm⟩⟩⟩
        exact List.mem_of_getElem? (i := j) (by rw [List.getElem?_take_of_lt hjk, List.getElem?_eq_getElem hj])
      · have he : Fb now s h = Fb old s h := Classical.not_not.1 hne
        rcases Int.le_total (dst t now h s : Int) r.1 with h1 | h1
        · exact .inl ⟨he.symm, h1⟩
        · exact .inr ⟨rfl, h1⟩
  · obtain ⟨m, h1, rfl⟩ := List.mem_map.1 hp
    obtain ⟨h2, h3⟩ := List.mem_filter.1 h1
    rw [hP] at h2
    obtain ⟨h4, h5⟩ := (hit r hrm m h2).1 h3
    have h6 := hnum m h2 h4
    exact .inl ⟨h6.2, by omega⟩
theorem Wk (go : CJ t old) (gn : CJ t now) (hL : Iz t old now L) {P : Pn} (hP : P.1 = L) (hR : Np L P.2.1) : Yj t old P = [] := List.flatMap_eq_nil_iff.2 fun k hk => by
  have hk' : k < P.2.1.length := by have := List.mem_range'_1.1 hk; omega
  have hr := List.getElem?_eq_getElem hk'
  have hrm := List.mem_of_getElem? hr
  have hl40 := hL.1
  have ok : SO P := ⟨by rw [hP]; exact hl40, hR.1, fun r hr => (hR.2.2.1 r hr).1⟩
  unfold Vc
  refine List.flatMap_eq_nil_iff.2 fun h hh => ?_
  have hh' : h < t.2.2.length := by have := List.mem_range'_1.1 hh; omega
  by_cases h9 : (P.2.1[k]).1 ≤ 100
  · exact Sj go gn (Oj ok k) hh' _ (fun s hs => Wf go gn hL hP hR hr hs hh') h9
  · refine Sj go gn (Oj ok k) hh' 100 (fun s hs p hp => ?_) (by omega)
    have hb := Rk gn (s := (s : Int)) (h := (h : Int)) ⟨by omega, hs⟩ ⟨by omega, by omega⟩
    rcases Wf go gn hL hP hR hr hs hh' p hp with ⟨e, _⟩ | ⟨e, h1⟩
    · exact .inl ⟨e, by omega⟩
    · omega
theorem V7 {P : Pn} {f : Nat → Int} (hP : P.2.1 = Me L f) (hm : 0 ≤ P.2.2.1 ∧ P.2.2.1 ≤ 1048576) (hf : ∀ j, j < (CH L).length → 0 ≤ f j ∧ f j ≤ 1125899906842624) {k : Nat} (h1 : 1 ≤ k) (hk : k < (CH L).length) :
    UJ t P k = if f k - f (k - 1) < 2 * P.2.2.1 + Cp t + 1 then [(4, (k : Int), 0)] else [] := by
  have b1 := hf k hk
  have b2 := hf (k - 1) (by omega)
  have e1 : BG (f k) = f k := by unfold BG; omega
  have e2 : BG (f (k - 1)) = f (k - 1) := by unfold BG; omega
  have e3 : min (max P.2.2.1 0) 1048576 = P.2.2.1 := by omega
  unfold UJ YI
  rw [hP, K0 hk, K0 (show k - 1 < (CH L).length by omega)]
  simp only [decide_eq_true_eq, e1, e2, e3]
theorem V5 (hL : Iz t old now L) {P : Pn} (hR : Np L P.2.1) (hs : P.1.Sublist L) : SO P := ⟨Nat.le_trans hs.length_le hL.1, hR.1, fun r hr => (hR.2.2.1 r hr).1⟩
theorem Vo (go : CJ t old) (gn : CJ t now) (hL : Iz t old now L) {P : Pn} (hP : P.1 = L) (hR : Np L P.2.1) : SX t old now P = XM t P := by
  have hs : P.1.Sublist L := by rw [hP]; exact List.Sublist.refl _
  have hm : Yf t old now P = [] := List.flatMap_eq_nil_iff.2 fun s h1 => by
    unfold UF
    refine List.flatMap_eq_nil_iff.2 fun h h2 => TV go gn hL hR hs fun hne => ?_
    have h1' := List.mem_range'_1.1 h1
    have h2' := List.mem_range'_1.1 h2
    rw [hP]
    exact Uc gn hL (by omega) (by omega) hne
  unfold SX
  rw [if_pos ⟨go, gn⟩, hm, WR go gn hL hR hs, Wk go gn hL hP hR, List.append_nil]; rfl
theorem WI (first gap : Int) : Oz L first gap = Me L (fun k => first + (k : Int) * gap) := rfl
theorem Xa (go : CJ t old) (gn : CJ t now) (hL : Iz t old now L) : (CH L).length ≤ 8 := LK fun x ⟨m, hm, e⟩ => by have := Lp go gn hL hm; omega
theorem Xp {first gap : Int} (hf : 0 ≤ first ∧ first ≤ 1099515000000) (hg : 0 ≤ gap ∧ gap ≤ 4194304) {k : Nat} (hk : k ≤ 64) : 0 ≤ first + (k : Int) * gap ∧ first + (k : Int) * gap ≤ 1125899906842624 := by
  have := Ot (k := (k : Int)) (gap := gap) (b := 4194304) (by omega) hg
  omega
theorem RG {first gap : Int} {k : Nat} (h : 1 ≤ k) : first + (k : Int) * gap - (first + ((k - 1 : Nat) : Int) * gap) = gap := by
  obtain ⟨j, rfl⟩ : ∃ j, k = j + 1 := ⟨k - 1, by omega⟩
  rw [show j + 1 - 1 = j from rfl, show ((j + 1 : Nat) : Int) = (j : Int) + 1 by omega, Int.add_mul, Int.one_mul]; omega
end
end
end Go.Proofs.YthhoflfhegfmcaaGreat
namespace Go.Proofs.YthhoflfhegfmcaaGreat
set_option linter.unusedVariables false
set_option linter.unusedSimpArgs false
open Go Go.RowKit
theorem Mo {β : Type} {g : Nat → List β} {a : Nat} : ∀ (d k : Nat), (k ≤ a ∧ a < k + d) → (∀ i, k ≤ i → i < k + d → i ≠ a → g i = []) → (List.range' k d).flatMap g = g a
  | 0, k, h, _ => by omega
  | d + 1, k, h, hg => by
    rw [List.range'_succ, List.flatMap_cons]
    by_cases c : k = a
    · subst c
      rw [List.flatMap_eq_nil_iff.2 fun i hi => hg i (by have := List.mem_range'_1.1 hi; omega) (by have := List.mem_range'_1.1 hi; omega) (by have := List.mem_range'_1.1 hi; omega), List.append_nil]
    · rw [hg k (by omega) (by omega) c, List.nil_append, Mo d (k + 1) (by omega) fun i h1 h2 h3 => hg i (by omega) (by omega) h3]
section
variable {t : Tp} {old now : Rt} {L : List Mv}
theorem T8 {k : Nat} {m : Mv} (hk : L[k]? = some m) : L = L.take k ++ m :: L.drop (k + 1) := by
  obtain ⟨h1, h2⟩ := List.getElem?_eq_some_iff.1 hk
  rw [← h2, ← List.drop_eq_getElem_cons h1, List.take_append_drop]
theorem Wo (go : CJ t old) (gn : CJ t now) (hL : Iz t old now L) {P : Pn} {k : Nat} {m : Mv} (hk : L[k]? = some m) (hP : P.1 = L.take k ++ L.drop (k + 1)) (hR : Np L P.2.1) : P.1.Sublist L ∧ Yf t old now P = [(2, m.1, m.2.1)] := by
  have hsp := T8 hk
  have hs : P.1.Sublist L := by
    rw [hP]
    conv => rhs; rw [hsp]
    exact (List.Sublist.refl _).append (List.sublist_cons_self _ _)
  refine ⟨hs, ?_⟩
  have hm : m ∈ L := List.mem_of_getElem? hk
  have hb := Lp go gn hL hm
  obtain ⟨a, ha⟩ : ∃ a : Nat, m.1 = (a : Int) := ⟨m.1.toNat, by omega⟩
  obtain ⟨b, hb'⟩ : ∃ b : Nat, m.2.1 = (b : Int) := ⟨m.2.1.toNat, by omega⟩
  have hat : (a : Int) < t.1 := by omega
  have hbt : b < t.2.2.length := by omega
  have hno : ¬ ∃ x ∈ P.1, x.1 = (a : Int) ∧ x.2.1 = (b : Int) := by
    rintro ⟨x, hx, e1, e2⟩
    have hpw := hL.2.2.1
    rw [hsp] at hpw
    obtain ⟨_, p2, p3⟩ := List.pairwise_append.1 hpw
    rw [hP] at hx
    rcases List.mem_append.1 hx with hx | hx
    · exact p3 x hx m (List.mem_cons_self ..) ⟨by rw [e1, ha], by rw [e2, hb']⟩
    · exact List.rel_of_pairwise_cons p2 hx ⟨by rw [e1, ha], by rw [e2, hb']⟩
  have hoth : ∀ s h : Nat, (s : Int) < t.1 → h < t.2.2.length → ¬ (s = a ∧ h = b) → TJ old now P s h = [] := fun s h h1 h2 h3 => TV go gn hL hR hs fun hne => by
    obtain ⟨x, hx, e1, e2⟩ := Uc gn hL h1 h2 hne
    refine ⟨x, ?_, e1, e2⟩
    rw [hsp] at hx
    rw [hP]
    rcases List.mem_append.1 hx with hx | hx
    · exact List.mem_append_left _ hx
    · rcases List.mem_cons.1 hx with rfl | hx
      · exact absurd ⟨by omega, by omega⟩ h3
      · exact List.mem_append_right _ hx
  have hthis : TJ old now P a b = [(2, (a : Int), (b : Int))] := Wu go gn hL hR hs (by rw [← ha, ← hb']; exact hb.2.2.2.2.2.2.2) hno
  have h1 : UF t old now P a = [(2, (a : Int), (b : Int))] := by
    unfold UF
    rw [Mo (a := b) _ _ (by omega) fun i _ h2 h3 => hoth a i hat (by omega) (by omega), hthis]
  rw [ha, hb']
  show (List.range' 0 t.1.toNat).flatMap (UF t old now P) = _
  rw [Mo (a := a) _ _ (by omega) fun i _ h2 h3 => ?_, h1]
  unfold UF
  exact List.flatMap_eq_nil_iff.2 fun h hh => hoth i h (by omega) (by have := List.mem_range'_1.1 hh; omega) (by omega)
theorem UB {f : Nat → Int} {k : Nat} (hk : k < (CH L).length) (v : Int) : Ah (Me L f) (k : Int) ((CH L).getD k 0, v, Mm L ((CH L).getD k 0)) = Me L (fun j => if j = k then v else f j) := by
  unfold Ah Me
  rw [Int.toNat_natCast, MX]
  refine Hu fun j hj => ?_
  by_cases c : j = k
  · rw [if_pos c]
    subst c
    show _ = (_, (if j = j then v else f j), _)
    rw [if_pos rfl]
  · rw [if_neg c]
    show _ = (_, (if j = k then v else f j), _)
    rw [if_neg c]
theorem WO {P : Pn} {first gap : Int} {k : Nat} (h1 : 1 ≤ k) (hk : k < (CH L).length) (h64 : (CH L).length ≤ 64) (hP : P.2.1 = Me L (fun j => if j = k then first + ((k - 1 : Nat) : Int) * gap else first + (j : Int) * gap)) (hm : 0 ≤ P.2.2.1 ∧ P.2.2.1 ≤ 1048576)
    (hf : 0 ≤ first ∧ first ≤ 1099515000000) (hg : gap = 2 * P.2.2.1 + Cp t + 1) (hgb : 1 ≤ gap ∧ gap ≤ 4194304) : XM t P = [(4, (k : Int), 0)] := by
  have hl : P.2.1.length = (CH L).length := by rw [hP]; exact Ob _
  have hfb : ∀ j, j < (CH L).length → 0 ≤ (if j = k then first + ((k - 1 : Nat) : Int) * gap else first + (j : Int) * gap) ∧ (if j = k then first + ((k - 1 : Nat) : Int) * gap else first + (j : Int) * gap) ≤ 1125899906842624 := fun j hj => by
    split
    · exact Xp hf (by omega) (by omega)
    · exact Xp hf (by omega) (by omega)
  show (List.range' 1 (P.2.1.length - 1)).flatMap (UJ t P) = _
  rw [Mo (a := k) _ _ (by omega) fun i h2 h3 h4 => ?_]
  · rw [V7 hP hm hfb h1 hk, if_pos]
    rw [if_pos rfl, if_neg (by omega)]; omega
  · rw [V7 hP hm hfb h2 (by omega), if_neg]
    rw [if_neg h4]
    by_cases c : i - 1 = k
    · obtain rfl : i = k + 1 := by omega
      rw [if_pos c]
      have e1 := RG (first := first) (gap := gap) (k := k + 1) (by omega)
      have e2 := RG (first := first) (gap := gap) h1
      rw [show k + 1 - 1 = k from rfl] at e1
      omega
    · rw [if_neg c]
      have e1 := RG (first := first) (gap := gap) h2
      omega
end
theorem Nv (p0 : Tp) (p1 p2 : Rt) (hl1 : p1.length ≤ 9223372036854775807) (hl2 : p2.length ≤ 9223372036854775807) (p3 p4 p5 p6 : Int) : Gw p0 p1 p2 p3 p4 p5 p6 = some true := by
  unfold Gw
  rw [Ss p0 p1 hl1, Ss p0 p2 hl2, Vl, Option.bind_some]
  by_cases c1 : (∀ row ∈ p1, row.length ≤ 12) ∧ p0.2.1.length ≤ 30 ∧ p0.2.2.length ≤ 12 ∧ p1.length ≤ 12
  · rw [decide_eq_true c1, if_neg (by decide), Option.bind_some]
    by_cases c2 : (∀ row ∈ p2, row.length ≤ 12) ∧ p0.2.1.length ≤ 30 ∧ p0.2.2.length ≤ 12 ∧ p2.length ≤ 12
    · rw [decide_eq_true c2, Option.bind_some, if_neg (by decide)]
      have s1 : Ys p1 := ⟨c1.2.2.2, fun row hm => by have := c1.1 row hm; omega⟩
      have s2 : Ys p2 := ⟨c2.2.2.2, fun row hm => by have := c2.1 row hm; omega⟩
      rcases Vf s1 s2 p3 p4 p5 with ⟨_, e⟩ | ⟨_, _, e⟩ | ⟨ca, g1, g2, L, hL, _, ⟨_, e⟩ | ⟨hne, n1, n2, e⟩⟩
      · rw [e]; rfl
      · rw [e]; rfl
      · rw [e]; rfl
      · rw [e, Option.bind_some]
        obtain ⟨l1, l2, l3⟩ := NI g1.1.1
        by_cases cT : 1099511627776 < p3 + p5 + p4 + Cp p0 + 1 + (((CH L).length - 1 : Nat) : Int) * (2 * p4 + Cp p0 + 1) + p4
        · rw [if_pos cT]; rfl
        · rw [if_neg cT, WI]
          have h8 := Xa g1 g2 hL
          have h64 := hL.1
          have hfi : 0 ≤ p3 + p5 + p4 + Cp p0 + 1 ∧ p3 + p5 + p4 + Cp p0 + 1 ≤ 1099515000000 := by omega
          have hga : 1 ≤ 2 * p4 + Cp p0 + 1 ∧ 2 * p4 + Cp p0 + 1 ≤ 4194304 := by omega
          generalize hfirst : p3 + p5 + p4 + Cp p0 + 1 = first at hfi ⊢
          generalize hgap : 2 * p4 + Cp p0 + 1 = gap at hga ⊢
          generalize first + (((CH L).length - 1 : Nat) : Int) * gap + p4 = to
          have hR := RR g1 g2 hL (fun k => first + (k : Int) * gap)
          have hlen := Ob (L := L) (fun k => first + (k : Int) * gap)
          simp only []
          by_cases ck : p6 < 0 ∨ (L.length : Int) ≤ p6
          · rw [if_pos (by simp; omega)]; rfl
          · rw [if_neg (by simp; omega)]
            obtain ⟨k, rfl⟩ : ∃ k : Nat, p6 = (k : Int) := ⟨p6.toNat, by omega⟩
            have hkl : k < L.length := by omega
            have hm := List.getElem?_eq_getElem hkl
            generalize L[k] = m at hm
            rw [IJ (by omega), Option.bind_some, EC (by simp; omega), Option.bind_some, Aj (x := (k : Int) + 1) (by omega), IJ (by omega), Option.bind_some]
            rw [show (L.take ((L.length : Nat) : Int).toNat).drop ((k : Int) + 1).toNat = L.drop (k + 1) by rw [Int.toNat_natCast, List.take_length]; congr 1, show ([] ++ (L.take ((k : Nat) : Int).toNat).drop (0 : Int).toNat) = L.take k by rw [Int.toNat_natCast]; rfl]
            rw [EC (by simp; omega), Option.bind_some]
            obtain ⟨q1, q2⟩ := Wo g1 g2 hL (P := (L.take k ++ L.drop (k + 1), Me L (fun k => first + (k : Int) * gap), p4, Cp p0, p3 + p5 + 1, to)) hm rfl hR
            rw [R0 c1 c2 (V5 hL hR q1), Option.bind_some]
            have hck : ∃ X, SX p0 p1 p2 (L.take k ++ L.drop (k + 1), Me L (fun k => first + (k : Int) * gap), p4, Cp p0, p3 + p5 + 1, to) = (2, m.1, m.2.1) :: X := by
              unfold SX
              rw [if_pos ⟨g1, g2⟩, q2]
              exact ⟨_, rfl⟩
            obtain ⟨X, hX⟩ := hck
            rw [hX, if_neg (by simp; omega), show ix ((2, m.1, m.2.1) :: X) 0 = some (2, m.1, m.2.1) from rfl, Option.bind_some, BA hm, Option.bind_some, Option.bind_some, Option.bind_some]
            simp only [and_self, decide_true, Bool.not_true, Bool.false_eq_true, if_false]
            by_cases cq : k = 0 ∨ (CH L).length ≤ k
            · rw [if_pos (by simp; omega)]; rfl
            · rw [if_neg (by simp; omega)]
              rw [EC (by simp; omega), Option.bind_some, List.nil_append, Aj (x := (k : Int) - 1) (by omega), show (k : Int) - 1 = ((k - 1 : Nat) : Int) by omega, BA (K0 (by omega)), Option.bind_some, BA (K0 (by omega)), Option.bind_some, UB (by omega)]
              have hR2 := RR g1 g2 hL (fun j => if j = k then first + ((k - 1 : Nat) : Int) * gap else first + (j : Int) * gap)
              rw [R0 c1 c2 (V5 hL hR2 (List.Sublist.refl _)), Option.bind_some, Vo g1 g2 hL rfl hR2, WO (L := L) (first := first) (gap := gap) (k := k) (by omega) (by omega) (by omega) rfl ⟨ca.2.2.1, ca.2.2.2.1⟩ hfi hgap.symm hga]
              rw [if_pos (by rfl), show ix [((4 : Int), (k : Int), (0 : Int))] 0 = some (4, (k : Int), 0) from rfl, Option.bind_some, if_pos ⟨rfl, rfl, rfl⟩]; rfl
    · rw [decide_eq_false c2]; rfl
  · rw [decide_eq_false c1]; rfl
theorem Nq (p0 : Tp) {A : Prop} (_ : A) (p1 : Rt) {K1 : _ → Prop} (ok1 : UK K1 p1) (p2 : Rt) {K2 : _ → Prop} (ok2 : UK K2 p2) (p3 : Int) {B : Prop} (_ : B) (p4 : Int) {C : Prop} (_ : C) (p5 : Int) {D : Prop} (_ : D) (p6 : Int) {E : Prop} (_ : E) : Gw p0 p1 p2 p3 p4 p5 p6 = some true := Nv p0 p1 p2 ok1.1 ok2.1 p3 p4 p5 p6
end Go.Proofs.YthhoflfhegfmcaaGreat
