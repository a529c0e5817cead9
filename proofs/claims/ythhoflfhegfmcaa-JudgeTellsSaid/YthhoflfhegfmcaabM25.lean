/- Layer 25: findings. Conditions: none. -/
import Derived.Test.YthhoflfhegfmcaabM21R
import Derived.Test.YthhoflfhegfmcaabM20
import Derived.Test.YthhoflfhegfmcaabEV
namespace Go.Proofs.Ythhoflfhegfmcaa
set_option linter.unusedVariables false
set_option linter.unusedSimpArgs false
open Go Go.RowKit
theorem Qs {α β : Type} (t : α) (k : α → Option β) : Ep (some (Sum.inl t)) k = k t := rfl
def NV {α : Type} (P : α → Bool) : List α → Nat → Int
  | [], _ => -1
  | x :: l, k => if P x = true then (k : Int) else NV P l (k + 1)
theorem OD {α : Type} (l : List α) (hl : l.length ≤ 1000000) (P : α → Bool) (step : Int → Option (Int ⊕ (Unit ⊕ Int)))
    (hs : ∀ k (hk : k < l.length), step (k : Int) = if P l[k] = true then some (.inr (.inr (k : Int))) else some (.inl (A3 ((k : Int) + 1)))) (he : step (l.length : Int) = some (.inr (.inl ()))) :
    Ep (Au step 0) (fun _ => some (-1)) = some (NV P l 0) := by
  have key : ∀ (d k : Nat), k + d = l.length → Ep (Au step (k : Int)) (fun _ => some (-1)) = some (NV P (l.drop k) k) := by
    intro d
    induction d with
    | zero =>
      intro k hk
      obtain rfl : k = l.length := by omega
      rw [A7 he, List.drop_eq_nil_of_le (Nat.le_refl _)]; rfl
    | succ d ih =>
      intro k hk
      have hk2 : k < l.length := by omega
      have h := hs k hk2
      rw [List.drop_eq_getElem_cons hk2]
      show _ = some (if P l[k] = true then (k : Int) else NV P (l.drop (k + 1)) (k + 1))
      by_cases c : P l[k] = true
      · rw [if_pos c] at h
        rw [if_pos c, A7 h]; rfl
      · rw [if_neg c, AJ (by omega)] at h
        rw [if_neg c, BO h]
        exact ih (k + 1) (by omega)
  exact key l.length 0 (by omega)
theorem Np {α : Type} (P : α → Bool) : ∀ (l : List α) (k : Nat), (NV P l k = -1 ∧ ∀ x ∈ l, P x = false) ∨ ∃ (j : Nat) (x : α), l[j]? = some x ∧ P x = true ∧ NV P l k = ((k + j : Nat) : Int) ∧ ∀ (i : Nat) (y : α), i < j → l[i]? = some y → P y = false
  | [], k => .inl ⟨rfl, fun x hx => by cases hx⟩
  | x :: l, k => by
    by_cases c : P x = true
    · exact .inr ⟨0, x, rfl, c, if_pos c, fun i y hi => by omega⟩
    · have e : NV P (x :: l) k = NV P l (k + 1) := if_neg c
      rcases Np P l (k + 1) with ⟨h1, h2⟩ | ⟨j, y, h1, h2, h3, h4⟩
      · exact .inl ⟨e.trans h1, fun y hy => by
          rcases List.mem_cons.1 hy with rfl | hy
          · simpa using c
          · exact h2 y hy⟩
      · refine .inr ⟨j + 1, y, h1, h2, by rw [e, h3]; omega, fun i z hi hz => ?_⟩
        cases i with
        | zero => simp at hz; subst hz; simpa using c
        | succ i => exact h4 i z (by omega) (by simpa using hz)
theorem P8 {α : Type} (P : α → Bool) (l : List α) [Decidable (∃ x ∈ l, P x = true)] : decide (0 ≤ NV P l 0) = decide (∃ x ∈ l, P x = true) := by
  rcases Np P l 0 with ⟨h1, h2⟩ | ⟨j, x, h1, h2, h3, h4⟩
  · rw [h1, decide_eq_false (p := ∃ x ∈ l, P x = true) (fun ⟨x, hx, h⟩ => by rw [h2 x hx] at h; cases h)]; rfl
  · rw [h3, decide_eq_true (show ∃ x ∈ l, P x = true from ⟨x, List.mem_of_getElem? h1, h2⟩), decide_eq_true (by omega)]
theorem EM {α σ τ ε : Type} (l : List α) (mkS : σ → Nat → τ) (f : σ → α → σ) (step : τ → Option (τ ⊕ ε)) (fin : σ → ε) (G : σ → Nat → Prop) (s0 : σ) (h0 : G s0 0)
    (hs : ∀ s k (hk : k < l.length), G s k → step (mkS s k) = some (.inl (mkS (f s l[k]) (k + 1))) ∧ G (f s l[k]) (k + 1))
    (he : ∀ s, step (mkS s l.length) = some (.inr (fin s))) : Au step (mkS s0 0) = some (fin (l.foldl f s0)) ∧ G (l.foldl f s0) l.length := by
  obtain ⟨s, ⟨h1, h3⟩, h2⟩ := CE l.length mkS step fin (fun s k => s = (l.take k).foldl f s0 ∧ G s k)
    (fun s k hk ⟨hI, hG⟩ => ⟨f s l[k], (hs s k hk hG).1, by rw [hI, List.take_succ_eq_append_getElem hk, List.foldl_append]; rfl, (hs s k hk hG).2⟩) (fun s _ => he s) s0 ⟨rfl, h0⟩
  rw [List.take_length] at h1
  subst h1
  exact ⟨h2, h3⟩
abbrev N9 := Int × Int × Int × Int
abbrev O3 := Int × Int × List Int
abbrev Fd := Int × Int × Int
abbrev Pn := List N9 × List O3 × Int × Int × Int × Int
abbrev Ch := Tp × Rt × Rt × Pn
theorem Ew {β : Type} (n c B : Nat) (g : Nat → List β) (k0 : Nat) (hg : ∀ k, k < n → (g k).length ≤ c) (step : List β × Int → Option ((List β × Int) ⊕ List β))
    (hs : ∀ (k : Nat) (out : List β), k0 ≤ k → k < n → out.length ≤ B → step (out, (k : Int)) = some (.inl (out ++ g k, ((k + 1 : Nat) : Int)))) (he : ∀ (k : Nat) (out : List β), n ≤ k → step (out, (k : Int)) = some (.inr out)) :
    ∀ (d k : Nat) (out : List β), n - k = d → k0 ≤ k → out.length + d * c ≤ B → Au step (out, (k : Int)) = some (out ++ (List.range' k d).flatMap g)
  | 0, k, out, hd, hk, hb => by rw [A7 (he k out (by omega))]; simp
  | d + 1, k, out, hd, hk, hb => by
    have hb' : out.length + (d * c + c) ≤ B := by rwa [Nat.succ_mul] at hb
    have hg' := hg k (by omega)
    rw [BO (hs k out hk (by omega) (by omega)), Ew n c B g k0 hg step hs he d (k + 1) (out ++ g k) (by omega) (by omega) (by rw [List.length_append]; omega)]
    rw [List.range'_succ, List.flatMap_cons, List.append_assoc]
theorem LR {β : Type} {out : List β} (h : out.length ≤ 100000000) (b : Bool) (z : β) : (if b = true then (Fo out [z]).bind fun x => some x else some out) = some (out ++ if b = true then [z] else []) := by
  cases b
  · simp
  · rw [if_pos rfl, if_pos rfl, Dc (by simp; omega)]; rfl
theorem F8 {α : Type} {n : Nat} {f : Nat → α} {i : Nat} (h : i < n) : ((List.range n).map f)[i]? = some (f i) := by simp [h]
theorem LW {α : Type} {n : Nat} {f : Nat → α} {i : Nat} (x : α) : ((List.range n).map f).set i x = (List.range n).map (fun s => if s = i then x else f s) := by
  refine List.ext_getElem? fun j => ?_
  by_cases hj : j < n
  · rw [F8 hj]
    by_cases c : i = j
    · subst c; rw [List.getElem?_set_self (by simpa using hj), if_pos rfl]
    · rw [List.getElem?_set_ne c, F8 hj, if_neg (fun e => c e.symm)]
  · rw [List.getElem?_eq_none (by simp; omega), List.getElem?_eq_none (by simp; omega)]
theorem F1 {α : Type} {n : Nat} {f g : Nat → α} (h : ∀ i, i < n → f i = g i) : (List.range n).map f = (List.range n).map g := List.map_congr_left fun i hi => h i (List.mem_range.1 hi)
def OX (r : O3) (m : N9) : Bool := decide (m.2.2.2 = r.1) && decide (m.1 ∈ r.2.2)
theorem Vl {l : List Int} (hl : l.length ≤ 1000) (x : Int) : Kz l x = some (decide (x ∈ l)) := by
  unfold Kz
  rw [Eh l (by omega) (Hr l x) (fun y => y = x) true (fun k hk => by
    rw [Hr, if_pos (by omega), AV (List.getElem?_eq_getElem hk), Option.bind_some]) (by rw [Hr, if_neg (by omega)])]
  by_cases c : ∃ y ∈ l, y = x
  · obtain ⟨y, hy, rfl⟩ := c
    rw [if_pos ⟨y, hy, rfl⟩, decide_eq_true hy]; rfl
  · rw [if_neg c, decide_eq_false (fun h => c ⟨x, h, rfl⟩)]; rfl
theorem Pq {l : List Int} (hl : l.length ≤ 1000) (x : Int) : BN l x = some (decide (x ∈ l)) := by
  unfold BN CG
  rw [OD l (by omega) (fun y => decide (x = y)) (BR l x) (fun k hk => by
    rw [BR, if_pos (by omega), AV (List.getElem?_eq_getElem hk), Option.bind_some]
    by_cases c : x = l[k]
    · rw [if_pos c, if_pos (decide_eq_true c)]
    · rw [if_neg c, if_neg (by simpa using c)]) (by rw [BR, if_neg (by omega)]), Option.bind_some]
  congr 1
  rw [P8 (fun y => decide (x = y)) l]
  refine decide_eq_decide.2 ⟨fun ⟨y, hy, h⟩ => ?_, fun h => ⟨x, h, decide_eq_true rfl⟩⟩
  rw [of_decide_eq_true h]; exact hy
theorem Mg {r : O3} (hr : r.2.2.length ≤ 1000) (m : N9) : CK r m = some (OX r m) := by
  unfold CK OX
  by_cases c : m.2.2.2 = r.1
  · rw [if_pos c, Pq hr, decide_eq_true c]; rfl
  · rw [if_neg c, decide_eq_false c]; rfl
theorem PG {P : Pn} {k : Nat} {r : O3} (hk : P.2.1[k]? = some r) (hr : r.2.2.length ≤ 1000) (m : N9) : FM P (k : Int) m = some (OX r m) := by
  unfold FM OX
  rw [AV hk, Option.bind_some]
  by_cases c : r.1 = m.2.2.2
  · rw [if_pos c, Option.bind_some, Vl hr, decide_eq_true c.symm]; rfl
  · rw [if_neg c, decide_eq_false (fun e => c e.symm)]; rfl
abbrev SJ (Rs : List O3) (m : N9) : Bool := decide (∃ r ∈ Rs, OX r m = true)
abbrev LN (P : Pn) : Prop := P.1.length ≤ 40 ∧ P.2.1.length ≤ 12 ∧ ∀ r ∈ P.2.1, r.2.2.length ≤ 20
theorem Sj {c : Ch} (ok : LN c.2.2.2) (m : N9) : Bv c m = some (SJ c.2.2.2.2.1 m) := by
  have hl := ok.2.1
  unfold Bv AZ A2
  rw [OD c.2.2.2.2.1 (by omega) (fun r => OX r m) (AQ c.2.2.2.2.1 m) (fun k hk => by
    have := ok.2.2 _ (List.getElem_mem hk)
    rw [AQ, if_pos (by omega), AV (List.getElem?_eq_getElem hk), Option.bind_some]
    unfold B2
    rw [Mg (by omega), Option.bind_some, Option.bind_some]) (by rw [AQ, if_neg (by omega)]), Option.bind_some, Option.bind_some]
  congr 1
  exact P8 (fun r => OX r m) c.2.2.2.2.1
theorem SG {P : Pn} (ok : LN P) (m : N9) : Id P m = some (SJ P.2.1 m) := by
  have hl := ok.2.1
  unfold Id
  rw [Eh P.2.1 (by omega) (Ge P m) (fun r => OX r m = true) true (fun k hk => by
    have := ok.2.2 _ (List.getElem_mem hk)
    rw [Ge, if_pos (by omega), PG (List.getElem?_eq_getElem hk) (by omega), Option.bind_some]) (by rw [Ge, if_neg (by omega)])]
  by_cases c : ∃ r ∈ P.2.1, OX r m = true
  · rw [if_pos c, show SJ P.2.1 m = true from decide_eq_true c]; rfl
  · rw [if_neg c, show SJ P.2.1 m = false from decide_eq_false c]; rfl
def TJ (Rs : List O3) (sw h port : Int) (m : N9) : Bool := decide (m.1 = sw) && (decide (m.2.1 = h) && (decide (m.2.2.1 = port) && SJ Rs m))
def V4 (P : Pn) (sw h port : Int) : Nat := (P.1.filter (TJ P.2.1 sw h port)).length
theorem OC (L : List N9) (hl : L.length ≤ 1000) (q : N9 → Bool) (step : Int × Int → Option ((Int × Int) ⊕ Int))
    (hs : ∀ (k : Nat) (hk : k < L.length) (x : Int), 0 ≤ x ∧ x ≤ 1000 → step (x, (k : Int)) = some (.inl (if q L[k] = true then x + 1 else x, ((k + 1 : Nat) : Int)))) (he : ∀ x, step (x, (L.length : Int)) = some (.inr x)) : Au step (0, 0) = some ((L.filter q).length : Int) := by
  obtain ⟨s, h1, h2⟩ := CE L.length (fun (x : Int) (k : Nat) => (x, (k : Int))) step id (fun x k => x = (((L.take k).filter q).length : Int)) (fun x k hk hI => by
    have hle : ((L.take k).filter q).length ≤ 1000 := Nat.le_trans (List.length_filter_le _ _) (by rw [List.length_take]; omega)
    refine ⟨_, hs k hk x (by omega), ?_⟩
    show _ = (((L.take (k + 1)).filter q).length : Int)
    rw [List.take_succ_eq_append_getElem hk, List.filter_append, List.length_append, hI]
    by_cases c : q L[k] = true
    · rw [if_pos c, List.filter_cons_of_pos c]; simp
    · rw [if_neg c, List.filter_cons_of_neg c]; simp) (fun x _ => he x) 0 (by simp)
  rw [List.take_length] at h1
  rw [show ((0 : Int), (0 : Int)) = ((0 : Int), ((0 : Nat) : Int)) from rfl, h2, h1]; rfl
theorem Rh {c : Ch} (ok : LN c.2.2.2) (sw h port : Int) : Bf c sw h port = some (V4 c.2.2.2 sw h port : Int) := by
  have hl := ok.1
  unfold Bf
  rw [OC c.2.2.2.1 (by omega) (TJ c.2.2.2.2.1 sw h port) (BP c sw h port) (fun k hk x hx => by
    rw [BP, if_pos (by omega), AV (List.getElem?_eq_getElem hk), Option.bind_some, Sj ok, AJ (by omega), AJ (by omega)]
    have e : (if (c.2.2.2.1[k]).1 = sw then if (c.2.2.2.1[k]).2.1 = h then if (c.2.2.2.1[k]).2.2.1 = port then (some (SJ c.2.2.2.2.1 c.2.2.2.1[k])).bind fun x7 => some x7 else some false else some false else some false) = some (TJ c.2.2.2.2.1 sw h port c.2.2.2.1[k]) := by
      unfold TJ
      by_cases c1 : (c.2.2.2.1[k]).1 = sw
      · by_cases c2 : (c.2.2.2.1[k]).2.1 = h
        · by_cases c3 : (c.2.2.2.1[k]).2.2.1 = port
          · rw [if_pos c1, if_pos c2, if_pos c3, decide_eq_true c1, decide_eq_true c2, decide_eq_true c3]; rfl
          · rw [if_pos c1, if_pos c2, if_neg c3, decide_eq_false c3]; simp
        · rw [if_pos c1, if_neg c2, decide_eq_false c2]; simp
      · rw [if_neg c1, decide_eq_false c1]; simp
    rw [e, Option.bind_some]
    by_cases q : TJ c.2.2.2.2.1 sw h port c.2.2.2.1[k] = true
    · rw [if_pos q, if_pos q]; rfl
    · rw [if_neg q, if_neg q]; rfl) (fun x => by rw [BP, if_neg (by omega)]), Option.bind_some]; rfl
theorem RZ {P : Pn} (ok : LN P) {now : Rt} {sw h : Int} {row : List Int} {port : Int} (e1 : ix now sw = some row) (e2 : ix row h = some port) : Au (EU now P sw h) (0, 0) = some (V4 P sw h port : Int) := by
  have hl := ok.1
  rw [OC P.1 (by omega) (TJ P.2.1 sw h port) (EU now P sw h) (fun k hk x hx => by
    rw [EU, if_pos (by omega), AV (List.getElem?_eq_getElem hk), Option.bind_some, e1, Option.bind_some, e2, Option.bind_some, SG ok, AJ (by omega), AJ (by omega)]
    have e : (if (P.1[k]).1 = sw then if (P.1[k]).2.1 = h then if (P.1[k]).2.2.1 = port then (some (SJ P.2.1 P.1[k])).bind fun x16 => some x16 else some false else some false else some false) = some (TJ P.2.1 sw h port P.1[k]) := by
      unfold TJ
      by_cases c1 : (P.1[k]).1 = sw
      · by_cases c2 : (P.1[k]).2.1 = h
        · by_cases c3 : (P.1[k]).2.2.1 = port
          · rw [if_pos c1, if_pos c2, if_pos c3, decide_eq_true c1, decide_eq_true c2, decide_eq_true c3]; rfl
          · rw [if_pos c1, if_pos c2, if_neg c3, decide_eq_false c3]; simp
        · rw [if_pos c1, if_neg c2, decide_eq_false c2]; simp
      · rw [if_neg c1, decide_eq_false c1]; simp
    rw [e, Option.bind_some]
    by_cases q : TJ P.2.1 sw h port P.1[k] = true
    · rw [if_pos q, if_pos q]; rfl
    · rw [if_neg q, if_neg q]; rfl) (fun x => by rw [EU, if_neg (by omega)])]; rfl
def U3 (old now : Rt) (P : Pn) (sw h : Nat) : Bool := decide (FQ now sw h ≠ FQ old sw h) && decide ((V4 P sw h (FQ now sw h) : Int) ≠ 1)
def U2 (old now : Rt) (P : Pn) (sw h : Nat) : List Fd := if U3 old now P sw h = true then [(2, (sw : Int), (h : Int))] else []
def U4 (t : Tp) (old now : Rt) (P : Pn) (sw : Nat) : List Fd := (List.range' 0 t.2.2.length).flatMap (U2 old now P sw)
theorem NP (old now : Rt) (P : Pn) (sw h : Nat) : (U2 old now P sw h).length ≤ 1 := by unfold U2; split <;> simp
theorem GN {β : Type} (g : Nat → List β) (c : Nat) (hg : ∀ k, (g k).length ≤ c) : ∀ (d k : Nat), ((List.range' k d).flatMap g).length ≤ d * c
  | 0, k => by simp
  | d + 1, k => by
    rw [List.range'_succ, List.flatMap_cons, List.length_append, Nat.succ_mul]
    have := GN g c hg d (k + 1)
    have := hg k
    omega
abbrev V0 (t : Tp) (old now : Rt) (P : Pn) : List Fd := (List.range' 0 t.1.toNat).flatMap (U4 t old now P)
theorem NS {t : Tp} (hok : KX t) (old now : Rt) (P : Pn) (sw : Nat) : (U4 t old now P sw).length ≤ 8 := by
  have := GN (U2 old now P sw) 1 (NP old now P sw) t.2.2.length 0
  have h8 := hok.1
  unfold U4; omega
section
variable {t : Tp} {old now : Rt} {P : Pn}
theorem TA (ho : EY t old) (hn : EY t now) (ok : LN P) {sw h : Nat} (hs : (sw : Int) < t.1) (hh : h < t.2.2.length) {row : List Int} (er : ix now sw = some row) :
    ((ix row (h : Int)).bind fun x9 => ((ix old sw).bind fun x11 => (ix x11 (h : Int)).bind fun x12 => (if x9 ≠ x12 then (Bf (t, old, now, P) sw h x9).bind fun x13 => some (decide (x13 ≠ 1)) else some false)).bind fun x10 => some x10) = some (U3 old now P sw h) := by
  obtain ⟨row', e1, _, e2, _⟩ := hn.port (sw := sw) (h := h) ⟨by omega, hs⟩ ⟨by omega, by omega⟩
  obtain ⟨ro, f1, _, f2, _⟩ := ho.port (sw := sw) (h := h) ⟨by omega, hs⟩ ⟨by omega, by omega⟩
  rw [e1] at er
  cases er
  rw [e2, Option.bind_some, f1, Option.bind_some, f2, Option.bind_some]
  unfold U3
  by_cases c : FQ now sw h ≠ FQ old sw h
  · rw [if_pos c, Rh (c := (t, old, now, P)) ok, decide_eq_true c]; rfl
  · rw [if_neg c, decide_eq_false c]; rfl
theorem QW (ho : EY t old) (hn : EY t now) (ok : LN P) : Cm (t, old, now, P) = some (V0 t old now P) := by
  have h8 := hn.1.1
  have hnl := hn.2.1
  unfold Cm
  rw [show (([] : List Fd), (0 : Int)) = ([], ((0 : Nat) : Int)) from rfl, Ew t.1.toNat 8 1000 (U4 t old now P) 0 (fun k _ => NS hn.1 old now P k) (BQ (t, old, now, P)) (fun sw out _ hs hb => by
    have hs' : (sw : Int) < t.1 := by omega
    obtain ⟨row, e1, e2, e3, _, _⟩ := hn.row (sw := sw) ⟨by omega, hs'⟩
    rw [BQ, if_pos (by show (sw : Int) < (now.length : Int); omega)]
    show Option.bind (Option.bind (ix now sw) fun x5 => Au (Bu (t, old, now, P) sw x5) (out, 0)) _ = _
    rw [e1, Option.bind_some, show (out, (0 : Int)) = (out, ((0 : Nat) : Int)) from rfl, Ew t.2.2.length 1 2000 (U2 old now P sw) 0 (fun k _ => NP old now P sw k) (Bu (t, old, now, P) sw row) (fun h out' _ hh hb' => by
      have hst := TA ho hn ok hs' hh e1
      rw [Bu, if_pos (by omega)]
      obtain ⟨row', e1', _, e2', _⟩ := hn.port (sw := sw) (h := h) ⟨by omega, hs'⟩ ⟨by omega, by omega⟩
      rw [e1] at e1'
      cases e1'
      rw [e2', Option.bind_some] at hst ⊢
      have hst' : ((ix old sw).bind fun x11 => (ix x11 (h : Int)).bind fun x12 => (if FQ now sw h ≠ x12 then (Bf (t, old, now, P) sw h (FQ now sw h)).bind fun x13 => some (decide (x13 ≠ 1)) else some false)) = some (U3 old now P sw h) := by
        revert hst
        generalize ((ix old sw).bind fun x11 => (ix x11 (h : Int)).bind fun x12 => (if FQ now sw h ≠ x12 then (Bf (t, old, now, P) sw h (FQ now sw h)).bind fun x13 => some (decide (x13 ≠ 1)) else some false)) = X
        intro hst
        cases X with
        | none => cases hst
        | some b => exact hst
      show Option.bind (Option.bind ((ix old sw).bind fun x11 => (ix x11 (h : Int)).bind fun x12 => (if FQ now sw h ≠ x12 then (Bf (t, old, now, P) sw h (FQ now sw h)).bind fun x13 => some (decide (x13 ≠ 1)) else some false)) _) _ = _
      rw [hst', Option.bind_some, LR (by omega), Option.bind_some, AJ (by omega)]; rfl) (fun k out' hk => by rw [Bu, if_neg (by omega)]) t.2.2.length 0 out (by omega) (by omega) (by omega), Option.bind_some, AJ (by omega)]; rfl) (fun k out hk => by rw [BQ, if_neg (by show ¬ (k : Int) < (now.length : Int); omega)]) t.1.toNat 0 [] (by omega) (by omega) (by simp; omega), Option.bind_some, List.nil_append]
theorem Pz (ho : EY t old) (hn : EY t now) (ok : LN P) : Au (EN t old now P) ([], 0) = some (V0 t old now P) := by
  have h8 := hn.1.1
  rw [show (([] : List Fd), (0 : Int)) = ([], ((0 : Nat) : Int)) from rfl, Ew t.1.toNat 8 1000 (U4 t old now P) 0 (fun k _ => NS hn.1 old now P k) (EN t old now P) (fun sw out _ hs hb => by
    have hs' : (sw : Int) < t.1 := by omega
    rw [EN, if_pos hs', show (out, (0 : Int)) = (out, ((0 : Nat) : Int)) from rfl, Ew t.2.2.length 1 2000 (U2 old now P sw) 0 (fun k _ => NP old now P sw k) (FO t old now P sw) (fun h out' _ hh hb' => by
      obtain ⟨row, e1, _, e2, _⟩ := hn.port (sw := sw) (h := h) ⟨by omega, hs'⟩ ⟨by omega, by omega⟩
      obtain ⟨ro, f1, _, f2, _⟩ := ho.port (sw := sw) (h := h) ⟨by omega, hs'⟩ ⟨by omega, by omega⟩
      rw [FO, if_pos (by omega), RZ ok e1 e2, Option.bind_some, f1, Option.bind_some, f2, Option.bind_some, e1, Option.bind_some, e2, Option.bind_some]
      have hst : (if FQ old sw h ≠ FQ now sw h then some (decide ((V4 P sw h (FQ now sw h) : Int) ≠ 1)) else some false) = some (U3 old now P sw h) := by
        unfold U3
        by_cases c : FQ old sw h ≠ FQ now sw h
        · rw [if_pos c, decide_eq_true (show FQ now sw h ≠ FQ old sw h from fun e => c e.symm)]; rfl
        · rw [if_neg c, decide_eq_false (show ¬ FQ now sw h ≠ FQ old sw h from fun e => c (fun e' => e e'.symm))]; rfl
      rw [hst, Option.bind_some, LR (by omega), Option.bind_some, AJ (by omega)]; rfl) (fun k out' hk => by rw [FO, if_neg (by omega)]) t.2.2.length 0 out (by omega) (by omega) (by omega), Option.bind_some, AJ (by omega)]; rfl) (fun k out hk => by rw [EN, if_neg (by omega)]) t.1.toNat 0 [] (by omega) (by omega) (by simp; omega), List.nil_append]
def VL (t : Tp) (old now : Rt) (P : Pn) (m : N9) : Bool := !(DM t m) || (decide (m.2.2.1 ≠ FQ now m.1 m.2.1) || (decide (m.2.2.1 = FQ old m.1 m.2.1) || !(SJ P.2.1 m)))
def exF (t : Tp) (old now : Rt) (P : Pn) (k : Nat) : List Fd := match P.1[k]? with | some m => if VL t old now P m = true then [(3, (k : Int), m.2.1)] else [] | none => []
theorem NR (t : Tp) (old now : Rt) (P : Pn) (k : Nat) : (exF t old now P k).length ≤ 1 := by
  unfold exF
  cases P.1[k]? with
  | none => simp
  | some m => simp only; split <;> simp
abbrev VQ (t : Tp) (old now : Rt) (P : Pn) : List Fd := (List.range' 0 P.1.length).flatMap (exF t old now P)
theorem HK {m : N9} : DM t m = true ↔ (0 ≤ m.1 ∧ m.1 < t.1) ∧ 0 ≤ m.2.1 ∧ m.2.1 < (t.2.2.length : Int) := by
  unfold DM
  simp only [Bool.and_eq_true, decide_eq_true_eq]
  exact ⟨fun ⟨a, b, c, d⟩ => ⟨⟨a, b⟩, c, d⟩, fun ⟨⟨a, b⟩, c, d⟩ => ⟨a, b, c, d⟩⟩
theorem Tw (ho : EY t old) (hn : EY t now) (ok : LN P) : Cz (t, old, now, P) = some (VQ t old now P) := by
  have h40 := ok.1
  unfold Cz
  rw [show (([] : List Fd), (0 : Int)) = ([], ((0 : Nat) : Int)) from rfl, Ew P.1.length 1 1000 (exF t old now P) 0 (fun k _ => NR t old now P k) (Ce (t, old, now, P)) (fun k out _ hk hb => by
    have hm := List.getElem?_eq_getElem hk
    generalize P.1[k] = m at hm
    rw [Ce, if_pos (by show (k : Int) < (P.1.length : Int); omega)]
    show Option.bind (Option.bind (ix P.1 k) _) _ = _
    rw [AV hm, Option.bind_some, Sj (c := (t, old, now, P)) ok]
    have hst : (if (!(A6 (t, old, now, P) m)) = true then some true else (ix now m.1).bind fun x7 => (ix x7 m.2.1).bind fun x8 => (if m.2.2.1 ≠ x8 then some true else (ix old m.1).bind fun x9 => (ix x9 m.2.1).bind fun x10 => (if m.2.2.1 = x10 then some true else (some (SJ P.2.1 m)).bind fun x11 => some (!x11)))) = some (VL t old now P m) := by
      unfold VL
      show (if (!(DM t m)) = true then _ else _) = _
      by_cases c : DM t m = true
      · obtain ⟨row, e1, _, e2, _⟩ := hn.port (HK.1 c).1 (HK.1 c).2
        obtain ⟨ro, f1, _, f2, _⟩ := ho.port (HK.1 c).1 (HK.1 c).2
        rw [c, if_neg (by decide), e1, Option.bind_some, e2, Option.bind_some, f1, Option.bind_some, f2, Option.bind_some]
        by_cases c1 : m.2.2.1 ≠ FQ now m.1 m.2.1
        · rw [if_pos c1, decide_eq_true c1]; rfl
        · rw [if_neg c1, decide_eq_false c1]
          by_cases c2 : m.2.2.1 = FQ old m.1 m.2.1
          · rw [if_pos c2, decide_eq_true c2]; rfl
          · rw [if_neg c2, decide_eq_false c2]; rfl
      · rw [Bool.not_eq_true] at c
        rw [c, if_pos (show (!false) = true from rfl)]; rfl
    show Option.bind (Option.bind (if (!(A6 (t, old, now, P) m)) = true then some true else (ix now m.1).bind fun x7 => (ix x7 m.2.1).bind fun x8 => (if m.2.2.1 ≠ x8 then some true else (ix old m.1).bind fun x9 => (ix x9 m.2.1).bind fun x10 => (if m.2.2.1 = x10 then some true else (some (SJ P.2.1 m)).bind fun x11 => some (!x11)))) _) _ = _
    rw [hst, Option.bind_some, LR (by omega), Option.bind_some, AJ (by omega)]
    unfold exF
    rw [hm]; rfl) (fun k out hk => by rw [Ce, if_neg (by show ¬ (k : Int) < (P.1.length : Int); omega)]) P.1.length 0 [] (by omega) (by omega) (by simp; omega), Option.bind_some, List.nil_append]
theorem RL (ho : EY t old) (hn : EY t now) (ok : LN P) {o : List Fd} (hol : o.length ≤ 100) : Au (ET t old now P) (o, 0) = some (o ++ VQ t old now P) := by
  have h40 := ok.1
  rw [show (o, (0 : Int)) = (o, ((0 : Nat) : Int)) from rfl, Ew P.1.length 1 1000 (exF t old now P) 0 (fun k _ => NR t old now P k) (ET t old now P) (fun k out _ hk hb => by
    have hm := List.getElem?_eq_getElem hk
    generalize P.1[k] = m at hm
    rw [ET, if_pos (by omega), AV hm, Option.bind_some, SG ok]
    have hst : (if (!(DM t m)) = true then some true else (ix now m.1).bind fun x29 => (ix x29 m.2.1).bind fun x30 => (if x30 ≠ m.2.2.1 then some true else (ix old m.1).bind fun x31 => (ix x31 m.2.1).bind fun x32 => (if x32 = m.2.2.1 then some true else (some (SJ P.2.1 m)).bind fun x33 => some (!x33)))) = some (VL t old now P m) := by
      unfold VL
      by_cases c : DM t m = true
      · obtain ⟨row, e1, _, e2, _⟩ := hn.port (HK.1 c).1 (HK.1 c).2
        obtain ⟨ro, f1, _, f2, _⟩ := ho.port (HK.1 c).1 (HK.1 c).2
        rw [c, if_neg (by decide), e1, Option.bind_some, e2, Option.bind_some, f1, Option.bind_some, f2, Option.bind_some]
        by_cases c1 : m.2.2.1 ≠ FQ now m.1 m.2.1
        · rw [if_pos (fun e => c1 e.symm), decide_eq_true c1]; rfl
        · rw [if_neg (fun e => c1 (fun e' => e e'.symm)), decide_eq_false c1]
          by_cases c2 : m.2.2.1 = FQ old m.1 m.2.1
          · rw [if_pos c2.symm, decide_eq_true c2]; rfl
          · rw [if_neg (fun e => c2 e.symm), decide_eq_false c2]; rfl
      · rw [Bool.not_eq_true] at c
        rw [c, if_pos (show (!false) = true from rfl)]; rfl
    rw [hst, Option.bind_some, LR (by omega), Option.bind_some, AJ (by omega)]
    unfold exF
    rw [hm]; rfl) (fun k out hk => by rw [ET, if_neg (by omega)]) P.1.length 0 o (by omega) (by omega) (by omega)]
noncomputable def V9 (t : Tp) (P : Pn) (k : Nat) : Bool := match P.2.1[k]?, P.2.1[k - 1]? with | some r, some q => decide (AS r.2.1 - AS q.2.1 < 2 * (min (max P.2.2.1 0) 1048576) + FB t + 1) | _, _ => false
noncomputable def SP (t : Tp) (P : Pn) (k : Nat) : List Fd := if V9 t P k = true then [(4, (k : Int), 0)] else []
theorem N6 (t : Tp) (P : Pn) (k : Nat) : (SP t P k).length ≤ 1 := by unfold SP; split <;> simp
noncomputable abbrev VU (t : Tp) (P : Pn) : List Fd := (List.range' 1 (P.2.1.length - 1)).flatMap (SP t P)
theorem NH (x : Int) : -1125899906842624 ≤ AS x ∧ AS x ≤ 1125899906842624 := by unfold AS; omega
theorem RM (x : Int) : Dd x (-1125899906842624) 1125899906842624 = AS x := by unfold Dd AS; split <;> (try split) <;> omega
theorem near25' (x : Int) : Dd x 0 1048576 = min (max x 0) 1048576 := by unfold Dd; split <;> (try split) <;> omega
theorem TO (ht : KX t) (ok : LN P) : CC (t, old, now, P) = some (VU t P) := by
  have h12 := ok.2.1
  obtain ⟨_, l0, l1⟩ := LK ht
  unfold CC
  show Option.bind (Gi t (min (max P.2.2.1 0) 1048576)) _ = _
  rw [UQ ht (by omega), Option.bind_some, show (([] : List Fd), (1 : Int)) = ([], ((1 : Nat) : Int)) from rfl, Ew P.2.1.length 1 1000 (SP t P) 1 (fun k _ => N6 t P k) (Cd (t, old, now, P) _) (fun k out h1 hk hb => by
    have hr := List.getElem?_eq_getElem hk
    have hq := List.getElem?_eq_getElem (l := P.2.1) (i := k - 1) (by omega)
    generalize P.2.1[k] = r at hr
    generalize P.2.1[k - 1] = q at hq
    have b1 := NH r.2.1
    have b2 := NH q.2.1
    rw [Cd, if_pos (by show (k : Int) < (P.2.1.length : Int); omega)]
    show Option.bind ((ix P.2.1 (k : Int)).bind fun x6 => (ix P.2.1 (A3 ((k : Int) - 1))).bind _) _ = _
    rw [AV hr, Option.bind_some, AJ (by omega), show (k : Int) - 1 = ((k - 1 : Nat) : Int) by omega, AV hq, Option.bind_some, AJ (by omega), AJ (by omega)]
    have e : SP t P k = if AS r.2.1 - AS q.2.1 < 2 * (min (max P.2.2.1 0) 1048576) + FB t + 1 then [(4, (k : Int), 0)] else [] := by
      unfold SP V9
      rw [hr, hq]
      simp only [decide_eq_true_eq]
    rw [e]
    by_cases c : AS r.2.1 - AS q.2.1 < 2 * (min (max P.2.2.1 0) 1048576) + FB t + 1
    · rw [if_pos c, if_pos c, Dc (by simp; omega)]; rfl
    · rw [if_neg c, if_neg c, List.append_nil]; rfl) (fun k out hk => by rw [Cd, if_neg (by show ¬ (k : Int) < (P.2.1.length : Int); omega)]) (P.2.1.length - 1) 1 [] (by omega) (by omega) (by simp; omega), Option.bind_some, List.nil_append]
theorem TI (ht : KX t) : Js t = some (FB t) := by
  obtain ⟨h1, _⟩ := LK ht
  obtain ⟨s, e1, e2⟩ := Rd (t := t) (by have := ht.1; omega)
  rw [← h1]
  unfold Js Fj
  rw [e1, e2]
theorem RE (ht : KX t) (ok : LN P) : H1 t P = some (VU t P) := by
  have h12 := ok.2.1
  obtain ⟨_, l0, l1⟩ := LK ht
  unfold H1
  rw [show (([] : List Fd), (1 : Int)) = ([], ((1 : Nat) : Int)) from rfl, Ew P.2.1.length 1 1000 (SP t P) 1 (fun k _ => N6 t P k) (Fu t P) (fun k out h1 hk hb => by
    have hr := List.getElem?_eq_getElem hk
    have hq := List.getElem?_eq_getElem (l := P.2.1) (i := k - 1) (by omega)
    generalize P.2.1[k] = r at hr
    generalize P.2.1[k - 1] = q at hq
    have b1 := NH r.2.1
    have b2 := NH q.2.1
    rw [Fu, if_pos (by omega), AJ (x := (k : Int) - 1) (by omega), show (k : Int) - 1 = ((k - 1 : Nat) : Int) by omega, AV hq, Option.bind_some, AV hr, Option.bind_some, TI ht, Option.bind_some, RM, RM, near25', AJ (x := AS q.2.1 + min (max P.2.2.1 0) 1048576) (by omega), AJ (x := AS q.2.1 + min (max P.2.2.1 0) 1048576 + min (max P.2.2.1 0) 1048576) (by omega), AJ (x := AS q.2.1 + min (max P.2.2.1 0) 1048576 + min (max P.2.2.1 0) 1048576 + FB t) (by omega), AJ (by omega)]
    have e : SP t P k = if AS r.2.1 - AS q.2.1 < 2 * (min (max P.2.2.1 0) 1048576) + FB t + 1 then [(4, (k : Int), 0)] else [] := by
      unfold SP V9
      rw [hr, hq]
      simp only [decide_eq_true_eq]
    rw [e]
    by_cases c : AS r.2.1 - AS q.2.1 < 2 * (min (max P.2.2.1 0) 1048576) + FB t + 1
    · rw [if_pos c, if_pos (by omega), Dc (by simp; omega)]; rfl
    · rw [if_neg c, if_neg (by omega), List.append_nil]; rfl) (fun k out hk => by rw [Fu, if_neg (by omega)]) (P.2.1.length - 1) 1 [] (by omega) (by omega) (by simp; omega), Option.bind_some, List.nil_append]
end
end Go.Proofs.Ythhoflfhegfmcaa
