/- Layer 11: changes. Conditions: none. -/
import Derived.Test.YtkjjioigbpkifaaeM11
namespace Go.Proofs.Ytkjjioigbpkifaa
set_option linter.unusedVariables false
set_option linter.unusedSimpArgs false
set_option synthInstance.maxSize 1000
open Go Go.RowKit
theorem Iv {α : Type} (l : List α) (hl : l.length ≤ 1000000) (f : α → α) (step : List α × Int → Option ((List α × Int) ⊕ List α))
    (hs : ∀ (k : Nat) (hk : k < l.length) (m : List α), m.length = l.length → m[k]? = some l[k] → step (m, (k : Int)) = some (.inl (m.set k (f l[k]), CA ((k : Int) + 1))))
    (he : ∀ m, m.length = l.length → step (m, (l.length : Int)) = some (.inr m)) : Bk step (l, 0) = some (l.map f) := by
  obtain ⟨s, h1, h2⟩ := JW l.length (fun (m : List α) (k : Nat) => (m, (k : Int))) step id (fun m k => m.length = l.length ∧ ∀ j, m[j]? = if j < k then (l[j]?).map f else l[j]?) (fun m k hk hI => by
    refine ⟨m.set k (f l[k]), ?_, ?_, fun j => ?_⟩
    · rw [hs k hk m hI.1 (by rw [hI.2, if_neg (by omega), List.getElem?_eq_getElem hk]), BW (by omega)]; rfl
    · rw [List.length_set]; exact hI.1
    · rw [List.getElem?_set]
      by_cases c : k = j
      · subst c
        rw [if_pos rfl, if_pos (by rw [hI.1]; exact hk), if_pos (by omega), List.getElem?_eq_getElem hk]; rfl
      · rw [if_neg c, hI.2]
        by_cases d : j < k
        · rw [if_pos d, if_pos (by omega)]
        · rw [if_neg d, if_neg (by omega)]) (fun m hI => he m hI.1) l ⟨rfl, fun j => by rw [if_neg (by omega)]⟩
  refine h2.trans ?_
  congr 1
  refine List.ext_getElem? fun j => ?_
  show s[j]? = _
  rw [h1.2, List.getElem?_map]
  by_cases c : j < l.length
  · rw [if_pos c]
  · rw [if_neg c, List.getElem?_eq_none (by omega)]; rfl
theorem Ka {α : Type} {m : List α} {k : Nat} {x : α} (h : m[k]? = some x) : m.set k x = m := by
  refine List.ext_getElem? fun j => ?_
  rw [List.getElem?_set]
  by_cases c : k = j
  · subst c
    rw [if_pos rfl, if_pos (List.getElem?_eq_some_iff.1 h).1, h]
  · rw [if_neg c]
theorem JU {α : Type} (l : List α) (hl : l.length ≤ 1000000) (P : α → Bool) (step : List α × Int × Int → Option ((List α × Int × Int) ⊕ (List α × Int)))
    (hs : ∀ (k w : Nat) (hk : k < l.length) (m : List α), m.length = l.length → w < k → m[k]? = some l[k] → step (m, (w : Int), (k : Int)) = some (.inl (if P l[k] = true then (m, (w : Int), CA ((k : Int) + 1)) else (m.set w l[k], CA ((w : Int) + 1), CA ((k : Int) + 1)))))
    (he : ∀ m (w : Int), m.length = l.length → step (m, w, (l.length : Int)) = some (.inr (m, w))) {i : Nat} (hi : i < l.length) (h0 : ∀ (j : Nat) (y : α), j < i → l[j]? = some y → P y = false) (h1 : P l[i] = true) :
    ∃ (m : List α) (w : Nat), Bk step (l, (i : Int), CA ((i : Int) + 1)) = some (m, (w : Int)) ∧ m.length = l.length ∧ w ≤ l.length ∧ m.take w = l.filter (fun x => !P x) := by
  have key : ∀ (d k w : Nat) (m : List α), k + d = l.length → m.length = l.length → w < k → (∀ j, k ≤ j → m[j]? = l[j]?) → m.take w = (l.take k).filter (fun x => !P x) →
      ∃ (m' : List α) (w' : Nat), Bk step (m, (w : Int), (k : Int)) = some (m', (w' : Int)) ∧ m'.length = l.length ∧ w' ≤ l.length ∧ m'.take w' = l.filter (fun x => !P x) := by
    intro d
    induction d with
    | zero =>
      intro k w m hk hm hw hj ht
      obtain rfl : k = l.length := by omega
      exact ⟨m, w, CR (he m _ hm), hm, by omega, by rw [ht, List.take_length]⟩
    | succ d ih =>
      intro k w m hk hm hw hj ht
      have hk2 : k < l.length := by omega
      have hx : m[k]? = some l[k] := by rw [hj k (Nat.le_refl _), List.getElem?_eq_getElem hk2]
      have hstep := hs k w hk2 m hm hw hx
      rw [BW (by omega), BW (by omega)] at hstep
      have htk : (l.take (k + 1)).filter (fun x => !P x) = (l.take k).filter (fun x => !P x) ++ (if P l[k] = true then [] else [l[k]]) := by
        rw [List.take_succ_eq_append_getElem hk2, List.filter_append]
        congr 1
        by_cases c : P l[k] = true
        · rw [if_pos c]; simp [c]
        · rw [if_neg c]; simp [c]
      by_cases c : P l[k] = true
      · rw [if_pos c] at hstep
        rw [Cv hstep]
        exact ih (k + 1) w m (by omega) hm (by omega) (fun j h => hj j (by omega)) (by rw [htk, if_pos c, List.append_nil]; exact ht)
      · rw [if_neg c] at hstep
        rw [Cv hstep]
        refine ih (k + 1) (w + 1) (m.set w l[k]) (by omega) (by rw [List.length_set]; exact hm) (by omega) (fun j h => by rw [List.getElem?_set, if_neg (by omega)]; exact hj j (by omega)) ?_
        rw [htk, if_neg c, ← ht]
        refine List.ext_getElem? fun j => ?_
        rw [List.getElem?_take]
        by_cases c1 : j < w + 1
        · rw [if_pos c1, List.getElem?_set]
          by_cases c2 : w = j
          · subst c2
            rw [if_pos rfl, if_pos (by omega), List.getElem?_append_right (by rw [List.length_take]; omega), List.length_take, Nat.min_eq_left (by omega), Nat.sub_self]; rfl
          · rw [if_neg c2, List.getElem?_append_left (by rw [List.length_take]; omega), List.getElem?_take, if_pos (by omega)]
        · rw [if_neg c1, List.getElem?_append_right (by rw [List.length_take]; omega), List.length_take, Nat.min_eq_left (by omega), List.getElem?_eq_none (by simp; omega)]
  have hp : (l.take i).filter (fun x => !P x) = l.take i := List.filter_eq_self.2 fun x hx => by
    obtain ⟨j, hj, e⟩ := List.getElem_of_mem hx
    rw [List.length_take] at hj
    have := h0 j x (by omega) (by rw [← e, List.getElem_take, List.getElem?_eq_getElem])
    simp [this]
  have hw : CA ((i : Int) + 1) = ((i + 1 : Nat) : Int) := by rw [BW (by omega)]; rfl
  rw [hw]
  refine key (l.length - (i + 1)) (i + 1) i l (by omega) rfl (by omega) (fun _ _ => rfl) ?_
  rw [List.take_succ_eq_append_getElem hi, List.filter_append, hp]
  simp [h1]
abbrev Md := Int × Rl × Bool
def Pm (k : Bool) (r x : Rl) : Bool := if k = true then decide (kq x r) else decide (WI x.2.1 r.2.1)
def rp (k : Bool) (r x : Rl) : Rl := if Pm k r x = true then (x.1, x.2.1, r.2.2) else x
abbrev M7 (x r : Rl) : Prop := x.1 = r.1 ∧ x.2.1 ≠ r.2.1 ∧ ¬ Ip x.2.1 r.2.1
def C9 (v : Rl) : List Rl → List Rl
  | [] => [v]
  | x :: t => if x.1 < v.1 then v :: x :: t else x :: C9 v t
abbrev GG (t : List Rl) (r : Rl) : Prop := ∃ x ∈ t, kq x r
open Classical in
noncomputable def G9 (t : List Rl) (m : Md) (ports room : Int) : List Rl × Int :=
  if ¬ Hq ports m.2.1 then (t, 2)
  else if m.1 = 1 then (if m.2.2 = true ∧ ∃ x ∈ t, M7 x m.2.1 then (t, 14) else if GG t m.2.1 then (t.map (rp true m.2.1), 0) else if room ≤ (t.length : Int) then (t, 6) else (C9 m.2.1 t, 0))
  else if m.1 = 2 then (t.map (rp false m.2.1), 0)
  else if m.1 = 3 then (if GG t m.2.1 then (t.map (rp true m.2.1), 0) else (t, 7))
  else if m.1 = 4 then (t.filter (fun x => !Pm false m.2.1 x), 0)
  else if m.1 = 5 then (if GG t m.2.1 then (t.filter (fun x => !Pm true m.2.1 x), 0) else (t, 7))
  else (t, 2)
theorem Hn {v x : Rl} : ∀ {t : List Rl}, x ∈ C9 v t ↔ x = v ∨ x ∈ t
  | [] => by unfold C9; simp
  | y :: t => by
    unfold C9
    by_cases c : y.1 < v.1
    · rw [if_pos c]; simp
    · rw [if_neg c, List.mem_cons, Hn, List.mem_cons]
      constructor
      · rintro (h | h | h)
        · exact .inr (.inl h)
        · exact .inl h
        · exact .inr (.inr h)
      · rintro (h | h | h)
        · exact .inr (.inl h)
        · exact .inl h
        · exact .inr (.inr h)
theorem G0 {v : Rl} : ∀ (t : List Rl), (C9 v t).length = t.length + 1
  | [] => rfl
  | y :: t => by
    unfold C9
    by_cases c : y.1 < v.1
    · rw [if_pos c]; rfl
    · rw [if_neg c, List.length_cons, G0 t]; rfl
theorem KH {v : Rl} : ∀ {t : List Rl}, t.Pairwise Bf → (∀ y ∈ t, ¬ kq y v) → (C9 v t).Pairwise Bf
  | [], _, _ => by unfold C9; exact List.pairwise_singleton _ _
  | y :: t, h, hk => by
    have hy := List.pairwise_cons.1 h
    unfold C9
    by_cases c : y.1 < v.1
    · rw [if_pos c]
      refine List.pairwise_cons.2 ⟨fun z hz => ?_, h⟩
      have hzv : z.1 ≤ y.1 := by
        rcases List.mem_cons.1 hz with rfl | hz
        · exact Int.le_refl _
        · exact (hy.1 z hz).1
      exact ⟨by omega, fun e => by have := e.1; omega⟩
    · rw [if_neg c]
      refine List.pairwise_cons.2 ⟨fun z hz => ?_, KH hy.2 fun z hz => hk z (List.mem_cons_of_mem _ hz)⟩
      rcases Hn.1 hz with rfl | hz
      · exact ⟨by omega, hk y (List.mem_cons_self ..)⟩
      · exact hy.1 z hz
theorem I6 {v : Rl} : ∀ {t : List Rl}, (∀ x ∈ t, ¬ x.1 < v.1) → C9 v t = t ++ [v]
  | [], _ => rfl
  | y :: t, h => by
    unfold C9
    rw [if_neg (h y (List.mem_cons_self ..)), I6 fun x hx => h x (List.mem_cons_of_mem _ hx)]; rfl
theorem Kt {v : Rl} : ∀ {t : List Rl} {j : Nat} {x : Rl}, t[j]? = some x → x.1 < v.1 → (∀ (i : Nat) (y : Rl), i < j → t[i]? = some y → ¬ y.1 < v.1) → C9 v t = t.take j ++ v :: t.drop j
  | [], j, x, h, _, _ => by simp at h
  | y :: t, 0, x, h, hx, _ => by
    obtain rfl : y = x := by simpa using h
    unfold C9; rw [if_pos hx]; rfl
  | y :: t, j + 1, x, h, hx, hb => by
    unfold C9
    rw [if_neg (hb 0 y (by omega) rfl), Kt (j := j) (x := x) (by simpa using h) hx fun i z hi hz => hb (i + 1) z (by omega) (by simpa using hz)]; rfl
theorem LW (k : Bool) (r x : Rl) : (rp k r x).1 = x.1 ∧ (rp k r x).2.1 = x.2.1 := by
  unfold rp
  by_cases c : Pm k r x = true
  · rw [if_pos c]; exact ⟨rfl, rfl⟩
  · rw [if_neg c]; exact ⟨rfl, rfl⟩
theorem NY {ports : Int} {r x : Rl} (k : Bool) (hr : Hq ports r) (hx : Hq ports x) : Hq ports (rp k r x) := by
  unfold rp
  by_cases c : Pm k r x = true
  · rw [if_pos c]; exact ⟨hx.1, hx.2.1, hr.2.2⟩
  · rw [if_neg c]; exact hx
theorem Ns {ports room : Int} {t : List Rl} (k : Bool) {r : Rl} (h : Lp ports room t) (hr : Hq ports r) : Lp ports room (t.map (rp k r)) := by
  refine ⟨by rw [List.length_map]; exact h.1, fun x hx => ?_, List.pairwise_map.2 (h.2.2.imp fun {a b} hab => ?_)⟩
  · obtain ⟨y, hy, rfl⟩ := List.mem_map.1 hx
    exact NY k hr (h.2.1 y hy)
  · have ha := LW k r a
    have hb := LW k r b
    refine ⟨by rw [ha.1, hb.1]; exact hab.1, fun e => hab.2 ⟨?_, ?_⟩⟩
    · rw [← ha.1, ← hb.1]; exact e.1
    · rw [← ha.2, ← hb.2]; exact e.2
theorem KZ {ports room : Int} {t : List Rl} (p : Rl → Bool) (h : Lp ports room t) : Lp ports room (t.filter p) :=
  ⟨by have := List.length_filter_le p t; have := h.1; omega, fun x hx => h.2.1 x (List.mem_filter.1 hx).1, h.2.2.sublist List.filter_sublist⟩
theorem Np {ports room : Int} {t : List Rl} (m : Md) (h : Lp ports room t) : Lp ports room (G9 t m ports room).1 ∧ (G9 t m ports room).1.length ≤ t.length + 1 := by
  have h0 : Lp ports room t ∧ t.length ≤ t.length + 1 := ⟨h, by omega⟩
  have hm : ∀ k, Hq ports m.2.1 → Lp ports room (t.map (rp k m.2.1)) ∧ (t.map (rp k m.2.1)).length ≤ t.length + 1 := fun k hr => ⟨Ns k h hr, by rw [List.length_map]; omega⟩
  have hf : ∀ p : Rl → Bool, Lp ports room (t.filter p) ∧ (t.filter p).length ≤ t.length + 1 := fun p => ⟨KZ p h, by have := List.length_filter_le p t; omega⟩
  unfold G9
  by_cases hr : Hq ports m.2.1
  · rw [if_neg (fun hc => hc hr)]
    by_cases c1 : m.1 = 1
    · rw [if_pos c1]
      by_cases d1 : m.2.2 = true ∧ ∃ x ∈ t, M7 x m.2.1
      · rw [if_pos d1]; exact h0
      · rw [if_neg d1]
        by_cases d2 : GG t m.2.1
        · rw [if_pos d2]; exact hm true hr
        · rw [if_neg d2]
          by_cases d3 : room ≤ (t.length : Int)
          · rw [if_pos d3]; exact h0
          · rw [if_neg d3]
            refine ⟨⟨by rw [G0]; omega, fun x hx => ?_, KH h.2.2 fun y hy e => d2 ⟨y, hy, e⟩⟩, by rw [G0]; omega⟩
            rcases Hn.1 hx with rfl | hx
            · exact hr
            · exact h.2.1 x hx
    · rw [if_neg c1]
      by_cases c2 : m.1 = 2
      · rw [if_pos c2]; exact hm false hr
      · rw [if_neg c2]
        by_cases c3 : m.1 = 3
        · rw [if_pos c3]
          by_cases d2 : GG t m.2.1
          · rw [if_pos d2]; exact hm true hr
          · rw [if_neg d2]; exact h0
        · rw [if_neg c3]
          by_cases c4 : m.1 = 4
          · rw [if_pos c4]; exact hf _
          · rw [if_neg c4]
            by_cases c5 : m.1 = 5
            · rw [if_pos c5]
              by_cases d2 : GG t m.2.1
              · rw [if_pos d2]; exact hf _
              · rw [if_neg d2]; exact h0
            · rw [if_neg c5]; exact h0
  · rw [if_pos hr]; exact h0
theorem Gy {x : Rl} (h : x.2.2.length ≤ 1000) : Bv x = some x := by
  unfold Bv Bm
  rw [Ib (by simp; omega)]; rfl
theorem Ho {α : Type} (l : List α) (i : Nat) (x : α) : Dq l (i : Int) x = l.set i x := by unfold Dq; rw [Int.toNat_natCast]
theorem Ls {t : List Rl} (hl : t.length ≤ 1000) (hA : ∀ x ∈ t, x.2.2.length ≤ 1000) : Cw t = some t := by
  unfold Cw
  rw [M3 (by omega), Option.bind_some]
  have e : GM (List.replicate ((t.length : Int)).toNat ((0, (0, (0, 0, 0, 0), (0, 0, 0, 0)), []) : Rl)) 0 (min t.length (List.replicate ((t.length : Int)).toNat ((0, (0, (0, 0, 0, 0), (0, 0, 0, 0)), []) : Rl)).length) t = t := by
    unfold GM
    rw [List.length_replicate, Int.toNat_natCast, Nat.min_self, List.take_length, List.drop_eq_nil_of_le (by simp)]
    simp
  rw [e, Iv t (by omega) (fun x => x) _ (fun k hk m hm hx => by
    rw [CF, e, if_pos (by omega), Cg hx, Option.bind_some, Gy (hA _ (List.getElem_mem hk)), Option.bind_some, Option.bind_some, Ho]) (fun m hm => by rw [CF, e, if_neg (by omega)]), List.map_id']; rfl
theorem Hz (x r : Rl) : BL x r = decide (kq x r) := by
  unfold BL
  rw [Kc]
  exact decide_eq_decide.2 ⟨fun h => ⟨h.1.symm, h.2.symm⟩, fun h => ⟨h.1.symm, h.2.symm⟩⟩
theorem GQ {x r : Rl} (hx : FI x.2.1) (hr : FI r.2.1) : Ca x r = some (decide (WI x.2.1 r.2.1)) := by
  unfold Ca
  rw [Lo hx hr]; rfl
theorem KT {α : Type} (P : α → Bool) (l : List α) [Decidable (∃ x ∈ l, P x = true)] : decide (0 ≤ Ge P l 0) = decide (∃ x ∈ l, P x = true) := by
  rcases Er P l 0 with ⟨h1, h2⟩ | ⟨j, x, h1, h2, h3, h4⟩
  · rw [h1, decide_eq_false (p := ∃ x ∈ l, P x = true) (fun ⟨x, hx, h⟩ => by rw [h2 x hx] at h; cases h)]; rfl
  · rw [h3, decide_eq_true (show ∃ x ∈ l, P x = true from ⟨x, List.mem_of_getElem? h1, h2⟩), decide_eq_true (by omega)]
section
variable {t : List Rl} (hl : t.length ≤ 1000) {ports : Int} (hok : ∀ x ∈ t, Hq ports x) {r : Rl} (hr : Hq ports r)
include hl
theorem Kw (r : Rl) : AP t r = some (Ge (Pm true r) t 0) := by
  unfold AP
  rw [FL t (by omega) (Pm true r) (AX t r) (fun k hk => by
    rw [AX, if_pos (by omega), Cg (List.getElem?_eq_getElem hk), Option.bind_some, Hz]; rfl) (by rw [AX, if_neg (by omega)])]
theorem MI (m : Md) : AQ t m = some (Ge (fun x => decide (x.1 < m.2.1.1)) t 0) := by
  unfold AQ
  rw [FL t (by omega) (fun x => decide (x.1 < m.2.1.1)) (AU t m) (fun k hk => by
    rw [AU, if_pos (by omega), Cg (List.getElem?_eq_getElem hk), Option.bind_some]; rfl) (by rw [AU, if_neg (by omega)])]
include hok hr
theorem ML : A4 t r = some (Ge (Pm false r) t 0) := by
  unfold A4
  rw [FL t (by omega) (Pm false r) (AW t r) (fun k hk => by
    rw [AW, if_pos (by omega), Cg (List.getElem?_eq_getElem hk), Option.bind_some, GQ (hok _ (List.getElem_mem hk)).2.1 hr.2.1, Option.bind_some]; rfl) (by rw [AW, if_neg (by omega)])]
theorem MU (c : Int) (b : Bool) : A7 t (c, r, b) = some (Ge (fun x => decide (M7 x r)) t 0) := by
  unfold A7
  rw [FL t (by omega) (fun x => decide (M7 x r)) (A0 t (c, r, b)) (fun k hk => by
    rw [A0, if_pos (by omega), Cg (List.getElem?_eq_getElem hk), Option.bind_some]
    unfold DX
    rw [MN (hok _ (List.getElem_mem hk)).2.1 hr.2.1, Option.bind_some, Option.bind_some]) (by rw [A0, if_neg (by omega)])]
omit hok in
theorem J7 : B8 t r r = some (t.map (rp true r)) := by
  unfold B8
  rw [Iv t (by omega) (rp true r) _ (fun k hk m hm hx => by
    rw [Cz, if_pos (by omega), Cg hx, Option.bind_some, Hz]
    have hc := Gy (x := r) (by have := hr.2.2.1; omega)
    change (Option.bind (if Pm true r t[k] = true then _ else _) _) = _
    unfold rp
    by_cases c : Pm true r t[k] = true
    · rw [if_pos c, if_pos c, hc, Option.bind_some, Option.bind_some, Ho]; rfl
    · rw [if_neg c, if_neg c, Option.bind_some, Ka hx]) (fun m hm => by rw [Cz, if_neg (by omega)])]; rfl
theorem LB : Cf t r r = some (t.map (rp false r)) := by
  unfold Cf
  rw [Iv t (by omega) (rp false r) _ (fun k hk m hm hx => by
    rw [Cj, if_pos (by omega), Cg hx, Option.bind_some, GQ (hok _ (List.getElem_mem hk)).2.1 hr.2.1, Option.bind_some]
    have hc := Gy (x := r) (by have := hr.2.2.1; omega)
    change (Option.bind (if Pm false r t[k] = true then _ else _) _) = _
    unfold rp
    by_cases c : Pm false r t[k] = true
    · rw [if_pos c, if_pos c, hc, Option.bind_some, Option.bind_some, Ho]; rfl
    · rw [if_neg c, if_neg c, Option.bind_some, Ka hx]) (fun m hm => by rw [Cj, if_neg (by omega)])]; rfl
end
theorem KO {α : Type} (z : α) {m l : List α} {w : Nat} (hm : m.length = l.length) (hw : w ≤ l.length) {P : α → Bool} (ht : m.take w = l.filter (fun x => !P x)) :
    ((DJ m (w : Int) (m.length : Int)).bind fun x11 => (Mw m (w : Int) (List.replicate (x11.length) z)).bind fun x12 => (DJ x12 0 (w : Int)).bind fun x13 => some x13) = some (l.filter (fun x => !P x)) := by
  rw [GC (by omega), Option.bind_some]
  have e1 : ((m.take ((m.length : Int)).toNat).drop ((w : Int)).toNat).length = m.length - w := by rw [Int.toNat_natCast, Int.toNat_natCast, List.take_length, List.length_drop]
  rw [e1]
  have e2 : Mw m (w : Int) (List.replicate (m.length - w) z) = some (m.take w ++ List.replicate (m.length - w) z ++ m.drop (w + (m.length - w))) := by
    unfold Mw
    rw [if_pos (by rw [List.length_replicate]; omega), Int.toNat_natCast, List.length_replicate]
  rw [e2, Option.bind_some, GC (by simp; omega), Option.bind_some, Int.toNat_natCast]
  rw [← ht]
  congr 1
  rw [List.append_assoc, List.take_append_of_le_length (by rw [List.length_take]; omega), List.take_take, Nat.min_self]; rfl
section
variable {t : List Rl} (hl : t.length ≤ 1000) {ports : Int} (hok : ∀ x ∈ t, Hq ports x) {r : Rl} (hr : Hq ports r)
include hl
theorem MT (r : Rl) : AM t r = some (t.filter (fun x => !Pm true r x)) := by
  unfold AM
  rw [Kw hl, Option.bind_some]
  rcases Er (Pm true r) t 0 with ⟨h1, h2⟩ | ⟨j, x, h1, h2, h3, h4⟩
  · rw [if_pos h1, List.filter_eq_self.2 fun x hx => by rw [h2 x hx]; rfl]
  · have hj := (List.getElem?_eq_some_iff.1 h1).1
    have hx : t[j] = x := (List.getElem?_eq_some_iff.1 h1).2
    obtain ⟨m, w, g1, g2, g3, g4⟩ := JU t (by omega) (Pm true r) (AR r) (fun k w hk m hm hw hxk => by
      rw [AR, if_pos (by omega), Cg hxk, Option.bind_some, Hz]
      change (Option.bind (if (!Pm true r t[k]) = true then _ else _) _) = _
      obtain ⟨y, hy⟩ : ∃ y, m[w]? = some y := ⟨m[w]'(by omega), List.getElem?_eq_getElem (by omega)⟩
      by_cases c : Pm true r t[k] = true
      · rw [c, if_neg (by decide), if_pos rfl]; rfl
      · rw [if_pos (by simpa using c), if_neg c, Cg hy, Option.bind_some, Ho]; rfl) (fun m w hm => by rw [AR, if_neg (by omega)]) hj h4 (by rw [hx]; exact h2)
    rw [h3, Nat.zero_add, if_neg (by omega), g1, Option.bind_some]
    exact KO _ g2 g3 g4
include hok hr
theorem ME : AS t r = some (t.filter (fun x => !Pm false r x)) := by
  unfold AS
  rw [ML hl hok hr, Option.bind_some]
  rcases Er (Pm false r) t 0 with ⟨h1, h2⟩ | ⟨j, x, h1, h2, h3, h4⟩
  · rw [if_pos h1, List.filter_eq_self.2 fun x hx => by rw [h2 x hx]; rfl]
  · have hj := (List.getElem?_eq_some_iff.1 h1).1
    have hx : t[j] = x := (List.getElem?_eq_some_iff.1 h1).2
    obtain ⟨m, w, g1, g2, g3, g4⟩ := JU t (by omega) (Pm false r) (AZ r) (fun k w hk m hm hw hxk => by
      rw [AZ, if_pos (by omega), Cg hxk, Option.bind_some, GQ (hok _ (List.getElem_mem hk)).2.1 hr.2.1, Option.bind_some]
      change (Option.bind (if (!Pm false r t[k]) = true then _ else _) _) = _
      obtain ⟨y, hy⟩ : ∃ y, m[w]? = some y := ⟨m[w]'(by omega), List.getElem?_eq_getElem (by omega)⟩
      by_cases c : Pm false r t[k] = true
      · rw [c, if_neg (by decide), if_pos rfl]; rfl
      · rw [if_pos (by simpa using c), if_neg c, Cg hy, Option.bind_some, Ho]; rfl) (fun m w hm => by rw [AZ, if_neg (by omega)]) hj h4 (by rw [hx]; exact h2)
    rw [h3, Nat.zero_add, if_neg (by omega), g1, Option.bind_some]
    exact KO _ g2 g3 g4
end
theorem Me {a b : Nat} (h : a < b) : M5 a b = some () := by unfold M5; rw [if_pos h]
theorem I2 {t : List Rl} (hl : t.length ≤ 1000) {i : Nat} (hi : i ≤ t.length) (v : Rl) : A6 t (i : Int) [v] = some (t.take i ++ v :: t.drop i) := by
  unfold A6
  rw [GC (by omega), Option.bind_some, if_neg (by simp)]
  by_cases c : i = t.length
  · subst c
    rw [if_pos rfl, Me (by simp), Option.bind_some, Ib (by simp; omega), List.take_length, List.drop_length]; rfl
  · have hw1 : CA ((t.length : Int) + (([v] : List Rl).length : Int)) = (t.length : Int) + 1 := BW (by simp; omega)
    have hw2 : CA ((t.length : Int) + 1 - (i : Int)) = ((t.length + 1 - i : Nat) : Int) := by rw [BW (by omega)]; omega
    have hw3 : CA ((i : Int) + (([v] : List Rl).length : Int)) = ((i + 1 : Nat) : Int) := by rw [BW (by simp; omega)]; rfl
    rw [if_neg (by omega), hw1, if_pos (by omega), GC (by omega), Option.bind_some, hw2, M3 (by omega), Option.bind_some, Int.toNat_natCast, Int.toNat_natCast]
    have e0 : (t.take i).drop (0 : Int).toNat = t.take i := rfl
    rw [e0, Me (by rw [List.length_take]; omega), Option.bind_some, Ib (by simp; omega), Option.bind_some, GC (by simp; omega), Option.bind_some, Int.toNat_natCast, Int.toNat_natCast]
    generalize hz : ((0, (0, (0, 0, 0, 0), (0, 0, 0, 0)), []) : Rl) = z
    have hX : (t.take i ++ List.replicate (t.length + 1 - i) z).length = t.length + 1 := by simp; omega
    rw [hw3, List.take_length, List.length_drop, hX]
    have m1 : min ([v] : List Rl).length (t.length + 1 - i) = 1 := by simp; omega
    rw [m1]
    have hlen : (t.take i).length = i := by rw [List.length_take]; omega
    have c1 : GM (t.take i ++ List.replicate (t.length + 1 - i) z) (i : Int) 1 [v] = t.take i ++ v :: List.replicate (t.length - i) z := by
      unfold GM
      rw [Int.toNat_natCast, List.take_append_of_le_length (by omega), List.take_of_length_le (l := t.take i) (by omega), List.drop_append, List.drop_eq_nil_of_le (by omega), hlen, List.drop_replicate]
      rw [show t.length + 1 - i - (i + 1 - i) = t.length - i by omega]
      simp
    rw [c1]
    have hY : (t.take i ++ v :: List.replicate (t.length - i) z).length = t.length + 1 := by simp; omega
    rw [hY, GC (by rw [hY]; omega), Option.bind_some, Option.bind_some]
    congr 1
    have m2 : min ((t.take ((t.length : Int)).toNat).drop i).length (((t.take i ++ v :: List.replicate (t.length - i) z).take (((t.length + 1 : Nat) : Int)).toNat).drop (((i + 1 : Nat) : Int)).toNat).length = t.length - i := by
      simp; omega
    rw [m2]
    unfold GM
    rw [Int.toNat_natCast, Int.toNat_natCast, List.take_length]
    have e1 : (t.take i ++ v :: List.replicate (t.length - i) z).take (i + 1) = t.take i ++ [v] := by
      rw [List.take_append, hlen, List.take_of_length_le (l := t.take i) (by omega), show i + 1 - i = 1 by omega]; rfl
    have e3 : (t.take i ++ v :: List.replicate (t.length - i) z).drop (i + 1 + (t.length - i)) = [] := List.drop_eq_nil_of_le (by rw [hY]; omega)
    have e4 : (t.drop i).take (t.length - i) = t.drop i := List.take_of_length_le (by rw [List.length_drop]; omega)
    rw [e1, e3, e4]
    simp
theorem Mb {t : List Rl} {r : Rl} : (∃ x ∈ t, Pm true r x = true) ↔ GG t r := by
  constructor
  · rintro ⟨x, hx, h⟩; exact ⟨x, hx, of_decide_eq_true h⟩
  · rintro ⟨x, hx, h⟩; exact ⟨x, hx, decide_eq_true h⟩
theorem JR {t : List Rl} (hl : t.length ≤ 1000) (r : Rl) : Az t r = some (decide (GG t r)) := by
  have hd : Decidable (∃ x ∈ t, Pm true r x = true) := Classical.propDecidable _
  unfold Az
  rw [Kw hl, Option.bind_some, KT]
  congr 1
  exact decide_eq_decide.2 Mb
theorem Lx {t : List Rl} (hl : t.length ≤ 1000) {ports : Int} (hok : ∀ x ∈ t, Hq ports x) {r : Rl} (hr : Hq ports r) (c : Int) (b : Bool) : AN t (c, r, b) = some (decide (∃ x ∈ t, M7 x r)) := by
  have hd : Decidable (∃ x ∈ t, decide (M7 x r) = true) := Classical.propDecidable _
  unfold AN
  rw [MU hl hok hr, Option.bind_some, KT]
  congr 1
  exact decide_eq_decide.2 ⟨fun ⟨x, h1, h2⟩ => ⟨x, h1, of_decide_eq_true h2⟩, fun ⟨x, h1, h2⟩ => ⟨x, h1, decide_eq_true h2⟩⟩
theorem Nx {t : List Rl} (hl : t.length ≤ 999) {ports room : Int} (hok : ∀ x ∈ t, Hq ports x) {r : Rl} (hr : Hq ports r) (b : Bool) : Eo t (1, r, b) room = some (G9 t (1, r, b) ports room) := by
  have hap : G9 t (1, r, b) ports room = (if b = true ∧ ∃ x ∈ t, M7 x r then (t, 14) else if GG t r then (t.map (rp true r), 0) else if room ≤ (t.length : Int) then (t, 6) else (C9 r t, 0)) := by
    unfold G9
    rw [if_neg (fun hc => hc hr), if_pos rfl]
  rw [hap]
  have hco := Lx (by omega) hok hr 1 true
  have hck := JR (t := t) (by omega) r
  have hrep := J7 (t := t) (by omega) hr
  unfold Eo Ab
  show Option.bind (if b = true then (AN t (1, r, true)).bind _ else _) _ = _
  rw [hco]
  have key : ∀ b' : Bool, (if false = true then some (t, (14 : Int)) else (Az t r).bind fun x4 => (if x4 = true then (B8 t r r).bind fun x5 => some (x5, 0) else (if room ≤ (t.length : Int) then some (t, 6) else (AQ t (1, r, b')).bind fun x6 => (if x6 < 0 then some (t.length : Int) else some x6).bind fun x7 => (Bv r).bind fun x8 => (A6 t x7 ([x8] : List (Rl))).bind fun x9 => some (x9, 0)))) = some (if GG t r then (t.map (rp true r), 0) else if room ≤ (t.length : Int) then (t, 6) else (C9 r t, 0)) := fun b' => by
    rw [if_neg (by decide), hck, Option.bind_some]
    by_cases d2 : GG t r
    · rw [decide_eq_true d2, if_pos rfl, hrep, Option.bind_some, if_pos d2]
    · rw [decide_eq_false d2, if_neg (by decide), if_neg d2]
      by_cases d3 : room ≤ (t.length : Int)
      · rw [if_pos d3, if_pos d3]
      · rw [if_neg d3, if_neg d3, MI (by omega), Option.bind_some]
        rcases Er (fun x : Rl => decide (x.1 < r.1)) t 0 with ⟨h1, h2⟩ | ⟨j, x, h1, h2, h3, h4⟩
        · rw [h1, if_pos (by decide), Option.bind_some, Gy (by have := hr.2.2.1; omega), Option.bind_some, I2 (by omega) (Nat.le_refl _), Option.bind_some, I6 fun x hx => of_decide_eq_false (h2 x hx), List.take_length, List.drop_length]
        · have hj := (List.getElem?_eq_some_iff.1 h1).1
          rw [h3, if_neg (by omega), Option.bind_some, Gy (by have := hr.2.2.1; omega), Option.bind_some, Nat.zero_add, I2 (by omega) (by omega), Option.bind_some, Kt h1 (of_decide_eq_true h2) fun i y hi hy => of_decide_eq_false (h4 i y hi hy)]
  cases b with
  | true =>
    rw [if_pos rfl, Option.bind_some, Option.bind_some]
    by_cases d1 : ∃ x ∈ t, M7 x r
    · rw [if_pos ⟨rfl, d1⟩, decide_eq_true d1]; rfl
    · rw [if_neg (fun h => d1 h.2), decide_eq_false d1]
      exact key true
  | false =>
    rw [if_neg (by decide), if_neg (fun h => by cases h.1), Option.bind_some]
    exact key false
theorem JN {t : List Rl} (hl : t.length ≤ 999) {ports room : Int} (hok : ∀ x ∈ t, Hq ports x) (m : Md) (hI : I4 m.2.1.2.1.2.1) : Cx t m ports room = some (G9 t m ports room) := by
  obtain ⟨c, r, b⟩ := m
  have hcp := Ls (t := t) (by omega) (fun x hx => by have := (hok x hx).2.2.1; omega)
  unfold Cx Ab Aj
  rw [hcp, Option.bind_some, MJ hI, Option.bind_some]
  by_cases hr : Hq ports r
  · have hck := JR (t := t) (by omega) r
    have hrep := J7 (t := t) (by omega) hr
    have hrp2 := LB (t := t) (by omega) hok hr
    have hd1 := ME (t := t) (by omega) hok hr
    have hd2 := MT (t := t) (by omega) r
    rw [decide_eq_true hr, if_neg (by decide)]
    by_cases c1 : c = 1
    · subst c1
      have he : NN t.length (((t.length : Int)).toNat) = some () := by unfold NN; rw [if_pos (by omega)]
      rw [if_pos rfl, he, Option.bind_some, Nx hl hok hr, Option.bind_some]
    · have hap : G9 t (c, r, b) ports room = (if c = 2 then (t.map (rp false r), 0) else if c = 3 then (if GG t r then (t.map (rp true r), 0) else (t, 7)) else if c = 4 then (t.filter (fun x => !Pm false r x), 0) else if c = 5 then (if GG t r then (t.filter (fun x => !Pm true r x), 0) else (t, 7)) else (t, 2)) := by
        unfold G9
        rw [if_neg (fun hc => hc hr), if_neg c1]
      rw [hap, if_neg c1]
      by_cases c2 : c = 2
      · rw [if_pos c2, if_pos c2]
        show Option.bind (Cf t r r) _ = _
        rw [hrp2]; rfl
      · rw [if_neg c2, if_neg c2]
        by_cases c3 : c = 3
        · rw [if_pos c3, if_pos c3]
          show Option.bind (Az t r) (fun x6 => if (!x6) = true then _ else Option.bind (B8 t r r) _) = _
          rw [hck, Option.bind_some]
          by_cases d2 : GG t r
          · rw [decide_eq_true d2, if_neg (by decide), if_pos d2, hrep]; rfl
          · rw [decide_eq_false d2, if_pos (by decide), if_neg d2]
        · rw [if_neg c3, if_neg c3]
          by_cases c4 : c = 4
          · rw [if_pos c4, if_pos c4]
            show Option.bind (AS t r) _ = _
            rw [hd1]; rfl
          · rw [if_neg c4, if_neg c4]
            by_cases c5 : c = 5
            · rw [if_pos c5, if_pos c5]
              show Option.bind (Az t r) (fun x6 => if (!x6) = true then _ else Option.bind (AM t r) _) = _
              rw [hck, Option.bind_some]
              by_cases d2 : GG t r
              · rw [decide_eq_true d2, if_neg (by decide), if_pos d2, hd2]; rfl
              · rw [decide_eq_false d2, if_pos (by decide), if_neg d2]
            · rw [if_neg c5, if_neg c5]
  · rw [decide_eq_false hr, if_pos (by decide)]
    unfold G9
    rw [if_pos hr]
theorem Ix {t : List Rl} (hl : t.length ≤ 1000) (hA : ∀ x ∈ t, x.2.2.length ≤ 1000) : El t t = some true := by
  unfold El
  rw [if_neg (by simp), FJ t (by omega) (D4 t t) (fun _ => False) false (fun k hk => by
    have hm := hA _ (List.getElem_mem hk)
    rw [D4, if_pos (by omega), Cg (List.getElem?_eq_getElem hk), Option.bind_some, Option.bind_some, Jm (by omega), decide_eq_true (MF.2 rfl), Option.bind_some, if_neg (by decide), if_neg (by simp)]) (by rw [D4, if_neg (by omega)]), if_neg (by simp), Ju]
end Go.Proofs.Ytkjjioigbpkifaa
