/- Layer 12: changes of tables. Conditions: none. -/
import Derived.Test.YtfnmlmglmegamaacM11
namespace Go.Proofs.Ytfnmlmglmegamaa
set_option linter.unusedVariables false
set_option linter.unusedSimpArgs false
set_option synthInstance.maxSize 1000
open Go Go.RowKit
theorem ID {α : Type} (l : List α) (hl : l.length ≤ 1000000) (f : α → α) (step : List α × Int → Option ((List α × Int) ⊕ List α))
    (hs : ∀ (k : Nat) (hk : k < l.length) (m : List α), m.length = l.length → m[k]? = some l[k] → step (m, (k : Int)) = some (.inl (m.set k (f l[k]), Cs ((k : Int) + 1))))
    (he : ∀ m, m.length = l.length → step (m, (l.length : Int)) = some (.inr m)) : AJ step (l, 0) = some (l.map f) := by
  obtain ⟨s, h1, h2⟩ := Hd l.length (fun (m : List α) (k : Nat) => (m, (k : Int))) step id (fun m k => m.length = l.length ∧ ∀ j, m[j]? = if j < k then (l[j]?).map f else l[j]?) (fun m k hk hI => by
    refine ⟨m.set k (f l[k]), ?_, ?_, fun j => ?_⟩
    · rw [hs k hk m hI.1 (by rw [hI.2, if_neg (by omega), List.getElem?_eq_getElem hk]), Bg (by omega)]; rfl
    · rw [List.length_set]; exact hI.1
    · rw [List.getElem?_set]
      by_cases c : k = j
      · subst c
        rw [if_pos rfl, if_pos (by rw [hI.1]; exact hk), if_pos (by omega), List.getElem?_eq_getElem hk]; rfl
      · rw [if_neg c, hI.2]
        by_cases d : j < k
        · rw [if_pos d, if_pos (by omega)]
        · rw [if_neg d, if_neg (by omega)]) (fun m hI => he m hI.1) l ⟨rfl, fun j => by rw [if_neg (by omega)]⟩
  refine h2.trans ?_
  congr 1
  refine List.ext_getElem? fun j => ?_
  show s[j]? = _
  rw [h1.2, List.getElem?_map]
  by_cases c : j < l.length
  · rw [if_pos c]
  · rw [if_neg c, List.getElem?_eq_none (by omega)]; rfl
theorem Ko {α : Type} {m : List α} {k : Nat} {x : α} (h : m[k]? = some x) : m.set k x = m := by
  refine List.ext_getElem? fun j => ?_
  rw [List.getElem?_set]
  by_cases c : k = j
  · subst c
    rw [if_pos rfl, if_pos (List.getElem?_eq_some_iff.1 h).1, h]
  · rw [if_neg c]
theorem Kf {α : Type} (l : List α) (hl : l.length ≤ 1000000) (P : α → Bool) (step : List α × Int × Int → Option ((List α × Int × Int) ⊕ (List α × Int)))
    (hs : ∀ (k w : Nat) (hk : k < l.length) (m : List α), m.length = l.length → w < k → m[k]? = some l[k] → step (m, (w : Int), (k : Int)) = some (.inl (if P l[k] = true then (m, (w : Int), Cs ((k : Int) + 1)) else (m.set w l[k], Cs ((w : Int) + 1), Cs ((k : Int) + 1)))))
    (he : ∀ m (w : Int), m.length = l.length → step (m, w, (l.length : Int)) = some (.inr (m, w))) {i : Nat} (hi : i < l.length) (h0 : ∀ (j : Nat) (y : α), j < i → l[j]? = some y → P y = false) (h1 : P l[i] = true) :
    ∃ (m : List α) (w : Nat), AJ step (l, (i : Int), Cs ((i : Int) + 1)) = some (m, (w : Int)) ∧ m.length = l.length ∧ w ≤ l.length ∧ m.take w = l.filter (fun x => !P x) := by
  have key : ∀ (d k w : Nat) (m : List α), k + d = l.length → m.length = l.length → w < k → (∀ j, k ≤ j → m[j]? = l[j]?) → m.take w = (l.take k).filter (fun x => !P x) →
      ∃ (m' : List α) (w' : Nat), AJ step (m, (w : Int), (k : Int)) = some (m', (w' : Int)) ∧ m'.length = l.length ∧ w' ≤ l.length ∧ m'.take w' = l.filter (fun x => !P x) := by
    intro d
    induction d with
    | zero =>
      intro k w m hk hm hw hj ht
      obtain rfl : k = l.length := by omega
      exact ⟨m, w, Bw (he m _ hm), hm, by omega, by rw [ht, List.take_length]⟩
    | succ d ih =>
      intro k w m hk hm hw hj ht
      have hk2 : k < l.length := by omega
      have hx : m[k]? = some l[k] := by rw [hj k (Nat.le_refl _), List.getElem?_eq_getElem hk2]
      have hstep := hs k w hk2 m hm hw hx
      rw [Bg (by omega), Bg (by omega)] at hstep
      have htk : (l.take (k + 1)).filter (fun x => !P x) = (l.take k).filter (fun x => !P x) ++ (if P l[k] = true then [] else [l[k]]) := by
        rw [List.take_succ_eq_append_getElem hk2, List.filter_append]
        congr 1
        by_cases c : P l[k] = true
        · rw [if_pos c]; simp [c]
        · rw [if_neg c]; simp [c]
      by_cases c : P l[k] = true
      · rw [if_pos c] at hstep
        rw [BG hstep]
        exact ih (k + 1) w m (by omega) hm (by omega) (fun j h => hj j (by omega)) (by rw [htk, if_pos c, List.append_nil]; exact ht)
      · rw [if_neg c] at hstep
        rw [BG hstep]
        refine ih (k + 1) (w + 1) (m.set w l[k]) (by omega) (by rw [List.length_set]; exact hm) (by omega) (fun j h => by rw [List.getElem?_set, if_neg (by omega)]; exact hj j (by omega)) ?_
        rw [htk, if_neg c, ← ht]
        refine List.ext_getElem? fun j => ?_
        rw [List.getElem?_take]
        by_cases c1 : j < w + 1
        · rw [if_pos c1, List.getElem?_set]
          by_cases c2 : w = j
          · subst c2
            rw [if_pos rfl, if_pos (by omega), List.getElem?_append_right (by rw [List.length_take]; omega), List.length_take, Nat.min_eq_left (by omega), Nat.sub_self]; rfl
          · rw [if_neg c2, List.getElem?_append_left (by rw [List.length_take]; omega), List.getElem?_take, if_pos (by omega)]
        · rw [if_neg c1, List.getElem?_append_right (by rw [List.length_take]; omega), List.length_take, Nat.min_eq_left (by omega), List.getElem?_eq_none (by simp; omega)]
  have hp : (l.take i).filter (fun x => !P x) = l.take i := List.filter_eq_self.2 fun x hx => by
    obtain ⟨j, hj, e⟩ := List.getElem_of_mem hx
    rw [List.length_take] at hj
    have := h0 j x (by omega) (by rw [← e, List.getElem_take, List.getElem?_eq_getElem])
    simp [this]
  have hw : Cs ((i : Int) + 1) = ((i + 1 : Nat) : Int) := by rw [Bg (by omega)]; rfl
  rw [hw]
  refine key (l.length - (i + 1)) (i + 1) i l (by omega) rfl (by omega) (fun _ _ => rfl) ?_
  rw [List.take_succ_eq_append_getElem hi, List.filter_append, hp]
  simp [h1]
abbrev Md := Int × Rl × Bool
def Pm (k : Bool) (r x : Rl) : Bool := if k = true then decide (kq x r) else decide (WI x.2.1 r.2.1)
def rp (k : Bool) (r x : Rl) : Rl := if Pm k r x = true then (x.1, x.2.1, r.2.2) else x
abbrev KC (x r : Rl) : Prop := x.1 = r.1 ∧ x.2.1 ≠ r.2.1 ∧ ¬ GT x.2.1 r.2.1
def Eu (v : Rl) : List Rl → List Rl
  | [] => [v]
  | x :: t => if x.1 < v.1 then v :: x :: t else x :: Eu v t
abbrev EM (t : List Rl) (r : Rl) : Prop := ∃ x ∈ t, kq x r
open Classical in
noncomputable def DK (t : List Rl) (m : Md) (ports room : Int) : List Rl × Int :=
  if ¬ Hn ports m.2.1 then (t, 2)
  else if m.1 = 1 then (if m.2.2 = true ∧ ∃ x ∈ t, KC x m.2.1 then (t, 14) else if EM t m.2.1 then (t.map (rp true m.2.1), 0) else if room ≤ (t.length : Int) then (t, 6) else (Eu m.2.1 t, 0))
  else if m.1 = 2 then (t.map (rp false m.2.1), 0)
  else if m.1 = 3 then (if EM t m.2.1 then (t.map (rp true m.2.1), 0) else (t, 7))
  else if m.1 = 4 then (t.filter (fun x => !Pm false m.2.1 x), 0)
  else if m.1 = 5 then (if EM t m.2.1 then (t.filter (fun x => !Pm true m.2.1 x), 0) else (t, 7))
  else (t, 2)
theorem IG {v x : Rl} : ∀ {t : List Rl}, x ∈ Eu v t ↔ x = v ∨ x ∈ t
  | [] => by unfold Eu; simp
  | y :: t => by
    unfold Eu
    by_cases c : y.1 < v.1
    · rw [if_pos c]; simp
    · rw [if_neg c, List.mem_cons, IG, List.mem_cons]
      constructor
      · rintro (h | h | h)
        · exact .inr (.inl h)
        · exact .inl h
        · exact .inr (.inr h)
      · rintro (h | h | h)
        · exact .inr (.inl h)
        · exact .inl h
        · exact .inr (.inr h)
theorem Iz {v : Rl} : ∀ (t : List Rl), (Eu v t).length = t.length + 1
  | [] => rfl
  | y :: t => by
    unfold Eu
    by_cases c : y.1 < v.1
    · rw [if_pos c]; rfl
    · rw [if_neg c, List.length_cons, Iz t]; rfl
theorem Li {v : Rl} : ∀ {t : List Rl}, t.Pairwise Bf → (∀ y ∈ t, ¬ kq y v) → (Eu v t).Pairwise Bf
  | [], _, _ => by unfold Eu; exact List.pairwise_singleton _ _
  | y :: t, h, hk => by
    have hy := List.pairwise_cons.1 h
    unfold Eu
    by_cases c : y.1 < v.1
    · rw [if_pos c]
      refine List.pairwise_cons.2 ⟨fun z hz => ?_, h⟩
      have hzv : z.1 ≤ y.1 := by
        rcases List.mem_cons.1 hz with rfl | hz
        · exact Int.le_refl _
        · exact (hy.1 z hz).1
      exact ⟨by omega, fun e => by have := e.1; omega⟩
    · rw [if_neg c]
      refine List.pairwise_cons.2 ⟨fun z hz => ?_, Li hy.2 fun z hz => hk z (List.mem_cons_of_mem _ hz)⟩
      rcases IG.1 hz with rfl | hz
      · exact ⟨by omega, hk y (List.mem_cons_self ..)⟩
      · exact hy.1 z hz
theorem Jk {v : Rl} : ∀ {t : List Rl}, (∀ x ∈ t, ¬ x.1 < v.1) → Eu v t = t ++ [v]
  | [], _ => rfl
  | y :: t, h => by
    unfold Eu
    rw [if_neg (h y (List.mem_cons_self ..)), Jk fun x hx => h x (List.mem_cons_of_mem _ hx)]; rfl
theorem LI {v : Rl} : ∀ {t : List Rl} {j : Nat} {x : Rl}, t[j]? = some x → x.1 < v.1 → (∀ (i : Nat) (y : Rl), i < j → t[i]? = some y → ¬ y.1 < v.1) → Eu v t = t.take j ++ v :: t.drop j
  | [], j, x, h, _, _ => by simp at h
  | y :: t, 0, x, h, hx, _ => by
    obtain rfl : y = x := by simpa using h
    unfold Eu; rw [if_pos hx]; rfl
  | y :: t, j + 1, x, h, hx, hb => by
    unfold Eu
    rw [if_neg (hb 0 y (by omega) rfl), LI (j := j) (x := x) (by simpa using h) hx fun i z hi hz => hb (i + 1) z (by omega) (by simpa using hz)]; rfl
theorem Mz (k : Bool) (r x : Rl) : (rp k r x).1 = x.1 ∧ (rp k r x).2.1 = x.2.1 := by
  unfold rp
  by_cases c : Pm k r x = true
  · rw [if_pos c]; exact ⟨rfl, rfl⟩
  · rw [if_neg c]; exact ⟨rfl, rfl⟩
theorem PS {ports : Int} {r x : Rl} (k : Bool) (hr : Hn ports r) (hx : Hn ports x) : Hn ports (rp k r x) := by
  unfold rp
  by_cases c : Pm k r x = true
  · rw [if_pos c]; exact ⟨hx.1, hx.2.1, hr.2.2⟩
  · rw [if_neg c]; exact hx
theorem Pf {ports room : Int} {t : List Rl} (k : Bool) {r : Rl} (h : IJ ports room t) (hr : Hn ports r) : IJ ports room (t.map (rp k r)) := by
  refine ⟨by rw [List.length_map]; exact h.1, fun x hx => ?_, List.pairwise_map.2 (h.2.2.imp fun {a b} hab => ?_)⟩
  · obtain ⟨y, hy, rfl⟩ := List.mem_map.1 hx
    exact PS k hr (h.2.1 y hy)
  · have ha := Mz k r a
    have hb := Mz k r b
    refine ⟨by rw [ha.1, hb.1]; exact hab.1, fun e => hab.2 ⟨?_, ?_⟩⟩
    · rw [← ha.1, ← hb.1]; exact e.1
    · rw [← ha.2, ← hb.2]; exact e.2
theorem LZ {ports room : Int} {t : List Rl} (p : Rl → Bool) (h : IJ ports room t) : IJ ports room (t.filter p) :=
  ⟨by have := List.length_filter_le p t; have := h.1; omega, fun x hx => h.2.1 x (List.mem_filter.1 hx).1, h.2.2.sublist List.filter_sublist⟩
theorem KI {ports room : Int} {t : List Rl} (m : Md) (h : IJ ports room t) : IJ ports room (DK t m ports room).1 ∧ (DK t m ports room).1.length ≤ t.length + 1 := by
  have h0 : IJ ports room t ∧ t.length ≤ t.length + 1 := ⟨h, by omega⟩
  have hm : ∀ k, Hn ports m.2.1 → IJ ports room (t.map (rp k m.2.1)) ∧ (t.map (rp k m.2.1)).length ≤ t.length + 1 := fun k hr => ⟨Pf k h hr, by rw [List.length_map]; omega⟩
  have hf : ∀ p : Rl → Bool, IJ ports room (t.filter p) ∧ (t.filter p).length ≤ t.length + 1 := fun p => ⟨LZ p h, by have := List.length_filter_le p t; omega⟩
  unfold DK
  by_cases hr : Hn ports m.2.1
  · rw [if_neg (fun hc => hc hr)]
    by_cases c1 : m.1 = 1
    · rw [if_pos c1]
      by_cases d1 : m.2.2 = true ∧ ∃ x ∈ t, KC x m.2.1
      · rw [if_pos d1]; exact h0
      · rw [if_neg d1]
        by_cases d2 : EM t m.2.1
        · rw [if_pos d2]; exact hm true hr
        · rw [if_neg d2]
          by_cases d3 : room ≤ (t.length : Int)
          · rw [if_pos d3]; exact h0
          · rw [if_neg d3]
            refine ⟨⟨by rw [Iz]; omega, fun x hx => ?_, Li h.2.2 fun y hy e => d2 ⟨y, hy, e⟩⟩, by rw [Iz]; omega⟩
            rcases IG.1 hx with rfl | hx
            · exact hr
            · exact h.2.1 x hx
    · rw [if_neg c1]
      by_cases c2 : m.1 = 2
      · rw [if_pos c2]; exact hm false hr
      · rw [if_neg c2]
        by_cases c3 : m.1 = 3
        · rw [if_pos c3]
          by_cases d2 : EM t m.2.1
          · rw [if_pos d2]; exact hm true hr
          · rw [if_neg d2]; exact h0
        · rw [if_neg c3]
          by_cases c4 : m.1 = 4
          · rw [if_pos c4]; exact hf _
          · rw [if_neg c4]
            by_cases c5 : m.1 = 5
            · rw [if_pos c5]
              by_cases d2 : EM t m.2.1
              · rw [if_pos d2]; exact hf _
              · rw [if_neg d2]; exact h0
            · rw [if_neg c5]; exact h0
  · rw [if_pos hr]; exact h0
theorem F9 {x : Rl} (h : x.2.2.length ≤ 1000) : BP x = some x := by
  unfold BP AW
  rw [Ew (by simp; omega)]; rfl
theorem Gy {α : Type} (l : List α) (i : Nat) (x : α) : C9 l (i : Int) x = l.set i x := by unfold C9; rw [Int.toNat_natCast]
theorem Js {t : List Rl} (hl : t.length ≤ 1000) (hA : ∀ x ∈ t, x.2.2.length ≤ 1000) : C0 t = some t := by
  unfold C0
  rw [OS (by omega), Option.bind_some]
  have e : HT (List.replicate ((t.length : Int)).toNat ((0, (0, (0, 0, 0, 0), (0, 0, 0, 0)), []) : Rl)) 0 (min t.length (List.replicate ((t.length : Int)).toNat ((0, (0, (0, 0, 0, 0), (0, 0, 0, 0)), []) : Rl)).length) t = t := by
    unfold HT
    rw [List.length_replicate, Int.toNat_natCast, Nat.min_self, List.take_length, List.drop_eq_nil_of_le (by simp)]
    simp
  rw [e, ID t (by omega) (fun x => x) _ (fun k hk m hm hx => by
    rw [DD, e, if_pos (by omega), BL hx, Option.bind_some, F9 (hA _ (List.getElem_mem hk)), Option.bind_some, Option.bind_some, Gy]) (fun m hm => by rw [DD, e, if_neg (by omega)]), List.map_id']; rfl
theorem Hw (x r : Rl) : B5 x r = decide (kq x r) := by
  unfold B5
  rw [KL]
  exact decide_eq_decide.2 ⟨fun h => ⟨h.1.symm, h.2.symm⟩, fun h => ⟨h.1.symm, h.2.symm⟩⟩
theorem GL {x r : Rl} (hx : Ec x.2.1) (hr : Ec r.2.1) : Cz x r = some (decide (WI x.2.1 r.2.1)) := by
  unfold Cz
  rw [LX hx hr]; rfl
theorem JM {α : Type} (P : α → Bool) (l : List α) [Decidable (∃ x ∈ l, P x = true)] : decide (0 ≤ Hx P l 0) = decide (∃ x ∈ l, P x = true) := by
  rcases FL P l 0 with ⟨h1, h2⟩ | ⟨j, x, h1, h2, h3, h4⟩
  · rw [h1, decide_eq_false (p := ∃ x ∈ l, P x = true) (fun ⟨x, hx, h⟩ => by rw [h2 x hx] at h; cases h)]; rfl
  · rw [h3, decide_eq_true (show ∃ x ∈ l, P x = true from ⟨x, List.mem_of_getElem? h1, h2⟩), decide_eq_true (by omega)]
section
variable {t : List Rl} (hl : t.length ≤ 1000) {ports : Int} (hok : ∀ x ∈ t, Hn ports x) {r : Rl} (hr : Hn ports r)
include hl
theorem Lt (r : Rl) : AR t r = some (Hx (Pm true r) t 0) := by
  unfold AR
  rw [Gr t (by omega) (Pm true r) (AZ t r) (fun k hk => by
    rw [AZ, if_pos (by omega), BL (List.getElem?_eq_getElem hk), Option.bind_some, Hw]; rfl) (by rw [AZ, if_neg (by omega)])]
theorem N7 (m : Md) : AS t m = some (Hx (fun x => decide (x.1 < m.2.1.1)) t 0) := by
  unfold AS
  rw [Gr t (by omega) (fun x => decide (x.1 < m.2.1.1)) (A1 t m) (fun k hk => by
    rw [A1, if_pos (by omega), BL (List.getElem?_eq_getElem hk), Option.bind_some]; rfl) (by rw [A1, if_neg (by omega)])]
include hok hr
theorem Ol : Ba t r = some (Hx (Pm false r) t 0) := by
  unfold Ba
  rw [Gr t (by omega) (Pm false r) (A0 t r) (fun k hk => by
    rw [A0, if_pos (by omega), BL (List.getElem?_eq_getElem hk), Option.bind_some, GL (hok _ (List.getElem_mem hk)).2.1 hr.2.1, Option.bind_some]; rfl) (by rw [A0, if_neg (by omega)])]
theorem Ok (c : Int) (b : Bool) : Bi t (c, r, b) = some (Hx (fun x => decide (KC x r)) t 0) := by
  unfold Bi
  rw [Gr t (by omega) (fun x => decide (KC x r)) (A9 t (c, r, b)) (fun k hk => by
    rw [A9, if_pos (by omega), BL (List.getElem?_eq_getElem hk), Option.bind_some]
    unfold Fb
    rw [Ou (hok _ (List.getElem_mem hk)).2.1 hr.2.1, Option.bind_some, Option.bind_some]) (by rw [A9, if_neg (by omega)])]
omit hok in
theorem Kb : Cu t r r = some (t.map (rp true r)) := by
  unfold Cu
  rw [ID t (by omega) (rp true r) _ (fun k hk m hm hx => by
    rw [Dy, if_pos (by omega), BL hx, Option.bind_some, Hw]
    have hc := F9 (x := r) (by have := hr.2.2.1; omega)
    change (Option.bind (if Pm true r t[k] = true then _ else _) _) = _
    unfold rp
    by_cases c : Pm true r t[k] = true
    · rw [if_pos c, if_pos c, hc, Option.bind_some, Option.bind_some, Gy]; rfl
    · rw [if_neg c, if_neg c, Option.bind_some, Ko hx]) (fun m hm => by rw [Dy, if_neg (by omega)])]; rfl
theorem MF : CE t r r = some (t.map (rp false r)) := by
  unfold CE
  rw [ID t (by omega) (rp false r) _ (fun k hk m hm hx => by
    rw [C1, if_pos (by omega), BL hx, Option.bind_some, GL (hok _ (List.getElem_mem hk)).2.1 hr.2.1, Option.bind_some]
    have hc := F9 (x := r) (by have := hr.2.2.1; omega)
    change (Option.bind (if Pm false r t[k] = true then _ else _) _) = _
    unfold rp
    by_cases c : Pm false r t[k] = true
    · rw [if_pos c, if_pos c, hc, Option.bind_some, Option.bind_some, Gy]; rfl
    · rw [if_neg c, if_neg c, Option.bind_some, Ko hx]) (fun m hm => by rw [C1, if_neg (by omega)])]; rfl
end
theorem LH {α : Type} (z : α) {m l : List α} {w : Nat} (hm : m.length = l.length) (hw : w ≤ l.length) {P : α → Bool} (ht : m.take w = l.filter (fun x => !P x)) :
    ((DP m (w : Int) (m.length : Int)).bind fun x11 => (OQ m (w : Int) (List.replicate (x11.length) z)).bind fun x12 => (DP x12 0 (w : Int)).bind fun x13 => some x13) = some (l.filter (fun x => !P x)) := by
  rw [Fa (by omega), Option.bind_some]
  have e1 : ((m.take ((m.length : Int)).toNat).drop ((w : Int)).toNat).length = m.length - w := by rw [Int.toNat_natCast, Int.toNat_natCast, List.take_length, List.length_drop]
  rw [e1]
  have e2 : OQ m (w : Int) (List.replicate (m.length - w) z) = some (m.take w ++ List.replicate (m.length - w) z ++ m.drop (w + (m.length - w))) := by
    unfold OQ
    rw [if_pos (by rw [List.length_replicate]; omega), Int.toNat_natCast, List.length_replicate]
  rw [e2, Option.bind_some, Fa (by simp; omega), Option.bind_some, Int.toNat_natCast]
  rw [← ht]
  congr 1
  rw [List.append_assoc, List.take_append_of_le_length (by rw [List.length_take]; omega), List.take_take, Nat.min_self]; rfl
section
variable {t : List Rl} (hl : t.length ≤ 1000) {ports : Int} (hok : ∀ x ∈ t, Hn ports x) {r : Rl} (hr : Hn ports r)
include hl
theorem N6 (r : Rl) : AN t r = some (t.filter (fun x => !Pm true r x)) := by
  unfold AN
  rw [Lt hl, Option.bind_some]
  rcases FL (Pm true r) t 0 with ⟨h1, h2⟩ | ⟨j, x, h1, h2, h3, h4⟩
  · rw [if_pos h1, List.filter_eq_self.2 fun x hx => by rw [h2 x hx]; rfl]
  · have hj := (List.getElem?_eq_some_iff.1 h1).1
    have hx : t[j] = x := (List.getElem?_eq_some_iff.1 h1).2
    obtain ⟨m, w, g1, g2, g3, g4⟩ := Kf t (by omega) (Pm true r) (AY r) (fun k w hk m hm hw hxk => by
      rw [AY, if_pos (by omega), BL hxk, Option.bind_some, Hw]
      change (Option.bind (if (!Pm true r t[k]) = true then _ else _) _) = _
      obtain ⟨y, hy⟩ : ∃ y, m[w]? = some y := ⟨m[w]'(by omega), List.getElem?_eq_getElem (by omega)⟩
      by_cases c : Pm true r t[k] = true
      · rw [c, if_neg (by decide), if_pos rfl]; rfl
      · rw [if_pos (by simpa using c), if_neg c, BL hy, Option.bind_some, Gy]; rfl) (fun m w hm => by rw [AY, if_neg (by omega)]) hj h4 (by rw [hx]; exact h2)
    rw [h3, Nat.zero_add, if_neg (by omega), g1, Option.bind_some]
    exact LH _ g2 g3 g4
include hok hr
theorem NP : AX t r = some (t.filter (fun x => !Pm false r x)) := by
  unfold AX
  rw [Ol hl hok hr, Option.bind_some]
  rcases FL (Pm false r) t 0 with ⟨h1, h2⟩ | ⟨j, x, h1, h2, h3, h4⟩
  · rw [if_pos h1, List.filter_eq_self.2 fun x hx => by rw [h2 x hx]; rfl]
  · have hj := (List.getElem?_eq_some_iff.1 h1).1
    have hx : t[j] = x := (List.getElem?_eq_some_iff.1 h1).2
    obtain ⟨m, w, g1, g2, g3, g4⟩ := Kf t (by omega) (Pm false r) (A7 r) (fun k w hk m hm hw hxk => by
      rw [A7, if_pos (by omega), BL hxk, Option.bind_some, GL (hok _ (List.getElem_mem hk)).2.1 hr.2.1, Option.bind_some]
      change (Option.bind (if (!Pm false r t[k]) = true then _ else _) _) = _
      obtain ⟨y, hy⟩ : ∃ y, m[w]? = some y := ⟨m[w]'(by omega), List.getElem?_eq_getElem (by omega)⟩
      by_cases c : Pm false r t[k] = true
      · rw [c, if_neg (by decide), if_pos rfl]; rfl
      · rw [if_pos (by simpa using c), if_neg c, BL hy, Option.bind_some, Gy]; rfl) (fun m w hm => by rw [A7, if_neg (by omega)]) hj h4 (by rw [hx]; exact h2)
    rw [h3, Nat.zero_add, if_neg (by omega), g1, Option.bind_some]
    exact LH _ g2 g3 g4
end
theorem Nx {a b : Nat} (h : a < b) : PP a b = some () := by unfold PP; rw [if_pos h]
theorem Jt {t : List Rl} (hl : t.length ≤ 1000) {i : Nat} (hi : i ≤ t.length) (v : Rl) : Bc t (i : Int) [v] = some (t.take i ++ v :: t.drop i) := by
  unfold Bc
  rw [Fa (by omega), Option.bind_some, if_neg (by simp)]
  by_cases c : i = t.length
  · subst c
    rw [if_pos rfl, Nx (by simp), Option.bind_some, Ew (by simp; omega), List.take_length, List.drop_length]; rfl
  · have hw1 : Cs ((t.length : Int) + (([v] : List Rl).length : Int)) = (t.length : Int) + 1 := Bg (by simp; omega)
    have hw2 : Cs ((t.length : Int) + 1 - (i : Int)) = ((t.length + 1 - i : Nat) : Int) := by rw [Bg (by omega)]; omega
    have hw3 : Cs ((i : Int) + (([v] : List Rl).length : Int)) = ((i + 1 : Nat) : Int) := by rw [Bg (by simp; omega)]; rfl
    rw [if_neg (by omega), hw1, if_pos (by omega), Fa (by omega), Option.bind_some, hw2, OS (by omega), Option.bind_some, Int.toNat_natCast, Int.toNat_natCast]
    have e0 : (t.take i).drop (0 : Int).toNat = t.take i := rfl
    rw [e0, Nx (by rw [List.length_take]; omega), Option.bind_some, Ew (by simp; omega), Option.bind_some, Fa (by simp; omega), Option.bind_some, Int.toNat_natCast, Int.toNat_natCast]
    generalize hz : ((0, (0, (0, 0, 0, 0), (0, 0, 0, 0)), []) : Rl) = z
    have hX : (t.take i ++ List.replicate (t.length + 1 - i) z).length = t.length + 1 := by simp; omega
    rw [hw3, List.take_length, List.length_drop, hX]
    have m1 : min ([v] : List Rl).length (t.length + 1 - i) = 1 := by simp; omega
    rw [m1]
    have hlen : (t.take i).length = i := by rw [List.length_take]; omega
    have c1 : HT (t.take i ++ List.replicate (t.length + 1 - i) z) (i : Int) 1 [v] = t.take i ++ v :: List.replicate (t.length - i) z := by
      unfold HT
      rw [Int.toNat_natCast, List.take_append_of_le_length (by omega), List.take_of_length_le (l := t.take i) (by omega), List.drop_append, List.drop_eq_nil_of_le (by omega), hlen, List.drop_replicate]
      rw [show t.length + 1 - i - (i + 1 - i) = t.length - i by omega]
      simp
    rw [c1]
    have hY : (t.take i ++ v :: List.replicate (t.length - i) z).length = t.length + 1 := by simp; omega
    rw [hY, Fa (by rw [hY]; omega), Option.bind_some, Option.bind_some]
    congr 1
    have m2 : min ((t.take ((t.length : Int)).toNat).drop i).length (((t.take i ++ v :: List.replicate (t.length - i) z).take (((t.length + 1 : Nat) : Int)).toNat).drop (((i + 1 : Nat) : Int)).toNat).length = t.length - i := by
      simp; omega
    rw [m2]
    unfold HT
    rw [Int.toNat_natCast, Int.toNat_natCast, List.take_length]
    have e1 : (t.take i ++ v :: List.replicate (t.length - i) z).take (i + 1) = t.take i ++ [v] := by
      rw [List.take_append, hlen, List.take_of_length_le (l := t.take i) (by omega), show i + 1 - i = 1 by omega]; rfl
    have e3 : (t.take i ++ v :: List.replicate (t.length - i) z).drop (i + 1 + (t.length - i)) = [] := List.drop_eq_nil_of_le (by rw [hY]; omega)
    have e4 : (t.drop i).take (t.length - i) = t.drop i := List.take_of_length_le (by rw [List.length_drop]; omega)
    rw [e1, e3, e4]
    simp
theorem HZ (v : Rl) : ∀ (l out : List Rl), l.foldl (fun (s : List Rl × Bool) x => if s.2 = false ∧ x.1 < v.1 then (s.1 ++ [v] ++ [x], true) else (s.1 ++ [x], s.2)) (out, true) = (out ++ l, true) ∧
    (let s := l.foldl (fun (s : List Rl × Bool) x => if s.2 = false ∧ x.1 < v.1 then (s.1 ++ [v] ++ [x], true) else (s.1 ++ [x], s.2)) (out, false); (if s.2 = true then s.1 else s.1 ++ [v]) = out ++ Eu v l)
  | [], out => ⟨by simp, by simp [Eu]⟩
  | x :: l, out => by
    have ih := HZ v l
    refine ⟨?_, ?_⟩
    · rw [List.foldl_cons, if_neg (by simp), (ih _).1]; simp
    · rw [List.foldl_cons]
      by_cases c : x.1 < v.1
      · rw [if_pos ⟨rfl, c⟩, (ih _).1]
        unfold Eu
        rw [if_pos c]
        simp
      · rw [if_neg (fun h => c h.2)]
        have := (ih (out ++ [x])).2
        unfold Eu
        rw [if_neg c]
        simp only [List.append_assoc, List.singleton_append] at this ⊢
        exact this
theorem Mk {t : List Rl} (hl : t.length ≤ 1000) (v : Rl) : Hv t v = some (Eu v t) := by
  unfold Hv
  obtain ⟨h, hg⟩ := HY t (fun (s : List Rl × Bool) (k : Nat) => (s.1, s.2, (k : Int))) (fun (s : List Rl × Bool) x => if s.2 = false ∧ x.1 < v.1 then (s.1 ++ [v] ++ [x], true) else (s.1 ++ [x], s.2)) (C5 t v) (fun s => s) (fun s k => s.1.length ≤ 2 * k) ([], false) (Nat.le_refl _) (fun s k hk hG => by
    obtain ⟨o, b⟩ := s
    have hG : o.length ≤ 2 * k := hG
    have hx := BL (List.getElem?_eq_getElem hk)
    show C5 t v (o, b, (k : Int)) = _ ∧ _
    rw [C5, if_pos (by omega), hx]
    cases b with
    | true =>
      rw [if_neg (by decide), Option.bind_some, if_neg (by decide), Option.bind_some]
      simp only [Option.bind_some]
      rw [Ew (by simp; omega), Option.bind_some, Bg (by omega), if_neg (by simp)]
      exact ⟨rfl, by simp; omega⟩
    | false =>
      rw [if_pos (by decide), Option.bind_some, Option.bind_some]
      by_cases c : t[k].1 < v.1
      · rw [decide_eq_true c, if_pos rfl, Ew (by simp; omega), Option.bind_some]
        simp only [Option.bind_some]
        rw [Ew (by simp; omega), Option.bind_some, Bg (by omega), if_pos (by constructor <;> first | rfl | trivial | exact c)]
        exact ⟨rfl, by simp; omega⟩
      · rw [decide_eq_false c, if_neg (by decide)]
        simp only [Option.bind_some]
        rw [Ew (by simp; omega), Option.bind_some, Bg (by omega), if_neg (fun h => c h.2)]
        exact ⟨rfl, by simp; omega⟩) (fun s => by
    obtain ⟨o, b⟩ := s
    show C5 t v (o, b, (t.length : Int)) = _
    rw [C5, if_neg (by omega)])
  have h2 := (HZ v t []).2
  generalize hs : t.foldl (fun (s : List Rl × Bool) x => if s.2 = false ∧ x.1 < v.1 then (s.1 ++ [v] ++ [x], true) else (s.1 ++ [x], s.2)) ([], false) = s at h hg h2
  obtain ⟨o, b⟩ := s
  have h : AJ (C5 t v) ([], false, 0) = some (o, b) := h
  rw [h, Option.bind_some]
  have hg : o.length ≤ 2 * t.length := hg
  cases b with
  | true => rw [← show o = Eu v t from h2]; rfl
  | false =>
    rw [← show o ++ [v] = Eu v t from h2]
    show Option.bind (if (!false) = true then _ else _) _ = _
    rw [if_pos (by decide), Ew (by simp; omega)]; rfl
abbrev IK (k d : Bool) (r : Rl) (s : List Rl × Int) (x : Rl) : List Rl × Int := if Pm k r x = true then (if d = true then s.1 else s.1 ++ [(x.1, x.2.1, r.2.2)], s.2 + 1) else (s.1 ++ [x], s.2)
theorem J6 (k d : Bool) (r : Rl) : ∀ (l : List Rl) (s : List Rl × Int), (l.foldl (IK k d r) s).1 = s.1 ++ (if d = true then l.filter (fun x => !Pm k r x) else l.map (rp k r)) ∧ s.2 ≤ (l.foldl (IK k d r) s).2 ∧ ((l.foldl (IK k d r) s).2 = s.2 ↔ ¬ ∃ x ∈ l, Pm k r x = true)
  | [], s => ⟨by cases d <;> simp, Int.le_refl _, by simp⟩
  | x :: l, s => by
    rw [List.foldl_cons]
    obtain ⟨i1, i2, i3⟩ := J6 k d r l (IK k d r s x)
    by_cases c : Pm k r x = true
    · have e : IK k d r s x = (if d = true then s.1 else s.1 ++ [(x.1, x.2.1, r.2.2)], s.2 + 1) := if_pos c
      rw [e] at i1 i2 i3 ⊢
      refine ⟨?_, by simp only at i2; omega, ⟨fun h => by simp only at i2; omega, fun h => absurd ⟨x, List.mem_cons_self .., c⟩ h⟩⟩
      rw [i1]
      cases d with
      | true => simp [c]
      | false => simp [c, rp]
    · have e : IK k d r s x = (s.1 ++ [x], s.2) := if_neg c
      rw [e] at i1 i2 i3 ⊢
      refine ⟨?_, i2, i3.trans ⟨fun h hc => ?_, fun h hc => h ?_⟩⟩
      · rw [i1]
        cases d with
        | true => simp [c]
        | false => simp [c, rp]
      · obtain ⟨y, hy, hp⟩ := hc
        rcases List.mem_cons.1 hy with rfl | hy
        · exact c hp
        · exact h ⟨y, hy, hp⟩
      · obtain ⟨y, hy, hp⟩ := hc
        exact ⟨y, List.mem_cons_of_mem _ hy, hp⟩
theorem Kz {t : List Rl} (hl : t.length ≤ 1000) {ports : Int} (hok : ∀ x ∈ t, Hn ports x) (c : Int) {r : Rl} (hr : Hn ports r) (b k d : Bool) : Eo t (c, r, b) k d = some (t.foldl (IK k d r) ([], 0)) := by
  unfold Eo
  obtain ⟨h, hg⟩ := HY t (fun (s : List Rl × Int) (j : Nat) => (k, s.1, s.2, (j : Int))) (IK k d r) (CB t (c, r, b) d) (fun s => s) (fun s j => s.1.length ≤ j ∧ 0 ≤ s.2 ∧ s.2 ≤ j) ([], 0) ⟨Nat.le_refl _, Int.le_refl _, Int.le_refl _⟩ (fun s j hj hG => by
    obtain ⟨o, n⟩ := s
    obtain ⟨hG, hn0, hn⟩ := hG
    have hG : o.length ≤ j := hG
    have hn0 : 0 ≤ n := hn0
    have hn : n ≤ (j : Int) := hn
    have hx := BL (List.getElem?_eq_getElem hj)
    have hw := KV (hok _ (List.getElem_mem hj)).2.1 hr.2.1
    show CB t (c, r, b) d (k, o, n, (j : Int)) = _ ∧ _
    rw [CB, if_pos (by omega), hx, Option.bind_some, hw, Option.bind_some]
    have hcond : (if k = true then (some t[j]).bind fun x14 => some (true, FU x14 r) else some (false, decide (WI t[j].2.1 r.2.1))) = some (k, Pm k r t[j]) := by
      cases k with
      | true => rw [if_pos rfl, Option.bind_some, Lb]; rfl
      | false => rw [if_neg (by decide)]; rfl
    have hn1 : Cs (n + 1) = n + 1 := Bg (by omega)
    have hj1 : Cs ((j : Int) + 1) = ((j + 1 : Nat) : Int) := by rw [Bg (by omega)]; rfl
    show Option.bind (Option.bind (if k = true then _ else _) _) _ = _ ∧ _
    rw [hcond, Option.bind_some]
    by_cases p : Pm k r t[j] = true
    · rw [p]
      show Option.bind (if (!true) = true then _ else _) _ = _ ∧ _
      rw [if_neg (by decide)]
      have e : IK k d r (o, n) t[j] = (if d = true then o else o ++ [(t[j].1, t[j].2.1, r.2.2)], n + 1) := if_pos p
      rw [e]
      cases d with
      | true =>
        rw [if_neg (by decide), Option.bind_some, hn1, hj1, if_pos rfl]
        exact ⟨rfl, by simp only; omega, by simp only; omega, by simp only; omega⟩
      | false =>
        rw [if_pos (by decide), Option.bind_some, Ew (by simp; omega), Option.bind_some, Option.bind_some, hn1, hj1, if_neg (by decide)]
        exact ⟨rfl, by simp; omega, by simp only; omega, by simp only; omega⟩
    · have p' : Pm k r t[j] = false := by simpa using p
      rw [p']
      show Option.bind (if (!false) = true then _ else _) _ = _ ∧ _
      rw [if_pos (by decide), Option.bind_some, Ew (by simp; omega), Option.bind_some, Option.bind_some, hj1]
      have e : IK k d r (o, n) t[j] = (o ++ [t[j]], n) := if_neg p
      rw [e]
      exact ⟨rfl, by simp; omega, hn0, by simp only; omega⟩) (fun s => by
    obtain ⟨o, n⟩ := s
    show CB t (c, r, b) d (k, o, n, (t.length : Int)) = _
    rw [CB, if_neg (by omega)])
  have h : AJ (CB t (c, r, b) d) (k, [], 0, 0) = some (t.foldl (IK k d r) ([], 0)) := h
  rw [h]; rfl
open Classical in
theorem Jo {α ε : Type} (l : List α) (hl : l.length ≤ 1000000) (step : Int → Option (Int ⊕ (Unit ⊕ ε))) (P : α → Prop) (e : ε)
    (hs : ∀ k (hk : k < l.length), step (k : Int) = if P l[k] then some (.inr (.inr e)) else some (.inl (Cs ((k : Int) + 1))))
    (he : step (l.length : Int) = some (.inr (.inl ()))) : AJ step 0 = some (if ∃ x ∈ l, P x then .inr e else .inl ()) := by
  have key : ∀ (d k : Nat), k + d = l.length → AJ step (k : Int) = some (if ∃ x ∈ l.drop k, P x then .inr e else .inl ()) := by
    intro d
    induction d with
    | zero =>
      intro k hk
      obtain rfl : k = l.length := by omega
      rw [Bw he, if_neg (fun ⟨x, hx, _⟩ => by rw [List.drop_length] at hx; cases hx)]
    | succ d ih =>
      intro k hk
      have hk2 : k < l.length := by omega
      have h := hs k hk2
      rw [List.drop_eq_getElem_cons hk2]
      by_cases c : P l[k]
      · rw [if_pos c] at h
        rw [Bw h, if_pos ⟨_, List.mem_cons_self .., c⟩]
      · rw [if_neg c, Bg (by omega)] at h
        rw [BG h]
        refine (ih (k + 1) (by omega)).trans ?_
        congr 1
        by_cases q : ∃ x ∈ l.drop (k + 1), P x
        · obtain ⟨x, h1, h2⟩ := q
          rw [if_pos ⟨x, h1, h2⟩, if_pos ⟨x, List.mem_cons_of_mem _ h1, h2⟩]
        · rw [if_neg q, if_neg (fun ⟨x, h1, h2⟩ => by
            rcases List.mem_cons.1 h1 with rfl | h1
            · exact c h2
            · exact q ⟨x, h1, h2⟩)]
  exact key l.length 0 (by omega)
theorem Hj {t : List Rl} {r : Rl} : (∃ x ∈ t, Pm true r x = true) ↔ EM t r := by
  constructor
  · rintro ⟨x, hx, h⟩; exact ⟨x, hx, of_decide_eq_true h⟩
  · rintro ⟨x, hx, h⟩; exact ⟨x, hx, decide_eq_true h⟩
theorem JY {t : List Rl} (hl : t.length ≤ 1000) (r : Rl) : Ao t r = some (decide (EM t r)) := by
  have hd : Decidable (∃ x ∈ t, Pm true r x = true) := Classical.propDecidable _
  unfold Ao
  rw [Lt hl, Option.bind_some, JM]
  congr 1
  exact decide_eq_decide.2 Hj
theorem MT {t : List Rl} (hl : t.length ≤ 1000) {ports : Int} (hok : ∀ x ∈ t, Hn ports x) {r : Rl} (hr : Hn ports r) (c : Int) (b : Bool) : AO t (c, r, b) = some (decide (∃ x ∈ t, KC x r)) := by
  have hd : Decidable (∃ x ∈ t, decide (KC x r) = true) := Classical.propDecidable _
  unfold AO
  rw [Ok hl hok hr, Option.bind_some, JM]
  congr 1
  exact decide_eq_decide.2 ⟨fun ⟨x, h1, h2⟩ => ⟨x, h1, of_decide_eq_true h2⟩, fun ⟨x, h1, h2⟩ => ⟨x, h1, decide_eq_true h2⟩⟩
theorem Pd {t : List Rl} (hl : t.length ≤ 999) {ports room : Int} (hok : ∀ x ∈ t, Hn ports x) {r : Rl} (hr : Hn ports r) (b : Bool) : Fw t (1, r, b) room = some (DK t (1, r, b) ports room) := by
  have hap : DK t (1, r, b) ports room = (if b = true ∧ ∃ x ∈ t, KC x r then (t, 14) else if EM t r then (t.map (rp true r), 0) else if room ≤ (t.length : Int) then (t, 6) else (Eu r t, 0)) := by
    unfold DK
    rw [if_neg (fun hc => hc hr), if_pos rfl]
  rw [hap]
  have hco := MT (by omega) hok hr 1 true
  have hck := JY (t := t) (by omega) r
  have hrep := Kb (t := t) (by omega) hr
  unfold Fw Ab
  show Option.bind (if b = true then (AO t (1, r, true)).bind _ else _) _ = _
  rw [hco]
  have key : ∀ b' : Bool, (if false = true then some (t, (14 : Int)) else (Ao t r).bind fun x4 => (if x4 = true then (Cu t r r).bind fun x5 => some (x5, 0) else (if room ≤ (t.length : Int) then some (t, 6) else (AS t (1, r, b')).bind fun x6 => (if x6 < 0 then some (t.length : Int) else some x6).bind fun x7 => (BP r).bind fun x8 => (Bc t x7 ([x8] : List (Rl))).bind fun x9 => some (x9, 0)))) = some (if EM t r then (t.map (rp true r), 0) else if room ≤ (t.length : Int) then (t, 6) else (Eu r t, 0)) := fun b' => by
    rw [if_neg (by decide), hck, Option.bind_some]
    by_cases d2 : EM t r
    · rw [decide_eq_true d2, if_pos rfl, hrep, Option.bind_some, if_pos d2]
    · rw [decide_eq_false d2, if_neg (by decide), if_neg d2]
      by_cases d3 : room ≤ (t.length : Int)
      · rw [if_pos d3, if_pos d3]
      · rw [if_neg d3, if_neg d3, N7 (by omega), Option.bind_some]
        rcases FL (fun x : Rl => decide (x.1 < r.1)) t 0 with ⟨h1, h2⟩ | ⟨j, x, h1, h2, h3, h4⟩
        · rw [h1, if_pos (by decide), Option.bind_some, F9 (by have := hr.2.2.1; omega), Option.bind_some, Jt (by omega) (Nat.le_refl _), Option.bind_some, Jk fun x hx => of_decide_eq_false (h2 x hx), List.take_length, List.drop_length]
        · have hj := (List.getElem?_eq_some_iff.1 h1).1
          rw [h3, if_neg (by omega), Option.bind_some, F9 (by have := hr.2.2.1; omega), Option.bind_some, Nat.zero_add, Jt (by omega) (by omega), Option.bind_some, LI h1 (of_decide_eq_true h2) fun i y hi hy => of_decide_eq_false (h4 i y hi hy)]
  cases b with
  | true =>
    rw [if_pos rfl, Option.bind_some, Option.bind_some]
    by_cases d1 : ∃ x ∈ t, KC x r
    · rw [if_pos ⟨rfl, d1⟩, decide_eq_true d1]; rfl
    · rw [if_neg (fun h => d1 h.2), decide_eq_false d1]
      exact key true
  | false =>
    rw [if_neg (by decide), if_neg (fun h => by cases h.1), Option.bind_some]
    exact key false
theorem Nc {t : List Rl} (hl : t.length ≤ 999) {ports room : Int} (hok : ∀ x ∈ t, Hn ports x) (m : Md) (hI : I4 m.2.1.2.1.2.1) : Er t m ports room = some (DK t m ports room) := by
  obtain ⟨c, r, b⟩ := m
  have hcp := Js (t := t) (by omega) (fun x hx => by have := (hok x hx).2.2.1; omega)
  unfold Er Ab Ae
  rw [hcp, Option.bind_some, Oi hI, Option.bind_some]
  by_cases hr : Hn ports r
  · have hck := JY (t := t) (by omega) r
    have hrep := Kb (t := t) (by omega) hr
    have hrp2 := MF (t := t) (by omega) hok hr
    have hd1 := NP (t := t) (by omega) hok hr
    have hd2 := N6 (t := t) (by omega) r
    rw [decide_eq_true hr, if_neg (by decide)]
    by_cases c1 : c = 1
    · subst c1
      have he : Qi t.length (((t.length : Int)).toNat) = some () := by unfold Qi; rw [if_pos (by omega)]
      rw [if_pos rfl, he, Option.bind_some, Pd hl hok hr, Option.bind_some]
    · have hap : DK t (c, r, b) ports room = (if c = 2 then (t.map (rp false r), 0) else if c = 3 then (if EM t r then (t.map (rp true r), 0) else (t, 7)) else if c = 4 then (t.filter (fun x => !Pm false r x), 0) else if c = 5 then (if EM t r then (t.filter (fun x => !Pm true r x), 0) else (t, 7)) else (t, 2)) := by
        unfold DK
        rw [if_neg (fun hc => hc hr), if_neg c1]
      rw [hap, if_neg c1]
      by_cases c2 : c = 2
      · rw [if_pos c2, if_pos c2]
        show Option.bind (CE t r r) _ = _
        rw [hrp2]; rfl
      · rw [if_neg c2, if_neg c2]
        by_cases c3 : c = 3
        · rw [if_pos c3, if_pos c3]
          show Option.bind (Ao t r) (fun x6 => if (!x6) = true then _ else Option.bind (Cu t r r) _) = _
          rw [hck, Option.bind_some]
          by_cases d2 : EM t r
          · rw [decide_eq_true d2, if_neg (by decide), if_pos d2, hrep]; rfl
          · rw [decide_eq_false d2, if_pos (by decide), if_neg d2]
        · rw [if_neg c3, if_neg c3]
          by_cases c4 : c = 4
          · rw [if_pos c4, if_pos c4]
            show Option.bind (AX t r) _ = _
            rw [hd1]; rfl
          · rw [if_neg c4, if_neg c4]
            by_cases c5 : c = 5
            · rw [if_pos c5, if_pos c5]
              show Option.bind (Ao t r) (fun x6 => if (!x6) = true then _ else Option.bind (AN t r) _) = _
              rw [hck, Option.bind_some]
              by_cases d2 : EM t r
              · rw [decide_eq_true d2, if_neg (by decide), if_pos d2, hd2]; rfl
              · rw [decide_eq_false d2, if_pos (by decide), if_neg d2]
            · rw [if_neg c5, if_neg c5]
  · rw [decide_eq_false hr, if_pos (by decide)]
    unfold DK
    rw [if_pos hr]
theorem Mf {t : List Rl} (hl : t.length ≤ 999) {ports room : Int} (hok : ∀ x ∈ t, Hn ports x) (m : Md) (hA : m.2.1.2.2.length ≤ 1000) : Hu t m ports room = some (DK t m ports room) := by
  obtain ⟨c, r, b⟩ := m
  have hA : r.2.2.length ≤ 1000 := hA
  unfold Hu
  by_cases hr : Hn ports r
  · have hch := fun k d => Kz (t := t) (by omega) hok c hr b k d
    have hsp := fun k d => J6 k d r t ([], 0)
    by_cases hc : c < 1 ∨ 5 < c
    · have h1 : (if c < 1 then some true else if 5 < c then some true else (Dt r ports).bind fun x2 => some (!x2)) = some true := by
        rcases hc with hc | hc
        · rw [if_pos hc]
        · by_cases h : c < 1
          · rw [if_pos h]
          · rw [if_neg h, if_pos hc]
      show Option.bind (if c < 1 then _ else _) _ = _
      rw [h1, Option.bind_some, if_pos rfl]
      unfold DK
      rw [if_neg (fun h => h hr), if_neg (show ¬ c = 1 by omega), if_neg (show ¬ c = 2 by omega), if_neg (show ¬ c = 3 by omega), if_neg (show ¬ c = 4 by omega), if_neg (show ¬ c = 5 by omega)]
    · have h1 : (if c < 1 then some true else if 5 < c then some true else (Dt r ports).bind fun x2 => some (!x2)) = some false := by
        rw [if_neg (by omega), if_neg (by omega), Ip (by omega), decide_eq_true hr]; rfl
      show Option.bind (if c < 1 then _ else _) _ = _
      rw [h1, Option.bind_some, if_neg (by decide)]
      by_cases c1 : c = 1
      · subst c1
        have hap : DK t (1, r, b) ports room = (if b = true ∧ ∃ x ∈ t, KC x r then (t, 14) else if EM t r then (t.map (rp true r), 0) else if room ≤ (t.length : Int) then (t, 6) else (Eu r t, 0)) := by
          unfold DK
          rw [if_neg (fun hc => hc hr), if_pos rfl]
        rw [if_pos rfl, hap]
        have hd : Decidable (∃ e ∈ t, b = true ∧ KC e r) := Classical.propDecidable _
        have key : JL t (1, r, b) room = some (if b = true ∧ ∃ x ∈ t, KC x r then (t, 14) else if EM t r then (t.map (rp true r), 0) else if room ≤ (t.length : Int) then (t, 6) else (Eu r t, 0)) := by
          unfold JL
          have hlp : AJ (D7 t (1, r, b)) 0 = some (if b = true ∧ ∃ x ∈ t, KC x r then .inr (t, 14) else .inl ()) := by
            cases b with
            | false => rw [if_neg (fun h => by cases h.1)]; exact Bw (by rw [D7]; rfl)
            | true =>
              have hs := Jo t (by omega) (D7 t (1, r, true)) (fun x => KC x r) (t, (14 : Int)) (fun k hk => by
                have hcnd : ((true && decide ((k : Int) < (t.length : Int))) = true) := by simp; omega
                rw [D7, if_pos hcnd, BL (List.getElem?_eq_getElem hk), Option.bind_some, Nr (hok _ (List.getElem_mem hk)).2.1 hr.2.1, Option.bind_some]
                by_cases p : KC t[k] r
                · rw [decide_eq_true p, if_pos rfl, if_pos p]
                · rw [decide_eq_false p, if_neg (by decide), if_neg p]) (by rw [D7, if_neg (by simp)])
              rw [hs]
              by_cases p : ∃ x ∈ t, KC x r
              · rw [if_pos p, if_pos ⟨rfl, p⟩]
              · rw [if_neg p, if_neg fun h => p h.2]
          rw [hlp]
          by_cases d1 : b = true ∧ ∃ x ∈ t, KC x r
          · rw [if_pos d1, if_pos d1]; rfl
          · rw [if_neg d1, if_neg d1, Gw, hch true false, Option.bind_some]
            obtain ⟨s1, s2, s3⟩ := hsp true false
            by_cases d2 : EM t r
            · have : (0 : Int) < (t.foldl (IK true false r) ([], 0)).2 := by
                have h0 : ¬ (t.foldl (IK true false r) ([], 0)).2 = 0 := fun e => (s3.1 e) (Hj.2 d2)
                have s2 : (0 : Int) ≤ (t.foldl (IK true false r) ([], 0)).2 := s2
                omega
              rw [if_pos this, if_pos d2, s1]; rfl
            · have : (t.foldl (IK true false r) ([], 0)).2 = 0 := s3.2 fun h => d2 (Hj.1 h)
              rw [if_neg (by omega), if_neg d2]
              by_cases d3 : room ≤ (t.length : Int)
              · rw [if_pos d3, if_pos d3]
              · rw [if_neg d3, if_neg d3, Mk (by omega)]; rfl
        rw [key]; rfl
      · have hap : DK t (c, r, b) ports room = (if c = 2 then (t.map (rp false r), 0) else if c = 3 then (if EM t r then (t.map (rp true r), 0) else (t, 7)) else if c = 4 then (t.filter (fun x => !Pm false r x), 0) else if c = 5 then (if EM t r then (t.filter (fun x => !Pm true r x), 0) else (t, 7)) else (t, 2)) := by
          unfold DK
          rw [if_neg (fun hc => hc hr), if_neg c1]
        rw [hap, if_neg c1]
        show Option.bind (Eo t (c, r, b) (decide (c = 3) || decide (c = 5)) (decide (4 ≤ c))) _ = _
        have hc4 : c = 2 ∨ c = 3 ∨ c = 4 ∨ c = 5 := by omega
        have fin : ∀ d, ((t.foldl (IK true d r) ([], 0)).2 = 0) ↔ ¬ EM t r := fun d => (hsp true d).2.2.trans (not_congr Hj)
        rcases hc4 with rfl | rfl | rfl | rfl
        · rw [hch]
          show some ((t.foldl (IK false false r) ([], 0)).1, (0 : Int)) = _
          rw [(hsp false false).1]; rfl
        · rw [hch]
          show (if (true && decide ((t.foldl (IK true false r) ([], 0)).2 = 0)) = true then some (t, (7 : Int)) else some ((t.foldl (IK true false r) ([], 0)).1, (0 : Int))) = _
          by_cases d2 : EM t r
          · rw [decide_eq_false (fun e => (fin false).1 e d2), if_neg (by decide), (hsp true false).1, if_neg (by decide), if_pos rfl, if_pos d2]; rfl
          · rw [decide_eq_true ((fin false).2 d2), if_pos (by decide), if_neg (by decide), if_pos rfl, if_neg d2]
        · rw [hch]
          show some ((t.foldl (IK false true r) ([], 0)).1, (0 : Int)) = _
          rw [(hsp false true).1]; rfl
        · rw [hch]
          show (if (true && decide ((t.foldl (IK true true r) ([], 0)).2 = 0)) = true then some (t, (7 : Int)) else some ((t.foldl (IK true true r) ([], 0)).1, (0 : Int))) = _
          by_cases d2 : EM t r
          · rw [decide_eq_false (fun e => (fin true).1 e d2), if_neg (by decide), (hsp true true).1, if_pos (show true = true from rfl), if_neg (show ¬ (5 : Int) = 2 by decide), if_neg (show ¬ (5 : Int) = 3 by decide), if_neg (show ¬ (5 : Int) = 4 by decide), if_pos (show (5 : Int) = 5 from rfl), if_pos d2]; rfl
          · rw [decide_eq_true ((fin true).2 d2), if_pos (by decide), if_neg (show ¬ (5 : Int) = 2 by decide), if_neg (show ¬ (5 : Int) = 3 by decide), if_neg (show ¬ (5 : Int) = 4 by decide), if_pos (show (5 : Int) = 5 from rfl), if_neg d2]
  · have h1 : (if c < 1 then some true else if 5 < c then some true else (Dt r ports).bind fun x2 => some (!x2)) = some true := by
      by_cases h : c < 1
      · rw [if_pos h]
      · rw [if_neg h]
        by_cases h2 : 5 < c
        · rw [if_pos h2]
        · rw [if_neg h2, Ip (by omega), decide_eq_false hr]; rfl
    show Option.bind (if c < 1 then _ else _) _ = _
    rw [h1, Option.bind_some, if_pos rfl]
    unfold DK
    rw [if_pos hr]
open Classical in
noncomputable def CX (t0 : List Rl) (ports room : Int) : List Md → Nat → List Rl → List Rl × Int × Int
  | [], i, t => (t, -1, 0)
  | m :: l, i, t => if (DK t m ports room).2 ≠ 0 then (t0, (i : Int), (DK t m ports room).2) else CX t0 ports room l (i + 1) (DK t m ports room).1
theorem Hy (l : List Md) (hl : l.length ≤ 1000) (t0 : List Rl) (ports room : Int) (step : List Rl × Int → Option ((List Rl × Int) ⊕ (List Rl ⊕ (List Rl × Int × Int)))) (G : List Rl → Nat → Prop)
    (hs : ∀ (k : Nat) (hk : k < l.length) (t : List Rl), G t k → step (t, (k : Int)) = some (if (DK t l[k] ports room).2 ≠ 0 then .inr (.inr (t0, (k : Int), (DK t l[k] ports room).2)) else .inl ((DK t l[k] ports room).1, Cs ((k : Int) + 1))))
    (hG : ∀ (k : Nat) (hk : k < l.length) (t : List Rl), G t k → G (DK t l[k] ports room).1 (k + 1))
    (he : ∀ t, step (t, (l.length : Int)) = some (.inr (.inl t))) : ∀ (d k : Nat) (t : List Rl), k + d = l.length → G t k → Fu (AJ step (t, (k : Int))) (fun x => some (x, -1, 0)) = some (CX t0 ports room (l.drop k) k t)
  | 0, k, t, hk, _ => by
    obtain rfl : k = l.length := by omega
    rw [Bw (he t), List.drop_length]; rfl
  | d + 1, k, t, hk, hg => by
    have hk2 : k < l.length := by omega
    have h := hs k hk2 t hg
    rw [List.drop_eq_getElem_cons hk2]
    show _ = some (if (DK t l[k] ports room).2 ≠ 0 then _ else _)
    by_cases c : (DK t l[k] ports room).2 ≠ 0
    · rw [if_pos c] at h
      rw [Bw h, if_pos c]; rfl
    · rw [if_neg c, Bg (by omega)] at h
      rw [BG h, if_neg c]
      exact Hy l hl t0 ports room step G hs hG he d (k + 1) _ (by omega) (hG k hk2 t hg)
abbrev OG (ports room : Int) (n : Nat) (t : List Rl) (k : Nat) : Prop := IJ ports room t ∧ t.length ≤ n + k
theorem LD {t0 : List Rl} {l : List Md} (hl : l.length ≤ 100) {ports room : Int} (h0 : IJ ports room t0) (hn : t0.length ≤ 100) (hI : ∀ m ∈ l, I4 m.2.1.2.1.2.1) : Ef t0 l ports room = some (CX t0 ports room l 0 t0) := by
  have hcp := Js (t := t0) (by omega) (fun x hx => by have := (h0.2.1 x hx).2.2.1; omega)
  unfold Ef
  rw [hcp, Option.bind_some]
  exact Hy l (by omega) t0 ports room (DB t0 l ports room) (OG ports room 100) (fun k hk t hg => by
    rw [DB, if_pos (by omega), BL (List.getElem?_eq_getElem hk), Option.bind_some, Nc (by have := hg.2; omega) hg.1.2.1 _ (hI _ (List.getElem_mem hk)), Option.bind_some]
    by_cases c : (DK t l[k] ports room).2 ≠ 0
    · rw [if_pos c, if_pos c, hcp]; rfl
    · rw [if_neg c, if_neg c]) (fun k hk t hg => by
    have h := KI l[k] hg.1
    exact ⟨h.1, by have := h.2; have := hg.2; omega⟩) (fun t => by rw [DB, if_neg (by omega)]) l.length 0 t0 (by omega) ⟨h0, by omega⟩
theorem Nz {t0 : List Rl} {l : List Md} (hl : l.length ≤ 100) {ports room : Int} (h0 : IJ ports room t0) (hn : t0.length ≤ 100) (hA : ∀ m ∈ l, m.2.1.2.2.length ≤ 1000) : Ij t0 l ports room = some (CX t0 ports room l 0 t0) := by
  unfold Ij
  exact Hy l (by omega) t0 ports room (E5 t0 l ports room) (OG ports room 100) (fun k hk t hg => by
    rw [E5, if_pos (by omega), BL (List.getElem?_eq_getElem hk), Option.bind_some, Mf (by have := hg.2; omega) hg.1.2.1 _ (hA _ (List.getElem_mem hk)), Option.bind_some]
    by_cases c : (DK t l[k] ports room).2 ≠ 0
    · rw [if_pos c, if_pos c]
    · rw [if_neg c, if_neg c]) (fun k hk t hg => by
    have h := KI l[k] hg.1
    exact ⟨h.1, by have := h.2; have := hg.2; omega⟩) (fun t => by rw [E5, if_neg (by omega)]) l.length 0 t0 (by omega) ⟨h0, by omega⟩
theorem LO {t0 : List Rl} {ports room : Int} (h0 : IJ ports room t0) : ∀ (l : List Md) (k : Nat) (t : List Rl), IJ ports room t → IJ ports room (CX t0 ports room l k t).1 ∧ (CX t0 ports room l k t).1.length ≤ max t0.length (t.length + l.length)
  | [], k, t, h => ⟨h, Nat.le_max_right _ _⟩
  | m :: l, k, t, h => by
    unfold CX
    by_cases c : (DK t m ports room).2 ≠ 0
    · rw [if_pos c]; exact ⟨h0, Nat.le_max_left _ _⟩
    · rw [if_neg c]
      have h1 := KI m h
      have h2 := LO h0 l (k + 1) _ h1.1
      refine ⟨h2.1, Nat.le_trans h2.2 ?_⟩
      have := h1.2
      rw [List.length_cons]
      omega
theorem IF {t : List Rl} (hl : t.length ≤ 1000) (hA : ∀ x ∈ t, x.2.2.length ≤ 1000) : Dw t t = some true := by
  unfold Dw
  rw [if_neg (by simp), Gz t (by omega) (DO t t) (fun _ => False) false (fun k hk => by
    have hm := hA _ (List.getElem_mem hk)
    rw [DO, if_pos (by omega), BL (List.getElem?_eq_getElem hk), Option.bind_some, Option.bind_some, Hi (by omega), decide_eq_true (JC.2 rfl), Option.bind_some, if_neg (by decide), if_neg (by simp)]) (by rw [DO, if_neg (by omega)]), if_neg (by simp), Gw]
theorem Ly {ports room : Int} {t : List Rl} (h : IJ ports room t) : ∀ x ∈ t, x.2.2.length ≤ 1000 := fun x hx => by have := (h.2.1 x hx).2.2.1; omega
theorem Kd (t0 : List Rl) (ports room : Int) : ∀ (l : List Md) (k : Nat) (t : List Rl), (CX t0 ports room l k t).2.2 ≠ 0 → (CX t0 ports room l k t).1 = t0 ∧ (k : Int) ≤ (CX t0 ports room l k t).2.1 ∧ (CX t0 ports room l k t).2.1 < (k : Int) + (l.length : Int)
  | [], k, t, h => absurd rfl h
  | m :: l, k, t, h => by
    unfold CX at h ⊢
    by_cases c : (DK t m ports room).2 ≠ 0
    · rw [if_pos c] at h ⊢
      exact ⟨rfl, Int.le_refl _, by rw [List.length_cons]; simp only; omega⟩
    · rw [if_neg c] at h ⊢
      obtain ⟨h1, h2, h3⟩ := Kd t0 ports room l (k + 1) _ h
      exact ⟨h1, by omega, by rw [List.length_cons]; omega⟩
end Go.Proofs.Ytfnmlmglmegamaa
