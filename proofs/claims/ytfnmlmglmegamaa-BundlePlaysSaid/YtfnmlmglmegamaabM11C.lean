/- Layer 12: changes of tables. Conditions: none. -/
import Derived.Test.YtfnmlmglmegamaabM11
namespace Go.Proofs.Ytfnmlmglmegamaa
set_option linter.unusedVariables false
set_option linter.unusedSimpArgs false
set_option synthInstance.maxSize 1000
open Go Go.RowKit
theorem I7 {α : Type} (l : List α) (hl : l.length ≤ 1000000) (f : α → α) (step : List α × Int → Option ((List α × Int) ⊕ List α))
    (hs : ∀ (k : Nat) (hk : k < l.length) (m : List α), m.length = l.length → m[k]? = some l[k] → step (m, (k : Int)) = some (.inl (m.set k (f l[k]), Cc ((k : Int) + 1))))
    (he : ∀ m, m.length = l.length → step (m, (l.length : Int)) = some (.inr m)) : AX step (l, 0) = some (l.map f) := by
  obtain ⟨s, h1, h2⟩ := Hz l.length (fun (m : List α) (k : Nat) => (m, (k : Int))) step id (fun m k => m.length = l.length ∧ ∀ j, m[j]? = if j < k then (l[j]?).map f else l[j]?) (fun m k hk hI => by
    refine ⟨m.set k (f l[k]), ?_, ?_, fun j => ?_⟩
    · rw [hs k hk m hI.1 (by rw [hI.2, if_neg (by omega), List.getElem?_eq_getElem hk]), BC (by omega)]; rfl
    · rw [List.length_set]; exact hI.1
    · rw [List.getElem?_set]
      by_cases c : k = j
      · subst c
        rw [if_pos rfl, if_pos (by rw [hI.1]; exact hk), if_pos (by omega), List.getElem?_eq_getElem hk]; rfl
      · rw [if_neg c, hI.2]
        by_cases d : j < k
        · rw [if_pos d, if_pos (by omega)]
        · rw [if_neg d, if_neg (by omega)]) (fun m hI => he m hI.1) l ⟨rfl, fun j => by rw [if_neg (by omega)]⟩
  refine h2.trans ?_
  congr 1
  refine List.ext_getElem? fun j => ?_
  show s[j]? = _
  rw [h1.2, List.getElem?_map]
  by_cases c : j < l.length
  · rw [if_pos c]
  · rw [if_neg c, List.getElem?_eq_none (by omega)]; rfl
theorem KB {α : Type} {m : List α} {k : Nat} {x : α} (h : m[k]? = some x) : m.set k x = m := by
  refine List.ext_getElem? fun j => ?_
  rw [List.getElem?_set]
  by_cases c : k = j
  · subst c
    rw [if_pos rfl, if_pos (List.getElem?_eq_some_iff.1 h).1, h]
  · rw [if_neg c]
theorem KP {α : Type} (l : List α) (hl : l.length ≤ 1000000) (P : α → Bool) (step : List α × Int × Int → Option ((List α × Int × Int) ⊕ (List α × Int)))
    (hs : ∀ (k w : Nat) (hk : k < l.length) (m : List α), m.length = l.length → w < k → m[k]? = some l[k] → step (m, (w : Int), (k : Int)) = some (.inl (if P l[k] = true then (m, (w : Int), Cc ((k : Int) + 1)) else (m.set w l[k], Cc ((w : Int) + 1), Cc ((k : Int) + 1)))))
    (he : ∀ m (w : Int), m.length = l.length → step (m, w, (l.length : Int)) = some (.inr (m, w))) {i : Nat} (hi : i < l.length) (h0 : ∀ (j : Nat) (y : α), j < i → l[j]? = some y → P y = false) (h1 : P l[i] = true) :
    ∃ (m : List α) (w : Nat), AX step (l, (i : Int), Cc ((i : Int) + 1)) = some (m, (w : Int)) ∧ m.length = l.length ∧ w ≤ l.length ∧ m.take w = l.filter (fun x => !P x) := by
  have key : ∀ (d k w : Nat) (m : List α), k + d = l.length → m.length = l.length → w < k → (∀ j, k ≤ j → m[j]? = l[j]?) → m.take w = (l.take k).filter (fun x => !P x) →
      ∃ (m' : List α) (w' : Nat), AX step (m, (w : Int), (k : Int)) = some (m', (w' : Int)) ∧ m'.length = l.length ∧ w' ≤ l.length ∧ m'.take w' = l.filter (fun x => !P x) := by
    intro d
    induction d with
    | zero =>
      intro k w m hk hm hw hj ht
      obtain rfl : k = l.length := by omega
      exact ⟨m, w, BP (he m _ hm), hm, by omega, by rw [ht, List.take_length]⟩
    | succ d ih =>
      intro k w m hk hm hw hj ht
      have hk2 : k < l.length := by omega
      have hx : m[k]? = some l[k] := by rw [hj k (Nat.le_refl _), List.getElem?_eq_getElem hk2]
      have hstep := hs k w hk2 m hm hw hx
      rw [BC (by omega), BC (by omega)] at hstep
      have htk : (l.take (k + 1)).filter (fun x => !P x) = (l.take k).filter (fun x => !P x) ++ (if P l[k] = true then [] else [l[k]]) := by
        rw [List.take_succ_eq_append_getElem hk2, List.filter_append]
        congr 1
        by_cases c : P l[k] = true
        · rw [if_pos c]; simp [c]
        · rw [if_neg c]; simp [c]
      by_cases c : P l[k] = true
      · rw [if_pos c] at hstep
        rw [Cg hstep]
        exact ih (k + 1) w m (by omega) hm (by omega) (fun j h => hj j (by omega)) (by rw [htk, if_pos c, List.append_nil]; exact ht)
      · rw [if_neg c] at hstep
        rw [Cg hstep]
        refine ih (k + 1) (w + 1) (m.set w l[k]) (by omega) (by rw [List.length_set]; exact hm) (by omega) (fun j h => by rw [List.getElem?_set, if_neg (by omega)]; exact hj j (by omega)) ?_
        rw [htk, if_neg c, ← ht]
        refine List.ext_getElem? fun j => ?_
        rw [List.getElem?_take]
        by_cases c1 : j < w + 1
        · rw [if_pos c1, List.getElem?_set]
          by_cases c2 : w = j
          · subst c2
            rw [if_pos rfl, if_pos (by omega), List.getElem?_append_right (by rw [List.length_take]; omega), List.length_take, Nat.min_eq_left (by omega), Nat.sub_self]; rfl
          · rw [if_neg c2, List.getElem?_append_left (by rw [List.length_take]; omega), List.getElem?_take, if_pos (by omega)]
        · rw [if_neg c1, List.getElem?_append_right (by rw [List.length_take]; omega), List.length_take, Nat.min_eq_left (by omega), List.getElem?_eq_none (by simp; omega)]
  have hp : (l.take i).filter (fun x => !P x) = l.take i := List.filter_eq_self.2 fun x hx => by
    obtain ⟨j, hj, e⟩ := List.getElem_of_mem hx
    rw [List.length_take] at hj
    have := h0 j x (by omega) (by rw [← e, List.getElem_take, List.getElem?_eq_getElem])
    simp [this]
  have hw : Cc ((i : Int) + 1) = ((i + 1 : Nat) : Int) := by rw [BC (by omega)]; rfl
  rw [hw]
  refine key (l.length - (i + 1)) (i + 1) i l (by omega) rfl (by omega) (fun _ _ => rfl) ?_
  rw [List.take_succ_eq_append_getElem hi, List.filter_append, hp]
  simp [h1]
abbrev Md := Int × Rl × Bool
def Pm (k : Bool) (r x : Rl) : Bool := if k = true then decide (kq x r) else decide (WI x.2.1 r.2.1)
def rp (k : Bool) (r x : Rl) : Rl := if Pm k r x = true then (x.1, x.2.1, r.2.2) else x
abbrev LE (x r : Rl) : Prop := x.1 = r.1 ∧ x.2.1 ≠ r.2.1 ∧ ¬ Hy x.2.1 r.2.1
def E9 (v : Rl) : List Rl → List Rl
  | [] => [v]
  | x :: t => if x.1 < v.1 then v :: x :: t else x :: E9 v t
abbrev FL (t : List Rl) (r : Rl) : Prop := ∃ x ∈ t, kq x r
open Classical in
noncomputable def Eh (t : List Rl) (m : Md) (ports room : Int) : List Rl × Int :=
  if ¬ H3 ports m.2.1 then (t, 2)
  else if m.1 = 1 then (if m.2.2 = true ∧ ∃ x ∈ t, LE x m.2.1 then (t, 14) else if FL t m.2.1 then (t.map (rp true m.2.1), 0) else if room ≤ (t.length : Int) then (t, 6) else (E9 m.2.1 t, 0))
  else if m.1 = 2 then (t.map (rp false m.2.1), 0)
  else if m.1 = 3 then (if FL t m.2.1 then (t.map (rp true m.2.1), 0) else (t, 7))
  else if m.1 = 4 then (t.filter (fun x => !Pm false m.2.1 x), 0)
  else if m.1 = 5 then (if FL t m.2.1 then (t.filter (fun x => !Pm true m.2.1 x), 0) else (t, 7))
  else (t, 2)
theorem Jt {v x : Rl} : ∀ {t : List Rl}, x ∈ E9 v t ↔ x = v ∨ x ∈ t
  | [] => by unfold E9; simp
  | y :: t => by
    unfold E9
    by_cases c : y.1 < v.1
    · rw [if_pos c]; simp
    · rw [if_neg c, List.mem_cons, Jt, List.mem_cons]
      constructor
      · rintro (h | h | h)
        · exact .inr (.inl h)
        · exact .inl h
        · exact .inr (.inr h)
      · rintro (h | h | h)
        · exact .inr (.inl h)
        · exact .inl h
        · exact .inr (.inr h)
theorem Ja {v : Rl} : ∀ (t : List Rl), (E9 v t).length = t.length + 1
  | [] => rfl
  | y :: t => by
    unfold E9
    by_cases c : y.1 < v.1
    · rw [if_pos c]; rfl
    · rw [if_neg c, List.length_cons, Ja t]; rfl
theorem MG {v : Rl} : ∀ {t : List Rl}, t.Pairwise Bf → (∀ y ∈ t, ¬ kq y v) → (E9 v t).Pairwise Bf
  | [], _, _ => by unfold E9; exact List.pairwise_singleton _ _
  | y :: t, h, hk => by
    have hy := List.pairwise_cons.1 h
    unfold E9
    by_cases c : y.1 < v.1
    · rw [if_pos c]
      refine List.pairwise_cons.2 ⟨fun z hz => ?_, h⟩
      have hzv : z.1 ≤ y.1 := by
        rcases List.mem_cons.1 hz with rfl | hz
        · exact Int.le_refl _
        · exact (hy.1 z hz).1
      exact ⟨by omega, fun e => by have := e.1; omega⟩
    · rw [if_neg c]
      refine List.pairwise_cons.2 ⟨fun z hz => ?_, MG hy.2 fun z hz => hk z (List.mem_cons_of_mem _ hz)⟩
      rcases Jt.1 hz with rfl | hz
      · exact ⟨by omega, hk y (List.mem_cons_self ..)⟩
      · exact hy.1 z hz
theorem J3 {v : Rl} : ∀ {t : List Rl}, (∀ x ∈ t, ¬ x.1 < v.1) → E9 v t = t ++ [v]
  | [], _ => rfl
  | y :: t, h => by
    unfold E9
    rw [if_neg (h y (List.mem_cons_self ..)), J3 fun x hx => h x (List.mem_cons_of_mem _ hx)]; rfl
theorem M0 {v : Rl} : ∀ {t : List Rl} {j : Nat} {x : Rl}, t[j]? = some x → x.1 < v.1 → (∀ (i : Nat) (y : Rl), i < j → t[i]? = some y → ¬ y.1 < v.1) → E9 v t = t.take j ++ v :: t.drop j
  | [], j, x, h, _, _ => by simp at h
  | y :: t, 0, x, h, hx, _ => by
    obtain rfl : y = x := by simpa using h
    unfold E9; rw [if_pos hx]; rfl
  | y :: t, j + 1, x, h, hx, hb => by
    unfold E9
    rw [if_neg (hb 0 y (by omega) rfl), M0 (j := j) (x := x) (by simpa using h) hx fun i z hi hz => hb (i + 1) z (by omega) (by simpa using hz)]; rfl
theorem OP (k : Bool) (r x : Rl) : (rp k r x).1 = x.1 ∧ (rp k r x).2.1 = x.2.1 := by
  unfold rp
  by_cases c : Pm k r x = true
  · rw [if_pos c]; exact ⟨rfl, rfl⟩
  · rw [if_neg c]; exact ⟨rfl, rfl⟩
theorem RK {ports : Int} {r x : Rl} (k : Bool) (hr : H3 ports r) (hx : H3 ports x) : H3 ports (rp k r x) := by
  unfold rp
  by_cases c : Pm k r x = true
  · rw [if_pos c]; exact ⟨hx.1, hx.2.1, hr.2.2⟩
  · rw [if_neg c]; exact hx
theorem Qo {ports room : Int} {t : List Rl} (k : Bool) {r : Rl} (h : IQ ports room t) (hr : H3 ports r) : IQ ports room (t.map (rp k r)) := by
  refine ⟨by rw [List.length_map]; exact h.1, fun x hx => ?_, List.pairwise_map.2 (h.2.2.imp fun {a b} hab => ?_)⟩
  · obtain ⟨y, hy, rfl⟩ := List.mem_map.1 hx
    exact RK k hr (h.2.1 y hy)
  · have ha := OP k r a
    have hb := OP k r b
    refine ⟨by rw [ha.1, hb.1]; exact hab.1, fun e => hab.2 ⟨?_, ?_⟩⟩
    · rw [← ha.1, ← hb.1]; exact e.1
    · rw [← ha.2, ← hb.2]; exact e.2
theorem Nk {ports room : Int} {t : List Rl} (p : Rl → Bool) (h : IQ ports room t) : IQ ports room (t.filter p) :=
  ⟨by have := List.length_filter_le p t; have := h.1; omega, fun x hx => h.2.1 x (List.mem_filter.1 hx).1, h.2.2.sublist List.filter_sublist⟩
theorem LX {ports room : Int} {t : List Rl} (m : Md) (h : IQ ports room t) : IQ ports room (Eh t m ports room).1 ∧ (Eh t m ports room).1.length ≤ t.length + 1 := by
  have h0 : IQ ports room t ∧ t.length ≤ t.length + 1 := ⟨h, by omega⟩
  have hm : ∀ k, H3 ports m.2.1 → IQ ports room (t.map (rp k m.2.1)) ∧ (t.map (rp k m.2.1)).length ≤ t.length + 1 := fun k hr => ⟨Qo k h hr, by rw [List.length_map]; omega⟩
  have hf : ∀ p : Rl → Bool, IQ ports room (t.filter p) ∧ (t.filter p).length ≤ t.length + 1 := fun p => ⟨Nk p h, by have := List.length_filter_le p t; omega⟩
  unfold Eh
  by_cases hr : H3 ports m.2.1
  · rw [if_neg (fun hc => hc hr)]
    by_cases c1 : m.1 = 1
    · rw [if_pos c1]
      by_cases d1 : m.2.2 = true ∧ ∃ x ∈ t, LE x m.2.1
      · rw [if_pos d1]; exact h0
      · rw [if_neg d1]
        by_cases d2 : FL t m.2.1
        · rw [if_pos d2]; exact hm true hr
        · rw [if_neg d2]
          by_cases d3 : room ≤ (t.length : Int)
          · rw [if_pos d3]; exact h0
          · rw [if_neg d3]
            refine ⟨⟨by rw [Ja]; omega, fun x hx => ?_, MG h.2.2 fun y hy e => d2 ⟨y, hy, e⟩⟩, by rw [Ja]; omega⟩
            rcases Jt.1 hx with rfl | hx
            · exact hr
            · exact h.2.1 x hx
    · rw [if_neg c1]
      by_cases c2 : m.1 = 2
      · rw [if_pos c2]; exact hm false hr
      · rw [if_neg c2]
        by_cases c3 : m.1 = 3
        · rw [if_pos c3]
          by_cases d2 : FL t m.2.1
          · rw [if_pos d2]; exact hm true hr
          · rw [if_neg d2]; exact h0
        · rw [if_neg c3]
          by_cases c4 : m.1 = 4
          · rw [if_pos c4]; exact hf _
          · rw [if_neg c4]
            by_cases c5 : m.1 = 5
            · rw [if_pos c5]
              by_cases d2 : FL t m.2.1
              · rw [if_pos d2]; exact hf _
              · rw [if_neg d2]; exact h0
            · rw [if_neg c5]; exact h0
  · rw [if_pos hr]; exact h0
theorem GN {x : Rl} (h : x.2.2.length ≤ 1000) : Cb x = some x := by
  unfold Cb A8
  rw [EU (by simp; omega)]; rfl
theorem G0 {α : Type} (l : List α) (i : Nat) (x : α) : Dv l (i : Int) x = l.set i x := by unfold Dv; rw [Int.toNat_natCast]
theorem Kd {t : List Rl} (hl : t.length ≤ 1000) (hA : ∀ x ∈ t, x.2.2.length ≤ 1000) : Dm t = some t := by
  unfold Dm
  rw [P6 (by omega), Option.bind_some]
  have e : IE (List.replicate ((t.length : Int)).toNat ((0, (0, (0, 0, 0, 0), (0, 0, 0, 0)), []) : Rl)) 0 (min t.length (List.replicate ((t.length : Int)).toNat ((0, (0, (0, 0, 0, 0), (0, 0, 0, 0)), []) : Rl)).length) t = t := by
    unfold IE
    rw [List.length_replicate, Int.toNat_natCast, Nat.min_self, List.take_length, List.drop_eq_nil_of_le (by simp)]
    simp
  rw [e, I7 t (by omega) (fun x => x) _ (fun k hk m hm hx => by
    rw [D2, e, if_pos (by omega), Cd hx, Option.bind_some, GN (hA _ (List.getElem_mem hk)), Option.bind_some, Option.bind_some, G0]) (fun m hm => by rw [D2, e, if_neg (by omega)]), List.map_id']; rfl
theorem Il (x r : Rl) : Cq x r = decide (kq x r) := by
  unfold Cq
  rw [Mg]
  exact decide_eq_decide.2 ⟨fun h => ⟨h.1.symm, h.2.symm⟩, fun h => ⟨h.1.symm, h.2.symm⟩⟩
theorem Hn {x r : Rl} (hx : ES x.2.1) (hr : ES r.2.1) : CW x r = some (decide (WI x.2.1 r.2.1)) := by
  unfold CW
  rw [M4 hx hr]; rfl
theorem Ks {α : Type} (P : α → Bool) (l : List α) [Decidable (∃ x ∈ l, P x = true)] : decide (0 ≤ Ih P l 0) = decide (∃ x ∈ l, P x = true) := by
  rcases Gi P l 0 with ⟨h1, h2⟩ | ⟨j, x, h1, h2, h3, h4⟩
  · rw [h1, decide_eq_false (p := ∃ x ∈ l, P x = true) (fun ⟨x, hx, h⟩ => by rw [h2 x hx] at h; cases h)]; rfl
  · rw [h3, decide_eq_true (show ∃ x ∈ l, P x = true from ⟨x, List.mem_of_getElem? h1, h2⟩), decide_eq_true (by omega)]
section
variable {t : List Rl} (hl : t.length ≤ 1000) {ports : Int} (hok : ∀ x ∈ t, H3 ports x) {r : Rl} (hr : H3 ports r)
include hl
theorem MB (r : Rl) : A6 t r = some (Ih (Pm true r) t 0) := by
  unfold A6
  rw [GO t (by omega) (Pm true r) (Bg t r) (fun k hk => by
    rw [Bg, if_pos (by omega), Cd (List.getElem?_eq_getElem hk), Option.bind_some, Il]; rfl) (by rw [Bg, if_neg (by omega)])]
theorem Pu (m : Md) : A5 t m = some (Ih (fun x => decide (x.1 < m.2.1.1)) t 0) := by
  unfold A5
  rw [GO t (by omega) (fun x => decide (x.1 < m.2.1.1)) (Be t m) (fun k hk => by
    rw [Be, if_pos (by omega), Cd (List.getElem?_eq_getElem hk), Option.bind_some]; rfl) (by rw [Be, if_neg (by omega)])]
include hok hr
theorem Pd : Br t r = some (Ih (Pm false r) t 0) := by
  unfold Br
  rw [GO t (by omega) (Pm false r) (Bc t r) (fun k hk => by
    rw [Bc, if_pos (by omega), Cd (List.getElem?_eq_getElem hk), Option.bind_some, Hn (hok _ (List.getElem_mem hk)).2.1 hr.2.1, Option.bind_some]; rfl) (by rw [Bc, if_neg (by omega)])]
theorem Px (c : Int) (b : Bool) : BB t (c, r, b) = some (Ih (fun x => decide (LE x r)) t 0) := by
  unfold BB
  rw [GO t (by omega) (fun x => decide (LE x r)) (Bl t (c, r, b)) (fun k hk => by
    rw [Bl, if_pos (by omega), Cd (List.getElem?_eq_getElem hk), Option.bind_some]
    unfold FX
    rw [Pq (hok _ (List.getElem_mem hk)).2.1 hr.2.1, Option.bind_some, Option.bind_some]) (by rw [Bl, if_neg (by omega)])]
omit hok in
theorem LC : CR t r r = some (t.map (rp true r)) := by
  unfold CR
  rw [I7 t (by omega) (rp true r) _ (fun k hk m hm hx => by
    rw [DS, if_pos (by omega), Cd hx, Option.bind_some, Il]
    have hc := GN (x := r) (by have := hr.2.2.1; omega)
    change (Option.bind (if Pm true r t[k] = true then _ else _) _) = _
    unfold rp
    by_cases c : Pm true r t[k] = true
    · rw [if_pos c, if_pos c, hc, Option.bind_some, Option.bind_some, G0]; rfl
    · rw [if_neg c, if_neg c, Option.bind_some, KB hx]) (fun m hm => by rw [DS, if_neg (by omega)])]; rfl
theorem OQ : CY t r r = some (t.map (rp false r)) := by
  unfold CY
  rw [I7 t (by omega) (rp false r) _ (fun k hk m hm hx => by
    rw [Do, if_pos (by omega), Cd hx, Option.bind_some, Hn (hok _ (List.getElem_mem hk)).2.1 hr.2.1, Option.bind_some]
    have hc := GN (x := r) (by have := hr.2.2.1; omega)
    change (Option.bind (if Pm false r t[k] = true then _ else _) _) = _
    unfold rp
    by_cases c : Pm false r t[k] = true
    · rw [if_pos c, if_pos c, hc, Option.bind_some, Option.bind_some, G0]; rfl
    · rw [if_neg c, if_neg c, Option.bind_some, KB hx]) (fun m hm => by rw [Do, if_neg (by omega)])]; rfl
end
theorem Mx {α : Type} (z : α) {m l : List α} {w : Nat} (hm : m.length = l.length) (hw : w ≤ l.length) {P : α → Bool} (ht : m.take w = l.filter (fun x => !P x)) :
    ((Em m (w : Int) (m.length : Int)).bind fun x11 => (PV m (w : Int) (List.replicate (x11.length) z)).bind fun x12 => (Em x12 0 (w : Int)).bind fun x13 => some x13) = some (l.filter (fun x => !P x)) := by
  rw [FT (by omega), Option.bind_some]
  have e1 : ((m.take ((m.length : Int)).toNat).drop ((w : Int)).toNat).length = m.length - w := by rw [Int.toNat_natCast, Int.toNat_natCast, List.take_length, List.length_drop]
  rw [e1]
  have e2 : PV m (w : Int) (List.replicate (m.length - w) z) = some (m.take w ++ List.replicate (m.length - w) z ++ m.drop (w + (m.length - w))) := by
    unfold PV
    rw [if_pos (by rw [List.length_replicate]; omega), Int.toNat_natCast, List.length_replicate]
  rw [e2, Option.bind_some, FT (by simp; omega), Option.bind_some, Int.toNat_natCast]
  rw [← ht]
  congr 1
  rw [List.append_assoc, List.take_append_of_le_length (by rw [List.length_take]; omega), List.take_take, Nat.min_self]; rfl
section
variable {t : List Rl} (hl : t.length ≤ 1000) {ports : Int} (hok : ∀ x ∈ t, H3 ports x) {r : Rl} (hr : H3 ports r)
include hl
theorem Pv (r : Rl) : A1 t r = some (t.filter (fun x => !Pm true r x)) := by
  unfold A1
  rw [MB hl, Option.bind_some]
  rcases Gi (Pm true r) t 0 with ⟨h1, h2⟩ | ⟨j, x, h1, h2, h3, h4⟩
  · rw [if_pos h1, List.filter_eq_self.2 fun x hx => by rw [h2 x hx]; rfl]
  · have hj := (List.getElem?_eq_some_iff.1 h1).1
    have hx : t[j] = x := (List.getElem?_eq_some_iff.1 h1).2
    obtain ⟨m, w, g1, g2, g3, g4⟩ := KP t (by omega) (Pm true r) (Ba r) (fun k w hk m hm hw hxk => by
      rw [Ba, if_pos (by omega), Cd hxk, Option.bind_some, Il]
      change (Option.bind (if (!Pm true r t[k]) = true then _ else _) _) = _
      obtain ⟨y, hy⟩ : ∃ y, m[w]? = some y := ⟨m[w]'(by omega), List.getElem?_eq_getElem (by omega)⟩
      by_cases c : Pm true r t[k] = true
      · rw [c, if_neg (by decide), if_pos rfl]; rfl
      · rw [if_pos (by simpa using c), if_neg c, Cd hy, Option.bind_some, G0]; rfl) (fun m w hm => by rw [Ba, if_neg (by omega)]) hj h4 (by rw [hx]; exact h2)
    rw [h3, Nat.zero_add, if_neg (by omega), g1, Option.bind_some]
    exact Mx _ g2 g3 g4
include hok hr
theorem Ph : A9 t r = some (t.filter (fun x => !Pm false r x)) := by
  unfold A9
  rw [Pd hl hok hr, Option.bind_some]
  rcases Gi (Pm false r) t 0 with ⟨h1, h2⟩ | ⟨j, x, h1, h2, h3, h4⟩
  · rw [if_pos h1, List.filter_eq_self.2 fun x hx => by rw [h2 x hx]; rfl]
  · have hj := (List.getElem?_eq_some_iff.1 h1).1
    have hx : t[j] = x := (List.getElem?_eq_some_iff.1 h1).2
    obtain ⟨m, w, g1, g2, g3, g4⟩ := KP t (by omega) (Pm false r) (Bj r) (fun k w hk m hm hw hxk => by
      rw [Bj, if_pos (by omega), Cd hxk, Option.bind_some, Hn (hok _ (List.getElem_mem hk)).2.1 hr.2.1, Option.bind_some]
      change (Option.bind (if (!Pm false r t[k]) = true then _ else _) _) = _
      obtain ⟨y, hy⟩ : ∃ y, m[w]? = some y := ⟨m[w]'(by omega), List.getElem?_eq_getElem (by omega)⟩
      by_cases c : Pm false r t[k] = true
      · rw [c, if_neg (by decide), if_pos rfl]; rfl
      · rw [if_pos (by simpa using c), if_neg c, Cd hy, Option.bind_some, G0]; rfl) (fun m w hm => by rw [Bj, if_neg (by omega)]) hj h4 (by rw [hx]; exact h2)
    rw [h3, Nat.zero_add, if_neg (by omega), g1, Option.bind_some]
    exact Mx _ g2 g3 g4
end
theorem OI {a b : Nat} (h : a < b) : Q2 a b = some () := by unfold Q2; rw [if_pos h]
theorem J4 {t : List Rl} (hl : t.length ≤ 1000) {i : Nat} (hi : i ≤ t.length) (v : Rl) : Bv t (i : Int) [v] = some (t.take i ++ v :: t.drop i) := by
  unfold Bv
  rw [FT (by omega), Option.bind_some, if_neg (by simp)]
  by_cases c : i = t.length
  · subst c
    rw [if_pos rfl, OI (by simp), Option.bind_some, EU (by simp; omega), List.take_length, List.drop_length]; rfl
  · have hw1 : Cc ((t.length : Int) + (([v] : List Rl).length : Int)) = (t.length : Int) + 1 := BC (by simp; omega)
    have hw2 : Cc ((t.length : Int) + 1 - (i : Int)) = ((t.length + 1 - i : Nat) : Int) := by rw [BC (by omega)]; omega
    have hw3 : Cc ((i : Int) + (([v] : List Rl).length : Int)) = ((i + 1 : Nat) : Int) := by rw [BC (by simp; omega)]; rfl
    rw [if_neg (by omega), hw1, if_pos (by omega), FT (by omega), Option.bind_some, hw2, P6 (by omega), Option.bind_some, Int.toNat_natCast, Int.toNat_natCast]
    have e0 : (t.take i).drop (0 : Int).toNat = t.take i := rfl
    rw [e0, OI (by rw [List.length_take]; omega), Option.bind_some, EU (by simp; omega), Option.bind_some, FT (by simp; omega), Option.bind_some, Int.toNat_natCast, Int.toNat_natCast]
    generalize hz : ((0, (0, (0, 0, 0, 0), (0, 0, 0, 0)), []) : Rl) = z
    have hX : (t.take i ++ List.replicate (t.length + 1 - i) z).length = t.length + 1 := by simp; omega
    rw [hw3, List.take_length, List.length_drop, hX]
    have m1 : min ([v] : List Rl).length (t.length + 1 - i) = 1 := by simp; omega
    rw [m1]
    have hlen : (t.take i).length = i := by rw [List.length_take]; omega
    have c1 : IE (t.take i ++ List.replicate (t.length + 1 - i) z) (i : Int) 1 [v] = t.take i ++ v :: List.replicate (t.length - i) z := by
      unfold IE
      rw [Int.toNat_natCast, List.take_append_of_le_length (by omega), List.take_of_length_le (l := t.take i) (by omega), List.drop_append, List.drop_eq_nil_of_le (by omega), hlen, List.drop_replicate]
      rw [show t.length + 1 - i - (i + 1 - i) = t.length - i by omega]
      simp
    rw [c1]
    have hY : (t.take i ++ v :: List.replicate (t.length - i) z).length = t.length + 1 := by simp; omega
    rw [hY, FT (by rw [hY]; omega), Option.bind_some, Option.bind_some]
    congr 1
    have m2 : min ((t.take ((t.length : Int)).toNat).drop i).length (((t.take i ++ v :: List.replicate (t.length - i) z).take (((t.length + 1 : Nat) : Int)).toNat).drop (((i + 1 : Nat) : Int)).toNat).length = t.length - i := by
      simp; omega
    rw [m2]
    unfold IE
    rw [Int.toNat_natCast, Int.toNat_natCast, List.take_length]
    have e1 : (t.take i ++ v :: List.replicate (t.length - i) z).take (i + 1) = t.take i ++ [v] := by
      rw [List.take_append, hlen, List.take_of_length_le (l := t.take i) (by omega), show i + 1 - i = 1 by omega]; rfl
    have e3 : (t.take i ++ v :: List.replicate (t.length - i) z).drop (i + 1 + (t.length - i)) = [] := List.drop_eq_nil_of_le (by rw [hY]; omega)
    have e4 : (t.drop i).take (t.length - i) = t.drop i := List.take_of_length_le (by rw [List.length_drop]; omega)
    rw [e1, e3, e4]
    simp
theorem Jq (v : Rl) : ∀ (l out : List Rl), l.foldl (fun (s : List Rl × Bool) x => if s.2 = false ∧ x.1 < v.1 then (s.1 ++ [v] ++ [x], true) else (s.1 ++ [x], s.2)) (out, true) = (out ++ l, true) ∧
    (let s := l.foldl (fun (s : List Rl × Bool) x => if s.2 = false ∧ x.1 < v.1 then (s.1 ++ [v] ++ [x], true) else (s.1 ++ [x], s.2)) (out, false); (if s.2 = true then s.1 else s.1 ++ [v]) = out ++ E9 v l)
  | [], out => ⟨by simp, by simp [E9]⟩
  | x :: l, out => by
    have ih := Jq v l
    refine ⟨?_, ?_⟩
    · rw [List.foldl_cons, if_neg (by simp), (ih _).1]; simp
    · rw [List.foldl_cons]
      by_cases c : x.1 < v.1
      · rw [if_pos ⟨rfl, c⟩, (ih _).1]
        unfold E9
        rw [if_pos c]
        simp
      · rw [if_neg (fun h => c h.2)]
        have := (ih (out ++ [x])).2
        unfold E9
        rw [if_neg c]
        simp only [List.append_assoc, List.singleton_append] at this ⊢
        exact this
theorem Ng {t : List Rl} (hl : t.length ≤ 1000) (v : Rl) : Gd t v = some (E9 v t) := by
  unfold Gd
  obtain ⟨h, hg⟩ := Ji t (fun (s : List Rl × Bool) (k : Nat) => (s.1, s.2, (k : Int))) (fun (s : List Rl × Bool) x => if s.2 = false ∧ x.1 < v.1 then (s.1 ++ [v] ++ [x], true) else (s.1 ++ [x], s.2)) (C0 t v) (fun s => s) (fun s k => s.1.length ≤ 2 * k) ([], false) (Nat.le_refl _) (fun s k hk hG => by
    obtain ⟨o, b⟩ := s
    have hG : o.length ≤ 2 * k := hG
    have hx := Cd (List.getElem?_eq_getElem hk)
    show C0 t v (o, b, (k : Int)) = _ ∧ _
    rw [C0, if_pos (by omega), hx]
    cases b with
    | true =>
      rw [if_neg (by decide), Option.bind_some, if_neg (by decide), Option.bind_some]
      simp only [Option.bind_some]
      rw [EU (by simp; omega), Option.bind_some, BC (by omega), if_neg (by simp)]
      exact ⟨rfl, by simp; omega⟩
    | false =>
      rw [if_pos (by decide), Option.bind_some, Option.bind_some]
      by_cases c : t[k].1 < v.1
      · rw [decide_eq_true c, if_pos rfl, EU (by simp; omega), Option.bind_some]
        simp only [Option.bind_some]
        rw [EU (by simp; omega), Option.bind_some, BC (by omega), if_pos (by constructor <;> first | rfl | trivial | exact c)]
        exact ⟨rfl, by simp; omega⟩
      · rw [decide_eq_false c, if_neg (by decide)]
        simp only [Option.bind_some]
        rw [EU (by simp; omega), Option.bind_some, BC (by omega), if_neg (fun h => c h.2)]
        exact ⟨rfl, by simp; omega⟩) (fun s => by
    obtain ⟨o, b⟩ := s
    show C0 t v (o, b, (t.length : Int)) = _
    rw [C0, if_neg (by omega)])
  have h2 := (Jq v t []).2
  generalize hs : t.foldl (fun (s : List Rl × Bool) x => if s.2 = false ∧ x.1 < v.1 then (s.1 ++ [v] ++ [x], true) else (s.1 ++ [x], s.2)) ([], false) = s at h hg h2
  obtain ⟨o, b⟩ := s
  have h : AX (C0 t v) ([], false, 0) = some (o, b) := h
  rw [h, Option.bind_some]
  have hg : o.length ≤ 2 * t.length := hg
  cases b with
  | true => rw [← show o = E9 v t from h2]; rfl
  | false =>
    rw [← show o ++ [v] = E9 v t from h2]
    show Option.bind (if (!false) = true then _ else _) _ = _
    rw [if_pos (by decide), EU (by simp; omega)]; rfl
abbrev JA (k d : Bool) (r : Rl) (s : List Rl × Int) (x : Rl) : List Rl × Int := if Pm k r x = true then (if d = true then s.1 else s.1 ++ [(x.1, x.2.1, r.2.2)], s.2 + 1) else (s.1 ++ [x], s.2)
theorem KG (k d : Bool) (r : Rl) : ∀ (l : List Rl) (s : List Rl × Int), (l.foldl (JA k d r) s).1 = s.1 ++ (if d = true then l.filter (fun x => !Pm k r x) else l.map (rp k r)) ∧ s.2 ≤ (l.foldl (JA k d r) s).2 ∧ ((l.foldl (JA k d r) s).2 = s.2 ↔ ¬ ∃ x ∈ l, Pm k r x = true)
  | [], s => ⟨by cases d <;> simp, Int.le_refl _, by simp⟩
  | x :: l, s => by
    rw [List.foldl_cons]
    obtain ⟨i1, i2, i3⟩ := KG k d r l (JA k d r s x)
    by_cases c : Pm k r x = true
    · have e : JA k d r s x = (if d = true then s.1 else s.1 ++ [(x.1, x.2.1, r.2.2)], s.2 + 1) := if_pos c
      rw [e] at i1 i2 i3 ⊢
      refine ⟨?_, by simp only at i2; omega, ⟨fun h => by simp only at i2; omega, fun h => absurd ⟨x, List.mem_cons_self .., c⟩ h⟩⟩
      rw [i1]
      cases d with
      | true => simp [c]
      | false => simp [c, rp]
    · have e : JA k d r s x = (s.1 ++ [x], s.2) := if_neg c
      rw [e] at i1 i2 i3 ⊢
      refine ⟨?_, i2, i3.trans ⟨fun h hc => ?_, fun h hc => h ?_⟩⟩
      · rw [i1]
        cases d with
        | true => simp [c]
        | false => simp [c, rp]
      · obtain ⟨y, hy, hp⟩ := hc
        rcases List.mem_cons.1 hy with rfl | hy
        · exact c hp
        · exact h ⟨y, hy, hp⟩
      · obtain ⟨y, hy, hp⟩ := hc
        exact ⟨y, List.mem_cons_of_mem _ hy, hp⟩
theorem Ld {t : List Rl} (hl : t.length ≤ 1000) {ports : Int} (hok : ∀ x ∈ t, H3 ports x) (c : Int) {r : Rl} (hr : H3 ports r) (b k d : Bool) : DM t (c, r, b) k d = some (t.foldl (JA k d r) ([], 0)) := by
  unfold DM
  obtain ⟨h, hg⟩ := Ji t (fun (s : List Rl × Int) (j : Nat) => (k, s.1, s.2, (j : Int))) (JA k d r) (CF t (c, r, b) d) (fun s => s) (fun s j => s.1.length ≤ j ∧ 0 ≤ s.2 ∧ s.2 ≤ j) ([], 0) ⟨Nat.le_refl _, Int.le_refl _, Int.le_refl _⟩ (fun s j hj hG => by
    obtain ⟨o, n⟩ := s
    obtain ⟨hG, hn0, hn⟩ := hG
    have hG : o.length ≤ j := hG
    have hn0 : 0 ≤ n := hn0
    have hn : n ≤ (j : Int) := hn
    have hx := Cd (List.getElem?_eq_getElem hj)
    have hw := Mb (hok _ (List.getElem_mem hj)).2.1 hr.2.1
    show CF t (c, r, b) d (k, o, n, (j : Int)) = _ ∧ _
    rw [CF, if_pos (by omega), hx, Option.bind_some, hw, Option.bind_some]
    have hcond : (if k = true then (some t[j]).bind fun x14 => some (true, FP x14 r) else some (false, decide (WI t[j].2.1 r.2.1))) = some (k, Pm k r t[j]) := by
      cases k with
      | true => rw [if_pos rfl, Option.bind_some, Mp]; rfl
      | false => rw [if_neg (by decide)]; rfl
    have hn1 : Cc (n + 1) = n + 1 := BC (by omega)
    have hj1 : Cc ((j : Int) + 1) = ((j + 1 : Nat) : Int) := by rw [BC (by omega)]; rfl
    show Option.bind (Option.bind (if k = true then _ else _) _) _ = _ ∧ _
    rw [hcond, Option.bind_some]
    by_cases p : Pm k r t[j] = true
    · rw [p]
      show Option.bind (if (!true) = true then _ else _) _ = _ ∧ _
      rw [if_neg (by decide)]
      have e : JA k d r (o, n) t[j] = (if d = true then o else o ++ [(t[j].1, t[j].2.1, r.2.2)], n + 1) := if_pos p
      rw [e]
      cases d with
      | true =>
        rw [if_neg (by decide), Option.bind_some, hn1, hj1, if_pos rfl]
        exact ⟨rfl, by simp only; omega, by simp only; omega, by simp only; omega⟩
      | false =>
        rw [if_pos (by decide), Option.bind_some, EU (by simp; omega), Option.bind_some, Option.bind_some, hn1, hj1, if_neg (by decide)]
        exact ⟨rfl, by simp; omega, by simp only; omega, by simp only; omega⟩
    · have p' : Pm k r t[j] = false := by simpa using p
      rw [p']
      show Option.bind (if (!false) = true then _ else _) _ = _ ∧ _
      rw [if_pos (by decide), Option.bind_some, EU (by simp; omega), Option.bind_some, Option.bind_some, hj1]
      have e : JA k d r (o, n) t[j] = (o ++ [t[j]], n) := if_neg p
      rw [e]
      exact ⟨rfl, by simp; omega, hn0, by simp only; omega⟩) (fun s => by
    obtain ⟨o, n⟩ := s
    show CF t (c, r, b) d (k, o, n, (t.length : Int)) = _
    rw [CF, if_neg (by omega)])
  have h : AX (CF t (c, r, b) d) (k, [], 0, 0) = some (t.foldl (JA k d r) ([], 0)) := h
  rw [h]; rfl
open Classical in
theorem J5 {α ε : Type} (l : List α) (hl : l.length ≤ 1000000) (step : Int → Option (Int ⊕ (Unit ⊕ ε))) (P : α → Prop) (e : ε)
    (hs : ∀ k (hk : k < l.length), step (k : Int) = if P l[k] then some (.inr (.inr e)) else some (.inl (Cc ((k : Int) + 1))))
    (he : step (l.length : Int) = some (.inr (.inl ()))) : AX step 0 = some (if ∃ x ∈ l, P x then .inr e else .inl ()) := by
  have key : ∀ (d k : Nat), k + d = l.length → AX step (k : Int) = some (if ∃ x ∈ l.drop k, P x then .inr e else .inl ()) := by
    intro d
    induction d with
    | zero =>
      intro k hk
      obtain rfl : k = l.length := by omega
      rw [BP he, if_neg (fun ⟨x, hx, _⟩ => by rw [List.drop_length] at hx; cases hx)]
    | succ d ih =>
      intro k hk
      have hk2 : k < l.length := by omega
      have h := hs k hk2
      rw [List.drop_eq_getElem_cons hk2]
      by_cases c : P l[k]
      · rw [if_pos c] at h
        rw [BP h, if_pos ⟨_, List.mem_cons_self .., c⟩]
      · rw [if_neg c, BC (by omega)] at h
        rw [Cg h]
        refine (ih (k + 1) (by omega)).trans ?_
        congr 1
        by_cases q : ∃ x ∈ l.drop (k + 1), P x
        · obtain ⟨x, h1, h2⟩ := q
          rw [if_pos ⟨x, h1, h2⟩, if_pos ⟨x, List.mem_cons_of_mem _ h1, h2⟩]
        · rw [if_neg q, if_neg (fun ⟨x, h1, h2⟩ => by
            rcases List.mem_cons.1 h1 with rfl | h1
            · exact c h2
            · exact q ⟨x, h1, h2⟩)]
  exact key l.length 0 (by omega)
theorem HM {t : List Rl} {r : Rl} : (∃ x ∈ t, Pm true r x = true) ↔ FL t r := by
  constructor
  · rintro ⟨x, hx, h⟩; exact ⟨x, hx, of_decide_eq_true h⟩
  · rintro ⟨x, hx, h⟩; exact ⟨x, hx, decide_eq_true h⟩
theorem KZ {t : List Rl} (hl : t.length ≤ 1000) (r : Rl) : Ax t r = some (decide (FL t r)) := by
  have hd : Decidable (∃ x ∈ t, Pm true r x = true) := Classical.propDecidable _
  unfold Ax
  rw [MB hl, Option.bind_some, Ks]
  congr 1
  exact decide_eq_decide.2 HM
theorem OC {t : List Rl} (hl : t.length ≤ 1000) {ports : Int} (hok : ∀ x ∈ t, H3 ports x) {r : Rl} (hr : H3 ports r) (c : Int) (b : Bool) : AZ t (c, r, b) = some (decide (∃ x ∈ t, LE x r)) := by
  have hd : Decidable (∃ x ∈ t, decide (LE x r) = true) := Classical.propDecidable _
  unfold AZ
  rw [Px hl hok hr, Option.bind_some, Ks]
  congr 1
  exact decide_eq_decide.2 ⟨fun ⟨x, h1, h2⟩ => ⟨x, h1, of_decide_eq_true h2⟩, fun ⟨x, h1, h2⟩ => ⟨x, h1, decide_eq_true h2⟩⟩
theorem QS {t : List Rl} (hl : t.length ≤ 999) {ports room : Int} (hok : ∀ x ∈ t, H3 ports x) {r : Rl} (hr : H3 ports r) (b : Bool) : Gb t (1, r, b) room = some (Eh t (1, r, b) ports room) := by
  have hap : Eh t (1, r, b) ports room = (if b = true ∧ ∃ x ∈ t, LE x r then (t, 14) else if FL t r then (t.map (rp true r), 0) else if room ≤ (t.length : Int) then (t, 6) else (E9 r t, 0)) := by
    unfold Eh
    rw [if_neg (fun hc => hc hr), if_pos rfl]
  rw [hap]
  have hco := OC (by omega) hok hr 1 true
  have hck := KZ (t := t) (by omega) r
  have hrep := LC (t := t) (by omega) hr
  unfold Gb Ab
  show Option.bind (if b = true then (AZ t (1, r, true)).bind _ else _) _ = _
  rw [hco]
  have key : ∀ b' : Bool, (if false = true then some (t, (14 : Int)) else (Ax t r).bind fun x4 => (if x4 = true then (CR t r r).bind fun x5 => some (x5, 0) else (if room ≤ (t.length : Int) then some (t, 6) else (A5 t (1, r, b')).bind fun x6 => (if x6 < 0 then some (t.length : Int) else some x6).bind fun x7 => (Cb r).bind fun x8 => (Bv t x7 ([x8] : List (Rl))).bind fun x9 => some (x9, 0)))) = some (if FL t r then (t.map (rp true r), 0) else if room ≤ (t.length : Int) then (t, 6) else (E9 r t, 0)) := fun b' => by
    rw [if_neg (by decide), hck, Option.bind_some]
    by_cases d2 : FL t r
    · rw [decide_eq_true d2, if_pos rfl, hrep, Option.bind_some, if_pos d2]
    · rw [decide_eq_false d2, if_neg (by decide), if_neg d2]
      by_cases d3 : room ≤ (t.length : Int)
      · rw [if_pos d3, if_pos d3]
      · rw [if_neg d3, if_neg d3, Pu (by omega), Option.bind_some]
        rcases Gi (fun x : Rl => decide (x.1 < r.1)) t 0 with ⟨h1, h2⟩ | ⟨j, x, h1, h2, h3, h4⟩
        · rw [h1, if_pos (by decide), Option.bind_some, GN (by have := hr.2.2.1; omega), Option.bind_some, J4 (by omega) (Nat.le_refl _), Option.bind_some, J3 fun x hx => of_decide_eq_false (h2 x hx), List.take_length, List.drop_length]
        · have hj := (List.getElem?_eq_some_iff.1 h1).1
          rw [h3, if_neg (by omega), Option.bind_some, GN (by have := hr.2.2.1; omega), Option.bind_some, Nat.zero_add, J4 (by omega) (by omega), Option.bind_some, M0 h1 (of_decide_eq_true h2) fun i y hi hy => of_decide_eq_false (h4 i y hi hy)]
  cases b with
  | true =>
    rw [if_pos rfl, Option.bind_some, Option.bind_some]
    by_cases d1 : ∃ x ∈ t, LE x r
    · rw [if_pos ⟨rfl, d1⟩, decide_eq_true d1]; rfl
    · rw [if_neg (fun h => d1 h.2), decide_eq_false d1]
      exact key true
  | false =>
    rw [if_neg (by decide), if_neg (fun h => by cases h.1), Option.bind_some]
    exact key false
theorem OG {t : List Rl} (hl : t.length ≤ 999) {ports room : Int} (hok : ∀ x ∈ t, H3 ports x) (m : Md) (hI : I4 m.2.1.2.1.2.1) : E2 t m ports room = some (Eh t m ports room) := by
  obtain ⟨c, r, b⟩ := m
  have hcp := Kd (t := t) (by omega) (fun x hx => by have := (hok x hx).2.2.1; omega)
  unfold E2 Ab Ag
  rw [hcp, Option.bind_some, PB hI, Option.bind_some]
  by_cases hr : H3 ports r
  · have hck := KZ (t := t) (by omega) r
    have hrep := LC (t := t) (by omega) hr
    have hrp2 := OQ (t := t) (by omega) hok hr
    have hd1 := Ph (t := t) (by omega) hok hr
    have hd2 := Pv (t := t) (by omega) r
    rw [decide_eq_true hr, if_neg (by decide)]
    by_cases c1 : c = 1
    · subst c1
      have he : RA t.length (((t.length : Int)).toNat) = some () := by unfold RA; rw [if_pos (by omega)]
      rw [if_pos rfl, he, Option.bind_some, QS hl hok hr, Option.bind_some]
    · have hap : Eh t (c, r, b) ports room = (if c = 2 then (t.map (rp false r), 0) else if c = 3 then (if FL t r then (t.map (rp true r), 0) else (t, 7)) else if c = 4 then (t.filter (fun x => !Pm false r x), 0) else if c = 5 then (if FL t r then (t.filter (fun x => !Pm true r x), 0) else (t, 7)) else (t, 2)) := by
        unfold Eh
        rw [if_neg (fun hc => hc hr), if_neg c1]
      rw [hap, if_neg c1]
      by_cases c2 : c = 2
      · rw [if_pos c2, if_pos c2]
        show Option.bind (CY t r r) _ = _
        rw [hrp2]; rfl
      · rw [if_neg c2, if_neg c2]
        by_cases c3 : c = 3
        · rw [if_pos c3, if_pos c3]
          show Option.bind (Ax t r) (fun x6 => if (!x6) = true then _ else Option.bind (CR t r r) _) = _
          rw [hck, Option.bind_some]
          by_cases d2 : FL t r
          · rw [decide_eq_true d2, if_neg (by decide), if_pos d2, hrep]; rfl
          · rw [decide_eq_false d2, if_pos (by decide), if_neg d2]
        · rw [if_neg c3, if_neg c3]
          by_cases c4 : c = 4
          · rw [if_pos c4, if_pos c4]
            show Option.bind (A9 t r) _ = _
            rw [hd1]; rfl
          · rw [if_neg c4, if_neg c4]
            by_cases c5 : c = 5
            · rw [if_pos c5, if_pos c5]
              show Option.bind (Ax t r) (fun x6 => if (!x6) = true then _ else Option.bind (A1 t r) _) = _
              rw [hck, Option.bind_some]
              by_cases d2 : FL t r
              · rw [decide_eq_true d2, if_neg (by decide), if_pos d2, hd2]; rfl
              · rw [decide_eq_false d2, if_pos (by decide), if_neg d2]
            · rw [if_neg c5, if_neg c5]
  · rw [decide_eq_false hr, if_pos (by decide)]
    unfold Eh
    rw [if_pos hr]
theorem ND {t : List Rl} (hl : t.length ≤ 999) {ports room : Int} (hok : ∀ x ∈ t, H3 ports x) (m : Md) (hA : m.2.1.2.2.length ≤ 1000) : Gh t m ports room = some (Eh t m ports room) := by
  obtain ⟨c, r, b⟩ := m
  have hA : r.2.2.length ≤ 1000 := hA
  unfold Gh
  by_cases hr : H3 ports r
  · have hch := fun k d => Ld (t := t) (by omega) hok c hr b k d
    have hsp := fun k d => KG k d r t ([], 0)
    by_cases hc : c < 1 ∨ 5 < c
    · have h1 : (if c < 1 then some true else if 5 < c then some true else (DW r ports).bind fun x2 => some (!x2)) = some true := by
        rcases hc with hc | hc
        · rw [if_pos hc]
        · by_cases h : c < 1
          · rw [if_pos h]
          · rw [if_neg h, if_pos hc]
      show Option.bind (if c < 1 then _ else _) _ = _
      rw [h1, Option.bind_some, if_pos rfl]
      unfold Eh
      rw [if_neg (fun h => h hr), if_neg (show ¬ c = 1 by omega), if_neg (show ¬ c = 2 by omega), if_neg (show ¬ c = 3 by omega), if_neg (show ¬ c = 4 by omega), if_neg (show ¬ c = 5 by omega)]
    · have h1 : (if c < 1 then some true else if 5 < c then some true else (DW r ports).bind fun x2 => some (!x2)) = some false := by
        rw [if_neg (by omega), if_neg (by omega), Jh (by omega), decide_eq_true hr]; rfl
      show Option.bind (if c < 1 then _ else _) _ = _
      rw [h1, Option.bind_some, if_neg (by decide)]
      by_cases c1 : c = 1
      · subst c1
        have hap : Eh t (1, r, b) ports room = (if b = true ∧ ∃ x ∈ t, LE x r then (t, 14) else if FL t r then (t.map (rp true r), 0) else if room ≤ (t.length : Int) then (t, 6) else (E9 r t, 0)) := by
          unfold Eh
          rw [if_neg (fun hc => hc hr), if_pos rfl]
        rw [if_pos rfl, hap]
        have hd : Decidable (∃ e ∈ t, b = true ∧ LE e r) := Classical.propDecidable _
        have key : HQ t (1, r, b) room = some (if b = true ∧ ∃ x ∈ t, LE x r then (t, 14) else if FL t r then (t.map (rp true r), 0) else if room ≤ (t.length : Int) then (t, 6) else (E9 r t, 0)) := by
          unfold HQ
          have hlp : AX (Ec t (1, r, b)) 0 = some (if b = true ∧ ∃ x ∈ t, LE x r then .inr (t, 14) else .inl ()) := by
            cases b with
            | false => rw [if_neg (fun h => by cases h.1)]; exact BP (by rw [Ec]; rfl)
            | true =>
              have hs := J5 t (by omega) (Ec t (1, r, true)) (fun x => LE x r) (t, (14 : Int)) (fun k hk => by
                have hcnd : ((true && decide ((k : Int) < (t.length : Int))) = true) := by simp; omega
                rw [Ec, if_pos hcnd, Cd (List.getElem?_eq_getElem hk), Option.bind_some, N9 (hok _ (List.getElem_mem hk)).2.1 hr.2.1, Option.bind_some]
                by_cases p : LE t[k] r
                · rw [decide_eq_true p, if_pos rfl, if_pos p]
                · rw [decide_eq_false p, if_neg (by decide), if_neg p]) (by rw [Ec, if_neg (by simp)])
              rw [hs]
              by_cases p : ∃ x ∈ t, LE x r
              · rw [if_pos p, if_pos ⟨rfl, p⟩]
              · rw [if_neg p, if_neg fun h => p h.2]
          rw [hlp]
          by_cases d1 : b = true ∧ ∃ x ∈ t, LE x r
          · rw [if_pos d1, if_pos d1]; rfl
          · rw [if_neg d1, if_neg d1, G9, hch true false, Option.bind_some]
            obtain ⟨s1, s2, s3⟩ := hsp true false
            by_cases d2 : FL t r
            · have : (0 : Int) < (t.foldl (JA true false r) ([], 0)).2 := by
                have h0 : ¬ (t.foldl (JA true false r) ([], 0)).2 = 0 := fun e => (s3.1 e) (HM.2 d2)
                have s2 : (0 : Int) ≤ (t.foldl (JA true false r) ([], 0)).2 := s2
                omega
              rw [if_pos this, if_pos d2, s1]; rfl
            · have : (t.foldl (JA true false r) ([], 0)).2 = 0 := s3.2 fun h => d2 (HM.1 h)
              rw [if_neg (by omega), if_neg d2]
              by_cases d3 : room ≤ (t.length : Int)
              · rw [if_pos d3, if_pos d3]
              · rw [if_neg d3, if_neg d3, Ng (by omega)]; rfl
        rw [key]; rfl
      · have hap : Eh t (c, r, b) ports room = (if c = 2 then (t.map (rp false r), 0) else if c = 3 then (if FL t r then (t.map (rp true r), 0) else (t, 7)) else if c = 4 then (t.filter (fun x => !Pm false r x), 0) else if c = 5 then (if FL t r then (t.filter (fun x => !Pm true r x), 0) else (t, 7)) else (t, 2)) := by
          unfold Eh
          rw [if_neg (fun hc => hc hr), if_neg c1]
        rw [hap, if_neg c1]
        show Option.bind (DM t (c, r, b) (decide (c = 3) || decide (c = 5)) (decide (4 ≤ c))) _ = _
        have hc4 : c = 2 ∨ c = 3 ∨ c = 4 ∨ c = 5 := by omega
        have fin : ∀ d, ((t.foldl (JA true d r) ([], 0)).2 = 0) ↔ ¬ FL t r := fun d => (hsp true d).2.2.trans (not_congr HM)
        rcases hc4 with rfl | rfl | rfl | rfl
        · rw [hch]
          show some ((t.foldl (JA false false r) ([], 0)).1, (0 : Int)) = _
          rw [(hsp false false).1]; rfl
        · rw [hch]
          show (if (true && decide ((t.foldl (JA true false r) ([], 0)).2 = 0)) = true then some (t, (7 : Int)) else some ((t.foldl (JA true false r) ([], 0)).1, (0 : Int))) = _
          by_cases d2 : FL t r
          · rw [decide_eq_false (fun e => (fin false).1 e d2), if_neg (by decide), (hsp true false).1, if_neg (by decide), if_pos rfl, if_pos d2]; rfl
          · rw [decide_eq_true ((fin false).2 d2), if_pos (by decide), if_neg (by decide), if_pos rfl, if_neg d2]
        · rw [hch]
          show some ((t.foldl (JA false true r) ([], 0)).1, (0 : Int)) = _
          rw [(hsp false true).1]; rfl
        · rw [hch]
          show (if (true && decide ((t.foldl (JA true true r) ([], 0)).2 = 0)) = true then some (t, (7 : Int)) else some ((t.foldl (JA true true r) ([], 0)).1, (0 : Int))) = _
          by_cases d2 : FL t r
          · rw [decide_eq_false (fun e => (fin true).1 e d2), if_neg (by decide), (hsp true true).1, if_pos (show true = true from rfl), if_neg (show ¬ (5 : Int) = 2 by decide), if_neg (show ¬ (5 : Int) = 3 by decide), if_neg (show ¬ (5 : Int) = 4 by decide), if_pos (show (5 : Int) = 5 from rfl), if_pos d2]; rfl
          · rw [decide_eq_true ((fin true).2 d2), if_pos (by decide), if_neg (show ¬ (5 : Int) = 2 by decide), if_neg (show ¬ (5 : Int) = 3 by decide), if_neg (show ¬ (5 : Int) = 4 by decide), if_pos (show (5 : Int) = 5 from rfl), if_neg d2]
  · have h1 : (if c < 1 then some true else if 5 < c then some true else (DW r ports).bind fun x2 => some (!x2)) = some true := by
      by_cases h : c < 1
      · rw [if_pos h]
      · rw [if_neg h]
        by_cases h2 : 5 < c
        · rw [if_pos h2]
        · rw [if_neg h2, Jh (by omega), decide_eq_false hr]; rfl
    show Option.bind (if c < 1 then _ else _) _ = _
    rw [h1, Option.bind_some, if_pos rfl]
    unfold Eh
    rw [if_pos hr]
open Classical in
noncomputable def Dk (t0 : List Rl) (ports room : Int) : List Md → Nat → List Rl → List Rl × Int × Int
  | [], i, t => (t, -1, 0)
  | m :: l, i, t => if (Eh t m ports room).2 ≠ 0 then (t0, (i : Int), (Eh t m ports room).2) else Dk t0 ports room l (i + 1) (Eh t m ports room).1
theorem H4 (l : List Md) (hl : l.length ≤ 1000) (t0 : List Rl) (ports room : Int) (step : List Rl × Int → Option ((List Rl × Int) ⊕ (List Rl ⊕ (List Rl × Int × Int)))) (G : List Rl → Nat → Prop)
    (hs : ∀ (k : Nat) (hk : k < l.length) (t : List Rl), G t k → step (t, (k : Int)) = some (if (Eh t l[k] ports room).2 ≠ 0 then .inr (.inr (t0, (k : Int), (Eh t l[k] ports room).2)) else .inl ((Eh t l[k] ports room).1, Cc ((k : Int) + 1))))
    (hG : ∀ (k : Nat) (hk : k < l.length) (t : List Rl), G t k → G (Eh t l[k] ports room).1 (k + 1))
    (he : ∀ t, step (t, (l.length : Int)) = some (.inr (.inl t))) : ∀ (d k : Nat) (t : List Rl), k + d = l.length → G t k → FR (AX step (t, (k : Int))) (fun x => some (x, -1, 0)) = some (Dk t0 ports room (l.drop k) k t)
  | 0, k, t, hk, _ => by
    obtain rfl : k = l.length := by omega
    rw [BP (he t), List.drop_length]; rfl
  | d + 1, k, t, hk, hg => by
    have hk2 : k < l.length := by omega
    have h := hs k hk2 t hg
    rw [List.drop_eq_getElem_cons hk2]
    show _ = some (if (Eh t l[k] ports room).2 ≠ 0 then _ else _)
    by_cases c : (Eh t l[k] ports room).2 ≠ 0
    · rw [if_pos c] at h
      rw [BP h, if_pos c]; rfl
    · rw [if_neg c, BC (by omega)] at h
      rw [Cg h, if_neg c]
      exact H4 l hl t0 ports room step G hs hG he d (k + 1) _ (by omega) (hG k hk2 t hg)
abbrev PY (ports room : Int) (n : Nat) (t : List Rl) (k : Nat) : Prop := IQ ports room t ∧ t.length ≤ n + k
theorem Ps {t0 : List Rl} {l : List Md} (hl : l.length ≤ 100) {ports room : Int} (h0 : IQ ports room t0) (hn : t0.length ≤ 100) (hI : ∀ m ∈ l, I4 m.2.1.2.1.2.1) : FC t0 l ports room = some (Dk t0 ports room l 0 t0) := by
  have hcp := Kd (t := t0) (by omega) (fun x hx => by have := (h0.2.1 x hx).2.2.1; omega)
  unfold FC
  rw [hcp, Option.bind_some]
  exact H4 l (by omega) t0 ports room (D1 t0 l ports room) (PY ports room 100) (fun k hk t hg => by
    rw [D1, if_pos (by omega), Cd (List.getElem?_eq_getElem hk), Option.bind_some, OG (by have := hg.2; omega) hg.1.2.1 _ (hI _ (List.getElem_mem hk)), Option.bind_some]
    by_cases c : (Eh t l[k] ports room).2 ≠ 0
    · rw [if_pos c, if_pos c, hcp]; rfl
    · rw [if_neg c, if_neg c]) (fun k hk t hg => by
    have h := LX l[k] hg.1
    exact ⟨h.1, by have := h.2; have := hg.2; omega⟩) (fun t => by rw [D1, if_neg (by omega)]) l.length 0 t0 (by omega) ⟨h0, by omega⟩
theorem NW {t0 : List Rl} {l : List Md} (hl : l.length ≤ 100) {ports room : Int} (h0 : IQ ports room t0) (hn : t0.length ≤ 100) (hA : ∀ m ∈ l, m.2.1.2.2.length ≤ 1000) : E3 t0 l ports room = some (Dk t0 ports room l 0 t0) := by
  unfold E3
  exact H4 l (by omega) t0 ports room (Fb t0 l ports room) (PY ports room 100) (fun k hk t hg => by
    rw [Fb, if_pos (by omega), Cd (List.getElem?_eq_getElem hk), Option.bind_some, ND (by have := hg.2; omega) hg.1.2.1 _ (hA _ (List.getElem_mem hk)), Option.bind_some]
    by_cases c : (Eh t l[k] ports room).2 ≠ 0
    · rw [if_pos c, if_pos c]
    · rw [if_neg c, if_neg c]) (fun k hk t hg => by
    have h := LX l[k] hg.1
    exact ⟨h.1, by have := h.2; have := hg.2; omega⟩) (fun t => by rw [Fb, if_neg (by omega)]) l.length 0 t0 (by omega) ⟨h0, by omega⟩
theorem Mw {t0 : List Rl} {ports room : Int} (h0 : IQ ports room t0) : ∀ (l : List Md) (k : Nat) (t : List Rl), IQ ports room t → IQ ports room (Dk t0 ports room l k t).1 ∧ (Dk t0 ports room l k t).1.length ≤ max t0.length (t.length + l.length)
  | [], k, t, h => ⟨h, Nat.le_max_right _ _⟩
  | m :: l, k, t, h => by
    unfold Dk
    by_cases c : (Eh t m ports room).2 ≠ 0
    · rw [if_pos c]; exact ⟨h0, Nat.le_max_left _ _⟩
    · rw [if_neg c]
      have h1 := LX m h
      have h2 := Mw h0 l (k + 1) _ h1.1
      refine ⟨h2.1, Nat.le_trans h2.2 ?_⟩
      have := h1.2
      rw [List.length_cons]
      omega
theorem Mf {t : List Rl} (hl : t.length ≤ 1000) (hA : ∀ x ∈ t, x.2.2.length ≤ 1000) : F8 t t = some true := by
  unfold F8
  rw [if_neg (by simp), Ha t (by omega) (EC t t) (fun _ => False) false (fun k hk => by
    have hm := hA _ (List.getElem_mem hk)
    rw [EC, if_pos (by omega), Cd (List.getElem?_eq_getElem hk), Option.bind_some, Option.bind_some, HI (by omega), decide_eq_true (Mr.2 rfl), Option.bind_some, if_neg (by decide), if_neg (by simp)]) (by rw [EC, if_neg (by omega)]), if_neg (by simp), G9]
theorem PH {ports room : Int} {t : List Rl} (h : IQ ports room t) : ∀ x ∈ t, x.2.2.length ≤ 1000 := fun x hx => by have := (h.2.1 x hx).2.2.1; omega
theorem K9 (t0 : List Rl) (ports room : Int) : ∀ (l : List Md) (k : Nat) (t : List Rl), (Dk t0 ports room l k t).2.2 ≠ 0 → (Dk t0 ports room l k t).1 = t0 ∧ (k : Int) ≤ (Dk t0 ports room l k t).2.1 ∧ (Dk t0 ports room l k t).2.1 < (k : Int) + (l.length : Int)
  | [], k, t, h => absurd rfl h
  | m :: l, k, t, h => by
    unfold Dk at h ⊢
    by_cases c : (Eh t m ports room).2 ≠ 0
    · rw [if_pos c] at h ⊢
      exact ⟨rfl, Int.le_refl _, by rw [List.length_cons]; simp only; omega⟩
    · rw [if_neg c] at h ⊢
      obtain ⟨h1, h2, h3⟩ := K9 t0 ports room l (k + 1) _ h
      exact ⟨h1, by omega, by rw [List.length_cons]; omega⟩
end Go.Proofs.Ytfnmlmglmegamaa
