/- Layer 22: difference constraints. Conditions: none. -/
import Derived.Test.YtnhoakboblfliaaLP
import Derived.Test.YtnhoakboblfliaaA2
namespace Go.Proofs.Ytnhoakboblfliaa
set_option linter.unusedVariables false
set_option linter.unusedSimpArgs false
open Go Go.RowKit

/-! ### Difference constraints, plainly (for layer 22; imports nothing but the core) -/
abbrev Afters := List (Nat × Nat × Int)
abbrev Sol (l : Afters) (y : Nat → Int) : Prop := ∀ c ∈ l, y c.1 + c.2.2 ≤ y c.2.1
abbrev In (n : Nat) (l : Afters) : Prop := ∀ c ∈ l, c.1 < n ∧ c.2.1 < n
def tot (d : Nat → Int) : Nat → Int
  | 0 => 0
  | n + 1 => tot d n + d n
theorem tot_le {d e : Nat → Int} : ∀ (n : Nat), (∀ v, v < n → d v ≤ e v) → tot d n ≤ tot e n
  | 0, _ => Int.le_refl _
  | n + 1, h => by
    have := tot_le n (fun v hv => h v (by omega))
    have := h n (by omega)
    simp only [tot]; omega
theorem tot_lt {d e : Nat → Int} : ∀ (n : Nat), (∀ v, v < n → d v ≤ e v) → (∃ v, v < n ∧ d v < e v) → tot d n < tot e n
  | 0, _, ⟨v, hv, _⟩ => by omega
  | n + 1, h, ⟨v, hv, h2⟩ => by
    have h3 := tot_le n (fun v hv => h v (by omega))
    have h4 := h n (by omega)
    simp only [tot]
    by_cases e : v = n
    · subst e; omega
    · have := tot_lt n (fun v hv => h v (by omega)) ⟨v, by omega, h2⟩
      omega
theorem tot_nn {d : Nat → Int} (n : Nat) (h : ∀ v, v < n → 0 ≤ d v) : 0 ≤ tot d n := by
  have := tot_le (d := fun _ => 0) (e := d) n h
  have h0 : ∀ n, tot (fun _ => 0) n = 0 := fun n => by
    induction n with
    | zero => rfl
    | succ n ih => simp only [tot, ih]; rfl
  rw [h0] at this; exact this
/-- A solution of the least sum is the least one, and no part of it can be lowered. -/
theorem least {n : Nat} {l : Afters} (hin : In n l) {y : Nat → Int} (hy : Sol l y) (h0 : ∀ v, v < n → 0 ≤ y v) : ∃ d, Sol l d ∧ (∀ v, v < n → 0 ≤ d v) ∧ ∀ e, Sol l e → (∀ v, v < n → 0 ≤ e v) → ∀ v, v < n → d v ≤ e v := by
  have key : ∀ (N : Nat) (y : Nat → Int), (tot y n).toNat = N → Sol l y → (∀ v, v < n → 0 ≤ y v) → ∃ d, Sol l d ∧ (∀ v, v < n → 0 ≤ d v) ∧ ∀ e, Sol l e → (∀ v, v < n → 0 ≤ e v) → tot d n ≤ tot e n := by
    intro N
    induction N using Nat.strongRecOn with
    | _ N ih =>
      intro y hN hy h0
      by_cases hx : ∃ e, Sol l e ∧ (∀ v, v < n → 0 ≤ e v) ∧ tot e n < tot y n
      · obtain ⟨e, h1, h2, h3⟩ := hx
        have := tot_nn n h2
        exact ih _ (by omega) e rfl h1 h2
      · exact ⟨y, hy, h0, fun e h1 h2 => Int.not_lt.1 fun h3 => hx ⟨e, h1, h2, h3⟩⟩
  obtain ⟨d, h1, h2, h3⟩ := key _ y rfl hy h0
  refine ⟨d, h1, h2, fun e h4 h5 v hv => Int.not_lt.1 fun hlt => ?_⟩
  have h6 := h3 (fun v => min (d v) (e v)) (fun c hc => by have := h1 c hc; have := h4 c hc; dsimp only; omega) (fun v hv => by have := h2 v hv; have := h5 v hv; omega)
  have h7 := tot_lt (d := fun v => min (d v) (e v)) (e := d) n (fun v _ => by omega) ⟨v, hv, by omega⟩
  omega
/-- What a round does, whether in place or not. -/
structure Rd (n : Nat) (l : Afters) (x x' : Nat → Int) : Prop where
  inc : ∀ v, v < n → x v ≤ x' v
  le : ∀ y, Sol l y → (∀ v, v < n → x v ≤ y v) → ∀ v, v < n → x' v ≤ y v
  suc : ∀ c ∈ l, x c.1 + c.2.2 ≤ x' c.2.1
def cnt (p : Nat → Bool) : Nat → Nat
  | 0 => 0
  | n + 1 => cnt p n + if p n then 1 else 0
theorem cnt_mono {p q : Nat → Bool} : ∀ (n : Nat), (∀ v, v < n → p v = true → q v = true) → cnt p n ≤ cnt q n
  | 0, _ => Nat.le_refl _
  | n + 1, h => by
    have h1 := cnt_mono n (fun v hv => h v (by omega))
    have h2 := h n (by omega)
    simp only [cnt]
    cases hp : p n
    · simp; omega
    · rw [h2 hp]; omega
theorem cnt_more {p q : Nat → Bool} : ∀ (n : Nat), (∀ v, v < n → p v = true → q v = true) → (∃ v, v < n ∧ p v = false ∧ q v = true) → cnt p n < cnt q n
  | 0, _, ⟨v, hv, _⟩ => by omega
  | n + 1, h, ⟨v, hv, h3, h4⟩ => by
    have h1 := cnt_mono n (fun v hv => h v (by omega))
    have h2 := h n (by omega)
    simp only [cnt]
    by_cases e : v = n
    · subst e; rw [h3, h4]; simp; omega
    · have := cnt_more n (fun v hv => h v (by omega)) ⟨v, by omega, h3, h4⟩
      cases hp : p n
      · simp; omega
      · rw [h2 hp]; omega
theorem cnt_le : ∀ (p : Nat → Bool) (n : Nat), cnt p n ≤ n
  | _, 0 => Nat.le_refl _
  | p, n + 1 => by have := cnt_le p n; simp only [cnt]; split <;> omega
theorem cnt_all {p : Nat → Bool} : ∀ (n : Nat), n ≤ cnt p n → ∀ v, v < n → p v = true
  | 0, _, v, hv => by omega
  | n + 1, h, v, hv => by
    have h1 := cnt_le p n
    simp only [cnt] at h
    cases hp : p n
    · rw [hp] at h; simp at h; omega
    · rw [hp] at h
      by_cases e : v = n
      · rw [e]; exact hp
      · exact cnt_all n (by simp at h; omega) v (by omega)

abbrev Least (n : Nat) (l : Afters) (d : Nat → Int) : Prop := Sol l d ∧ (∀ v, v < n → 0 ≤ d v) ∧ ∀ e, Sol l e → (∀ v, v < n → 0 ≤ e v) → ∀ v, v < n → d v ≤ e v
/-- After m rounds at least m + 1 variables are settled, or all. -/
def Stl (n : Nat) (d : Nat → Int) (m : Nat) (x : Nat → Int) : Prop := (∀ v, v < n → 0 ≤ x v ∧ x v ≤ d v) ∧ ((∀ v, v < n → x v = d v) ∨ m + 1 ≤ cnt (fun v => decide (x v = d v)) n)
theorem low {n : Nat} {l : Afters} (hin : In n l) {d : Nat → Int} (hd : Least n l d) (x : Nat → Int) (hx : ∀ v, v < n → 0 ≤ x v ∧ x v ≤ d v) (hv : ∃ v, v < n ∧ x v ≠ d v) : ∃ c ∈ l, x c.1 = d c.1 ∧ x c.2.1 ≠ d c.2.1 ∧ d c.2.1 = d c.1 + c.2.2 := by
  obtain ⟨v, hv, hne⟩ := hv
  refine Classical.byContradiction fun hno => ?_
  have := hd.2.2 (fun v => if x v = d v then d v else d v - 1) (fun c hc => by
    have h1 := hd.1 c hc
    have h2 := hin c hc
    have h3 : ¬ (x c.1 = d c.1 ∧ x c.2.1 ≠ d c.2.1 ∧ d c.2.1 = d c.1 + c.2.2) := fun h => hno ⟨c, hc, h⟩
    dsimp only
    split <;> split <;> omega) (fun v hv => by
    have := hx v hv
    split <;> omega) v hv
  rw [if_neg hne] at this; omega
theorem stl0 {n : Nat} {l : Afters} (hin : In n l) {d : Nat → Int} (hd : Least n l d) {x : Nat → Int} (hX : ∀ v, v < n → x v = 0) : Stl n d 0 x := by
  have hb : ∀ v, v < n → 0 ≤ x v ∧ x v ≤ d v := fun v hv => by rw [hX v hv]; exact ⟨Int.le_refl _, hd.2.1 v hv⟩
  refine ⟨hb, ?_⟩
  by_cases hx : ∃ v, v < n ∧ x v = d v
  · right
    obtain ⟨v, hv, he⟩ := hx
    have := cnt_more (p := fun _ => false) (q := fun v => decide (x v = d v)) n (fun _ _ h => by cases h) ⟨v, hv, rfl, decide_eq_true he⟩
    omega
  · left
    intro v hv
    exfalso
    obtain ⟨c, hc, h1, _⟩ := low hin hd x hb ⟨v, hv, fun h => hx ⟨v, hv, h⟩⟩
    exact hx ⟨c.1, (hin c hc).1, h1⟩
theorem stl_step {n : Nat} {l : Afters} (hin : In n l) {d : Nat → Int} (hd : Least n l d) {m : Nat} {x x' : Nat → Int} (h : Stl n d m x) (r : Rd n l x x') : Stl n d (m + 1) x' := by
  obtain ⟨h1, h2⟩ := h
  have hb : ∀ v, v < n → 0 ≤ x' v ∧ x' v ≤ d v := fun v hv => ⟨by have := r.inc v hv; have := h1 v hv; omega, r.le d hd.1 (fun v hv => (h1 v hv).2) v hv⟩
  refine ⟨hb, ?_⟩
  have stay : ∀ v, v < n → x v = d v → x' v = d v := fun v hv h => by have := r.inc v hv; have := hb v hv; omega
  rcases h2 with h2 | h2
  · exact .inl fun v hv => stay v hv (h2 v hv)
  · by_cases hx : ∃ v, v < n ∧ x v ≠ d v
    · right
      obtain ⟨c, hc, g1, g2, g3⟩ := low hin hd x h1 hx
      have hi := hin c hc
      have hs := r.suc c hc
      have hbb := hb c.2.1 hi.2
      have := cnt_more (p := fun v => decide (x v = d v)) (q := fun v => decide (x' v = d v)) n (fun v hv h => decide_eq_true (stay v hv (of_decide_eq_true h))) ⟨c.2.1, hi.2, decide_eq_false g2, decide_eq_true (by omega)⟩
      omega
    · exact .inl fun v hv => stay v hv (Classical.byContradiction fun h => hx ⟨v, hv, h⟩)
theorem stl_all {n : Nat} {d : Nat → Int} {m : Nat} {x : Nat → Int} (h : Stl n d m x) (hm : n ≤ m + 1) : ∀ v, v < n → x v = d v := by
  rcases h.2 with h2 | h2
  · exact h2
  · exact fun v hv => of_decide_eq_true (cnt_all (p := fun v => decide (x v = d v)) n (by omega) v hv)
/-- A part of a round. -/
structure Jn (n : Nat) (l : Afters) (x0 x : Nat → Int) (i : Nat) : Prop where
  inc : ∀ v, v < n → x0 v ≤ x v
  le : ∀ y, Sol l y → (∀ v, v < n → x0 v ≤ y v) → ∀ v, v < n → x v ≤ y v
  suc : ∀ j c, l[j]? = some c → j < i → x0 c.1 + c.2.2 ≤ x c.2.1
def upd (x : Nat → Int) (v : Nat) (t : Int) : Nat → Int := fun u => if u = v then t else x u
theorem upd_same (x : Nat → Int) (v : Nat) (t : Int) : upd x v t v = t := if_pos rfl
theorem upd_ne (x : Nat → Int) {v u : Nat} (t : Int) (h : u ≠ v) : upd x v t u = x u := if_neg h
theorem Jn.start (n : Nat) (l : Afters) (x : Nat → Int) : Jn n l x x 0 := ⟨fun _ _ => Int.le_refl _, fun _ _ h => h, fun _ _ _ h => by omega⟩
theorem Jn.keep {n : Nat} {l : Afters} {x0 x src : Nat → Int} {i : Nat} {c : Nat × Nat × Int} (hin : In n l) (h : Jn n l x0 x i) (hc : l[i]? = some c) (hs : ∀ v, v < n → x0 v ≤ src v) (ht : src c.1 + c.2.2 ≤ x c.2.1) : Jn n l x0 x (i + 1) := by
  refine ⟨h.inc, h.le, fun j c' hj hji => ?_⟩
  by_cases e : j = i
  · subst e
    rw [hc] at hj
    cases hj
    have := hs c.1 (hin c (List.mem_of_getElem? hc)).1
    omega
  · exact h.suc j c' hj (by omega)
theorem Jn.rise {n : Nat} {l : Afters} {x0 x src : Nat → Int} {i : Nat} {c : Nat × Nat × Int} (hin : In n l) (h : Jn n l x0 x i) (hc : l[i]? = some c) (hs : ∀ v, v < n → x0 v ≤ src v ∧ src v ≤ x v) (ht : x c.2.1 < src c.1 + c.2.2) : Jn n l x0 (upd x c.2.1 (src c.1 + c.2.2)) (i + 1) := by
  have hm := List.mem_of_getElem? hc
  have hcn := hin c hm
  have hle : ∀ v, x v ≤ upd x c.2.1 (src c.1 + c.2.2) v := fun v => by unfold upd; split <;> (try subst_vars) <;> omega
  refine ⟨fun v hv => by have := h.inc v hv; have := hle v; omega, fun y hy h0 v hv => ?_, fun j c' hj hji => ?_⟩
  · unfold upd
    split
    · rename_i e
      subst e
      have h1 := hy c hm
      have h2 := h.le y hy h0 c.1 hcn.1
      have := (hs c.1 hcn.1).2
      omega
    · exact h.le y hy h0 v hv
  · by_cases e : j = i
    · subst e
      rw [hc] at hj
      cases hj
      rw [upd_same]
      have := (hs c.1 hcn.1).1
      omega
    · have := h.suc j c' hj (by omega)
      have := hle c'.2.1
      omega
theorem Jn.rd {n : Nat} {l : Afters} {x0 x : Nat → Int} (h : Jn n l x0 x l.length) : Rd n l x0 x := ⟨h.inc, h.le, fun c hc => by
  obtain ⟨j, hj, e⟩ := List.getElem_of_mem hc
  exact h.suc j c (by rw [List.getElem?_eq_getElem hj, e]) hj⟩

/-! ### What the program goes through -/
inductive Tr (n : Nat) (l : Afters) : Nat → Nat → (Nat → Int) → (Nat → Int) → Prop
  | start (x c : Nat → Int) (h : ∀ v, v < n → x v = 0) : Tr n l 1 0 x c
  | keep {r i : Nat} {x c : Nat → Int} {a : Nat × Nat × Int} (h : Tr n l r i x c) (ha : l[i]? = some a) (ht : x a.1 + a.2.2 ≤ x a.2.1) : Tr n l r (i + 1) x c
  | rise {r i : Nat} {x c : Nat → Int} {a : Nat × Nat × Int} (h : Tr n l r i x c) (ha : l[i]? = some a) (ht : x a.2.1 < x a.1 + a.2.2) : Tr n l r (i + 1) (upd x a.2.1 (x a.1 + a.2.2)) (upd c a.2.1 (i : Int))
  | next {r : Nat} {x c : Nat → Int} (h : Tr n l r l.length x c) : Tr n l (r + 1) 0 x c
theorem Tr.pos {n : Nat} {l : Afters} {r i : Nat} {x c : Nat → Int} (h : Tr n l r i x c) : 1 ≤ r := by
  induction h with
  | start => exact Nat.le_refl _
  | keep _ _ _ ih => exact ih
  | rise _ _ _ ih => exact ih
  | next _ ih => omega
theorem Tr.lt {n : Nat} {l : Afters} {r i : Nat} {x c : Nat → Int} (h : Tr n l r i x c) : i ≤ l.length := by
  cases h with
  | start => omega
  | keep h ha _ => have := (List.getElem?_eq_some_iff.1 ha).1; omega
  | rise h ha _ => have := (List.getElem?_eq_some_iff.1 ha).1; omega
  | next => omega
theorem Tr.stl {n : Nat} {l : Afters} (hin : In n l) {d : Nat → Int} (hd : Least n l d) {r i : Nat} {x c : Nat → Int} (h : Tr n l r i x c) : ∃ x0, Stl n d (r - 1) x0 ∧ Jn n l x0 x i := by
  induction h with
  | start x c h => exact ⟨x, stl0 hin hd h, Jn.start n l x⟩
  | keep h ha ht ih =>
    obtain ⟨x0, h1, h2⟩ := ih
    exact ⟨x0, h1, h2.keep hin ha h2.inc ht⟩
  | rise h ha ht ih =>
    obtain ⟨x0, h1, h2⟩ := ih
    exact ⟨x0, h1, h2.rise hin ha (fun v hv => ⟨h2.inc v hv, Int.le_refl _⟩) ht⟩
  | @next r x c h ih =>
    obtain ⟨x0, h1, h2⟩ := ih
    have := h.pos
    have h3 := stl_step hin hd h1 h2.rd
    rw [show r + 1 - 1 = r - 1 + 1 from by omega]
    exact ⟨_, h3, Jn.start n l _⟩
theorem Tr.bd {n : Nat} {l : Afters} (hin : In n l) (hg : ∀ c ∈ l, c.2.2 ≤ 1073741824) {r i : Nat} {x c : Nat → Int} (h : Tr n l r i x c) : ∀ v, v < n → 0 ≤ x v ∧ x v ≤ (((r - 1) * l.length + i : Nat) : Int) * 1073741824 := by
  induction h with
  | start x c h => intro v hv; rw [h v hv]; omega
  | keep h ha ht ih => intro v hv; have := ih v hv; constructor <;> omega
  | @rise r i x c a h ha ht ih =>
    intro v hv
    have hm := List.mem_of_getElem? ha
    have h1 := ih v hv
    have h2 := ih a.1 (hin a hm).1
    have h3 := hg a hm
    have h4 := ih a.2.1 (hin a hm).2
    unfold upd
    split <;> constructor <;> omega
  | @next r x c h ih =>
    intro v hv
    have h1 := ih v hv
    have h2 := h.pos
    have e : (r + 1 - 1) * l.length + 0 = (r - 1) * l.length + l.length := by
      obtain ⟨k, rfl⟩ : ∃ k, r = k + 1 := ⟨r - 1, by omega⟩
      rw [Nat.add_sub_cancel, Nat.add_sub_cancel, Nat.succ_mul, Nat.add_zero]
    rw [e]; exact h1
theorem fix_least {n : Nat} {l : Afters} (hin : In n l) {x : Nat → Int} (hf : Sol l x) (h0 : ∀ v, v < n → 0 ≤ x v) {m : Nat} {src : Nat → Int} (hs : ∀ d, Least n l d → ∀ v, v < n → x v ≤ d v) : Least n l x := by
  obtain ⟨d, hd⟩ := least hin hf h0
  exact ⟨hf, h0, fun e h1 h2 v hv => Int.le_trans (hs d hd v hv) (hd.2.2 e h1 h2 v hv)⟩
theorem Tr.fix {n : Nat} {l : Afters} (hin : In n l) {r i : Nat} {x c : Nat → Int} (h : Tr n l r i x c) (hf : Sol l x) (h0 : ∀ v, v < n → 0 ≤ x v) : Least n l x :=
  fix_least (m := 0) (src := x) hin hf h0 fun d hd v hv => by
    obtain ⟨x0, h1, h2⟩ := h.stl hin hd
    exact h2.le d hd.1 (fun v hv => (h1.1 v hv).2) v hv
theorem Tr.stuck {n : Nat} {l : Afters} (hin : In n l) {i : Nat} {x c : Nat → Int} (h : Tr n l n i x c) {a : Nat × Nat × Int} (ha : l[i]? = some a) (ht : x a.2.1 < x a.1 + a.2.2) : ¬ ∃ d, Least n l d := by
  rintro ⟨d, hd⟩
  obtain ⟨x0, h1, h2⟩ := h.stl hin hd
  have h3 := stl_all h1 (by omega)
  have hm := List.mem_of_getElem? ha
  have hc := hin a hm
  have e : ∀ v, v < n → x v = d v := fun v hv => by
    have := h2.inc v hv
    have := h2.le d hd.1 (fun v hv => (h1.1 v hv).2) v hv
    have := h3 v hv
    omega
  have := hd.1 a hm
  have := e a.1 hc.1
  have := e a.2.1 hc.2
  omega

/-! ### Lists -/
abbrev Cs := List (Int × Int × Int)
def N (l : Cs) : Afters := l.map fun a => (a.1.toNat, a.2.1.toNat, a.2.2)
abbrev Ok (n : Int) (l : Cs) : Prop := 0 ≤ n ∧ n ≤ 64 ∧ l.length ≤ 256 ∧ ∀ a ∈ l, 0 ≤ a.1 ∧ a.1 < n ∧ 0 ≤ a.2.1 ∧ a.2.1 < n ∧ -1073741824 ≤ a.2.2 ∧ a.2.2 ≤ 1073741824
def gx (x : List Int) (v : Nat) : Int := (x[v]?).getD 0
theorem ix_gx {x : List Int} {v : Int} (h0 : 0 ≤ v) (h : v.toNat < x.length) : ix x v = some (gx x v.toNat) := by
  unfold ix gx
  rw [if_pos h0, List.getElem?_eq_getElem h]; rfl
theorem gx_set {x : List Int} {v : Int} {t : Int} (h : v.toNat < x.length) : gx (setAt x v t) = upd (gx x) v.toNat t := by
  funext u
  unfold gx setAt upd
  rw [List.getElem?_set]
  by_cases e : v.toNat = u
  · subst e; simp [h]
  · rw [if_neg e, if_neg (Ne.symm e)]
theorem setAt_len (x : List Int) (v : Int) (t : Int) : (setAt x v t).length = x.length := by unfold setAt; simp
theorem N_get {l : Cs} {k : Nat} (h : k < l.length) : (N l)[k]? = some (l[k].1.toNat, l[k].2.1.toNat, l[k].2.2) := by
  unfold N; rw [List.getElem?_map, List.getElem?_eq_getElem h]; rfl
theorem N_len (l : Cs) : (N l).length = l.length := by unfold N; simp
theorem N_in {n : Nat} {l : Cs} (ok : Ok (n : Int) l) : In n (N l) := by
  intro c hc
  obtain ⟨a, ha, rfl⟩ := List.mem_map.1 hc
  have := ok.2.2.2 a ha
  simp only; omega
theorem N_gap {n : Int} {l : Cs} (ok : Ok n l) : ∀ c ∈ N l, c.2.2 ≤ 1073741824 := by
  intro c hc
  obtain ⟨a, ha, rfl⟩ := List.mem_map.1 hc
  have := ok.2.2.2 a ha
  simp only; omega
theorem gx_ext {x y : List Int} {n : Nat} (hx : x.length = n) (hy : y.length = n) (h : ∀ v, v < n → gx x v = gx y v) : x = y := by
  refine List.ext_getElem (by omega) fun i h1 h2 => ?_
  have := h i (by omega)
  unfold gx at this
  rw [List.getElem?_eq_getElem h1, List.getElem?_eq_getElem h2] at this
  exact this
abbrev badA (n : Int) (a : Int × Int × Int) : Prop := a.1 < 0 ∨ n ≤ a.1 ∨ a.2.1 < 0 ∨ n ≤ a.2.1 ∨ a.2.2 < -1073741824 ∨ 1073741824 < a.2.2
theorem right_eq (n : Int) (l : Cs) (hl : l.length ≤ 1000000000) : diff_Right n l = some (decide (Ok n l)) := by
  unfold diff_Right
  by_cases h0 : n < 0 ∨ 64 < n ∨ 256 < (l.length : Int)
  · rw [if_pos (by simpa using h0), decide_eq_false (fun h => by have := h.1; have := h.2.1; have := h.2.2.1; omega)]
  · rw [if_neg (by simpa using h0), search_in l (by omega) _ (badA n) false (fun k hk => by
      unfold diff_Right_l1
      rw [if_pos (by omega), ix_nat (List.getElem?_eq_getElem hk), Option.bind_some]
      by_cases hb : badA n l[k]
      · rw [if_pos hb, if_pos (by simpa using hb)]
      · rw [if_neg hb, if_neg (by simpa using hb)]) (by unfold diff_Right_l1; rw [if_neg (by omega)])]
    unfold orR
    by_cases hb : ∃ e ∈ l, badA n e
    · obtain ⟨e, h1, h2⟩ := hb
      rw [if_pos ⟨e, h1, h2⟩, decide_eq_false (p := Ok n l) (fun h => by have := h.2.2.2 e h1; omega)]; rfl
    · rw [if_neg hb, decide_eq_true (p := Ok n l) ⟨by omega, by omega, by omega, fun e he => by
        have : ¬ badA n e := fun h => hb ⟨e, he, h⟩
        omega⟩]; rfl
theorem rright_eq (n : Int) (l : Cs) (hl : l.length ≤ 1000000000) : r22_Right n l = some (decide (Ok n l)) := by
  unfold r22_Right
  rw [search_in l (by omega) _ (badA n) false (fun k hk => by
      unfold r22_Right_l1
      rw [if_pos (by omega), ix_nat (List.getElem?_eq_getElem hk)]
      simp only [Option.bind_some]
      by_cases hb : badA n l[k]
      · rw [if_pos hb]
        by_cases c1 : l[k].1 < 0
        · rw [if_pos c1]; rfl
        · rw [if_neg c1]
          by_cases c2 : n ≤ l[k].1
          · rw [if_pos c2]; rfl
          · rw [if_neg c2]
            by_cases c3 : l[k].2.1 < 0
            · rw [if_pos c3]; rfl
            · rw [if_neg c3]
              by_cases c4 : n ≤ l[k].2.1
              · rw [if_pos c4]; rfl
              · rw [if_neg c4]
                by_cases c5 : l[k].2.2 < -1073741824
                · rw [if_pos c5]; rfl
                · rw [if_neg c5, decide_eq_true (by omega)]; rfl
      · rw [if_neg hb, if_neg (by omega), if_neg (by omega), if_neg (by omega), if_neg (by omega), if_neg (by omega), decide_eq_false (by omega)]; rfl) (by unfold r22_Right_l1; rw [if_neg (by omega)])]
  unfold orR
  by_cases hb : ∃ e ∈ l, badA n e
  · obtain ⟨e, h1, h2⟩ := hb
    rw [if_pos ⟨e, h1, h2⟩, decide_eq_false (p := Ok n l) (fun h => by have := h.2.2.2 e h1; omega)]; rfl
  · rw [if_neg hb]
    simp only [Option.bind_some]
    congr 1
    rw [← Bool.decide_and, ← Bool.decide_and]
    refine decide_eq_decide.2 ⟨fun h => ⟨h.1, h.2.1, by omega, fun e he => ?_⟩, fun h => ⟨h.1, h.2.1, by have := h.2.2.1; omega⟩⟩
    have : ¬ badA n e := fun h => hb ⟨e, he, h⟩
    omega
/-- The bound of all values that are met. -/
theorem small {n : Nat} {l : Cs} (ok : Ok (n : Int) l) {r i : Nat} {x c : Nat → Int} (hr : r ≤ 70) (h : Tr n (N l) r i x c) : ∀ v, v < n → 0 ≤ x v ∧ x v ≤ 20000000000000 := by
  intro v hv
  have h1 := h.bd (N_in ok) (N_gap ok) v hv
  have h2 := h.lt
  have h3 := ok.2.2.1
  rw [N_len] at h1 h2
  have h4 : (r - 1) * l.length ≤ 69 * 256 := Nat.mul_le_mul (by omega) h3
  omega
theorem tr_one {n : Nat} {l : Cs} (ok : Ok (n : Int) l) {r k : Nat} (hr : r ≤ 70) {x c : List Int} (hx : x.length = n) (h : Tr n (N l) r k (gx x) (gx c)) (hk : k < l.length) :
    ix x l[k].1 = some (gx x l[k].1.toNat) ∧ ix x l[k].2.1 = some (gx x l[k].2.1.toNat) ∧ w64 (gx x l[k].1.toNat + l[k].2.2) = gx x l[k].1.toNat + l[k].2.2 ∧ l[k].2.1.toNat < n := by
  have ha := ok.2.2.2 _ (List.getElem_mem hk)
  have hs := small ok hr h l[k].1.toNat (by omega)
  refine ⟨ix_gx (by omega) (by omega), ix_gx (by omega) (by omega), w64_id (by omega), by omega⟩
/-- A round that is not the last one. -/
theorem round_go {n : Nat} {l : Cs} (ok : Ok (n : Int) l) {r : Nat} (hr : r < n) {x c : List Int} (hx : x.length = n) (hc : c.length = n) (h : Tr n (N l) r 0 (gx x) (gx c)) :
    ∃ ch x' c', loopW (diff_solve_l2 (n : Int) l (r : Int)) (false, 0, x, c) = some (.inl (ch, x', c')) ∧ x'.length = n ∧ c'.length = n ∧ Tr n (N l) r l.length (gx x') (gx c') ∧ (ch = false → Sol (N l) (gx x')) := by
  have hn := ok.2.1
  obtain ⟨s, h1, h2⟩ := loop_cnt l.length (fun (s : Bool × List Int × List Int) (k : Nat) => (s.1, (k : Int), s.2.1, s.2.2)) (diff_solve_l2 (n : Int) l (r : Int)) (fun s => .inl (s.1, s.2.1, s.2.2))
    (fun s k => s.2.1.length = n ∧ s.2.2.length = n ∧ Tr n (N l) r k (gx s.2.1) (gx s.2.2) ∧ (s.1 = false → ∀ j a, j < k → (N l)[j]? = some a → gx s.2.1 a.1 + a.2.2 ≤ gx s.2.1 a.2.1))
    (fun s k hk hI => by
      obtain ⟨ch, x, c⟩ := s
      obtain ⟨i1, i2, i3, i4⟩ := hI
      simp only at i1 i2 i3 i4
      obtain ⟨e1, e2, e3, e4⟩ := tr_one ok (by omega) i1 i3 hk
      have ha := ok.2.2.2 _ (List.getElem_mem hk)
      have hl := ok.2.2.1
      have hg := N_get hk
      have e5 : ix c l[k].2.1 = some (gx c l[k].2.1.toNat) := ix_gx (by omega) (by omega)
      simp only [diff_solve_l2]
      rw [if_pos (by omega), ix_nat (List.getElem?_eq_getElem hk), Option.bind_some, e1, Option.bind_some, e2, Option.bind_some, e3]
      by_cases ht : gx x l[k].1.toNat + l[k].2.2 ≤ gx x l[k].2.1.toNat
      · rw [if_pos ht]
        refine ⟨(ch, x, c), ?_, i1, i2, i3.keep hg ht, fun hch j a hj hja => ?_⟩
        · simp only [orR, Option.bind_some]
          rw [w64_id (by omega)]; rfl
        · by_cases e : j = k
          · subst e; rw [hg] at hja; cases hja; exact ht
          · exact i4 hch j a (by omega) hja
      · rw [if_neg ht, Option.bind_some, e5, Option.bind_some, if_neg (by omega)]
        refine ⟨(true, setAt x l[k].2.1 (gx x l[k].1.toNat + l[k].2.2), setAt c l[k].2.1 (k : Int)), ?_, by rw [setAt_len]; exact i1, by rw [setAt_len]; exact i2, ?_, fun hch => by cases hch⟩
        · simp only [orR, Option.bind_some]
          rw [w64_id (by omega)]; rfl
        · show Tr n (N l) r (k + 1) (gx (setAt x _ _)) (gx (setAt c _ _))
          rw [gx_set (by omega), gx_set (by omega)]
          exact i3.rise hg (by simpa using ht))
    (fun s hI => by
      obtain ⟨ch, x, c⟩ := s
      simp only [diff_solve_l2]
      rw [if_neg (by omega)]) (false, x, c) ⟨hx, hc, h, fun _ j a hj => by omega⟩
  obtain ⟨ch, x', c'⟩ := s
  refine ⟨ch, x', c', h2, h1.1, h1.2.1, h1.2.2.1, fun hch a ha => ?_⟩
  obtain ⟨j, hj, e⟩ := List.getElem_of_mem ha
  rw [N_len] at hj
  exact h1.2.2.2 hch j a hj (by rw [List.getElem?_eq_getElem (by rw [N_len]; exact hj), e])
/-- The last round. -/
theorem round_last {n : Nat} {l : Cs} (ok : Ok (n : Int) l) {x c : List Int} (hx : x.length = n) (hc : c.length = n) (h : Tr n (N l) n 0 (gx x) (gx c)) :
    (loopW (diff_solve_l2 (n : Int) l (n : Int)) (false, 0, x, c) = some (.inl (false, x, c)) ∧ Sol (N l) (gx x)) ∨
    ∃ (k : Nat) (hk : k < l.length), Tr n (N l) n k (gx x) (gx c) ∧ gx x l[k].2.1.toNat < gx x l[k].1.toNat + l[k].2.2 ∧ loopW (diff_solve_l2 (n : Int) l (n : Int)) (false, 0, x, c) = some (.inr (.inr (.inr (setAt x l[k].2.1 (gx x l[k].1.toNat + l[k].2.2), setAt c l[k].2.1 (k : Int), l[k].2.1)))) := by
  have hn := ok.2.1
  have hl := ok.2.2.1
  obtain ⟨e, h1, h2⟩ := loopW_ex (step := diff_solve_l2 (n : Int) l (n : Int)) (fun s => ∃ k : Nat, k ≤ l.length ∧ s = (false, (k : Int), x, c) ∧ Tr n (N l) n k (gx x) (gx c) ∧ ∀ j a, j < k → (N l)[j]? = some a → gx x a.1 + a.2.2 ≤ gx x a.2.1) (fun s => l.length - s.2.1.toNat)
    (fun e => (e = .inl (false, x, c) ∧ Sol (N l) (gx x)) ∨ ∃ (k : Nat) (hk : k < l.length), Tr n (N l) n k (gx x) (gx c) ∧ gx x l[k].2.1.toNat < gx x l[k].1.toNat + l[k].2.2 ∧ e = .inr (.inr (.inr (setAt x l[k].2.1 (gx x l[k].1.toNat + l[k].2.2), setAt c l[k].2.1 (k : Int), l[k].2.1))))
    (by
      rintro s ⟨k, hk, rfl, hT, hs⟩
      by_cases hkl : k < l.length
      · obtain ⟨e1, e2, e3, e4⟩ := tr_one ok (by omega) hx hT hkl
        have ha := ok.2.2.2 _ (List.getElem_mem hkl)
        have hg := N_get hkl
        have e5 : ix c l[k].2.1 = some (gx c l[k].2.1.toNat) := ix_gx (by omega) (by omega)
        simp only [diff_solve_l2]
        rw [if_pos (by omega), ix_nat (List.getElem?_eq_getElem hkl), Option.bind_some, e1, Option.bind_some, e2, Option.bind_some, e3]
        by_cases ht : gx x l[k].1.toNat + l[k].2.2 ≤ gx x l[k].2.1.toNat
        · left
          rw [if_pos ht]
          refine ⟨(false, ((k + 1 : Nat) : Int), x, c), ?_, ⟨k + 1, by omega, rfl, hT.keep hg ht, fun j a hj hja => ?_⟩, by simp; omega⟩
          · simp only [orR, Option.bind_some]
            rw [w64_id (by omega)]; rfl
          · by_cases e : j = k
            · subst e; rw [hg] at hja; cases hja; exact ht
            · exact hs j a (by omega) hja
        · right
          rw [if_neg ht, Option.bind_some, e5, Option.bind_some, if_pos trivial]
          exact ⟨_, rfl, .inr ⟨k, hkl, hT, by omega, rfl⟩⟩
      · right
        obtain rfl : k = l.length := by omega
        simp only [diff_solve_l2]
        rw [if_neg (by omega)]
        refine ⟨_, rfl, .inl ⟨rfl, fun a ha => ?_⟩⟩
        obtain ⟨j, hj, e⟩ := List.getElem_of_mem ha
        rw [N_len] at hj
        exact hs j a hj (by rw [List.getElem?_eq_getElem (by rw [N_len]; exact hj), e]))
    (false, 0, x, c) ⟨0, by omega, rfl, h, fun j a hj => by omega⟩
  rcases h2 with ⟨rfl, h2⟩ | ⟨k, hk, h2, h3, rfl⟩
  · exact .inl ⟨h1, h2⟩
  · exact .inr ⟨k, hk, h2, h3, h1⟩
/-- What solve says. -/
theorem solve_eq {n : Nat} {l : Cs} (ok : Ok (n : Int) l) :
    (∃ x c, diff_solve (n : Int) l = some (x, c, -1) ∧ x.length = n ∧ Least n (N l) (gx x) ∧ ∀ v, v < n → 0 ≤ gx x v ∧ gx x v ≤ 20000000000000) ∨
    ∃ x c, x.length = n ∧ c.length = n ∧ ∃ (k : Nat) (hk : k < l.length), Tr n (N l) n k (gx x) (gx c) ∧ gx x l[k].2.1.toNat < gx x l[k].1.toNat + l[k].2.2 ∧
      diff_solve (n : Int) l = some (setAt x l[k].2.1 (gx x l[k].1.toNat + l[k].2.2), setAt c l[k].2.1 (k : Int), l[k].2.1) := by
  have hn := ok.2.1
  have hl := ok.2.2.1
  have hin := N_in ok
  obtain ⟨e, h1, h2⟩ := loopW_ex (step := diff_solve_l1 (n : Int) l) (fun s => ∃ (r : Nat) (x c : List Int), (r ≤ n ∨ r = 1) ∧ s = ((r : Int), x, c) ∧ x.length = n ∧ c.length = n ∧ Tr n (N l) r 0 (gx x) (gx c)) (fun s => n + 1 - s.1.toNat)
    (fun e => (∃ x c, e = (x, c, -1) ∧ x.length = n ∧ Least n (N l) (gx x) ∧ ∀ v, v < n → 0 ≤ gx x v ∧ gx x v ≤ 20000000000000) ∨ ∃ x c, x.length = n ∧ c.length = n ∧ ∃ (k : Nat) (hk : k < l.length), Tr n (N l) n k (gx x) (gx c) ∧ gx x l[k].2.1.toNat < gx x l[k].1.toNat + l[k].2.2 ∧ e = (setAt x l[k].2.1 (gx x l[k].1.toNat + l[k].2.2), setAt c l[k].2.1 (k : Int), l[k].2.1))
    (by
      rintro s ⟨r, x, c, hr, rfl, hx, hc, hT⟩
      have h0 : ∀ {i : Nat} {x c : Nat → Int}, Tr n (N l) r i x c → ∀ v, v < n → 0 ≤ x v := fun h v hv => (small ok (by omega) h v hv).1
      by_cases hrn : r < n
      · obtain ⟨ch, x', c', g1, g2, g3, g4, g5⟩ := round_go ok hrn hx hc hT
        simp only [diff_solve_l1]
        rw [g1]
        cases ch with
        | false =>
          right
          exact ⟨_, rfl, .inl ⟨x', c', rfl, g2, g4.fix hin (g5 rfl) (h0 g4), small ok (by omega) g4⟩⟩
        | true =>
          left
          refine ⟨(((r + 1 : Nat) : Int), x', c'), ?_, ⟨r + 1, x', c', .inl (by omega), rfl, g2, g3, ?_⟩, by simp; omega⟩
          · have : w64 ((r : Int) + 1) = ((r + 1 : Nat) : Int) := by rw [w64_id (by omega)]; rfl
            simp only [orR, Option.bind_some, Bool.not_true, Bool.false_eq_true, if_false, this]
          · have := N_len l
            rw [← this] at g4
            exact g4.next
      · by_cases hr1 : r = n
        · subst hr1
          right
          simp only [diff_solve_l1]
          rcases round_last ok hx hc hT with ⟨g1, g2⟩ | ⟨k, hk, g1, g2, g3⟩
          · rw [g1]
            exact ⟨_, rfl, .inl ⟨x, c, rfl, hx, hT.fix hin g2 (h0 hT), small ok (by omega) hT⟩⟩
          · rw [g3]
            exact ⟨_, rfl, .inr ⟨x, c, hx, hc, k, hk, g1, g2, rfl⟩⟩
        · have hn0 : n = 0 := by omega
          have hr2 : r = 1 := by omega
          subst hn0 hr2
          have hl0 : l = [] := by
            cases l with
            | nil => rfl
            | cons a l => have := ok.2.2.2 a (by simp); omega
          subst hl0
          right
          have hs : Sol (N []) (gx x) := fun a ha => by cases ha
          refine ⟨(x, c, -1), ?_, .inl ⟨x, c, rfl, hx, hT.fix hin hs (h0 hT), small ok (by omega) hT⟩⟩
          simp only [diff_solve_l1]
          rw [loopW_eq]
          rfl)
    (1, List.replicate n 0, List.replicate n 0) ⟨1, _, _, .inr rfl, rfl, by simp, by simp, Tr.start _ _ fun v hv => by unfold gx; simp [hv]⟩
  unfold diff_solve
  rw [mk_is (by omega), Option.bind_some, Option.bind_some, Int.toNat_natCast, h1]
  rcases h2 with ⟨x, c, rfl, h2⟩ | ⟨x, c, h2, h3, k, hk, h4, h5, rfl⟩
  · exact .inl ⟨x, c, rfl, h2⟩
  · exact .inr ⟨x, c, h2, h3, k, hk, h4, h5, rfl⟩

/-! ### The reference -/
theorem ref_round {n : Nat} {l : Cs} (ok : Ok (n : Int) l) {x : List Int} (hx : x.length = n) {m : Nat} (hm : m ≤ 70) (hb : ∀ v, v < n → 0 ≤ gx x v ∧ gx x v ≤ (m : Int) * 1073741824) :
    ∃ nx mv, loopW (r22_Earliest_l3 l x) (x, false, 0) = some (nx, mv) ∧ nx.length = n ∧ Rd n (N l) (gx x) (gx nx) ∧ (∀ v, v < n → gx nx v ≤ ((m + 1 : Nat) : Int) * 1073741824) ∧ (mv = false → nx = x) ∧ (mv = true → ∃ v, v < n ∧ gx x v < gx nx v) := by
  have hn := ok.2.1
  have hl := ok.2.2.1
  obtain ⟨s, h1, h2⟩ := loop_cnt l.length (fun (s : List Int × Bool) (k : Nat) => (s.1, s.2, (k : Int))) (r22_Earliest_l3 l x) (fun s => (s.1, s.2))
    (fun s k => s.1.length = n ∧ Jn n (N l) (gx x) (gx s.1) k ∧ (∀ v, v < n → gx s.1 v ≤ ((m + 1 : Nat) : Int) * 1073741824) ∧ (s.2 = false → s.1 = x) ∧ (s.2 = true → ∃ v, v < n ∧ gx x v < gx s.1 v))
    (fun s k hk hI => by
      obtain ⟨nx, mv⟩ := s
      obtain ⟨i1, i2, i3, i4, i5⟩ := hI
      simp only at i1 i2 i3 i4 i5
      have ha := ok.2.2.2 _ (List.getElem_mem hk)
      have hg := N_get hk
      have b1 := hb l[k].1.toNat (by omega)
      have b2 := i3 l[k].2.1.toNat (by omega)
      have b3 := i2.inc l[k].2.1.toNat (by omega)
      have b4 := hb l[k].2.1.toNat (by omega)
      have e1 : ix x l[k].1 = some (gx x l[k].1.toNat) := ix_gx (by omega) (by omega)
      have e2 : ix nx l[k].2.1 = some (gx nx l[k].2.1.toNat) := ix_gx (by omega) (by omega)
      have e3 : w64 (gx x l[k].1.toNat + l[k].2.2) = gx x l[k].1.toNat + l[k].2.2 := w64_id (by omega)
      simp only [r22_Earliest_l3]
      rw [if_pos (by omega), ix_nat (List.getElem?_eq_getElem hk)]
      simp only [Option.bind_some]
      rw [e1]
      simp only [Option.bind_some]
      rw [e2]
      simp only [Option.bind_some]
      rw [e3]
      by_cases ht : gx nx l[k].2.1.toNat < gx x l[k].1.toNat + l[k].2.2
      · rw [if_pos ht]
        refine ⟨(setAt nx l[k].2.1 (gx x l[k].1.toNat + l[k].2.2), true), ?_, by rw [setAt_len]; exact i1, ?_, ?_, fun h => (by cases h), fun _ => ⟨l[k].2.1.toNat, by omega, ?_⟩⟩
        · simp only [Option.bind_some]
          rw [w64_id (by omega)]; rfl
        · show Jn n (N l) (gx x) (gx (setAt nx _ _)) (k + 1)
          rw [gx_set (by omega)]
          exact i2.rise (src := gx x) (N_in ok) hg (fun v hv => ⟨Int.le_refl _, i2.inc v hv⟩) ht
        · intro v hv
          show gx (setAt nx _ _) v ≤ _
          rw [gx_set (by omega)]
          unfold upd
          split
          · omega
          · exact i3 v hv
        · show _ < gx (setAt nx _ _) _
          rw [gx_set (by omega), upd_same]; omega
      · rw [if_neg ht]
        refine ⟨(nx, mv), ?_, i1, i2.keep (src := gx x) (N_in ok) hg (fun v hv => Int.le_refl _) (by simp only; omega), i3, i4, i5⟩
        simp only [Option.bind_some]
        rw [w64_id (by omega)]; rfl)
    (fun s hI => by
      obtain ⟨nx, mv⟩ := s
      simp only [r22_Earliest_l3]
      rw [if_neg (by omega)]) (x, false) ⟨hx, Jn.start _ _ _, fun v hv => by have := hb v hv; simp only; omega, fun _ => rfl, fun h => by cases h⟩
  obtain ⟨nx, mv⟩ := s
  have h3 := h1.2.1
  rw [← N_len l] at h3
  exact ⟨nx, mv, h2, h1.1, h3.rd, h1.2.2.1, h1.2.2.2.1, h1.2.2.2.2⟩
theorem ref_zero {n : Nat} (hn : n ≤ 1000) : loopW (r22_Earliest_l1 (n : Int)) ([], 0) = some (List.replicate n 0) := by
  obtain ⟨s, h1, h2⟩ := loop_cnt n (fun (o : List Int) (k : Nat) => (o, (k : Int))) (r22_Earliest_l1 (n : Int)) id (fun o k => o = List.replicate k 0)
    (fun o k hk hI => by
      refine ⟨List.replicate (k + 1) 0, ?_, rfl⟩
      rw [hI, r22_Earliest_l1, if_pos (by omega), app_is (by simp; omega), Option.bind_some, w64_id (by omega), List.replicate_succ']; rfl)
    (fun o _ => by rw [r22_Earliest_l1, if_neg (by omega)]; rfl) [] (by simp)
  have e : loopW (r22_Earliest_l1 (n : Int)) ([], 0) = some s := h2
  rw [e, h1]
theorem ref_ear {n : Nat} {l : Cs} (ok : Ok (n : Int) l) :
    (∃ x, r22_Earliest (n : Int) l = some (x, true) ∧ x.length = n ∧ Least n (N l) (gx x)) ∨ (r22_Earliest (n : Int) l = some ([], false) ∧ ¬ ∃ d, Least n (N l) d) := by
  have hn := ok.2.1
  have hl := ok.2.2.1
  have hin := N_in ok
  obtain ⟨e, h1, h2⟩ := loopW_ex (step := r22_Earliest_l2 (n : Int) l) (fun s => ∃ (k : Nat) (x : List Int), k ≤ n + 1 ∧ s = (x, (k : Int)) ∧ x.length = n ∧ (∀ v, v < n → 0 ≤ gx x v ∧ gx x v ≤ (k : Int) * 1073741824) ∧ (∀ d, Least n (N l) d → Stl n d k (gx x)) ∧ (k = n + 1 → ¬ ∃ d, Least n (N l) d)) (fun s => n + 1 - s.2.toNat)
    (fun e => (e = .inl () ∧ ¬ ∃ d, Least n (N l) d) ∨ ∃ x, e = .inr (x, true) ∧ x.length = n ∧ Least n (N l) (gx x))
    (by
      rintro s ⟨k, x, hk, rfl, hx, hb, hs, hd⟩
      by_cases hkn : k ≤ n
      · obtain ⟨nx, mv, g1, g2, g3, g4, g5, g6⟩ := ref_round ok hx (m := k) (by omega) hb
        simp only [r22_Earliest_l2]
        rw [if_pos (by omega), app_is (by simp; omega), Option.bind_some, List.nil_append, g1, Option.bind_some]
        cases mv with
        | false =>
          right
          have := g5 rfl
          subst this
          have hsol : Sol (N l) (gx nx) := g3.suc
          have h0 : ∀ v, v < n → 0 ≤ gx nx v := fun v hv => (hb v hv).1
          exact ⟨_, rfl, .inr ⟨nx, rfl, hx, fix_least (m := 0) (src := gx nx) hin hsol h0 fun d hd v hv => ((hs d hd).1 v hv).2⟩⟩
        | true =>
          left
          refine ⟨(nx, ((k + 1 : Nat) : Int)), ?_, ⟨k + 1, nx, by omega, rfl, g2, fun v hv => ⟨?_, g4 v hv⟩, fun d hd => stl_step hin hd (hs d hd) g3, ?_⟩, by simp; omega⟩
          · have : w64 ((k : Int) + 1) = ((k + 1 : Nat) : Int) := by rw [w64_id (by omega)]; rfl
            simp only [orR, Option.bind_some, Bool.not_true, Bool.false_eq_true, if_false, this]
          · have := g3.inc v hv; have := hb v hv; omega
          · rintro hkk ⟨d, hd⟩
            obtain ⟨v, hv, h3⟩ := g6 rfl
            have h4 := stl_all (hs d hd) (by omega) v hv
            have h5 := g3.le d hd.1 (fun v hv => ((hs d hd).1 v hv).2) v hv
            omega
      · obtain rfl : k = n + 1 := by omega
        right
        simp only [r22_Earliest_l2]
        rw [if_neg (by omega)]
        exact ⟨_, rfl, .inl ⟨rfl, hd rfl⟩⟩)
    (List.replicate n 0, 0) ⟨0, _, by omega, rfl, by simp, fun v hv => by unfold gx; simp [hv], fun d hd => stl0 hin hd fun v hv => by unfold gx; simp [hv], fun h => by omega⟩
  unfold r22_Earliest
  rw [rright_eq _ _ (by omega), decide_eq_true ok, Option.bind_some, if_neg (by decide), ref_zero (by omega), Option.bind_some, h1]
  rcases h2 with ⟨rfl, h2⟩ | ⟨x, rfl, h2⟩
  · exact .inr ⟨rfl, h2⟩
  · exact .inl ⟨x, rfl, h2⟩
/-- Both say the same. -/
theorem ear {n : Nat} {l : Cs} (ok : Ok (n : Int) l) :
    (∃ x, diff_Earliest (n : Int) l = some (x, true) ∧ r22_Earliest (n : Int) l = some (x, true) ∧ x.length = n ∧ Least n (N l) (gx x) ∧ ∀ v, v < n → 0 ≤ gx x v ∧ gx x v ≤ 20000000000000) ∨
    (diff_Earliest (n : Int) l = some ([], false) ∧ r22_Earliest (n : Int) l = some ([], false) ∧ ¬ ∃ d, Least n (N l) d) := by
  have hl := ok.2.2.1
  have e0 : diff_Earliest (n : Int) l = (diff_solve (n : Int) l).bind fun x2 => if 0 ≤ x2.2.2 then some (([] : List Int), false) else some (x2.1, true) := by
    unfold diff_Earliest
    rw [right_eq _ _ (by omega), decide_eq_true ok, Option.bind_some, if_neg (by decide)]
  rw [e0]
  rcases solve_eq ok with ⟨x, c, g1, g2, g3, g4⟩ | ⟨x, c, g1, g2, k, hk, g3, g4, g5⟩
  · left
    rw [g1]
    refine ⟨x, rfl, ?_, g2, g3, g4⟩
    rcases ref_ear ok with ⟨y, r1, r2, r3⟩ | ⟨_, r2⟩
    · rw [r1]
      have : y = x := gx_ext r2 g2 fun v hv => by
        have h1 := g3.2.2 _ r3.1 r3.2.1 v hv
        have h2 := r3.2.2 _ g3.1 g3.2.1 v hv
        omega
      rw [this]
    · exact absurd ⟨_, g3⟩ r2
  · right
    have ha := ok.2.2.2 _ (List.getElem_mem hk)
    have hno := g3.stuck (N_in ok) (N_get hk) g4
    rw [g5]
    refine ⟨?_, ?_, hno⟩
    · rw [Option.bind_some, if_pos ha.2.2.1]
    · rcases ref_ear ok with ⟨y, r1, r2, r3⟩ | ⟨r1, _⟩
      · exact absurd ⟨_, r3⟩ hno
      · exact r1
theorem ear_bad {n : Int} {l : Cs} (ok : ¬ Ok n l) (hl : l.length ≤ 1000000000) : diff_Earliest n l = some ([], false) ∧ r22_Earliest n l = some ([], false) := by
  unfold diff_Earliest r22_Earliest
  rw [right_eq _ _ hl, rright_eq _ _ hl, decide_eq_false ok]
  exact ⟨rfl, rfl⟩

/-! ### Wrong -/
def vio (l : Cs) (x : List Int) (k : Nat) : Bool := match l[k]? with | some a => decide (gx x a.2.1.toNat < gx x a.1.toNat + a.2.2) | none => false
def wr (l : Cs) (x : List Int) : Nat → List Int
  | 0 => []
  | k + 1 => if vio l x k = true then wr l x k ++ [(k : Int)] else wr l x k
theorem wr_len (l : Cs) (x : List Int) : ∀ k, (wr l x k).length ≤ k
  | 0 => Nat.le_refl _
  | k + 1 => by
    have := wr_len l x k
    unfold wr; split
    · simp; omega
    · omega
theorem wr_nil {l : Cs} {x : List Int} : ∀ {k : Nat}, (wr l x k).length = 0 → ∀ j, j < k → vio l x j = false
  | 0, _, j, hj => by omega
  | k + 1, h, j, hj => by
    unfold wr at h
    cases hv : vio l x k
    · rw [hv] at h
      by_cases e : j = k
      · rw [e]; exact hv
      · exact wr_nil (k := k) (by simpa using h) j (by omega)
    · rw [hv] at h; simp at h
theorem wr_no {l : Cs} {x : List Int} : ∀ {k : Nat}, (∀ j, j < k → vio l x j = false) → wr l x k = []
  | 0, _ => rfl
  | k + 1, h => by
    unfold wr
    rw [h k (by omega), if_neg (by decide)]
    exact wr_no fun j hj => h j (by omega)
abbrev OkT (n : Int) (x : List Int) : Prop := (x.length : Int) = n ∧ ∀ v ∈ x, -1125899906842624 ≤ v ∧ v ≤ 1125899906842624
abbrev badT (v : Int) : Prop := v < -1125899906842624 ∨ 1125899906842624 < v
theorem tooFar_iff (v : Int) : diff_tooFar v = true ↔ badT v := by simp [diff_tooFar, badT]
theorem far_eq (x : List Int) (hx : x.length ≤ 1000000000) : slices_ContainsFunc_int_int x = some (decide (∃ v ∈ x, badT v)) := by
  unfold slices_ContainsFunc_int_int slices_IndexFunc_int_int
  have key : ∃ e, loopW (slices_IndexFunc_int_int_l1 x) 0 = some e ∧ ((e = .inl () ∧ ∀ v ∈ x, ¬ badT v) ∨ ∃ k : Nat, e = .inr (k : Int) ∧ ∃ v ∈ x, badT v) := by
    refine loopW_ex (fun s => ∃ k : Nat, k ≤ x.length ∧ s = (k : Int) ∧ ∀ v ∈ x.take k, ¬ badT v) (fun s => x.length - s.toNat) _ ?_ 0 ⟨0, by omega, rfl, by simp⟩
    rintro s ⟨k, hk, rfl, hs⟩
    by_cases hkl : k < x.length
    · have e : slices_IndexFunc_int_int_l1 x (k : Int) = if badT x[k] then some (.inr (.inr (k : Int))) else some (.inl ((k + 1 : Nat) : Int)) := by
        simp only [slices_IndexFunc_int_int_l1]
        rw [if_pos (by omega), ix_nat (List.getElem?_eq_getElem hkl), Option.bind_some, w64_id (by omega)]
        by_cases hb : badT x[k]
        · rw [if_pos hb, if_pos ((tooFar_iff _).2 hb)]
        · rw [if_neg hb, if_neg (fun h => hb ((tooFar_iff _).1 h))]; rfl
      by_cases hb : badT x[k]
      · right
        exact ⟨_, by rw [e, if_pos hb], .inr ⟨k, rfl, x[k], List.getElem_mem hkl, hb⟩⟩
      · left
        refine ⟨((k + 1 : Nat) : Int), by rw [e, if_neg hb], ⟨k + 1, by omega, rfl, fun v hv => ?_⟩, by simp; omega⟩
        rw [List.take_succ_eq_append_getElem hkl, List.mem_append] at hv
        rcases hv with hv | hv
        · exact hs v hv
        · rw [List.mem_singleton] at hv; rw [hv]; exact hb
    · right
      obtain rfl : k = x.length := by omega
      rw [List.take_length] at hs
      exact ⟨.inl (), by simp only [slices_IndexFunc_int_int_l1]; rw [if_neg (by omega)], .inl ⟨rfl, hs⟩⟩
  obtain ⟨e, h1, h2⟩ := key
  rw [h1]
  rcases h2 with ⟨rfl, h2⟩ | ⟨k, rfl, h2⟩
  · rw [decide_eq_false (by rintro ⟨v, h3, h4⟩; exact h2 v h3 h4)]; rfl
  · rw [decide_eq_true h2]
    show some (decide (0 ≤ (k : Int))) = _
    rw [decide_eq_true (by omega)]
theorem times_eq (n : Int) (x : List Int) (hx : x.length ≤ 9223372036854775807) : r22_Times n x = some (decide (OkT n x)) := by
  unfold r22_Times
  rw [search_in x (by omega) _ badT false (fun k hk => by
      unfold r22_Times_l1
      rw [if_pos (by omega), ix_nat (List.getElem?_eq_getElem hk)]
      simp only [Option.bind_some]
      by_cases hb : badT x[k]
      · rw [if_pos hb]
        by_cases c1 : x[k] < -1125899906842624
        · rw [if_pos c1]; rfl
        · rw [if_neg c1, decide_eq_true (by omega)]; rfl
      · rw [if_neg hb, if_neg (by omega), decide_eq_false (by omega)]; rfl) (by unfold r22_Times_l1; rw [if_neg (by omega)])]
  unfold orR
  by_cases hb : ∃ v ∈ x, badT v
  · obtain ⟨v, h1, h2⟩ := hb
    rw [if_pos ⟨v, h1, h2⟩, decide_eq_false (p := OkT n x) (fun h => by have := h.2 v h1; omega)]; rfl
  · rw [if_neg hb]
    simp only [Option.bind_some]
    congr 1
    refine decide_eq_decide.2 ⟨fun h => ⟨h, fun v hv => ?_⟩, fun h => h.1⟩
    have : ¬ badT v := fun h => hb ⟨v, hv, h⟩
    omega
theorem bd_T {n : Nat} {x : List Int} (h : OkT (n : Int) x) {v : Nat} (hv : v < n) : -1125899906842624 ≤ gx x v ∧ gx x v ≤ 1125899906842624 := by
  have hvl : v < x.length := by have := h.1; omega
  have := h.2 x[v] (List.getElem_mem hvl)
  unfold gx
  rw [List.getElem?_eq_getElem hvl]; exact this
theorem wrong_eq {n : Nat} {l : Cs} (ok : Ok (n : Int) l) {x : List Int} (hT : OkT (n : Int) x) : diff_Wrong (n : Int) l x = some (wr l x l.length) ∧ r22_Wrong (n : Int) l x = some (wr l x l.length) := by
  have hn := ok.2.1
  have hl := ok.2.2.1
  have hx : x.length = n := by have := hT.1; omega
  have hno : ¬ ∃ v ∈ x, badT v := by rintro ⟨v, h1, h2⟩; have := hT.2 v h1; omega
  constructor
  · unfold diff_Wrong
    rw [right_eq _ _ (by omega), decide_eq_true ok, Option.bind_some, if_neg (by decide), if_neg (by omega), far_eq x (by omega), decide_eq_false hno]
    simp only [Option.bind_some]
    rw [if_neg (by decide)]
    obtain ⟨s, h1, h2⟩ := loop_cnt l.length (fun (o : List Int) (k : Nat) => (o, (k : Int))) (diff_Wrong_l1 l x) id (fun o k => o = wr l x k)
      (fun o k hk hI => by
        have ha := ok.2.2.2 _ (List.getElem_mem hk)
        have b1 := bd_T hT (v := l[k].1.toNat) (by omega)
        have b2 := bd_T hT (v := l[k].2.1.toNat) (by omega)
        have e1 : ix x l[k].1 = some (gx x l[k].1.toNat) := ix_gx (by omega) (by omega)
        have e2 : ix x l[k].2.1 = some (gx x l[k].2.1.toNat) := ix_gx (by omega) (by omega)
        have hlen := wr_len l x k
        refine ⟨wr l x (k + 1), ?_, rfl⟩
        rw [hI, diff_Wrong_l1, if_pos (by omega), ix_nat (List.getElem?_eq_getElem hk), Option.bind_some, e2, Option.bind_some, e1, Option.bind_some, w64_id (by omega), w64_id (by omega)]
        have hv : vio l x k = decide (gx x l[k].2.1.toNat < gx x l[k].1.toNat + l[k].2.2) := by unfold vio; rw [List.getElem?_eq_getElem hk]
        by_cases h : gx x l[k].2.1.toNat < gx x l[k].1.toNat + l[k].2.2
        · rw [if_pos (by omega), app_is (by simp; omega)]
          simp only [Option.bind_some, wr]
          rw [hv, decide_eq_true h, if_pos rfl]; rfl
        · rw [if_neg (by omega)]
          simp only [Option.bind_some, wr]
          rw [hv, decide_eq_false h, if_neg (by decide)]; rfl)
      (fun o _ => by rw [diff_Wrong_l1, if_neg (by omega)]; rfl) [] rfl
    have e : loopW (diff_Wrong_l1 l x) ([], 0) = some s := h2
    rw [e, h1]; rfl
  · unfold r22_Wrong
    rw [rright_eq _ _ (by omega), decide_eq_true ok, Option.bind_some, if_neg (by decide), times_eq _ _ (by omega), decide_eq_true hT]
    simp only [Option.bind_some]
    rw [if_neg (by decide)]
    obtain ⟨s, h1, h2⟩ := loop_cnt l.length (fun (o : List Int) (k : Nat) => (o, (k : Int))) (r22_Wrong_l1 l x) id (fun o k => o = wr l x k)
      (fun o k hk hI => by
        have ha := ok.2.2.2 _ (List.getElem_mem hk)
        have b1 := bd_T hT (v := l[k].1.toNat) (by omega)
        have b2 := bd_T hT (v := l[k].2.1.toNat) (by omega)
        have e1 : ix x l[k].1 = some (gx x l[k].1.toNat) := ix_gx (by omega) (by omega)
        have e2 : ix x l[k].2.1 = some (gx x l[k].2.1.toNat) := ix_gx (by omega) (by omega)
        have hlen := wr_len l x k
        refine ⟨wr l x (k + 1), ?_, rfl⟩
        rw [hI, r22_Wrong_l1, if_pos (by omega), ix_nat (List.getElem?_eq_getElem hk)]
        simp only [Option.bind_some]
        rw [e1]
        simp only [Option.bind_some]
        rw [e2]
        simp only [Option.bind_some]
        rw [w64_id (x := gx x l[k].1.toNat + l[k].2.2) (by omega), w64_id (by omega)]
        have hv : vio l x k = decide (gx x l[k].2.1.toNat < gx x l[k].1.toNat + l[k].2.2) := by unfold vio; rw [List.getElem?_eq_getElem hk]
        by_cases h : gx x l[k].2.1.toNat < gx x l[k].1.toNat + l[k].2.2
        · rw [if_pos h, app_is (by simp; omega)]
          simp only [Option.bind_some, wr]
          rw [hv, decide_eq_true h, if_pos rfl]; rfl
        · rw [if_neg h]
          simp only [Option.bind_some, wr]
          rw [hv, decide_eq_false h, if_neg (by decide)]; rfl)
      (fun o _ => by rw [r22_Wrong_l1, if_neg (by omega)]; rfl) [] rfl
    have e : loopW (r22_Wrong_l1 l x) ([], 0) = some s := h2
    rw [e, h1]; rfl
theorem wrong_bad {n : Int} {l : Cs} {x : List Int} (hx : x.length ≤ 1000000000) (hl : l.length ≤ 1000000000) (h : ¬ (Ok n l ∧ OkT n x)) : diff_Wrong n l x = some [] ∧ r22_Wrong n l x = some [] := by
  unfold diff_Wrong r22_Wrong
  rw [right_eq _ _ hl, rright_eq _ _ hl, far_eq x hx, times_eq n x (by omega)]
  by_cases ok : Ok n l
  · have hT : ¬ OkT n x := fun hT => h ⟨ok, hT⟩
    rw [decide_eq_true ok, decide_eq_false hT]
    refine ⟨?_, rfl⟩
    simp only [Option.bind_some, Bool.not_true, Bool.false_eq_true, if_false]
    by_cases hn : (x.length : Int) = n
    · have hb : ∃ v ∈ x, badT v := Classical.byContradiction fun hno => hT ⟨hn, fun v hv => by
        have : ¬ badT v := fun h => hno ⟨v, hv, h⟩
        omega⟩
      rw [if_neg (by simpa using hn), decide_eq_true hb]; rfl
    · rw [if_pos hn]; rfl
  · rw [decide_eq_false ok]
    exact ⟨rfl, rfl⟩

/-! ### The statements -/
theorem mine_eq {l : Cs} (hl : l.length ≤ 1000000) : L22_mine l = some l := by
  unfold L22_mine
  rw [loop_copy l (by omega) (fun a => (a.1, a.2.1, a.2.2)) (L22_mine_l1 l) (fun k hk out ho => by
    rw [L22_mine_l1, if_pos (by omega)]
    simp only [ix_nat (List.getElem?_eq_getElem hk), Option.bind_some]) (fun out => by rw [L22_mine_l1, if_neg (by omega)])]
  rw [map_id' l fun a => rfl]; rfl
theorem same_refl {a : List Int} (ha : a.length ≤ 1000000000) : r13_Same a a = some true := by
  unfold r13_Same
  rw [if_neg (by simp), search_any a.length _ (fun _ => False) false (fun k hk => by
    unfold r13_Same_l1
    rw [if_pos (by omega), ix_nat (List.getElem?_eq_getElem hk), Option.bind_some, Option.bind_some, if_neg (by simp), if_neg (by simp), w64_id (by omega)]; rfl) (by unfold r13_Same_l1; rw [if_neg (by omega)]), if_neg (by simp)]
  rfl
theorem awake_e : diff_Earliest 3 [(0, 1, 5), (1, 2, 3)] = some ([0, 5, 8], true) := by
  have hL : Least 3 (N [(0, 1, 5), (1, 2, 3)]) (gx [0, 5, 8]) := by
    refine ⟨?_, ?_, fun e h1 h2 v hv => ?_⟩
    · intro c hc
      have : c = (0, 1, 5) ∨ c = (1, 2, 3) := by simpa [N] using hc
      rcases this with rfl | rfl <;> decide
    · intro v hv
      have : v = 0 ∨ v = 1 ∨ v = 2 := by omega
      rcases this with rfl | rfl | rfl <;> decide
    · have g1 := h1 (0, 1, 5) (by simp [N])
      have g2 := h1 (1, 2, 3) (by simp [N])
      have g3 := h2 0 (by omega)
      have : v = 0 ∨ v = 1 ∨ v = 2 := by omega
      simp only at g1 g2
      rcases this with rfl | rfl | rfl
      · show (0 : Int) ≤ _; omega
      · show (5 : Int) ≤ _; omega
      · show (8 : Int) ≤ _; omega
  rcases ear (n := 3) (l := [(0, 1, 5), (1, 2, 3)]) (by decide) with ⟨x, h1, _, h2, h3, _⟩ | ⟨_, _, h1⟩
  · have : x = [0, 5, 8] := gx_ext h2 rfl fun v hv => by
      have h4 := h3.2.2 _ hL.1 hL.2.1 v hv
      have h5 := hL.2.2 _ h3.1 h3.2.1 v hv
      omega
    rw [this] at h1; exact h1
  · exact absurd ⟨_, hL⟩ h1
theorem awake_r : diff_Ring 1 [(0, 0, 1)] = some [0] := by
  have e1 : diff_Right 1 [(0, 0, 1)] = some true := by rw [right_eq _ _ (by decide)]; rfl
  have e2 : loopW (diff_solve_l2 1 [(0, 0, 1)] 1) (false, 0, [0], [0]) = some (.inr (.inr (.inr ([1], [0], 0)))) := loopW_iff.2 ⟨1, rfl⟩
  have e3 : diff_solve 1 [(0, 0, 1)] = some ([1], [0], 0) := by
    unfold diff_solve
    rw [mk_is (by decide)]
    simp only [Option.bind_some]
    show (loopW (diff_solve_l1 1 [(0, 0, 1)]) (1, [0], [0])).bind _ = _
    rw [loopW_eq]
    simp only [diff_solve_l1]
    rw [e2]; rfl
  have e4 : loopW (diff_Ring_l1 1 [(0, 0, 1)] ([1], [0], 0)) (0, 0) = some 0 := loopW_iff.2 ⟨2, rfl⟩
  have e5 : loopW (diff_Ring_l2 [(0, 0, 1)] ([1], [0], 0) 0) ([0], 0) = some [0] := loopW_iff.2 ⟨1, rfl⟩
  have e6 : slices_Reverse_int_int [0] = some [0] := by
    unfold slices_Reverse_int_int
    exact loopW_iff.2 ⟨1, rfl⟩
  unfold diff_Ring
  rw [e1, e3]
  simp only [Option.bind_some]
  rw [if_neg (by decide), if_neg (by decide), e4]
  show (loopW (diff_Ring_l2 [(0, 0, 1)] ([1], [0], 0) 0) ([0], 0)).bind _ = _
  rw [e5]
  simp only [Option.bind_some]
  rw [e6]; rfl
theorem awake22 : L22_awake = some true := by
  unfold L22_awake
  rw [awake_e]
  simp only [Option.bind_some]
  rw [if_pos trivial, same_refl (by decide)]
  simp only [Option.bind_some]
  rw [if_pos trivial, awake_r]; rfl
theorem DiffTells_true (p0 : Int) (ok0 : (Lit.int .i64 p0).wf = true) (p1 : List (Int × Int × Int)) (ok1 : okL (okP (fun n => (Lit.int .i64 n).wf = true) (okP (fun n => (Lit.int .i64 n).wf = true) (fun n => (Lit.int .i64 n).wf = true))) p1) (p2 : List Int) (ok2 : okL (fun n => (Lit.int .i64 n).wf = true) p2) : L22_DiffTells p0 p1 p2 = some true := by
  unfold L22_DiffTells
  by_cases h : 300 < (p1.length : Int) ∨ 100 < (p2.length : Int)
  · rw [if_pos (by simpa using h), awake22]; rfl
  · rw [if_neg (by simpa using h), mine_eq (by omega), awake22]
    have hl : p1.length ≤ 300 := by omega
    have hx : p2.length ≤ 100 := by omega
    have hw : ∃ w, diff_Wrong p0 p1 p2 = some w ∧ r22_Wrong p0 p1 p2 = some w ∧ w.length ≤ 300 := by
      by_cases hh : Ok p0 p1 ∧ OkT p0 p2
      · obtain ⟨n, rfl⟩ : ∃ n : Nat, p0 = (n : Int) := ⟨p0.toNat, by have := hh.1.1; omega⟩
        obtain ⟨w1, w2⟩ := wrong_eq hh.1 hh.2
        exact ⟨_, w1, w2, by have := wr_len p1 p2 p1.length; omega⟩
      · obtain ⟨w1, w2⟩ := wrong_bad (by omega) (by omega) hh
        exact ⟨_, w1, w2, by simp⟩
    have he : ∃ e : List Int × Bool, diff_Earliest p0 p1 = some e ∧ r22_Earliest p0 p1 = some e ∧ e.1.length ≤ 100 := by
      by_cases ok : Ok p0 p1
      · have hn := ok.2.1
        obtain ⟨n, rfl⟩ : ∃ n : Nat, p0 = (n : Int) := ⟨p0.toNat, by have := ok.1; omega⟩
        rcases ear ok with ⟨x, h1, h2, h3, _⟩ | ⟨h1, h2, _⟩
        · exact ⟨_, h1, h2, by simp only; omega⟩
        · exact ⟨_, h1, h2, by simp⟩
      · obtain ⟨h1, h2⟩ := ear_bad ok (by omega)
        exact ⟨_, h1, h2, by simp⟩
    obtain ⟨w, w1, w2, w3⟩ := hw
    obtain ⟨e, e1, e2, e3⟩ := he
    rw [Option.bind_some, e1, e2, right_eq _ _ (by omega), rright_eq _ _ (by omega), w1, w2]
    simp only [Option.bind_some]
    rw [if_pos trivial, same_refl (by omega), same_refl (by omega)]
    simp
theorem DiffLeast_true (p0 : Int) (ok0 : (Lit.int .i64 p0).wf = true) (p1 : List (Int × Int × Int)) (ok1 : okL (okP (fun n => (Lit.int .i64 n).wf = true) (okP (fun n => (Lit.int .i64 n).wf = true) (fun n => (Lit.int .i64 n).wf = true))) p1) (p2 : List Int) (ok2 : okL (fun n => (Lit.int .i64 n).wf = true) p2) : L22_DiffLeast p0 p1 p2 = some true := by
  unfold L22_DiffLeast
  rw [awake22]
  by_cases h : 256 < (p1.length : Int)
  · rw [if_pos h]; rfl
  · have hl : p1.length ≤ 256 := by omega
    rw [if_neg h, rright_eq _ _ (by omega)]
    by_cases ok : Ok p0 p1
    · rw [decide_eq_true ok, Option.bind_some, if_neg (by decide)]
      have hn := ok.2.1
      obtain ⟨n, rfl⟩ : ∃ n : Nat, p0 = (n : Int) := ⟨p0.toNat, by have := ok.1; omega⟩
      by_cases hT : OkT (n : Int) p2
      · have hx : p2.length = n := by have := hT.1; omega
        rw [times_eq _ _ (by omega), decide_eq_true hT]
        simp only [Option.bind_some]
        rw [if_neg (by decide), search_in p2 (by omega) _ (· < 0) true (fun k hk => by
          unfold L22_DiffLeast_l1
          rw [if_pos (by omega), ix_nat (List.getElem?_eq_getElem hk), Option.bind_some, awake22]; rfl) (by unfold L22_DiffLeast_l1; rw [if_neg (by omega)])]
        by_cases h0 : ∃ e ∈ p2, e < 0
        · rw [if_pos h0]; rfl
        · rw [if_neg h0]
          have hnn : ∀ v, v < n → 0 ≤ gx p2 v := fun v hv => by
            have hvl : v < p2.length := by omega
            unfold gx
            rw [List.getElem?_eq_getElem hvl]
            exact Int.not_lt.1 fun hlt => h0 ⟨_, List.getElem_mem hvl, hlt⟩
          have hw := wrong_eq ok hT
          have hsol : (wr p1 p2 p1.length).length = 0 → Sol (N p1) (gx p2) := fun hz a ha => by
            obtain ⟨j, hj, e⟩ := List.getElem_of_mem ha
            rw [N_len] at hj
            have h1 := wr_nil hz j hj
            have h2 := N_get hj
            rw [List.getElem?_eq_getElem (by rw [N_len]; exact hj), e] at h2
            cases h2
            unfold vio at h1
            rw [List.getElem?_eq_getElem hj] at h1
            have := of_decide_eq_false h1
            simp only; omega
          simp only [orR, Option.bind_some]
          rw [mine_eq (by omega), Option.bind_some]
          rcases ear ok with ⟨x, h1, _, h2, h3, h4⟩ | ⟨h1, _, h2⟩
          · rw [h1, Option.bind_some, hw.2, Option.bind_some, if_neg (by simp)]
            have hTx : OkT (n : Int) x := ⟨by omega, fun v hv => by
              obtain ⟨j, hj, e⟩ := List.getElem_of_mem hv
              have := h4 j (by omega)
              unfold gx at this
              rw [List.getElem?_eq_getElem hj, e] at this
              simp only [Option.getD_some] at this
              omega⟩
            have hwx := (wrong_eq ok hTx).1
            have hz : wr p1 x p1.length = [] := wr_no fun j hj => by
              unfold vio
              rw [List.getElem?_eq_getElem hj]
              have := h3.1 _ (List.mem_of_getElem? (N_get hj))
              exact decide_eq_false (by simp only at this; omega)
            rw [if_neg (by simp only; omega), hwx, hz]
            simp only [Option.bind_some]
            rw [if_neg (by decide)]
            obtain ⟨s, g1, g2⟩ := loop_cnt n (fun (b : Bool) (k : Nat) => (b, (k : Int))) (L22_DiffLeast_l2 (n : Int) p2 (x, true)) (fun _ => Sum.inl ()) (fun b k => b = true → Sol (N p1) (gx p2))
              (fun b k hk hI => by
                refine ⟨b, ?_, hI⟩
                have e1 : ix x (k : Int) = some (gx x k) := by rw [ix_gx (by omega) (by omega)]; rfl
                have e2 : ix p2 (k : Int) = some (gx p2 k) := by rw [ix_gx (by omega) (by omega)]; rfl
                have hb := h4 k hk
                rw [L22_DiffLeast_l2, if_pos (by omega), e1, Option.bind_some, if_neg (by omega)]
                cases b with
                | true =>
                  have := h3.2.2 _ (hI rfl) hnn k hk
                  rw [if_pos rfl, Option.bind_some, e2, Option.bind_some, decide_eq_false (by omega), Option.bind_some]
                  simp only
                  rw [if_neg (by decide), w64_id (by omega)]; rfl
                | false =>
                  rw [if_neg (by decide), Option.bind_some]
                  simp only
                  rw [if_neg (by decide), w64_id (by omega)]; rfl)
              (fun b _ => by rw [L22_DiffLeast_l2, if_neg (by omega)]) (decide (((wr p1 p2 p1.length).length : Int) = 0)) (fun hd => hsol (by have := of_decide_eq_true hd; omega))
            have g3 : loopW (L22_DiffLeast_l2 (n : Int) p2 (x, true)) (decide (((wr p1 p2 p1.length).length : Int) = 0), 0) = some (Sum.inl ()) := g2
            rw [g3]; rfl
          · rw [h1, Option.bind_some, hw.2, Option.bind_some, if_pos (by simp), if_pos (by simp)]
            have : ¬ (wr p1 p2 p1.length).length = 0 := fun hz => by
              obtain ⟨d, hd⟩ := least (N_in ok) (hsol hz) hnn
              exact h2 ⟨d, hd⟩
            rw [decide_eq_false (by omega)]; rfl
      · rw [times_eq _ _ (by have := ok2.1; unfold maxLen at this; omega), decide_eq_false hT]; rfl
    · rw [decide_eq_false ok]; rfl

end Go.Proofs.Ytnhoakboblfliaa
