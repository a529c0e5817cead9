/- Layer 9: running and folding. Conditions: none. -/
import Derived.Test.YtefiglmpdajonaaDoorM08
namespace Go.Proofs.YtefiglmpdajonaaDoor
set_option linter.unusedVariables false
set_option linter.unusedSimpArgs false
open Go Go.RowKit
/-! ### Loops over a list with a state -/
theorem loop_flist {α σ τ ε : Type} (l : List α) (mkS : σ → Nat → τ) (f : σ → α → σ) (step : τ → Option (τ ⊕ ε)) (fin : σ → ε) (G : σ → Nat → Prop) (s0 : σ) (h0 : G s0 0)
    (hs : ∀ s k (hk : k < l.length), G s k → step (mkS s k) = some (.inl (mkS (f s l[k]) (k + 1))) ∧ G (f s l[k]) (k + 1))
    (he : ∀ s, step (mkS s l.length) = some (.inr (fin s))) : loopW step (mkS s0 0) = some (fin (l.foldl f s0)) ∧ G (l.foldl f s0) l.length := by
  obtain ⟨s, ⟨h1, h3⟩, h2⟩ := loop_cnt l.length mkS step fin (fun s k => s = (l.take k).foldl f s0 ∧ G s k)
    (fun s k hk ⟨hI, hG⟩ => ⟨f s l[k], (hs s k hk hG).1, by rw [hI, List.take_succ_eq_append_getElem hk, List.foldl_append]; rfl, (hs s k hk hG).2⟩) (fun s _ => he s) s0 ⟨rfl, h0⟩
  rw [List.take_length] at h1
  subst h1
  exact ⟨h2, h3⟩
/-! ### What acts send -/
abbrev Sd := Int × P4
def fA (came : P4) (s : List Sd × P4) (a : A3) : List Sd × P4 :=
  if a.1 = 1 then (s.1, withV s.2 a.2.1 a.2.2) else if a.1 = 2 then (s.1 ++ [(a.2.2, s.2)], s.2) else if a.1 = 3 then (s.1, came) else s
def runA (l : List A3) (p : P4) : List Sd × P4 := l.foldl (fA p) ([], p)
abbrev mkA (s : List Sd × P4) (k : Nat) : List Sd × Int × Int × Int × Int × Int := (s.1, (k : Int), s.2.1, s.2.2.1, s.2.2.2.1, s.2.2.2.2)
theorem fA_len (came : P4) (s : List Sd × P4) (a : A3) : (fA came s a).1.length ≤ s.1.length + 1 := by
  unfold fA
  split
  · simp
  · split
    · simp
    · split <;> simp
theorem run_eq {l : List A3} (hl : l.length ≤ 1000) (p : P4) : act_Run l p = some (runA l p).1 ∧ (runA l p).1.length ≤ l.length := by
  have := loop_flist l mkA (fA p) (act_Run_l1 l p) (fun s => (s.1, s.2.1, s.2.2.1, s.2.2.2.1, s.2.2.2.2)) (fun s k => s.1.length ≤ k) ([], p) (Nat.le_refl 0)
    (fun ⟨out, c⟩ k hk hG => ⟨by
      obtain ⟨c1, c2, c3, c4⟩ := c
      simp only at hG
      rw [mkA, act_Run_l1, if_pos (by omega), ix_nat (List.getElem?_eq_getElem hk), Option.bind_some]
      unfold fA
      by_cases k1 : l[k].1 = 1
      · rw [if_pos k1, if_pos k1, with_eq, w64_id (by omega)]; rfl
      · rw [if_neg k1, if_neg k1]
        by_cases k2 : l[k].1 = 2
        · rw [if_pos k2, if_pos k2, app_is (by simp; omega), w64_id (by omega)]; rfl
        · rw [if_neg k2, if_neg k2]
          by_cases k3 : l[k].1 = 3
          · rw [if_pos k3, if_pos k3, w64_id (by omega)]; rfl
          · rw [if_neg k3, if_neg k3, w64_id (by omega)]; rfl, by
      have := fA_len p (out, c) l[k]
      simp only at hG ⊢
      simp only at this
      omega⟩) (fun s => by rw [mkA, act_Run_l1, if_neg (by omega)])
  refine ⟨?_, this.2⟩
  unfold act_Run
  have h := this.1
  rw [show mkA ([], p) 0 = ([], 0, p.1, p.2.1, p.2.2.1, p.2.2.2) from rfl] at h
  rw [h]; rfl
theorem rrun_eq {l : List A3} (hl : l.length ≤ 1000) (p : P4) : r09_Run l p = some (runA l p).1 := by
  have := loop_flist l mkA (fA p) (r09_Run_l1 l p) (fun s => (s.1, s.2.1, s.2.2.1, s.2.2.2.1, s.2.2.2.2)) (fun s k => s.1.length ≤ k) ([], p) (Nat.le_refl 0)
    (fun ⟨out, c⟩ k hk hG => ⟨by
      obtain ⟨c1, c2, c3, c4⟩ := c
      simp only at hG
      have hx := ix_nat (List.getElem?_eq_getElem hk)
      rw [mkA, r09_Run_l1, if_pos (by omega), hx]
      unfold fA
      by_cases k1 : l[k].1 = 1
      · have k3 : ¬ l[k].1 = 3 := by omega
        have k2 : ¬ l[k].1 = 2 := by omega
        simp only [Option.bind_some, if_neg k3, if_neg k2, if_pos k1, rwith_eq, w64_id (show -9223372036854775808 ≤ (k : Int) + 1 ∧ (k : Int) + 1 ≤ 9223372036854775807 by omega)]; rfl
      · have hw := w64_id (show -9223372036854775808 ≤ (k : Int) + 1 ∧ (k : Int) + 1 ≤ 9223372036854775807 by omega)
        have ha : ∀ a : Sd, app out [a] = some (out ++ [a]) := fun a => app_is (by simp; omega)
        by_cases k2 : l[k].1 = 2
        · have k3 : ¬ l[k].1 = 3 := by omega
          simp only [Option.bind_some, if_neg k1, if_neg k3, if_pos k2, hw, ha]; rfl
        · by_cases k3 : l[k].1 = 3
          · simp only [Option.bind_some, if_neg k1, if_pos k3, if_neg k2, hw]; rfl
          · simp only [Option.bind_some, if_neg k1, if_neg k3, if_neg k2, hw]; rfl, by
      have := fA_len p (out, c) l[k]
      simp only at hG ⊢
      simp only at this
      omega⟩) (fun s => by rw [mkA, r09_Run_l1, if_neg (by omega)])
  unfold r09_Run
  have h := this.1
  rw [show mkA ([], p) 0 = ([], 0, p.1, p.2.1, p.2.2.1, p.2.2.2) from rfl] at h
  rw [h]; rfl
theorem eq5 {x y : Sd} : (x.1 = y.1 ∧ x.2.1 = y.2.1 ∧ x.2.2.1 = y.2.2.1 ∧ x.2.2.2.1 = y.2.2.2.1 ∧ x.2.2.2.2 = y.2.2.2.2) ↔ x = y := by
  obtain ⟨a, b, c, d, e⟩ := x
  obtain ⟨a', b', c', d', e'⟩ := y
  constructor
  · rintro ⟨h1, h2, h3, h4, h5⟩
    simp only at h1 h2 h3 h4 h5
    subst h1 h2 h3 h4 h5; rfl
  · rintro h; cases h; exact ⟨rfl, rfl, rfl, rfl, rfl⟩
theorem rsent_eq {a b : List Sd} (hl : a.length ≤ 1000) : r09_Sent a b = some (decide (a = b)) := by
  unfold r09_Sent
  by_cases he : (a.length : Int) ≠ (b.length : Int)
  · rw [if_pos he, decide_eq_false (fun h => he (by rw [h]))]
  · have he' : a.length = b.length := by omega
    rw [if_neg he]
    have hd : DecidablePred fun k : Nat => a[k]? ≠ b[k]? := fun _ => inferInstance
    rw [any_loop a.length (r09_Sent_l1 a b) (fun k : Nat => a[k]? ≠ b[k]?) false (fun k hk => by
      have h2 : k < b.length := by omega
      rw [r09_Sent_l1, if_pos (by omega), ix_nat (List.getElem?_eq_getElem hk), Option.bind_some, ix_nat (List.getElem?_eq_getElem h2), Option.bind_some, w64_id (by omega)]
      by_cases c : a[k] = b[k]
      · have c' : a[k]? = b[k]? := by rw [List.getElem?_eq_getElem hk, List.getElem?_eq_getElem h2, c]
        rw [if_neg (by rw [decide_eq_true (eq5.2 c)]; decide), if_neg (fun h => h c')]; rfl
      · have c' : a[k]? ≠ b[k]? := by rw [List.getElem?_eq_getElem hk, List.getElem?_eq_getElem h2]; simpa using c
        rw [if_pos (by rw [decide_eq_false (fun h => c (eq5.1 h))]; rfl), if_pos c']) (by rw [r09_Sent_l1, if_neg (by omega)]), orR_any]
    congr 1
    exact decide_eq_decide.2 ⟨fun h => List.ext_getElem? fun k => Classical.byContradiction fun hn => by
      by_cases hk : k < a.length
      · exact h ⟨k, hk, hn⟩
      · exact hn (by rw [List.getElem?_eq_none (by omega), List.getElem?_eq_none (by omega)]), fun h ⟨k, hk, hn⟩ => hn (by rw [h])⟩
/-- Acts behind others, with no Back among them. -/
theorem run_shift (came d : P4) : ∀ (l : List A3) (out : List Sd) (c : P4), (∀ a ∈ l, a.1 ≠ 3) → l.foldl (fA came) (out, c) = (out ++ (l.foldl (fA d) ([], c)).1, (l.foldl (fA d) ([], c)).2)
  | [], out, c, _ => by simp
  | a :: l, out, c, h => by
    have h3 := h a (by simp)
    have hl : ∀ a ∈ l, a.1 ≠ 3 := fun a ha => h a (by simp [ha])
    simp only [List.foldl_cons]
    have e : ∀ out, fA came (out, c) a = (out ++ (fA d ([], c) a).1, (fA d ([], c) a).2) := by
      intro out
      unfold fA
      by_cases k1 : a.1 = 1
      · simp [k1]
      · by_cases k2 : a.1 = 2
        · simp [k2]
        · simp [k1, k2, h3]
    rw [e, run_shift came d l _ _ hl]
    have e2 := run_shift d d l (fA d ([], c) a).1 (fA d ([], c) a).2 hl
    rw [show ((fA d ([], c) a).1, (fA d ([], c) a).2) = fA d ([], c) a from rfl] at e2
    rw [e2, List.append_assoc]
theorem runA_app (a b : List A3) (p : P4) (h : ∀ x ∈ b, x.1 ≠ 3) : (runA (a ++ b) p).1 = (runA a p).1 ++ (runA b (runA a p).2).1 := by
  unfold runA
  rw [List.foldl_append]
  have := run_shift p (runA a p).2 b (runA a p).1 (runA a p).2 h
  have e : List.foldl (fA p) ([], p) a = ((runA a p).1, (runA a p).2) := rfl
  rw [e, this]
theorem runA_mark (a : List A3) (p : P4) (v : Int) : (runA (a ++ [(2, 0, v)]) p).1 = (runA a p).1 ++ [(v, (runA a p).2)] := by
  unfold runA
  rw [List.foldl_append]; rfl
/-! ### Folding -/
theorem foldW_is {α β σ ε : Type} (step : (β × α) → σ → Option (σ ⊕ ε)) (g : σ → α → σ) (Pm : α → Prop) (G : σ → Nat → Prop)
    (hs : ∀ x s n, Pm x.2 → G s (n + 1) → step x s = some (.inl (g s x.2)) ∧ G (g s x.2) n) : ∀ (L : List (β × α)) (s : σ), (∀ x ∈ L, Pm x.2) → G s L.length → foldW step L s = some (.inl ((L.map (·.2)).foldl g s))
  | [], s, _, _ => rfl
  | x :: L, s, hP, hG => by
    obtain ⟨h1, h2⟩ := hs x s L.length (hP x (by simp)) hG
    rw [foldW, h1, Option.bind_some]
    exact foldW_is step g Pm G hs L _ (fun y hy => hP y (by simp [hy])) h2
theorem bwd_map {α : Type} (l : List α) : (bwd l).map (·.2) = l.reverse := by
  unfold bwd
  rw [List.map_reverse, List.map_map]
  congr 1
  refine List.ext_getElem (by simp) fun i h1 h2 => by simp
theorem bwd_len {α : Type} (l : List α) : (bwd l).length = l.length := by unfold bwd; simp
theorem back_is {α : Type} {l : List α} (h : l.length ≤ 1000000000) : back l = some (bwd l) := if_pos h
abbrev B6 := Bool × Bool × Bool × Bool × Bool × List A3
def gF (s : B6) (f : Int) : Bool := if f = 0 then s.2.1 else if f = 1 then s.2.2.1 else if f = 2 then s.2.2.2.1 else s.2.2.2.2.1
def gA (s : B6) (a : A3) : B6 :=
  if a.1 = 2 then (false, false, false, false, false, s.2.2.2.2.2 ++ [a]) else if a.1 = 3 then (true, false, false, false, false, s.2.2.2.2.2 ++ [a])
  else if s.1 = true then (true, s.2.1, s.2.2.1, s.2.2.2.1, s.2.2.2.2.1, s.2.2.2.2.2)
  else (false, (if a.2.1 = 0 then true else s.2.1), (if a.2.1 = 1 then true else s.2.2.1), (if a.2.1 = 2 then true else s.2.2.2.1), (if a.2.1 = 3 then true else s.2.2.2.2.1), if gF s a.2.1 = true then s.2.2.2.2.2 else s.2.2.2.2.2 ++ [a])
theorem gA_len (s : B6) (a : A3) : (gA s a).2.2.2.2.2.length ≤ s.2.2.2.2.2.length + 1 := by
  unfold gA
  split
  · simp
  · split
    · simp
    · split
      · simp
      · simp only; split <;> simp
theorem hid2 (b b0 b1 b2 b3 : Bool) (f v : Int) : act_shadow_hides (b, (b0, b1, b2, b3), ()) (2, f, v) = some (false, (false, (false, false, false, false), ())) := rfl
theorem hid3 (b b0 b1 b2 b3 : Bool) (f v : Int) : act_shadow_hides (b, (b0, b1, b2, b3), ()) (3, f, v) = some (false, (true, (false, false, false, false), ())) := rfl
theorem hid1 (b0 b1 b2 b3 : Bool) (f v : Int) : act_shadow_hides (true, (b0, b1, b2, b3), ()) (1, f, v) = some (true, (true, (b0, b1, b2, b3), ())) := rfl
theorem hid10 (b0 b1 b2 b3 : Bool) (v : Int) : act_shadow_hides (false, (b0, b1, b2, b3), ()) (1, 0, v) = some (b0, (false, (true, b1, b2, b3), ())) := rfl
theorem hid11 (b0 b1 b2 b3 : Bool) (v : Int) : act_shadow_hides (false, (b0, b1, b2, b3), ()) (1, 1, v) = some (b1, (false, (b0, true, b2, b3), ())) := rfl
theorem hid12 (b0 b1 b2 b3 : Bool) (v : Int) : act_shadow_hides (false, (b0, b1, b2, b3), ()) (1, 2, v) = some (b2, (false, (b0, b1, true, b3), ())) := rfl
theorem hid13 (b0 b1 b2 b3 : Bool) (v : Int) : act_shadow_hides (false, (b0, b1, b2, b3), ()) (1, 3, v) = some (b3, (false, (b0, b1, b2, true), ())) := rfl
theorem gA_step {ports : Int} (x : Int × A3) (s : B6) (ho : OkA ports x.2) (hl : s.2.2.2.2.2.length ≤ 1000) : act_Fold_l1 x s = some (.inl (gA s x.2)) := by
  obtain ⟨b, b0, b1, b2, b3, out⟩ := s
  obtain ⟨i, k, f, v⟩ := x
  simp only at hl
  have ha : ∀ a : A3, app out ([a] : List (Int × Int × Int)) = some (out ++ [a]) := fun a => app_is (by simp; omega)
  rw [act_Fold_l1]
  show (act_shadow_hides (b, (b0, b1, b2, b3), ()) (k, f, v)).bind _ = _
  rcases ho with ⟨h1, h2, _⟩ | ⟨h1, _⟩ | ⟨h1, _⟩
  · simp only at h1 h2
    subst h1
    cases b with
    | true => rw [hid1]; rfl
    | false =>
      rcases (show f = 0 ∨ f = 1 ∨ f = 2 ∨ f = 3 by omega) with rfl | rfl | rfl | rfl
      · rw [hid10]
        cases b0 with
        | true => rfl
        | false => show (app out [((1, 0, v) : A3)]).bind _ = _; rw [ha]; rfl
      · rw [hid11]
        cases b1 with
        | true => rfl
        | false => show (app out [((1, 1, v) : A3)]).bind _ = _; rw [ha]; rfl
      · rw [hid12]
        cases b2 with
        | true => rfl
        | false => show (app out [((1, 2, v) : A3)]).bind _ = _; rw [ha]; rfl
      · rw [hid13]
        cases b3 with
        | true => rfl
        | false => show (app out [((1, 3, v) : A3)]).bind _ = _; rw [ha]; rfl
  · simp only at h1
    subst h1
    rw [hid2]
    show (app out [((2, f, v) : A3)]).bind _ = _
    rw [ha]; rfl
  · simp only at h1
    subst h1
    rw [hid3]
    show (app out [((3, f, v) : A3)]).bind _ = _
    rw [ha]; rfl
/-- Does nobody behind see a field? -/
def un : List A3 → Int → Bool
  | [], _ => true
  | a :: l, f => if a.1 = 2 then false else if a.1 = 3 then true else if a.1 = 1 ∧ a.2.1 = f then true else un l f
def foldS : List A3 → List A3
  | [] => []
  | a :: l => if a.1 = 1 ∧ un l a.2.1 = true then foldS l else a :: foldS l
theorem un_cons (a : A3) (l : List A3) (f : Int) : un (a :: l) f = if a.1 = 2 then false else if a.1 = 3 then true else if a.1 = 1 ∧ a.2.1 = f then true else un l f := rfl
theorem foldS_cons (a : A3) (l : List A3) : foldS (a :: l) = if a.1 = 1 ∧ un l a.2.1 = true then foldS l else a :: foldS l := rfl
def foldR (l : List A3) : B6 := l.foldr (fun a s => gA s a) (true, false, false, false, false, [])
theorem foldR_is {ports : Int} : ∀ (l : List A3), (∀ a ∈ l, OkA ports a) → (foldR l).2.2.2.2.2 = (foldS l).reverse ∧ ∀ f, 0 ≤ f ∧ f < 4 → ((foldR l).1 || gF (foldR l) f) = un l f
  | [], _ => ⟨rfl, fun f _ => rfl⟩
  | a :: l, h => by
    obtain ⟨ih1, ih2⟩ := foldR_is l fun x hx => h x (by simp [hx])
    have ho := h a (by simp)
    have e : foldR (a :: l) = gA (foldR l) a := rfl
    rw [e]
    generalize foldR l = s at ih1 ih2
    obtain ⟨b, b0, b1, b2, b3, out⟩ := s
    obtain ⟨k, f, v⟩ := a
    simp only at ih1 ih2
    unfold gA
    simp only [foldS_cons, un_cons]
    rcases ho with ⟨h1, h2, _⟩ | ⟨h1, _⟩ | ⟨h1, _⟩
    · simp only at h1 h2
      subst h1
      have hf := ih2 f h2
      rw [if_neg (by simp), if_neg (by simp)]
      cases b with
      | true =>
        rw [if_pos rfl]
        have hu : un l f = true := by rw [← hf]; rfl
        refine ⟨by rw [if_pos ⟨rfl, hu⟩]; exact ih1, fun g hg => ?_⟩
        have hg2 := ih2 g hg
        by_cases c : f = g
        · subst c; simp
        · simp [c]; simpa using hg2
      | false =>
        rw [if_neg (by simp)]
        refine ⟨?_, fun g hg => ?_⟩
        · by_cases c : gF (false, b0, b1, b2, b3, out) f = true
          · have hu : un l f = true := by rw [← hf, c]; rfl
            simp only
            rw [if_pos c, if_pos ⟨trivial, hu⟩]; exact ih1
          · have hu : ¬ un l f = true := by rw [← hf]; simpa using c
            simp only
            rw [if_neg c, if_neg (fun hc => hu hc.2), ih1]; simp
        · have hg2 := ih2 g hg
          have e : (if (1 : Int) = 2 then false else if (1 : Int) = 3 then true else if (1 : Int) = 1 ∧ f = g then true else un l g) = if f = g then true else un l g := by simp
          refine Eq.trans ?_ e.symm
          by_cases c : f = g
          · rw [if_pos c]
            subst c
            rcases (show f = 0 ∨ f = 1 ∨ f = 2 ∨ f = 3 by omega) with rfl | rfl | rfl | rfl <;> simp [gF]
          · rw [if_neg c, ← hg2]
            rcases (show f = 0 ∨ f = 1 ∨ f = 2 ∨ f = 3 by omega) with rfl | rfl | rfl | rfl <;> rcases (show g = 0 ∨ g = 1 ∨ g = 2 ∨ g = 3 by omega) with rfl | rfl | rfl | rfl <;> first | (exact absurd rfl c) | simp [gF]
    · simp only at h1
      subst h1
      refine ⟨by rw [if_pos rfl, if_neg (fun hc => by simp at hc)]; simp [ih1], fun g hg => ?_⟩
      rw [if_pos rfl, if_pos rfl]
      rcases (show g = 0 ∨ g = 1 ∨ g = 2 ∨ g = 3 by omega) with rfl | rfl | rfl | rfl <;> rfl
    · simp only at h1
      subst h1
      refine ⟨by rw [if_neg (by simp), if_pos rfl, if_neg (fun hc => by simp at hc)]; simp [ih1], fun g hg => ?_⟩
      rw [if_neg (by simp), if_pos rfl, if_neg (by simp), if_pos rfl]; rfl
theorem foldS_mem : ∀ (l : List A3) {a : A3}, a ∈ foldS l → a ∈ l
  | [], a, h => by cases h
  | x :: l, a, h => by
    rw [foldS_cons] at h
    split at h
    · exact List.mem_cons_of_mem _ (foldS_mem l h)
    · rcases List.mem_cons.1 h with rfl | h
      · simp
      · exact List.mem_cons_of_mem _ (foldS_mem l h)
theorem foldS_len : ∀ (l : List A3), (foldS l).length ≤ l.length
  | [] => Nat.le_refl _
  | x :: l => by
    have := foldS_len l
    rw [foldS_cons]
    split <;> simp <;> omega
theorem foldS_ok {ports : Int} {l : List A3} (h : OkAs ports l) : OkAs ports (foldS l) := ⟨Nat.le_trans (foldS_len l) h.1, fun a ha => h.2 a (foldS_mem l ha)⟩
theorem fold_eq {ports : Int} {l : List A3} (h : OkAs ports l) : act_Fold l = some (foldS l) := by
  have hl := h.1
  unfold act_Fold
  have e : foldW act_Fold_l1 (bwd l) (true, false, false, false, false, []) = some (.inl (foldR l)) := by
    rw [foldW_is act_Fold_l1 gA (OkA ports) (fun s n => s.2.2.2.2.2.length + n ≤ l.length) (fun x s n ho hG => ⟨gA_step x s ho (by omega), by have := gA_len s x.2; omega⟩) (bwd l) _ (fun x hx => h.2 x.2 (by
      have : x.2 ∈ (bwd l).map (·.2) := List.mem_map.2 ⟨x, hx, rfl⟩
      rw [bwd_map] at this
      simpa using this)) (by rw [bwd_len]; simp), bwd_map, List.foldl_reverse]; rfl
  rw [back_is (by omega), Option.bind_some, e, orR_inl]
  have h1 := (foldR_is l h.2).1
  have h2 := foldS_len l
  show (slices_Reverse_api_Act_api_Act (foldR l).2.2.2.2.2).bind _ = _
  rw [h1, rev_eq _ (by simp; omega), List.reverse_reverse]; rfl
/-! ### What a folded list sends -/
def agr (u : Int → Bool) (c d : P4) : Prop := (u 0 = false → c.1 = d.1) ∧ (u 1 = false → c.2.1 = d.2.1) ∧ (u 2 = false → c.2.2.1 = d.2.2.1) ∧ (u 3 = false → c.2.2.2 = d.2.2.2)
theorem agr_refl (u : Int → Bool) (c : P4) : agr u c c := ⟨fun _ => rfl, fun _ => rfl, fun _ => rfl, fun _ => rfl⟩
def outs (came : P4) (c : P4) : List A3 → List Sd
  | [] => []
  | a :: l => (fA came ([], c) a).1 ++ outs came (fA came ([], c) a).2 l
theorem outs_cons (came c : P4) (a : A3) (l : List A3) : outs came c (a :: l) = (fA came ([], c) a).1 ++ outs came (fA came ([], c) a).2 l := rfl
theorem fA_out (came : P4) (out : List Sd) (c : P4) (a : A3) : fA came (out, c) a = (out ++ (fA came ([], c) a).1, (fA came ([], c) a).2) := by
  unfold fA
  by_cases k1 : a.1 = 1
  · simp [k1]
  · by_cases k2 : a.1 = 2
    · simp [k2]
    · by_cases k3 : a.1 = 3 <;> simp [k1, k2, k3]
theorem outs_is (came : P4) : ∀ (l : List A3) (out : List Sd) (c : P4), (l.foldl (fA came) (out, c)).1 = out ++ outs came c l
  | [], out, c => by simp [outs]
  | a :: l, out, c => by
    rw [List.foldl_cons, fA_out, outs_is came l, outs_cons, List.append_assoc]
theorem runA_outs (l : List A3) (p : P4) : (runA l p).1 = outs p p l := by
  unfold runA
  rw [outs_is]; rfl
theorem outs_fold {ports : Int} (came : P4) : ∀ (l : List A3), (∀ a ∈ l, OkA ports a) → ∀ (c d : P4), agr (un l) c d → outs came d (foldS l) = outs came c l
  | [], _, _, _, _ => rfl
  | a :: l, h, c, d, hA => by
    have ih := outs_fold came l fun x hx => h x (by simp [hx])
    have ho := h a (by simp)
    obtain ⟨k, f, v⟩ := a
    obtain ⟨c0, c1, c2, c3⟩ := c
    obtain ⟨d0, d1, d2, d3⟩ := d
    rw [foldS_cons]
    rcases ho with ⟨h1, h2, h3⟩ | ⟨h1, _⟩ | ⟨h1, _⟩
    · simp only at h1 h2 h3
      subst h1
      have hfit : 0 ≤ f ∧ f < 4 ∧ Fit f v := ⟨h2.1, h2.2, h3⟩
      have hun : ∀ g, un ((1, f, v) :: l) g = if f = g then true else un l g := fun g => by
        show (if (1 : Int) = 2 then false else if (1 : Int) = 3 then true else if (1 : Int) = 1 ∧ f = g then true else un l g) = _
        rw [if_neg (by decide), if_neg (by decide)]
        by_cases c : f = g
        · rw [if_pos ⟨rfl, c⟩, if_pos c]
        · rw [if_neg (fun hc => c hc.2), if_neg c]
      obtain ⟨a0, a1, a2, a3⟩ := hA
      rw [hun] at a0 a1 a2 a3
      simp only at a0 a1 a2 a3
      have e : ∀ c : P4, fA came ([], c) (1, f, v) = ([], put4 c f v) := fun c => by
        show ([], withV c f v) = _
        unfold withV
        rw [if_pos hfit]
      by_cases hu : un l f = true
      · rw [if_pos ⟨rfl, hu⟩]
        show _ = (fA came ([], _) (1, f, v)).1 ++ outs came (fA came ([], _) (1, f, v)).2 l
        rw [e]
        refine ih (put4 (c0, c1, c2, c3) f v) _ ⟨fun hg => ?_, fun hg => ?_, fun hg => ?_, fun hg => ?_⟩
        · have hne : f ≠ 0 := fun hc => by rw [hc] at hu; rw [hu] at hg; cases hg
          show (if f = 0 then v else c0) = d0
          rw [if_neg hne]; exact a0 (by rw [if_neg hne]; exact hg)
        · have hne : f ≠ 1 := fun hc => by rw [hc] at hu; rw [hu] at hg; cases hg
          show (if f = 1 then v else c1) = d1
          rw [if_neg hne]; exact a1 (by rw [if_neg hne]; exact hg)
        · have hne : f ≠ 2 := fun hc => by rw [hc] at hu; rw [hu] at hg; cases hg
          show (if f = 2 then v else c2) = d2
          rw [if_neg hne]; exact a2 (by rw [if_neg hne]; exact hg)
        · have hne : f ≠ 3 := fun hc => by rw [hc] at hu; rw [hu] at hg; cases hg
          show (if f = 3 then v else c3) = d3
          rw [if_neg hne]; exact a3 (by rw [if_neg hne]; exact hg)
      · rw [if_neg (fun hc => hu hc.2)]
        show (fA came ([], _) (1, f, v)).1 ++ outs came (fA came ([], _) (1, f, v)).2 (foldS l) = (fA came ([], _) (1, f, v)).1 ++ outs came (fA came ([], _) (1, f, v)).2 l
        rw [e, e]
        congr 1
        refine ih (put4 (c0, c1, c2, c3) f v) (put4 (d0, d1, d2, d3) f v) ⟨fun hg => ?_, fun hg => ?_, fun hg => ?_, fun hg => ?_⟩
        · show (if f = 0 then v else c0) = (if f = 0 then v else d0)
          by_cases hc : f = 0
          · rw [if_pos hc, if_pos hc]
          · rw [if_neg hc, if_neg hc]; exact a0 (by rw [if_neg hc]; exact hg)
        · show (if f = 1 then v else c1) = (if f = 1 then v else d1)
          by_cases hc : f = 1
          · rw [if_pos hc, if_pos hc]
          · rw [if_neg hc, if_neg hc]; exact a1 (by rw [if_neg hc]; exact hg)
        · show (if f = 2 then v else c2) = (if f = 2 then v else d2)
          by_cases hc : f = 2
          · rw [if_pos hc, if_pos hc]
          · rw [if_neg hc, if_neg hc]; exact a2 (by rw [if_neg hc]; exact hg)
        · show (if f = 3 then v else c3) = (if f = 3 then v else d3)
          by_cases hc : f = 3
          · rw [if_pos hc, if_pos hc]
          · rw [if_neg hc, if_neg hc]; exact a3 (by rw [if_neg hc]; exact hg)
    · simp only at h1
      subst h1
      rw [if_neg (fun hc => by simp at hc)]
      obtain ⟨a0, a1, a2, a3⟩ := hA
      obtain rfl := a0 rfl
      obtain rfl := a1 rfl
      obtain rfl := a2 rfl
      obtain rfl := a3 rfl
      show [(v, _)] ++ outs came _ (foldS l) = [(v, _)] ++ outs came _ l
      congr 1
      exact ih _ _ (agr_refl _ _)
    · simp only at h1
      subst h1
      rw [if_neg (fun hc => by simp at hc)]
      show [] ++ outs came came (foldS l) = [] ++ outs came came l
      congr 1
      exact ih _ _ (agr_refl _ _)
theorem un_fold : ∀ (l : List A3) (f : Int), un (foldS l) f = un l f
  | [], f => rfl
  | a :: l, f => by
    have ih := un_fold l
    rw [foldS_cons]
    by_cases c : a.1 = 1 ∧ un l a.2.1 = true
    · rw [if_pos c, ih]
      rw [un_cons, if_neg (by omega), if_neg (by omega)]
      by_cases e : a.2.1 = f
      · rw [if_pos ⟨c.1, e⟩, ← e]; exact c.2
      · rw [if_neg (fun hc => e hc.2)]
    · rw [if_neg c]
      rw [un_cons, un_cons, ih]
theorem fold_fold : ∀ (l : List A3), foldS (foldS l) = foldS l
  | [] => rfl
  | a :: l => by
    have ih := fold_fold l
    by_cases c : a.1 = 1 ∧ un l a.2.1 = true
    · have e : foldS (a :: l) = foldS l := by unfold foldS; rw [if_pos c]; cases l <;> rfl
      rw [e, ih]
    · have e : foldS (a :: l) = a :: foldS l := by
        show (if _ then _ else _) = _
        rw [if_neg c]
      rw [e]
      show (if a.1 = 1 ∧ un (foldS l) a.2.1 = true then foldS (foldS l) else a :: foldS (foldS l)) = _
      rw [un_fold, if_neg c, ih]
/-! ### The example -/
theorem awake09 : L09_awake = some true := by
  have o2 : OkAs 2 [(1, 3, 4), (2, 0, 1), (1, 3, 5)] := ⟨by decide, fun a ha => by
    rcases (by simpa using ha : a = (1, 3, 4) ∨ a = (2, 0, 1) ∨ a = (1, 3, 5)) with rfl | rfl | rfl <;> decide⟩
  have n1 : ¬ OkAs 1 [(1, 3, 4), (2, 0, 1), (1, 3, 5)] := fun h => absurd (h.2 (2, 0, 1) (by simp)) (by decide)
  have of : OkAs 2 [(1, 3, 4), (2, 0, 1)] := ⟨by decide, fun a ha => o2.2 a (by
    rcases (by simpa using ha : a = (1, 3, 4) ∨ a = (2, 0, 1)) with rfl | rfl <;> simp)⟩
  unfold L09_awake
  rw [(run_eq (l := [(1, 3, 4), (2, 0, 1), (1, 3, 5)]) (by decide) (1, 2, 3, 0)).1, show (runA [(1, 3, 4), (2, 0, 1), (1, 3, 5)] (1, 2, 3, 0)).1 = [(1, 1, 2, 3, 4)] from by decide, fold_eq o2, show foldS [(1, 3, 4), (2, 0, 1), (1, 3, 5)] = [(1, 3, 4), (2, 0, 1)] from by decide]
  simp only [Option.bind_some]
  rw [acttexts_eq (by decide) of, show textA [(1, 3, 4), (2, 0, 1)] = [115, 101, 116, 32, 116, 97, 103, 32, 52, 44, 32, 111, 117, 116, 32, 49] from by decide, acts_eq, acts_eq, decide_eq_true o2, decide_eq_false n1]
  rfl
theorem ActFolds_core (l : List A3) (hl : l.length ≤ 9223372036854775807) (ports : Int) (p : P4) : L09_ActFolds l ports p = some true := by
  unfold L09_ActFolds
  rw [awake09, racts_eq hl, Option.bind_some]
  by_cases h : OkAs ports l
  · rw [decide_eq_true h, if_neg (by decide), fold_eq h, Option.bind_some]
    have h2 := foldS_ok h
    have l1 := h.1
    have l2 := h2.1
    have r1 := run_eq (l := l) (by omega) p
    have r2 := run_eq (l := foldS l) (by omega) p
    have e : (runA (foldS l) p).1 = (runA l p).1 := by rw [runA_outs, runA_outs]; exact outs_fold p l h.2 p p (agr_refl _ _)
    have hlen := foldS_len l
    rw [r2.1, r1.1, e]
    simp only [Option.bind_some]
    rw [rsent_eq (by omega), decide_eq_true rfl]
    simp only [Option.bind_some, if_true]
    rw [fold_eq h2, fold_fold, Option.bind_some, same_eq (by omega), decide_eq_true rfl]
    simp only [Option.bind_some, if_true]
    rw [if_pos (by omega), acts_eq, decide_eq_true h2]
    rfl
  · rw [decide_eq_false h]; rfl
theorem ActJoins_core (a b : List A3) (p : P4) : L09_ActJoins a b p = some true := by
  unfold L09_ActJoins
  rw [awake09]
  by_cases hl : 20 < (a.length : Int) ∨ 20 < (b.length : Int)
  · rw [if_pos (by simpa using hl)]; rfl
  · rw [if_neg (by simpa using hl)]
    have ha : a.length ≤ 20 := by omega
    have hb : b.length ≤ 20 := by omega
    rw [search_in b (by omega) (L09_ActJoins_l1 b) (fun x => x.1 = 3) true (fun k hk => by
      rw [L09_ActJoins_l1, if_pos (by omega), ix_nat (List.getElem?_eq_getElem hk), Option.bind_some, awake09]; rfl) (by rw [L09_ActJoins_l1, if_neg (by omega)])]
    by_cases h3 : ∃ x ∈ b, x.1 = 3
    · rw [if_pos h3]; rfl
    · rw [if_neg h3, orR_inl]
      have h3' : ∀ x ∈ b, x.1 ≠ 3 := fun x hx h => h3 ⟨x, hx, h⟩
      have l1 := (run_eq (l := a) (by omega) p).2
      have l2 := (run_eq (l := b) (by omega) (runA a p).2).2
      rw [app_is (by simp; omega)]
      simp only [List.nil_append, Option.bind_some]
      rw [app_is (by omega)]
      simp only [Option.bind_some]
      rw [app_is (by simp; omega)]
      simp only [Option.bind_some]
      rw [(run_eq (l := a ++ [(2, 0, 7)]) (by simp; omega) p).1, Option.bind_some, runA_mark]
      have e1 : (((runA a p).1 ++ [(7, (runA a p).2)]).length : Int) - 1 = (((runA a p).1.length : Nat) : Int) := by simp
      rw [if_neg (by simp; omega), e1, w64_id (by omega), subl_is (by simp; omega)]
      have e2 : (((runA a p).1 ++ [(7, (runA a p).2)]).take ((((runA a p).1.length : Nat) : Int)).toNat).drop (0 : Int).toNat = (runA a p).1 := by simp
      rw [e2, Option.bind_some, app_is (by simp; omega)]
      simp only [List.nil_append, Option.bind_some]
      rw [ix_nat (x := (7, (runA a p).2)) (by simp), Option.bind_some, (run_eq (l := b) (by omega) (runA a p).2).1, Option.bind_some, app_is (by omega)]
      simp only [Option.bind_some]
      rw [(run_eq (l := a) (by omega) p).1, Option.bind_some, rsent_eq (by omega), decide_eq_true rfl]
      simp only [Option.bind_some, if_true]
      rw [(run_eq (l := a ++ b) (by simp; omega) p).1, Option.bind_some, rsent_eq (by have := (run_eq (l := a ++ b) (by simp; omega) p).2; simp at this; omega), runA_app _ _ _ h3', decide_eq_true rfl]
      rfl
theorem ActJoins_true (a : List A3) {A : Prop} (_ : A) (b : List A3) {B : Prop} (_ : B) (p : P4) {C : Prop} (_ : C) : L09_ActJoins a b p = some true := ActJoins_core a b p
end Go.Proofs.YtefiglmpdajonaaDoor
