/- Layer 30: how great, how deep, which may be. Conditions: none. -/
import Derived.Test.YtgoifghhcekahaaGreatDoorbM26
namespace Go.Proofs.YtgoifghhcekahaaGreatDoor
set_option linter.unusedVariables false
set_option linter.unusedSimpArgs false
open Go Go.RowKit
def th : Tr36 → Tr28
  | .mk k f v l => .mk k f v (l.map th)
theorem Vh (t : Tr36) : (th t).un = (t.un.1, t.un.2.1, t.un.2.2.1, t.un.2.2.2.map th) := by cases t; rw [th]; rfl
theorem Vm (t : Tr36) : th t = Tr28.of (t.un.1, t.un.2.1, t.un.2.2.1, t.un.2.2.2.map th) := by cases t; rw [th]; rfl
theorem Vw (t : Tr28) : Tr28.of t.un = t := by cases t; rfl
theorem Wu (t : Tr36) : Tr36.of t.un = t := by cases t; rfl
theorem Se : ∀ (n : Nat) (t : Tr36), SizeOf.sizeOf t < n → t.cnt ≤ 2097152 → DZ n t = some (th t)
  | 0, t, h, _ => absurd h (Nat.not_lt_zero _)
  | n + 1, t, h, hc => by
    have hl := Wi t
    show ES (DZ n) t = _
    unfold ES
    obtain ⟨o, h1, h2⟩ := JY t.un.2.2.2.length (fun (o : List Tr28) (i : Nat) => ((i : Int), o)) (DA (DZ n) t) id (fun o i => o = (t.un.2.2.2.take i).map th)
      (fun o i hi ho => by
        have hm := List.getElem_mem hi
        have hx := Se n t.un.2.2.2[i] (by have := Ra hm; omega) (Nat.le_trans (V3 hm) hc)
        refine ⟨o ++ [th t.un.2.2.2[i]], ?_, by rw [ho, List.take_succ_eq_append_getElem hi, List.map_append]; rfl⟩
        rw [DA, if_pos (by omega), Eh (List.getElem?_eq_getElem hi), Option.bind_some, hx, Option.bind_some, Ni (by rw [ho]; simp; omega), Option.bind_some, A0 (by omega)]; rfl)
      (fun o _ => by rw [DA, if_neg (by omega)]; rfl) [] rfl
    rw [List.take_length] at h1
    have h2' : A6 (DA (DZ n) t) (0, []) = some o := h2
    rw [h2', h1, Option.bind_some, ← Vm]
theorem Tt {t : Tr36} (hc : t.cnt ≤ 2097152) : M9 t = some (th t) := DJ (g := fun n => DZ n t) (fun n r h => Ly n t r h) (Se (SizeOf.sizeOf t + 1) t (by omega) hc)
def mx : List Nat → Nat
  | [] => 0
  | a :: l => max a (mx l)
theorem UA {l : List Nat} {a : Nat} (h : a ∈ l) : a ≤ mx l := by
  induction l with
  | nil => cases h
  | cons x l ih =>
    rcases List.mem_cons.1 h with e | h
    · rw [e]; exact Nat.le_max_left _ _
    · exact Nat.le_trans (ih h) (Nat.le_max_right _ _)
theorem S3 {l : List Nat} {b : Nat} (h : ∀ a ∈ l, a ≤ b) : mx l ≤ b := by
  induction l with
  | nil => exact Nat.zero_le _
  | cons x l ih => exact Nat.max_le.2 ⟨h x (List.mem_cons_self ..), ih fun a ha => h a (List.mem_cons_of_mem _ ha)⟩
theorem Vb (l : List Nat) (a : Nat) : mx (l ++ [a]) = max (mx l) a := by
  induction l with
  | nil => simp [mx]
  | cons x l ih => rw [List.cons_append, mx, ih, mx, Nat.max_assoc]
def dp : Tr36 → Nat
  | .mk _ _ _ l => 1 + mx (l.map dp)
theorem Pr (t : Tr36) : dp t = 1 + mx (t.un.2.2.2.map dp) := by cases t; rw [dp]; rfl
theorem Um : ∀ (n : Nat) (t : Tr36), SizeOf.sizeOf t < n → dp t ≤ t.cnt
  | 0, t, h => absurd h (Nat.not_lt_zero _)
  | n + 1, t, h => by
    rw [Pr, KI]
    have : mx (t.un.2.2.2.map dp) ≤ (t.un.2.2.2.map Tr36.cnt).sum := S3 fun a ha => by
      obtain ⟨x, hx, rfl⟩ := List.mem_map.1 ha
      exact Nat.le_trans (Um n x (by have := Ra hx; omega)) (Pt (g := Tr36.cnt) hx)
    omega
theorem Wb (t : Tr28) : dp (mi t) = 1 + mx (t.un.2.2.2.map fun x => dp (mi x)) := by rw [Pr, SU, List.map_map]; rfl
theorem Vy (t : Tr28) : (mi t).cnt = t.cnt := Uv (SizeOf.sizeOf t + 1) t (by omega)
theorem SZ : ∀ (n : Nat) (t : Tr28), SizeOf.sizeOf t < n → t.cnt ≤ 1048576 → E0 n t = some (dp (mi t) : Int)
  | 0, t, h, _ => absurd h (Nat.not_lt_zero _)
  | n + 1, t, h, hc => by
    have hl := VZ t
    show F1 (E0 n) t = _
    unfold F1
    obtain ⟨o, h1, h2⟩ := JY t.un.2.2.2.length (fun (o : Int) (i : Nat) => (o, (i : Int))) (Er (E0 n) t) id (fun o i => o = 1 + (mx ((t.un.2.2.2.take i).map fun x => dp (mi x)) : Nat))
      (fun o i hi ho => by
        have hm := List.getElem_mem hi
        have hx := SZ n t.un.2.2.2[i] (by have := Sz hm; omega) (Nat.le_trans (VC hm) hc)
        have hd := Um (SizeOf.sizeOf (mi t.un.2.2.2[i]) + 1) (mi t.un.2.2.2[i]) (by omega)
        rw [Vy] at hd
        have hcl := VC hm
        refine ⟨max o (dp (mi t.un.2.2.2[i]) + 1 : Int), ?_, by rw [ho, List.take_succ_eq_append_getElem hi, List.map_append, List.map_cons, List.map_nil, Vb]; omega⟩
        rw [Er, if_pos (by omega), Eh (List.getElem?_eq_getElem hi), Option.bind_some, hx, Option.bind_some, A0 (by omega)]
        by_cases q : o < (dp (mi t.un.2.2.2[i]) : Int) + 1
        · rw [if_pos q, Option.bind_some, hx, Option.bind_some, A0 (by omega), Option.bind_some, A0 (by omega)]
          rw [show max o ((dp (mi t.un.2.2.2[i]) : Int) + 1) = (dp (mi t.un.2.2.2[i]) : Int) + 1 by omega]; rfl
        · rw [if_neg q, Option.bind_some, A0 (by omega)]
          rw [show max o ((dp (mi t.un.2.2.2[i]) : Int) + 1) = o by omega]; rfl)
      (fun o _ => by rw [Er, if_neg (by omega)]; rfl) 1 (by simp [mx])
    rw [List.take_length] at h1
    have h2' : A6 (Er (E0 n) t) (1, 0) = some o := h2
    rw [h2', h1, Option.bind_some, Wb]
    exact congrArg some (by omega)
theorem UG {t : Tr28} (hc : t.cnt ≤ 1048576) : PU t = some (dp (mi t) : Int) := DJ (g := fun n => E0 n t) (fun n r h => MZ n t r h) (SZ (SizeOf.sizeOf t + 1) t (by omega) hc)
theorem Wj {a b : Tr28} (h1 : a.un.1 = b.un.1) (h2 : a.un.2.1 = b.un.2.1) (h3 : a.un.2.2.1 = b.un.2.2.1) (h4 : a.un.2.2.2 = b.un.2.2.2) : a = b := by
  rw [← Vw a, ← Vw b]
  show Tr28.mk _ _ _ _ = Tr28.mk _ _ _ _
  rw [h1, h2, h3, h4]
theorem SQ {α : Type} {l m : List α} (hl : l.length = m.length) : (∃ k, k < l.length ∧ l[k]? ≠ m[k]?) ↔ l ≠ m := by
  constructor
  · rintro ⟨k, _, h⟩ rfl; exact h rfl
  · intro h
    refine Classical.byContradiction fun hn => h (List.ext_getElem? fun k => ?_)
    by_cases hk : k < l.length
    · exact Classical.byContradiction fun h2 => hn ⟨k, hk, h2⟩
    · rw [List.getElem?_eq_none (by omega), List.getElem?_eq_none (by omega)]
open Classical in
open Classical in
open Classical in
theorem SX : ∀ (n : Nat) (a b : Tr28), SizeOf.sizeOf a < n → a.cnt ≤ 2097152 → Fv n a b = some (decide (a = b))
  | 0, a, b, h, _ => absurd h (Nat.not_lt_zero _)
  | n + 1, a, b, h, hc => by
    have hl := VZ a
    show FS (Fv n) a b = _
    unfold FS
    by_cases c : a.un.1 = b.un.1 ∧ a.un.2.1 = b.un.2.1 ∧ a.un.2.2.1 = b.un.2.2.1 ∧ a.un.2.2.2.length = b.un.2.2.2.length
    · obtain ⟨c1, c2, c3, c4⟩ := c
      rw [if_neg (by simp [c1, c2, c3, c4])]
      rw [PY a.un.2.2.2.length (FW (Fv n) a b) (fun k => a.un.2.2.2[k]? ≠ b.un.2.2.2[k]?) false (fun k hk => by
        have hm := List.getElem_mem hk
        have hkb : k < b.un.2.2.2.length := by omega
        have hx := SX n a.un.2.2.2[k] b.un.2.2.2[k] (by have := Sz hm; omega) (Nat.le_trans (VC hm) hc)
        rw [FW, if_pos (by omega), Eh (List.getElem?_eq_getElem hk), Option.bind_some, Eh (List.getElem?_eq_getElem hkb), Option.bind_some, hx, Option.bind_some, A0 (by omega)]
        by_cases e : a.un.2.2.2[k] = b.un.2.2.2[k]
        · rw [decide_eq_true e, if_neg (by decide), if_neg (by rw [List.getElem?_eq_getElem hk, List.getElem?_eq_getElem hkb, e]; simp)]; rfl
        · rw [decide_eq_false e, if_pos (by decide), if_pos (by rw [List.getElem?_eq_getElem hk, List.getElem?_eq_getElem hkb]; simpa using e)]) (by rw [FW, if_neg (by omega)])]
      by_cases e : a.un.2.2.2 = b.un.2.2.2
      · rw [if_neg (fun hh => (SQ c4).1 hh e), decide_eq_true (Wj c1 c2 c3 e)]; rfl
      · rw [if_pos ((SQ c4).2 e), decide_eq_false (fun hh => e (by rw [hh]))]; rfl
    · rw [if_pos (by simp only [Bool.or_eq_true, decide_eq_true_eq]; omega), decide_eq_false (fun hh => c (by rw [hh]; exact ⟨rfl, rfl, rfl, rfl⟩))]
open Classical in
theorem TP {a b : Tr28} (hc : a.cnt ≤ 2097152) : PN a b = some (decide (a = b)) := DJ (g := fun n => Fv n a b) (fun n r h => ME n a b r h) (SX (SizeOf.sizeOf a + 1) a b (by omega) hc)
theorem VU (f : Int) : Jd f = some (EQ f) := by
  unfold Jd EQ
  by_cases c : (decide (f = 4) || decide (f = 5)) = true
  · rw [if_pos c, if_pos c]
  · rw [if_neg c, if_neg c]
    unfold IU HP Mr
    by_cases c2 : f = 2
    · subst c2; rfl
    by_cases c0 : f = 0
    · subst c0; rfl
    by_cases c1 : f = 1
    · subst c1; rfl
    by_cases c3 : f = 3
    · subst c3; rfl
    rw [if_neg c0, if_neg c1, decide_eq_false c3, Option.bind_some, if_neg (by decide), if_neg c2, if_neg c2, if_neg (by simp [c0, c1, c3])]; rfl
theorem VX (f : Int) : 0 ≤ EQ f ∧ EQ f ≤ 255 := by
  unfold EQ Mr
  split
  · omega
  · split
    · omega
    · split <;> omega
abbrev GB (k f v : Int) (n : Nat) : Prop := 1 ≤ k ∧ k ≤ 6 ∧ (k ≠ 3 → f = 0 ∧ v = 0) ∧ (k = 3 → 0 ≤ f ∧ f ≤ 5 ∧ 0 ≤ v ∧ v ≤ EQ f) ∧ (k ≤ 3 → n = 0) ∧ (k = 4 → n = 1) ∧ (5 ≤ k → 2 ≤ n ∧ n ≤ 8)
theorem UJ (t : Tr36) : IC t = some (decide (GB t.un.1 t.un.2.1 t.un.2.2.1 t.un.2.2.2.length)) := by
  unfold IC
  by_cases c3 : t.un.1 = 3
  · rw [if_pos c3]
    unfold DH
    rw [← Bool.decide_and]
    by_cases k : 0 ≤ t.un.2.1 ∧ t.un.2.1 ≤ 5
    · rw [if_pos (decide_eq_true k)]
      by_cases v0 : 0 ≤ t.un.2.2.1
      · rw [if_pos v0, VU, Option.bind_some]
        by_cases v1 : t.un.2.2.1 ≤ EQ t.un.2.1
        · rw [if_pos v1, Option.bind_some]
          exact congrArg some (decide_eq_decide.2 ⟨fun h => by unfold GB; omega, fun h => by unfold GB at h; omega⟩)
        · rw [if_neg v1, Option.bind_some, decide_eq_false (fun h => by unfold GB at h; omega)]
      · rw [if_neg v0, Option.bind_some, decide_eq_false (fun h => by unfold GB at h; omega)]
    · rw [if_neg (by simpa using k), Option.bind_some, decide_eq_false (fun h => by unfold GB at h; omega)]
  · rw [if_neg c3]
    by_cases z : t.un.2.1 = 0 ∧ t.un.2.2.1 = 0
    · rw [if_neg (by simp [z.1, z.2])]
      by_cases c1 : t.un.1 = 1
      · rw [if_pos c1, Option.bind_some, if_pos rfl]
        exact congrArg some (decide_eq_decide.2 ⟨fun h => by unfold GB; omega, fun h => by unfold GB at h; omega⟩)
      · rw [if_neg c1, Option.bind_some]
        by_cases c2 : t.un.1 = 2
        · rw [if_pos (decide_eq_true c2)]
          exact congrArg some (decide_eq_decide.2 ⟨fun h => by unfold GB; omega, fun h => by unfold GB at h; omega⟩)
        · rw [if_neg (by simpa using c2)]
          by_cases c4 : t.un.1 = 4
          · rw [if_pos c4]
            exact congrArg some (decide_eq_decide.2 ⟨fun h => by unfold GB; omega, fun h => by unfold GB at h; omega⟩)
          · rw [if_neg c4]
            by_cases c5 : t.un.1 = 5
            · rw [if_pos c5, Option.bind_some, if_pos rfl, ← Bool.decide_and]
              exact congrArg some (decide_eq_decide.2 ⟨fun h => by unfold GB; omega, fun h => by unfold GB at h; omega⟩)
            · rw [if_neg c5, Option.bind_some]
              by_cases c6 : t.un.1 = 6
              · rw [if_pos (decide_eq_true c6), ← Bool.decide_and]
                exact congrArg some (decide_eq_decide.2 ⟨fun h => by unfold GB; omega, fun h => by unfold GB at h; omega⟩)
              · rw [if_neg (by simpa using c6), decide_eq_false (fun h => by unfold GB at h; omega)]
    · rw [if_pos (by simp only [Bool.or_eq_true, decide_eq_true_eq]; omega), decide_eq_false (fun h => by unfold GB at h; omega)]
def Hu : Tr36 → Bool
  | .mk k f v l => decide (GB k f v l.length) && (l.map Hu).all id
theorem J7 (t : Tr36) : Hu t = true ↔ GB t.un.1 t.un.2.1 t.un.2.2.1 t.un.2.2.2.length ∧ ∀ x ∈ t.un.2.2.2, Hu x = true := by
  cases t with
  | mk k f v l =>
    rw [Hu, Bool.and_eq_true, decide_eq_true_eq, List.all_map, List.all_eq_true]; rfl
abbrev Qe (t : Tr36) (b d : Int) : Prop := Hu t = true ∧ (dp t : Int) ≤ d ∧ (t.cnt : Int) ≤ b
theorem Sb : ∀ (n : Nat) (t : Tr36), SizeOf.sizeOf t < n → t.cnt ≤ 1048576 → ∀ b d : Int, 0 ≤ b → b ≤ 1000 → 0 ≤ d → d ≤ 1000 →
    (Qe t b d → Bd n b t d = some (true, b - t.cnt)) ∧ (¬ Qe t b d → ∃ b', Bd n b t d = some (false, b'))
  | 0, t, h, _ => absurd h (Nat.not_lt_zero _)
  | n + 1, t, h, hc => by
    intro b d b0 b1 d0 d1
    have hl := Wi t
    have hcc := KI t
    have hde := Pr t
    have hst : Bd (n + 1) b t d = Ck (Bd n) b t d := rfl
    rw [hst]
    unfold Ck
    rw [A0 (by omega)]
    by_cases g1 : b - 1 < 0
    · rw [if_pos g1, Option.bind_some, if_pos rfl]
      exact ⟨fun hk => by have := hk.2.2; omega, fun _ => ⟨_, rfl⟩⟩
    rw [if_neg g1]
    by_cases g2 : d < 1
    · rw [if_pos g2, Option.bind_some, if_pos rfl]
      exact ⟨fun hk => by have := hk.2.1; omega, fun _ => ⟨_, rfl⟩⟩
    rw [if_neg g2, UJ, Option.bind_some, Option.bind_some]
    by_cases g3 : GB t.un.1 t.un.2.1 t.un.2.2.1 t.un.2.2.2.length
    · rw [decide_eq_true g3, if_neg (by decide)]
      have key : ∀ (m i : Nat), i + m = t.un.2.2.2.length → (∀ x ∈ t.un.2.2.2.take i, Hu x = true ∧ (dp x : Int) ≤ d - 1) → (((t.un.2.2.2.take i).map Tr36.cnt).sum : Int) ≤ b - 1 →
          (Qe t b d → Je (A6 (Bm (Bd n) t d) ((i : Int), b - 1 - (((t.un.2.2.2.take i).map Tr36.cnt).sum : Nat))) (fun x3 => some (true, x3)) = some (true, b - t.cnt)) ∧ (¬ Qe t b d → ∃ b', Je (A6 (Bm (Bd n) t d) ((i : Int), b - 1 - (((t.un.2.2.2.take i).map Tr36.cnt).sum : Nat))) (fun x3 => some (true, x3)) = some (false, b')) := by
        intro m
        induction m with
        | zero =>
          intro i hi hx hs
          have e0 : t.un.2.2.2.take i = t.un.2.2.2 := List.take_of_length_le (by omega)
          rw [e0] at hx hs ⊢
          have hend : A6 (Bm (Bd n) t d) ((i : Int), b - 1 - ((t.un.2.2.2.map Tr36.cnt).sum : Nat)) = some (.inl (b - 1 - ((t.un.2.2.2.map Tr36.cnt).sum : Nat))) := Bw (by rw [Bm, if_neg (by omega)])
          have hok : Qe t b d := ⟨(J7 t).2 ⟨g3, fun x hm => (hx x hm).1⟩, by
            have : mx (t.un.2.2.2.map dp) ≤ (d - 1).toNat := S3 fun a ha => by
              obtain ⟨x, hm, rfl⟩ := List.mem_map.1 ha
              have := (hx x hm).2
              omega
            omega, by omega⟩
          refine ⟨fun _ => ?_, fun hn => absurd hok hn⟩
          rw [hend]
          show some (true, b - 1 - ((t.un.2.2.2.map Tr36.cnt).sum : Nat)) = _
          rw [hcc]
          congr 2; omega
        | succ m ih =>
          intro i hi hx hs
          have hil : i < t.un.2.2.2.length := by omega
          have hm := List.getElem_mem hil
          have hsum : ((t.un.2.2.2.take (i + 1)).map Tr36.cnt).sum = ((t.un.2.2.2.take i).map Tr36.cnt).sum + t.un.2.2.2[i].cnt := by
            rw [List.take_succ_eq_append_getElem hil, List.map_append, List.sum_append]; simp
          have hle := Qt (g := Tr36.cnt) t.un.2.2.2 (i + 1)
          obtain ⟨r1, r2⟩ := Sb n t.un.2.2.2[i] (by have := Ra hm; omega) (Nat.le_trans (V3 hm) hc) (b - 1 - (((t.un.2.2.2.take i).map Tr36.cnt).sum : Nat)) (d - 1) (by omega) (by omega) (by omega) (by omega)
          by_cases g : Qe t.un.2.2.2[i] (b - 1 - (((t.un.2.2.2.take i).map Tr36.cnt).sum : Nat)) (d - 1)
          · have hstep : Bm (Bd n) t d ((i : Int), b - 1 - (((t.un.2.2.2.take i).map Tr36.cnt).sum : Nat)) = some (.inl (((i + 1 : Nat) : Int), b - 1 - (((t.un.2.2.2.take (i + 1)).map Tr36.cnt).sum : Nat))) := by
              rw [Bm, if_pos (by omega), Eh (List.getElem?_eq_getElem hil), Option.bind_some, A0 (by omega), r1 g, Option.bind_some, if_neg (show ¬ (!true) = true by decide), A0 (by omega), hsum]
              show some (Sum.inl (_, _)) = _
              congr 3; omega
            rw [CQ hstep]
            refine ih (i + 1) (by omega) (fun x hxm => ?_) (by have := g.2.2; omega)
            rw [List.take_succ_eq_append_getElem hil] at hxm
            rcases List.mem_append.1 hxm with hh | hh
            · exact hx x hh
            · rw [List.mem_singleton.1 hh]; exact ⟨g.1, g.2.1⟩
          · obtain ⟨b', hb'⟩ := r2 g
            have hno : ¬ Qe t b d := fun hk => g ⟨((J7 t).1 hk.1).2 _ hm, by
              have h1 := UA (List.mem_map.2 ⟨_, hm, rfl⟩ : dp t.un.2.2.2[i] ∈ t.un.2.2.2.map dp)
              have := hk.2.1
              omega, by have := hk.2.2; omega⟩
            refine ⟨fun hk => absurd hk hno, fun _ => ⟨b', ?_⟩⟩
            rw [Bw (e := .inr (false, b')) (by
              rw [Bm, if_pos (by omega), Eh (List.getElem?_eq_getElem hil), Option.bind_some, A0 (by omega), hb', Option.bind_some, if_pos (by rfl)])]
            rfl
      have := key t.un.2.2.2.length 0 (by omega) (by simp) (by simp; omega)
      simpa using this
    · rw [decide_eq_false g3, if_pos (by decide)]
      exact ⟨fun hk => absurd ((J7 t).1 hk.1).1 g3, fun _ => ⟨_, rfl⟩⟩
theorem Tw {t : Tr36} (hc : t.cnt ≤ 1048576) : GZ t = some (decide (Qe t 64 8)) := by
  obtain ⟨h1, h2⟩ := Sb (SizeOf.sizeOf t + 1) t (by omega) hc 64 8 (by omega) (by omega) (by omega) (by omega)
  unfold GZ
  by_cases g : Qe t 64 8
  · rw [show E5 64 t 8 = some (true, (64 - t.cnt : Int)) from DJ (g := fun n => Bd n 64 t 8) (fun n r h => EG n 64 t 8 r h) (h1 g), decide_eq_true g]; rfl
  · obtain ⟨b', hb⟩ := h2 g
    rw [show E5 64 t 8 = some (false, b') from DJ (g := fun n => Bd n 64 t 8) (fun n r h => EG n 64 t 8 r h) hb, decide_eq_false g]; rfl
theorem RB (t : Tr28) : Hu (mi t) = true ↔ GB t.un.1 t.un.2.1 t.un.2.2.1 t.un.2.2.2.length ∧ ∀ x ∈ t.un.2.2.2, Hu (mi x) = true := by
  rw [J7, SU]
  show GB _ _ _ (t.un.2.2.2.map mi).length ∧ _ ↔ _
  rw [List.length_map]
  refine and_congr_right fun _ => ⟨fun h x hx => h _ (List.mem_map.2 ⟨x, hx, rfl⟩), fun h x hx => ?_⟩
  obtain ⟨y, hy, rfl⟩ := List.mem_map.1 hx
  exact h y hy
theorem S7 : ∀ (n : Nat) (t : Tr28), SizeOf.sizeOf t < n → t.cnt ≤ 1048576 → E3 n t = some (Hu (mi t))
  | 0, t, h, _ => absurd h (Nat.not_lt_zero _)
  | n + 1, t, h, hc => by
    have hl := VZ t
    have htb := VX t.un.2.1
    show F5 (E3 n) t = _
    unfold F5
    have no : ¬ GB t.un.1 t.un.2.1 t.un.2.2.1 t.un.2.2.2.length → Hu (mi t) = false := fun hn => by
      cases hh : Hu (mi t) with
      | false => rfl
      | true => exact absurd ((RB t).1 hh).1 hn
    by_cases g1 : (bif decide (t.un.1 ≠ 3) then (decide (t.un.2.1 ≠ 0) || (decide (t.un.2.2.1 ≠ 0) || (decide (t.un.1 < 1) || decide (6 < t.un.1)))) else (decide (t.un.1 < 1) || decide (6 < t.un.1))) = true
    · rw [if_pos g1, no (fun hf => by
        unfold GB at hf
        by_cases c : t.un.1 = 3
        · simp [c] at g1
        · rw [show decide (t.un.1 ≠ 3) = true from decide_eq_true c] at g1
          simp only [cond_true, Bool.or_eq_true, decide_eq_true_eq] at g1
          omega)]
    rw [if_neg g1]
    by_cases g2 : (decide (t.un.1 = 3) && (decide (t.un.2.1 < 0) || (decide (5 < t.un.2.1) || (decide (t.un.2.2.1 < 0) || decide ((EQ t.un.2.1) < t.un.2.2.1))))) = true
    · rw [if_pos g2, no (fun hf => by
        unfold GB at hf
        simp only [Bool.and_eq_true, Bool.or_eq_true, decide_eq_true_eq] at g2
        omega)]
    rw [if_neg g2]
    by_cases g3 : (bif decide (t.un.1 ≤ 3) then (decide ((t.un.2.2.2.length : Int) ≠ 0) || (bif decide (t.un.1 = 4) then (decide ((t.un.2.2.2.length : Int) ≠ 1) || (decide (5 ≤ t.un.1) && (decide ((t.un.2.2.2.length : Int) < 2) || decide (8 < (t.un.2.2.2.length : Int))))) else (decide (5 ≤ t.un.1) && (decide ((t.un.2.2.2.length : Int) < 2) || decide (8 < (t.un.2.2.2.length : Int)))))) else (bif decide (t.un.1 = 4) then (decide ((t.un.2.2.2.length : Int) ≠ 1) || (decide (5 ≤ t.un.1) && (decide ((t.un.2.2.2.length : Int) < 2) || decide (8 < (t.un.2.2.2.length : Int))))) else (decide (5 ≤ t.un.1) && (decide ((t.un.2.2.2.length : Int) < 2) || decide (8 < (t.un.2.2.2.length : Int)))))) = true
    · rw [if_pos g3, no (fun hf => by
        unfold GB at hf
        by_cases c : t.un.1 ≤ 3
        · rw [show decide (t.un.1 ≤ 3) = true from decide_eq_true c, show decide (t.un.1 = 4) = false from decide_eq_false (by omega)] at g3
          simp only [cond_true, cond_false, Bool.or_eq_true, Bool.and_eq_true, decide_eq_true_eq] at g3
          omega
        · by_cases c4 : t.un.1 = 4
          · rw [show decide (t.un.1 ≤ 3) = false from decide_eq_false c, show decide (t.un.1 = 4) = true from decide_eq_true c4] at g3
            simp only [cond_true, cond_false, Bool.or_eq_true, Bool.and_eq_true, decide_eq_true_eq] at g3
            omega
          · rw [show decide (t.un.1 ≤ 3) = false from decide_eq_false c, show decide (t.un.1 = 4) = false from decide_eq_false c4] at g3
            simp only [cond_true, cond_false, Bool.or_eq_true, Bool.and_eq_true, decide_eq_true_eq] at g3
            omega)]
    rw [if_neg g3]
    have hfl : GB t.un.1 t.un.2.1 t.un.2.2.1 t.un.2.2.2.length := by
      simp only [Bool.and_eq_true, Bool.or_eq_true, decide_eq_true_eq, not_and, not_or] at g2
      by_cases c3 : t.un.1 = 3
      · rw [show decide (t.un.1 ≤ 3) = true from decide_eq_true (by omega), show decide (t.un.1 = 4) = false from decide_eq_false (by omega)] at g3
        simp only [cond_true, cond_false, Bool.or_eq_true, Bool.and_eq_true, decide_eq_true_eq] at g3
        have := g2 c3
        unfold GB; omega
      · by_cases cl : t.un.1 ≤ 3
        · have c4 : ¬ t.un.1 = 4 := by omega
          simp [c3, cl, c4] at g1 g3
          unfold GB
          have : t.un.2.2.2.length = 0 := by
            rw [List.length_eq_zero_iff]
            exact g3.1
          omega
        · by_cases c4 : t.un.1 = 4
          · simp [c3, cl, c4] at g1 g3
            unfold GB; omega
          · simp [c3, cl, c4] at g1 g3
            unfold GB; omega
    have hx : ∀ x ∈ t.un.2.2.2, E3 n x = some (Hu (mi x)) := fun x hm => S7 n x (by have := Sz hm; omega) (Nat.le_trans (VC hm) hc)
    rw [PY t.un.2.2.2.length (F2 (E3 n) t) (fun k => ∃ e, t.un.2.2.2[k]? = some e ∧ Hu (mi e) = false) false (fun k hk => by
      rw [F2, if_pos (by omega), Eh (List.getElem?_eq_getElem hk), Option.bind_some, hx _ (List.getElem_mem hk), Option.bind_some, A0 (by omega)]
      cases hq : Hu (mi t.un.2.2.2[k]) with
      | true => rw [if_neg (by decide), if_neg (fun hh => by rw [SV hk, hq] at hh; cases hh)]; rfl
      | false => rw [if_pos (by decide), if_pos ((SV hk).2 hq)]) (by rw [F2, if_neg (by omega)])]
    by_cases e : ∃ k, k < t.un.2.2.2.length ∧ ∃ e, t.un.2.2.2[k]? = some e ∧ Hu (mi e) = false
    · rw [if_pos e]
      obtain ⟨x, hxm, hxf⟩ := Uy.1 e
      have : Hu (mi t) = false := by
        cases hh : Hu (mi t) with
        | false => rfl
        | true => rw [((RB t).1 hh).2 x hxm] at hxf; cases hxf
      rw [this]; rfl
    · rw [if_neg e]
      have : Hu (mi t) = true := (RB t).2 ⟨hfl, fun x hxm => by
        cases hh : Hu (mi x) with
        | true => rfl
        | false => exact absurd (Uy.2 ⟨x, hxm, hh⟩) e⟩
      rw [this]; rfl
theorem TA {t : Tr28} (hc : t.cnt ≤ 1048576) : KP t = some (decide (Qe (mi t) 64 8)) := by
  have hcm := Vy t
  unfold KP
  rw [show Pv t = some (Hu (mi t)) from DJ (g := fun n => E3 n t) (fun n r h => MG n t r h) (S7 (SizeOf.sizeOf t + 1) t (by omega) hc), Option.bind_some]
  by_cases hf : Hu (mi t) = true
  case neg => rw [if_neg hf, Option.bind_some, decide_eq_false (fun h => hf h.1)]
  case pos =>
    rw [if_pos hf, UH hc, Option.bind_some]
    by_cases c : (t.cnt : Int) ≤ 64
    · rw [if_pos c, UG hc, Option.bind_some, Option.bind_some]
      exact congrArg some (decide_eq_decide.2 ⟨fun h => ⟨hf, h, by omega⟩, fun h => h.2.1⟩)
    · rw [if_neg c, Option.bind_some, decide_eq_false (fun h => by have := h.2.2; omega)]
end Go.Proofs.YtgoifghhcekahaaGreatDoor
