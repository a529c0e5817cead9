/- Layer 29: ParseBack: trees that may be, their texts, what is spelled is read. Conditions: none. -/
import Derived.Test.YtlgjpoapclifbaaDoordM29Q
import Derived.Test.YtlgjpoapclifbaaDoordEV2
namespace Go.Proofs.YtlgjpoapclifbaaDoor
set_option linter.unusedVariables false
set_option linter.unusedSimpArgs false
open Go Go.RowKit
def mx : List Nat → Nat
  | [] => 0
  | a :: l => max a (mx l)
theorem Sg {l : List Nat} {a : Nat} (h : a ∈ l) : a ≤ mx l := by
  induction l with
  | nil => cases h
  | cons x l ih =>
    rcases List.mem_cons.1 h with e | h
    · rw [e]; exact Nat.le_max_left _ _
    · exact Nat.le_trans (ih h) (Nat.le_max_right _ _)
theorem Sv {l : List Nat} {b : Nat} (h : ∀ a ∈ l, a ≤ b) : mx l ≤ b := by
  induction l with
  | nil => exact Nat.zero_le _
  | cons x l ih => exact Nat.max_le.2 ⟨h x (List.mem_cons_self ..), ih fun a ha => h a (List.mem_cons_of_mem _ ha)⟩
def dp : Tr25 → Nat
  | .mk _ _ _ l => 1 + mx (l.map dp)
theorem Tn (t : Tr25) : dp t = 1 + mx (t.un.2.2.2.map dp) := by cases t; rw [dp]; rfl
theorem Q5 (f : Int) : H0 f = some (Hl f) := by
  unfold H0 Hl
  by_cases c : (decide (f = 4) || decide (f = 5)) = true
  · rw [if_pos c, if_pos c]
  · rw [if_neg c, if_neg c]
    unfold H8 Hm Nm
    by_cases c2 : f = 2
    · subst c2; rfl
    by_cases c0 : f = 0
    · subst c0; rfl
    by_cases c1 : f = 1
    · subst c1; rfl
    by_cases c3 : f = 3
    · subst c3; rfl
    rw [if_neg c0, if_neg c1, decide_eq_false c3, Option.bind_some, if_neg (by decide), if_neg c2, if_neg c2, if_neg (by simp [c0, c1, c3])]; rfl
theorem Kz (f : Int) : 0 ≤ Hl f ∧ Hl f ≤ 255 := by
  unfold Hl Nm
  split
  · omega
  · split
    · omega
    · split <;> omega
abbrev Gi (k f v : Int) (n : Nat) : Prop := 1 ≤ k ∧ k ≤ 6 ∧ (k ≠ 3 → f = 0 ∧ v = 0) ∧ (k = 3 → 0 ≤ f ∧ f ≤ 5 ∧ 0 ≤ v ∧ v ≤ Hl f) ∧ (k ≤ 3 → n = 0) ∧ (k = 4 → n = 1) ∧ (5 ≤ k → 2 ≤ n ∧ n ≤ 8)
def Ij : Tr25 → Bool
  | .mk k f v l => decide (Gi k f v l.length) && (l.map Ij).all id
theorem E9 (t : Tr25) : Ij t = true ↔ Gi t.un.1 t.un.2.1 t.un.2.2.1 t.un.2.2.2.length ∧ ∀ x ∈ t.un.2.2.2, Ij x = true := by
  cases t with
  | mk k f v l =>
    rw [Ij, Bool.and_eq_true, decide_eq_true_eq, List.all_map, List.all_eq_true]; rfl
abbrev LM (t : Tr25) (b d : Int) : Prop := Ij t = true ∧ (dp t : Int) ≤ d ∧ (t.cnt : Int) ≤ b
def wr (k : Int) (s : List UInt8) : List UInt8 := if k = 5 ∨ k = 6 then [40] ++ s ++ [41] else s
def TB (k f v : Int) (L : List (List UInt8)) : List UInt8 :=
  if k = 1 then [116, 114, 117, 101] else if k = 2 then [102, 97, 108, 115, 101] else if k = 3 then AY f ++ [32, 61, 32] ++ Lib.itoa v else if k = 4 then [110, 111, 116, 32] ++ Lib.join L []
  else if k = 5 then Lib.join L [32, 97, 110, 100, 32] else if k = 6 then Lib.join L [32, 111, 114, 32] else [63]
def px : Tr25 → List UInt8
  | .mk k f v l => TB k f v (l.map fun x => wr x.un.1 (px x))
abbrev OC (x : Tr25) : List UInt8 := wr x.un.1 (px x)
theorem Q0 (t : Tr25) : px t = TB t.un.1 t.un.2.1 t.un.2.2.1 (t.un.2.2.2.map OC) := by cases t; rw [px]; rfl
theorem KJ (sep : List UInt8) (hs : sep.length ≤ 5) : ∀ (r : List (List UInt8)), (Lib.joinTail sep r).length ≤ (r.map fun s => s.length + 5).sum
  | [] => Nat.le_refl _
  | y :: r => by
    have := KJ sep hs r
    unfold Lib.joinTail at this ⊢
    rw [List.map_cons, List.flatten_cons, List.length_append, List.length_append, List.map_cons, List.sum_cons]; omega
theorem RF {sep : List UInt8} (hs : sep.length ≤ 5) : ∀ (r : List (List UInt8)), (Lib.join r sep).length ≤ (r.map fun s => s.length + 5).sum
  | [] => by rw [Lib.join_nil]; exact Nat.zero_le _
  | y :: r => by
    have := KJ sep hs r
    rw [Lib.join_cons, List.length_append, List.map_cons, List.sum_cons]; omega
theorem QB : ∀ (l : List Tr25), (∀ x ∈ l, (px x).length + 8 ≤ 40 * x.cnt) → ((l.map OC).map fun s => s.length + 5).sum ≤ 40 * (l.map Tr25.cnt).sum
  | [], _ => Nat.le_refl _
  | x :: l, h => by
    have h1 := h x (List.mem_cons_self ..)
    have h2 := QB l fun y hy => h y (List.mem_cons_of_mem _ hy)
    have h3 : (OC x).length ≤ (px x).length + 2 := by
      show (wr _ _).length ≤ _
      unfold wr; split <;> simp
    rw [List.map_cons, List.map_cons, List.sum_cons, List.map_cons, List.sum_cons]; omega
theorem Og (f : Int) : (AY f).length ≤ 6 := by unfold AY; split; (· decide); split; (· decide); split; (· decide); split; (· decide); split; (· decide); split <;> decide
theorem LD : ∀ (n : Nat) (t : Tr25), SizeOf.sizeOf t < n → Ij t = true → (px t).length + 8 ≤ 40 * t.cnt
  | 0, t, h, _ => absurd h (Nat.not_lt_zero _)
  | n + 1, t, h, hf => by
    obtain ⟨h1, h2⟩ := (E9 t).1 hf
    have hcc := II t
    have hs := QB t.un.2.2.2 fun x hx => LD n x (by have := OD hx; omega) (h2 x hx)
    have j := fun sep hsl => RF (sep := sep) hsl (t.un.2.2.2.map OC)
    rw [Q0]; unfold TB
    by_cases g1 : t.un.1 = 1
    · rw [if_pos g1]; simp; omega
    rw [if_neg g1]
    by_cases g2 : t.un.1 = 2
    · rw [if_pos g2]; simp; omega
    rw [if_neg g2]
    by_cases g3 : t.un.1 = 3
    · have := h1.2.2.2.1 g3
      have htb := Kz t.un.2.1
      have := J9 (n := t.un.2.2.1) (by omega)
      have := Og t.un.2.1
      rw [if_pos g3]; simp; omega
    rw [if_neg g3]
    by_cases g4 : t.un.1 = 4
    · have hl1 := h1.2.2.2.2.2.1 g4
      obtain ⟨y, hy⟩ := List.length_eq_one_iff.1 hl1
      have hj : Lib.join (t.un.2.2.2.map OC) [] = OC y := by rw [hy]; exact Lib.join_one _ _
      have h5 := LD n y (by have := OD (t := t) (x := y) (by rw [hy]; exact List.mem_cons_self ..); omega) (h2 y (by rw [hy]; exact List.mem_cons_self ..))
      have h6 : (OC y).length ≤ (px y).length + 2 := by
        show (wr _ _).length ≤ _
        unfold wr; split <;> simp
      have h7 : t.cnt = 1 + y.cnt := by rw [hcc, hy]; simp
      rw [if_pos g4, hj, List.length_append]
      simp only [List.length_cons, List.length_nil]; omega
    rw [if_neg g4]
    by_cases g5 : t.un.1 = 5
    · have := j [32, 97, 110, 100, 32] (by decide)
      rw [if_pos g5]; omega
    rw [if_neg g5]
    by_cases g6 : t.un.1 = 6
    · have := j [32, 111, 114, 32] (by decide)
      rw [if_pos g6]; omega
    rw [if_neg g6]; simp; omega
theorem Ko {F : Tr25 → Option (List UInt8)} {l : List Tr25} (hl : l.length ≤ 1000000) (hF : ∀ x ∈ l, F x = some (px x)) (hb : ∀ x ∈ l, (px x).length ≤ 1000000) {sep : List UInt8} (hj : (Lib.join (l.map OC) sep).length ≤ 1000000000) : DG F l sep = some (Lib.join (l.map OC) sep) := by
  unfold DG
  rw [M7 l (by omega) OC (CC F l) (fun k hk out ho => by
    have hm := List.getElem_mem hk
    have hb' := hb _ hm
    rw [CC, if_pos (by omega), Dx (List.getElem?_eq_getElem hk), Option.bind_some, hF _ hm, Option.bind_some]
    show _ = (D0 out [wr l[k].un.1 (px l[k])]).bind _
    unfold wr
    by_cases c : l[k].un.1 = 5 ∨ l[k].un.1 = 6
    · rw [if_pos (by simpa using c), if_pos c, CD (by simp; omega), Option.bind_some, CD (by simp; omega)]; rfl
    · rw [if_neg (by simpa using c), if_neg c]; rfl) (fun out => by rw [CC, if_neg (by omega)]), Option.bind_some]
  unfold HT
  rw [if_pos ⟨by rw [List.length_map]; omega, hj⟩]; rfl
theorem PI : ∀ (n : Nat) (t : Tr25), SizeOf.sizeOf t < n → t.cnt ≤ 1000 → Ij t = true → CU n t = some (px t)
  | 0, t, h, _, _ => absurd h (Nat.not_lt_zero _)
  | n + 1, t, h, hc, hf => by
    obtain ⟨h1, h2⟩ := (E9 t).1 hf
    have hl := TI t
    have hlen := LD (SizeOf.sizeOf t + 1) t (by omega) hf
    have hF : ∀ x ∈ t.un.2.2.2, CU n x = some (px x) := fun x hx => PI n x (by have := OD hx; omega) (by have := Tr hx; omega) (h2 x hx)
    have hb : ∀ x ∈ t.un.2.2.2, (px x).length ≤ 1000000 := fun x hx => by
      have := LD (SizeOf.sizeOf x + 1) x (by omega) (h2 x hx)
      have := Tr hx
      omega
    show C0 (CU n) t = _
    unfold C0
    rw [Q0] at hlen ⊢
    unfold TB at hlen ⊢
    by_cases g1 : t.un.1 = 1
    · rw [if_pos g1, if_pos g1]
    rw [if_neg g1, if_neg g1]
    rw [if_neg g1] at hlen
    by_cases g2 : t.un.1 = 2
    · rw [if_pos g2, if_pos g2]
    rw [if_neg g2, if_neg g2]
    rw [if_neg g2] at hlen
    by_cases g3 : t.un.1 = 3
    · have := h1.2.2.2.1 g3
      have htb := Kz t.un.2.1
      have h5 := J9 (n := t.un.2.2.1) (by omega)
      have h6 := Og t.un.2.1
      rw [if_pos g3, if_pos g3, CD (by simp; omega), Option.bind_some, Oc (by omega), Option.bind_some, CD (by simp; omega)]; rfl
    rw [if_neg g3, if_neg g3]
    rw [if_neg g3] at hlen
    by_cases g4 : t.un.1 = 4
    · rw [if_pos g4] at hlen
      rw [List.length_append] at hlen
      rw [if_pos g4, if_pos g4, Ko (by omega) hF hb (by omega), Option.bind_some, CD (by simp only [List.length_cons, List.length_nil] at hlen ⊢; omega)]; rfl
    rw [if_neg g4, if_neg g4]
    rw [if_neg g4] at hlen
    by_cases g5 : t.un.1 = 5
    · rw [if_pos g5] at hlen
      rw [if_pos g5, if_pos g5, Ko (by omega) hF hb (by omega)]; rfl
    rw [if_neg g5, if_neg g5]
    rw [if_neg g5] at hlen
    by_cases g6 : t.un.1 = 6
    · rw [if_pos g6] at hlen
      rw [if_pos g6, if_pos g6, Ko (by omega) hF hb (by omega)]; rfl
    rw [if_neg g6, if_neg g6]
theorem OG {t : Tr25} (hc : t.cnt ≤ 1000) (hf : Ij t = true) : HH t = some (px t) := Ca (g := fun n => CU n t) (fun n r h => GI n t r h) (PI (SizeOf.sizeOf t + 1) t (by omega) hc hf)
def sz : Tr28 → Nat
  | .mk k p _ _ l => 1 + (if k < 2 ∨ 4 < k then p.cnt else 0) + (l.map sz).sum
theorem LC (t : Tr28) : sz t = 1 + (if t.un.1 < 2 ∨ 4 < t.un.1 then t.un.2.1.cnt else 0) + (t.un.2.2.2.2.map sz).sum := by cases t; rw [sz]; rfl
def dq : Tr28 → Nat
  | .mk _ _ _ _ l => 1 + mx (l.map dq)
theorem TG (t : Tr28) : dq t = 1 + mx (t.un.2.2.2.2.map dq) := by cases t; rw [dq]; rfl
def wf (k n w : Int) : Int := if k = 3 then min (n * w) 1000 else if k = 4 then min (n + w) 1000 else max n w
def w0 (k : Int) : Int := if k = 3 then 1 else 0
def wd : Tr28 → Int
  | .mk k _ _ _ l => if 3 ≤ k ∧ k ≤ 5 then (l.map wd).foldl (wf k) (w0 k) else 1
theorem R5 (t : Tr28) : wd t = if 3 ≤ t.un.1 ∧ t.un.1 ≤ 5 then (t.un.2.2.2.2.map wd).foldl (wf t.un.1) (w0 t.un.1) else 1 := by cases t; rw [wd]; rfl
theorem Tf {k n w : Int} (hn : 0 ≤ n ∧ n ≤ 1000) (hw : 0 ≤ w ∧ w ≤ 1000) : 0 ≤ wf k n w ∧ wf k n w ≤ 1000 := by
  unfold wf
  have h := Int.mul_nonneg hn.1 hw.1
  by_cases c3 : k = 3
  · rw [if_pos c3]; omega
  · rw [if_neg c3]
    by_cases c4 : k = 4
    · rw [if_pos c4]; omega
    · rw [if_neg c4]; omega
theorem Ll {k : Int} : ∀ (l : List Int) (n : Int), 0 ≤ n ∧ n ≤ 1000 → (∀ w ∈ l, 0 ≤ w ∧ w ≤ 1000) → 0 ≤ l.foldl (wf k) n ∧ l.foldl (wf k) n ≤ 1000
  | [], n, hn, _ => hn
  | w :: l, n, hn, h => Ll l (wf k n w) (Tf hn (h w (List.mem_cons_self ..))) fun x hx => h x (List.mem_cons_of_mem _ hx)
theorem Rc (k : Int) : 0 ≤ w0 k ∧ w0 k ≤ 1000 := by unfold w0; split <;> omega
theorem Sw : ∀ (n : Nat) (t : Tr28), SizeOf.sizeOf t < n → 0 ≤ wd t ∧ wd t ≤ 1000
  | 0, t, h => absurd h (Nat.not_lt_zero _)
  | n + 1, t, h => by
    rw [R5]
    split
    · exact Ll _ _ (Rc _) fun w hw => by
        obtain ⟨x, hx, rfl⟩ := List.mem_map.1 hw
        exact Sw n x (by have := Se hx; omega)
    · omega
theorem Uj (t : Tr28) : 0 ≤ wd t ∧ wd t ≤ 1000 := Sw (SizeOf.sizeOf t + 1) t (by omega)
theorem SV {a b : Int} (ha : 0 ≤ a ∧ a ≤ 1000) (hb : 0 ≤ b ∧ b ≤ 1000) : 0 ≤ a * b ∧ a * b ≤ 1000000 := by
  refine ⟨Int.mul_nonneg ha.1 hb.1, ?_⟩
  have h1 : a * b ≤ 1000 * b := Int.mul_le_mul_of_nonneg_right ha.2 hb.1
  omega
theorem KA (k n : Int) (l : List Int) (w : Int) : (l ++ [w]).foldl (wf k) n = wf k (l.foldl (wf k) n) w := by rw [List.foldl_append]; rfl
abbrev ZP : Tr25 := Tr25.of (0, 0, 0, ([] : List Tr25))
abbrev Fd (k f v : Int) (n : Nat) : Prop := 1 ≤ k ∧ k ≤ 5 ∧ (k ≠ 2 → f = 0 ∧ v = 0) ∧ (k = 2 → 0 ≤ f ∧ f ≤ 4 ∧ 0 ≤ v ∧ v ≤ Hl f) ∧ (k ≤ 2 → n = 0) ∧ (k = 5 → n = 2) ∧ (k = 3 ∨ k = 4 → 2 ≤ n ∧ n ≤ 8)
abbrev N4 (k : Int) (p : Tr25) (f v : Int) (n : Nat) : Prop := Fd k f v n ∧ (k = 2 ∨ k = 3 ∨ k = 4 → p = ZP)
abbrev Tj (k : Int) (p : Tr25) (f v : Int) (n : Nat) : Prop := N4 k p f v n ∧ (k = 1 ∨ k = 5 → LM p 64 8)
open Classical in
noncomputable def HV : Tr28 → Bool
  | .mk k p f v l => @decide (Tj k p f v l.length) (propDecidable _) && (l.map HV).all id
theorem E3 (t : Tr28) : HV t = true ↔ Tj t.un.1 t.un.2.1 t.un.2.2.1 t.un.2.2.2.1 t.un.2.2.2.2.length ∧ ∀ x ∈ t.un.2.2.2.2, HV x = true := by
  cases t with
  | mk k p f v l =>
    rw [HV, Bool.and_eq_true, @decide_eq_true_eq _ (Classical.propDecidable _), List.all_map, List.all_eq_true]; rfl
abbrev MG (t : Tr28) (b d : Int) : Prop := HV t = true ∧ (dq t : Int) ≤ d ∧ (sz t : Int) ≤ b
abbrev UA (t : Tr28) : Prop := MG t 64 8 ∧ wd t ≤ 64
def RX (k : Int) (s : List UInt8) : List UInt8 := if k = 3 ∨ k = 4 ∨ k = 5 then [40] ++ s ++ [41] else s
noncomputable def Th (k : Int) (p : Tr25) (f v : Int) (L : List (List UInt8)) : List UInt8 :=
  if k = 1 then (if p.un.1 = 1 then [105, 100] else if p.un.1 = 2 then [100, 114, 111, 112] else [119, 104, 101, 110, 32] ++ px p) else if k = 2 then Ch f ++ [32, 58, 61, 32] ++ Lib.itoa v
  else if k = 3 then Lib.join L [59, 32] else if k = 4 then Lib.join L [32, 124, 32] else if k = 5 then [105, 102, 32] ++ px p ++ [32, 116, 104, 101, 110, 32] ++ Lib.join L [32, 101, 108, 115, 101, 32] else [63]
noncomputable def qx : Tr28 → List UInt8
  | .mk k p f v l => Th k p f v (l.map fun x => RX x.un.1 (qx x))
noncomputable abbrev O0 (x : Tr28) : List UInt8 := RX x.un.1 (qx x)
theorem Rk (t : Tr28) : qx t = Th t.un.1 t.un.2.1 t.un.2.2.1 t.un.2.2.2.1 (t.un.2.2.2.2.map O0) := by cases t; rw [qx]; rfl
theorem QX {sep : List UInt8} (hs : sep.length ≤ 6) (r : List (List UInt8)) : (Lib.join r sep).length ≤ (r.map fun s => s.length + 6).sum := by
  have key : ∀ r : List (List UInt8), (Lib.joinTail sep r).length ≤ (r.map fun s => s.length + 6).sum := by
    intro r
    induction r with
    | nil => exact Nat.le_refl _
    | cons y r ih =>
      unfold Lib.joinTail at ih ⊢
      rw [List.map_cons, List.flatten_cons, List.length_append, List.length_append, List.map_cons, List.sum_cons]; omega
  cases r with
  | nil => rw [Lib.join_nil]; exact Nat.zero_le _
  | cons y r =>
    have := key r
    rw [Lib.join_cons, List.length_append, List.map_cons, List.sum_cons]; omega
theorem RW (x : Tr28) : (O0 x).length ≤ (qx x).length + 2 := by
  show (RX _ _).length ≤ _
  unfold RX; split <;> simp
theorem Pf : ∀ (l : List Tr28), (∀ x ∈ l, (qx x).length + 8 ≤ 40 * sz x) → ((l.map O0).map fun s => s.length + 6).sum ≤ 40 * (l.map sz).sum
  | [], _ => Nat.le_refl _
  | x :: l, h => by
    have h1 := h x (List.mem_cons_self ..)
    have h2 := Pf l fun y hy => h y (List.mem_cons_of_mem _ hy)
    have h3 := RW x
    rw [List.map_cons, List.map_cons, List.sum_cons, List.map_cons, List.sum_cons]; omega
theorem MZ (f : Int) : (Ch f).length ≤ 6 := by unfold Ch; split; (· decide); split; (· decide); split; (· decide); split; (· decide); split <;> decide
theorem px_len' {p : Tr25} (h : Ij p = true) : (px p).length + 8 ≤ 40 * p.cnt := LD (SizeOf.sizeOf p + 1) p (by omega) h
theorem Q2 : ∀ (n : Nat) (t : Tr28), SizeOf.sizeOf t < n → HV t = true → (qx t).length + 8 ≤ 40 * sz t
  | 0, t, h, _ => absurd h (Nat.not_lt_zero _)
  | n + 1, t, h, hf => by
    obtain ⟨h1, h2⟩ := (E3 t).1 hf
    have hcc := LC t
    have hs := Pf t.un.2.2.2.2 fun x hx => Q2 n x (by have := Se hx; omega) (h2 x hx)
    have j := fun sep hsl => QX (sep := sep) hsl (t.un.2.2.2.2.map O0)
    rw [Rk]; unfold Th
    by_cases g1 : t.un.1 = 1
    · have hp := px_len' (h1.2 (.inl g1)).1
      rw [if_pos (by omega)] at hcc
      rw [if_pos g1]
      split
      · simp only [List.length_cons, List.length_nil]; omega
      · split
        · simp only [List.length_cons, List.length_nil]; omega
        · rw [List.length_append]; simp only [List.length_cons, List.length_nil]; omega
    rw [if_neg g1]
    by_cases g2 : t.un.1 = 2
    · have := h1.1.1.2.2.2.1 g2
      have htb := Kz t.un.2.2.1
      have := J9 (n := t.un.2.2.2.1) (by omega)
      have := MZ t.un.2.2.1
      rw [if_pos g2]; simp; omega
    rw [if_neg g2]
    by_cases g3 : t.un.1 = 3
    · have := j [59, 32] (by decide)
      rw [if_pos g3]; omega
    rw [if_neg g3]
    by_cases g4 : t.un.1 = 4
    · have := j [32, 124, 32] (by decide)
      rw [if_pos g4]; omega
    rw [if_neg g4]
    by_cases g5 : t.un.1 = 5
    · have := j [32, 101, 108, 115, 101, 32] (by decide)
      have hp := px_len' (h1.2 (.inr g5)).1
      rw [if_pos (by omega)] at hcc
      rw [if_pos g5]; simp only [List.length_append, List.length_cons, List.length_nil]; omega
    rw [if_neg g5]; simp; omega
theorem qx_len' {t : Tr28} (h : HV t = true) : (qx t).length + 8 ≤ 40 * sz t := Q2 (SizeOf.sizeOf t + 1) t (by omega) h
theorem Of {t x : Tr28} (h : x ∈ t.un.2.2.2.2) : sz x < sz t := by
  have := Kv (g := sz) h
  rw [LC t]; omega
theorem SZ (t : Tr28) : t.un.2.2.2.2.length + 1 ≤ sz t := by
  have := Lt (g := sz) (fun x => by rw [LC x]; omega) t.un.2.2.2.2
  rw [LC t]; omega
theorem Ma {F : Tr28 → Option (List UInt8)} {l : List Tr28} (hl : l.length ≤ 1000000) (hF : ∀ x ∈ l, F x = some (qx x)) (hb : ∀ x ∈ l, (qx x).length ≤ 1000000) : BT F l = some (l.map O0) := by
  unfold BT
  rw [M7 l (by omega) O0 (BG F l) (fun k hk out ho => by
    have hm := List.getElem_mem hk
    have hb' := hb _ hm
    rw [BG, if_pos (by omega), Dx (List.getElem?_eq_getElem hk), Option.bind_some, Gw, GE, hF _ hm, Option.bind_some]
    show _ = (D0 out [RX l[k].un.1 (qx l[k])]).bind _
    unfold RX
    by_cases c : l[k].un.1 = 3 ∨ l[k].un.1 = 4 ∨ l[k].un.1 = 5
    · rw [if_pos (by simpa using c), if_pos c, CD (by simp; omega), Option.bind_some, CD (by simp; omega)]; rfl
    · rw [if_neg (by simpa using c), if_neg c]; rfl) (fun out => by rw [BG, if_neg (by omega)]), Option.bind_some]
theorem PF : ∀ (n : Nat) (t : Tr28), SizeOf.sizeOf t < n → sz t ≤ 1000 → HV t = true → Cr n t = some (qx t)
  | 0, t, h, _, _ => absurd h (Nat.not_lt_zero _)
  | n + 1, t, h, hc, hf => by
    obtain ⟨h1, h2⟩ := (E3 t).1 hf
    have hl := SZ t
    have hlen := qx_len' hf
    have hF : ∀ x ∈ t.un.2.2.2.2, Cr n x = some (qx x) := fun x hx => PF n x (by have := Se hx; omega) (by have := Of hx; omega) (h2 x hx)
    have hb : ∀ x ∈ t.un.2.2.2.2, (qx x).length ≤ 1000000 := fun x hx => by
      have := qx_len' (h2 x hx)
      have := Of hx
      omega
    have hj : ∀ sep : List UInt8, (Lib.join (t.un.2.2.2.2.map O0) sep).length ≤ 1000000000 → HT (t.un.2.2.2.2.map O0) sep = some (Lib.join (t.un.2.2.2.2.map O0) sep) := fun sep hs => by
      unfold HT
      rw [if_pos ⟨by rw [List.length_map]; omega, hs⟩]
    show CA (Cr n) t = _
    unfold CA
    rw [Gw, Rk] at *
    unfold Th at hlen ⊢
    by_cases g1 : t.un.1 = 1
    · have ho := h1.2 (.inl g1)
      have hp := px_len' ho.1
      have ho3 := ho.2.2
      rw [if_pos g1, if_pos g1]
      unfold Db
      by_cases q1 : t.un.2.1.un.1 = 1
      · rw [if_pos q1, if_pos q1]; rfl
      rw [if_neg q1, if_neg q1]
      by_cases q2 : t.un.2.1.un.1 = 2
      · rw [if_pos q2, if_pos q2]; rfl
      rw [if_neg q2, if_neg q2, OG (by omega) ho.1, Option.bind_some, CD (by simp only [List.length_cons, List.length_nil]; omega)]; rfl
    rw [if_neg g1, if_neg g1]
    rw [if_neg g1] at hlen
    by_cases g2 : t.un.1 = 2
    · have := h1.1.1.2.2.2.1 g2
      have htb := Kz t.un.2.2.1
      have h5 := J9 (n := t.un.2.2.2.1) (by omega)
      have h6 := MZ t.un.2.2.1
      rw [if_pos g2, if_pos g2, CD (by simp; omega), Option.bind_some, Oc (by omega), Option.bind_some, CD (by simp; omega)]; rfl
    rw [if_neg g2, if_neg g2]
    rw [if_neg g2] at hlen
    by_cases g3 : t.un.1 = 3
    · rw [if_pos g3] at hlen
      rw [if_pos g3, if_pos g3, Ma (by omega) hF hb, Option.bind_some, hj _ (by omega)]; rfl
    rw [if_neg g3, if_neg g3]
    rw [if_neg g3] at hlen
    by_cases g4 : t.un.1 = 4
    · rw [if_pos g4] at hlen
      rw [if_pos g4, if_pos g4, Ma (by omega) hF hb, Option.bind_some, hj _ (by omega)]; rfl
    rw [if_neg g4, if_neg g4]
    rw [if_neg g4] at hlen
    by_cases g5 : t.un.1 = 5
    · have ho := h1.2 (.inr g5)
      have ho3 := ho.2.2
      rw [if_pos g5] at hlen
      simp only [List.length_append, List.length_cons, List.length_nil] at hlen
      rw [if_pos g5, if_pos g5, OG (by omega) ho.1, Option.bind_some, CD (by simp only [List.length_cons, List.length_nil]; omega), Option.bind_some, CD (by simp only [List.length_append, List.length_cons, List.length_nil]; omega), Option.bind_some, Ma (by omega) hF hb, Option.bind_some, hj _ (by omega), Option.bind_some, CD (by simp only [List.length_append, List.length_cons, List.length_nil]; omega)]; rfl
    rw [if_neg g5, if_neg g5]
theorem QO {t : Tr28} (hc : sz t ≤ 1000) (hf : HV t = true) : Fv t = some (qx t) := Ca (g := fun n => Cr n t) (fun n r h => FY n t r h) (PF (SizeOf.sizeOf t + 1) t (by omega) hc hf)
abbrev Bk := Int × Int × List UInt8
abbrev kw (w : List UInt8) : Bk := (1, 0, w)
abbrev sg (w : List UInt8) : Bk := (3, 0, w)
abbrev nb (v : Int) : Bk := (2, v, [])
def NS (b : Bk) (s : List UInt8) : Bool := decide ((b.1 = 1 ∨ b.1 = 3) ∧ b.2.2 = s)
def Sp (l : List C2) : Nat → List Bk → Prop
  | _, [] => True
  | i, b :: β => (∃ h : i < l.length, bare l[i] = b) ∧ Sp l (i + 1) β
theorem JI {l : List C2} : ∀ {β γ : List Bk} {i : Nat}, Sp l i (β ++ γ) ↔ Sp l i β ∧ Sp l (i + β.length) γ
  | [], γ, i => by show Sp l i γ ↔ True ∧ Sp l i γ; rw [true_and]
  | b :: β, γ, i => by
    show _ ∧ Sp l (i + 1) (β ++ γ) ↔ (_ ∧ Sp l (i + 1) β) ∧ Sp l (i + (b :: β).length) γ
    rw [JI (β := β), and_assoc, show i + 1 + β.length = i + (b :: β).length by simp; omega]
def No (l : List C2) (j : Nat) (S : List (List UInt8)) : Prop := ∃ h : j < l.length, ∀ s ∈ S, F3 l[j] s = false
theorem M9 {l : List C2} {j : Nat} {b : Bk} {β : List Bk} {S : List (List UInt8)} (h : Sp l j (b :: β)) (hS : ∀ s ∈ S, NS b s = false) : No l j S := by
  obtain ⟨⟨h1, h2⟩, _⟩ := h
  refine ⟨h1, fun s hs => ?_⟩
  rw [← hS s hs, ← h2]; rfl
theorem Kq {l : List C2} {j : Nat} {S S' : List (List UInt8)} (h : No l j S) (hs : ∀ s ∈ S', s ∈ S) : No l j S' := ⟨h.1, fun s hm => h.2 s (hs s hm)⟩
section reads
variable {l : List C2}
theorem OT {j : Nat} {b : Bk} (h : j < l.length) (e : bare l[j] = b) (s : List UInt8) : F3 l[j] s = NS b s := by rw [← e]; rfl
theorem DP {j : Nat} {b : Bk} {β : List Bk} (h : Sp l j (b :: β)) {s : List UInt8} (c : NS b s = false) : As (l, (j : Int)) s = some (false, (l, (j : Int))) := by
  obtain ⟨⟨h1, h2⟩, _⟩ := h
  exact Dg h1 (by rw [OT h1 h2, c]; decide)
theorem IQ (hl : Tks l) {j : Nat} {b : Bk} {β : List Bk} (h : Sp l j (b :: β)) {s : List UInt8} (c : NS b s = true) : As (l, (j : Int)) s = some (true, (l, ((j + 1 : Nat) : Int))) := by
  obtain ⟨⟨h1, h2⟩, _⟩ := h
  exact DJ hl h1 (by rw [OT h1 h2, c])
theorem Mq (hl : Tks l) {j : Nat} {b : Bk} {β : List Bk} (h : Sp l j (b :: β)) {s : List UInt8} (c : NS b s = true) : Ao (l, (j : Int)) s = some (.inl (l, ((j + 1 : Nat) : Int))) := by
  obtain ⟨⟨h1, h2⟩, _⟩ := h
  exact EG hl h1 (by rw [OT h1 h2, c])
theorem Sn (hl : Tks l) {j : Nat} {v : Int} {β : List Bk} (h : Sp l j (nb v :: β)) : AQ (l, (j : Int)) = some (.inl (v, (l, ((j + 1 : Nat) : Int)))) := by
  obtain ⟨⟨h1, h2⟩, _⟩ := h
  rw [Ja hl h1 (congrArg Prod.fst h2)]
  rw [show l[j].2.1 = v from congrArg (fun b : Bk => b.2.1) h2]
theorem Sc (hl : Tks l) {j : Nat} {f m : Int} {β : List Bk} (h : Sp l j (kw (AY f) :: β)) (h0 : 0 ≤ f) (h5 : f ≤ 5) (hm : f ≤ m) : BE (l, (j : Int)) m = some (.inl (f, (l, ((j + 1 : Nat) : Int)))) := by
  obtain ⟨⟨h1, h2⟩, _⟩ := h
  have e1 : l[j].1 = 1 := congrArg Prod.fst h2
  have e2 : l[j].2.2.1 = AY f := congrArg (fun b : Bk => b.2.2) h2
  have e3 : A3 l[j] = f := by
    unfold A3
    rw [if_neg (fun q => q e1), e2]
    have : f = 0 ∨ f = 1 ∨ f = 2 ∨ f = 3 ∨ f = 4 ∨ f = 5 := by omega
    rcases this with rfl | rfl | rfl | rfl | rfl | rfl <;> rfl
  unfold BE
  rw [GX h1, Option.bind_some, e3, if_neg (by simp only [Bool.or_eq_true, decide_eq_true_iff]; omega), Fw hl h1]
theorem PN {A : Type} (hl : Tks l) {sep : List UInt8} {sb : Bk} {Q : List (List UInt8)} {q : A → List Bk} {pf : Ps → Option ((A × Ps) ⊕ Pn)}
    {S : (List A × List C2 × Int) → Option ((List A × List C2 × Int) ⊕ ((List A × List C2 × Int) ⊕ ((A × Ps) ⊕ Pn)))}
    (hS : ∀ xs (j : Nat), S (xs, l, (j : Int)) = (As (l, (j : Int)) sep).bind fun x10 => if x10.1 = true then (pf x10.2).bind fun x11 => B1 x11 (fun x12 => (D0 xs [x12.1]).bind fun x14 => some (.inl (x14, x12.2.1, x12.2.2))) (fun x13 => some (.inr (.inr (.inr (x13.1, x13.2))))) else some (.inr (.inl (xs, x10.2.1, x10.2.2))))
    (hsb : NS sb sep = true) (hQ : ∀ s ∈ Q, NS sb s = false) :
    ∀ (ps : List A), (∀ x ∈ ps, ∀ j : Nat, Sp l j (q x) → No l (j + (q x).length) Q → pf (l, (j : Int)) = some (.inl (x, (l, ((j + (q x).length : Nat) : Int))))) →
      ∀ (j : Nat) (xs : List A), Sp l j (ps.map fun x => sb :: q x).flatten → No l (j + (ps.map fun x => sb :: q x).flatten.length) (sep :: Q) → xs.length + ps.length ≤ 100000 →
        Bo S (xs, l, (j : Int)) = some (.inl (xs ++ ps, l, ((j + (ps.map fun x => sb :: q x).flatten.length : Nat) : Int)))
  | [], _, j, xs, hA, hN, hb => by
    obtain ⟨h1, h2⟩ : No l j (sep :: Q) := hN
    have hS1 := hS xs j
    rw [Dg h1 (fun q => absurd (q.symm.trans (h2 sep (List.mem_cons_self ..))) (by decide)), Option.bind_some, if_neg (show ¬ ((false, (l, (j : Int))) : Bool × Ps).1 = true from Bool.false_ne_true)] at hS1
    rw [List.append_nil]
    exact B5 hS1
  | x :: ps, hpf, j, xs, hA, hN, hb => by
    have hfl : ((x :: ps).map fun x => sb :: q x).flatten = sb :: (q x ++ (ps.map fun x => sb :: q x).flatten) := by simp
    rw [hfl] at hA hN ⊢
    obtain ⟨a1, a2⟩ := JI.1 hA.2
    have hlen : j + (sb :: (q x ++ (ps.map fun x => sb :: q x).flatten)).length = j + 1 + (q x).length + (ps.map fun x => sb :: q x).flatten.length := by simp; omega
    rw [hlen] at hN ⊢
    have hn : No l (j + 1 + (q x).length) Q := by
      cases ps with
      | nil => exact Kq hN fun s hs => List.mem_cons_of_mem _ hs
      | cons y ps => exact M9 (b := sb) (β := q y ++ (ps.map fun x => sb :: q x).flatten) (by simpa using a2) hQ
    have hS1 := hS xs j
    simp only [List.length_cons] at hb
    rw [IQ hl hA hsb, Option.bind_some, if_pos rfl] at hS1
    have hS2 : S (xs, l, (j : Int)) = some (.inl (xs ++ [x], l, ((j + 1 + (q x).length : Nat) : Int))) := by
      rw [hS1]
      show (pf (l, ((j + 1 : Nat) : Int))).bind _ = _
      rw [hpf x (List.mem_cons_self ..) (j + 1) a1 hn, Option.bind_some]
      show (D0 xs [x]).bind _ = _
      rw [CD (by simp; omega)]; rfl
    rw [Dr hS2, PN hl hS hsb hQ ps (fun y hy => hpf y (List.mem_cons_of_mem _ hy)) (j + 1 + (q x).length) (xs ++ [x]) a2 hN (by simp; omega)]
    simp
theorem HE {A : Type} (hl : Tks l) {sep : List UInt8} {sb : Bk} {Q : List (List UInt8)} {q : A → List Bk} {pf : Ps → Option ((A × Ps) ⊕ Pn)} {node : List A → A}
    {S : (List A × List C2 × Int) → Option ((List A × List C2 × Int) ⊕ ((List A × List C2 × Int) ⊕ ((A × Ps) ⊕ Pn)))}
    (hS : ∀ xs (j : Nat), S (xs, l, (j : Int)) = (As (l, (j : Int)) sep).bind fun x10 => if x10.1 = true then (pf x10.2).bind fun x11 => B1 x11 (fun x12 => (D0 xs [x12.1]).bind fun x14 => some (.inl (x14, x12.2.1, x12.2.2))) (fun x13 => some (.inr (.inr (.inr (x13.1, x13.2))))) else some (.inr (.inl (xs, x10.2.1, x10.2.2))))
    (hsb : NS sb sep = true) (hQ : ∀ s ∈ Q, NS sb s = false) {i : Nat} {P : Option ((A × Ps) ⊕ Pn)}
    (hP : P = (pf (l, (i : Int))).bind fun x1 => B1 x1 (fun x2 => HX (Bo S ([x2.1], x2.2.1, x2.2.2)) fun z => if (z.1.length : Int) = 1 then (ix z.1 0).bind fun x15 => some (.inl (x15, (z.2.1, z.2.2))) else some (.inl (node z.1, (z.2.1, z.2.2)))) (fun x3 => some (.inr (x3.1, x3.2))))
    {x : A} {ps : List A} (hpf : ∀ y ∈ x :: ps, ∀ j : Nat, Sp l j (q y) → No l (j + (q y).length) Q → pf (l, (j : Int)) = some (.inl (y, (l, ((j + (q y).length : Nat) : Int)))))
    (hA : Sp l i (q x ++ (ps.map fun x => sb :: q x).flatten)) (hN : No l (i + (q x ++ (ps.map fun x => sb :: q x).flatten).length) (sep :: Q)) (hb : ps.length ≤ 10000) :
    P = some (.inl (if ps.length = 0 then x else node (x :: ps), (l, ((i + (q x ++ (ps.map fun x => sb :: q x).flatten).length : Nat) : Int)))) := by
  obtain ⟨a1, a2⟩ := JI.1 hA
  have hlen : i + (q x ++ (ps.map fun x => sb :: q x).flatten).length = i + (q x).length + (ps.map fun x => sb :: q x).flatten.length := by rw [List.length_append]; omega
  rw [hlen] at hN ⊢
  have hn : No l (i + (q x).length) Q := by
    cases ps with
    | nil => exact Kq hN fun s hs => List.mem_cons_of_mem _ hs
    | cons y ps => exact M9 (b := sb) (β := q y ++ (ps.map fun x => sb :: q x).flatten) (by simpa using a2) hQ
  rw [hP, hpf x (List.mem_cons_self ..) i a1 hn, Option.bind_some]
  show HX (Bo S ([x], l, ((i + (q x).length : Nat) : Int))) _ = _
  rw [PN hl hS hsb hQ ps (fun y hy => hpf y (List.mem_cons_of_mem _ hy)) (i + (q x).length) [x] a2 hN (by simp; omega)]
  show (if (([x] ++ ps).length : Int) = 1 then _ else _) = _
  cases ps with
  | nil => rfl
  | cons y ps =>
    rw [if_neg (by simp; omega), if_neg (by simp)]; rfl
def jn (sb : Bk) : List (List Bk) → List Bk
  | [] => []
  | x :: r => x ++ (r.map fun y => sb :: y).flatten
def SW (k f v : Int) (L : List (List Bk)) : List Bk :=
  if k = 1 then [kw [116, 114, 117, 101]] else if k = 2 then [kw [102, 97, 108, 115, 101]] else if k = 3 then [kw (AY f), sg [61], nb v] else if k = 4 then kw [110, 111, 116] :: L.flatten
  else if k = 5 then jn (kw [97, 110, 100]) L else jn (kw [111, 114]) L
def Qa (k : Int) (s : List Bk) : List Bk := if k = 5 ∨ k = 6 then sg [40] :: (s ++ [sg [41]]) else s
def tk : Tr25 → List Bk
  | .mk k f v l => SW k f v (l.map fun x => Qa x.un.1 (tk x))
abbrev Jp (x : Tr25) : List Bk := Qa x.un.1 (tk x)
theorem OI (t : Tr25) : tk t = SW t.un.1 t.un.2.1 t.un.2.2.1 (t.un.2.2.2.map Jp) := by cases t; rw [tk]; rfl
theorem Kw {A : Type} (sb : Bk) (q : A → List Bk) (x : A) (r : List A) : jn sb ((x :: r).map q) = q x ++ (r.map fun y => sb :: q y).flatten := by
  show q x ++ ((r.map q).map fun y => sb :: y).flatten = _
  rw [List.map_map]; rfl
theorem KE {x : Tr25} {k f v : Int} {L : List Tr25} (h1 : x.un.1 = k) (h2 : x.un.2.1 = f) (h3 : x.un.2.2.1 = v) (h4 : x.un.2.2.2 = L) : Tr25.of (k, f, v, L) = x := by rw [← h1, ← h2, ← h3, ← h4]; exact Gw x
theorem Pb {f : Int} (h0 : 0 ≤ f) (h5 : f ≤ 5) : NS (kw (AY f)) [116, 114, 117, 101] = false ∧ NS (kw (AY f)) [102, 97, 108, 115, 101] = false ∧ NS (kw (AY f)) [110, 111, 116] = false ∧ NS (kw (AY f)) [40] = false ∧ NS (kw (AY f)) [100, 114, 111, 112] = false ∧ NS (kw (AY f)) [105, 100] = false ∧ NS (kw (AY f)) [119, 104, 101, 110] = false ∧ NS (kw (AY f)) [105, 102] = false := by
  have : f = 0 ∨ f = 1 ∨ f = 2 ∨ f = 3 ∨ f = 4 ∨ f = 5 := by omega
  rcases this with rfl | rfl | rfl | rfl | rfl | rfl <;> decide
def TM (C : Ps → PC) (l : List C2) (c : Nat) : Prop := ∀ x : Tr25, Ij x = true → x.cnt < c → ∀ j : Nat, Sp l j (tk x) → No l (j + (tk x).length) [[97, 110, 100], [111, 114]] → C (l, (j : Int)) = some (.inl (x, (l, ((j + (tk x).length : Nat) : Int))))
theorem M6 (hl : Tks l) {C : Ps → PC} {c : Nat} (hC : TM C l c) : ∀ (m : Nat) (x : Tr25), x.cnt ≤ m → Ij x = true → (x.un.1 ≤ 4 → x.cnt ≤ c) → (5 ≤ x.un.1 → x.cnt < c) → ∀ j : Nat, Sp l j (Jp x) → AN C m (l, (j : Int)) = some (.inl (x, (l, ((j + (Jp x).length : Nat) : Int))))
  | 0, x, hm, _, _, _, _, _ => by have := II x; omega
  | m + 1, x, hm, hf, h4, h5, j, hA => by
    obtain ⟨h1, h2⟩ := (E9 x).1 hf
    have hcc := II x
    show A9 C (AN C m) (l, (j : Int)) = _
    unfold A9
    by_cases g5 : 5 ≤ x.un.1
    · have hw : Jp x = sg [40] :: (tk x ++ [sg [41]]) := by
        show Qa _ _ = _
        unfold Qa; rw [if_pos (by unfold Gi at h1; omega)]
      rw [hw] at hA ⊢
      obtain ⟨a1, a2⟩ := JI.1 hA.2
      rw [DP hA (by decide)]
      simp only [Option.bind_some, Bool.false_eq_true, if_false]
      rw [DP hA (by decide)]
      simp only [Option.bind_some, Bool.false_eq_true, if_false]
      rw [DP hA (by decide)]
      simp only [Option.bind_some, Bool.false_eq_true, if_false]
      rw [IQ hl hA (by decide)]
      simp only [Option.bind_some, if_true]
      rw [hC x hf (h5 g5) (j + 1) a1 (M9 a2 (by decide))]
      show (Ao (l, ((j + 1 + (tk x).length : Nat) : Int)) [41]).bind _ = _
      rw [Mq hl a2 (by decide)]
      show some (Sum.inl (x, (l, ((j + 1 + (tk x).length + 1 : Nat) : Int)))) = _
      congr 5; simp; omega
    · have hw : Jp x = tk x := by
        show Qa _ _ = _
        unfold Qa; rw [if_neg (by omega)]
      rw [hw, OI] at hA ⊢
      unfold SW at hA ⊢
      by_cases g1 : x.un.1 = 1
      · rw [if_pos g1] at hA ⊢
        have hz := h1.2.2.1 (by omega)
        have hL : x.un.2.2.2 = [] := List.length_eq_zero_iff.1 (h1.2.2.2.2.1 (by omega))
        rw [IQ hl hA (by decide), Option.bind_some, if_pos rfl, KE g1 hz.1 hz.2 hL]; rfl
      rw [if_neg g1] at hA ⊢
      by_cases g2 : x.un.1 = 2
      · rw [if_pos g2] at hA ⊢
        have hz := h1.2.2.1 (by omega)
        have hL : x.un.2.2.2 = [] := List.length_eq_zero_iff.1 (h1.2.2.2.2.1 (by omega))
        rw [DP hA (by decide)]
        simp only [Option.bind_some, Bool.false_eq_true, if_false]
        rw [IQ hl hA (by decide), Option.bind_some, if_pos rfl, KE g2 hz.1 hz.2 hL]; rfl
      rw [if_neg g2] at hA ⊢
      by_cases g3 : x.un.1 = 3
      · rw [if_pos g3] at hA ⊢
        have hz := h1.2.2.2.1 g3
        have hL : x.un.2.2.2 = [] := List.length_eq_zero_iff.1 (h1.2.2.2.2.1 (by omega))
        obtain ⟨n1, n2, n3, n4, _⟩ := Pb hz.1 hz.2.1
        rw [DP hA n1]
        simp only [Option.bind_some, Bool.false_eq_true, if_false]
        rw [DP hA n2]
        simp only [Option.bind_some, Bool.false_eq_true, if_false]
        rw [DP hA n3]
        simp only [Option.bind_some, Bool.false_eq_true, if_false]
        rw [DP hA n4]
        simp only [Option.bind_some, Bool.false_eq_true, if_false]
        rw [Sc hl hA hz.1 hz.2.1 (by omega)]
        show (Ao (l, ((j + 1 : Nat) : Int)) [61]).bind _ = _
        rw [Mq hl hA.2 (by decide), Option.bind_some]
        show (AQ (l, ((j + 1 + 1 : Nat) : Int))).bind _ = _
        rw [Sn hl hA.2.2, Option.bind_some]
        show some (Sum.inl (Tr25.of (3, x.un.2.1, x.un.2.2.1, []), _)) = _
        rw [KE g3 rfl rfl hL]; rfl
      rw [if_neg g3] at hA ⊢
      have g4 : x.un.1 = 4 := by unfold Gi at h1; omega
      rw [if_pos g4] at hA ⊢
      have hz := h1.2.2.1 (by omega)
      obtain ⟨y, hy⟩ : ∃ y, x.un.2.2.2 = [y] := List.length_eq_one_iff.1 (h1.2.2.2.2.2.1 g4)
      have hL : (x.un.2.2.2.map Jp).flatten = Jp y := by rw [hy]; simp
      have hyc : x.cnt = 1 + y.cnt := by rw [hcc, hy]; simp
      rw [hL] at hA ⊢
      rw [DP hA (by decide)]
      simp only [Option.bind_some, Bool.false_eq_true, if_false]
      rw [DP hA (by decide)]
      simp only [Option.bind_some, Bool.false_eq_true, if_false]
      rw [IQ hl hA (by decide)]
      simp only [Option.bind_some, if_true]
      rw [M6 hl hC m y (by omega) (h2 y (by rw [hy]; exact List.mem_cons_self ..)) (fun _ => by have := h4 (by omega); omega) (fun _ => by have := h4 (by omega); omega) (j + 1) hA.2]
      show some (Sum.inl (Tr25.of (4, 0, 0, [y]), _)) = _
      rw [KE g4 hz.1 hz.2 hy]
      simp only [List.length_cons]
      rw [show j + 1 + (Jp y).length = j + ((Jp y).length + 1) by omega]
theorem factor_ok' (hl : Tks l) {C : Ps → PC} {c : Nat} (hC : TM C l c) {x : Tr25} (hf : Ij x = true) (h4 : x.un.1 ≤ 4 → x.cnt ≤ c) (h5 : 5 ≤ x.un.1 → x.cnt < c) {j : Nat} (hA : Sp l j (Jp x)) : BN C (l, (j : Int)) = some (.inl (x, (l, ((j + (Jp x).length : Nat) : Int)))) :=
  Ca (g := fun n => AN C n (l, (j : Int))) (fun n r h => B4 (fun _ => Le.rfl' _) n _ r h) (M6 hl hC x.cnt x (Nat.le_refl _) hf h4 h5 j hA)
theorem NP (hl : Tks l) {C : Ps → PC} {c : Nat} (hC : TM C l c) {x : Tr25} {ps : List Tr25} (hps : ∀ y ∈ x :: ps, Ij y = true ∧ (y.un.1 ≤ 4 → y.cnt ≤ c) ∧ (5 ≤ y.un.1 → y.cnt < c)) {j : Nat}
    (hA : Sp l j (Jp x ++ (ps.map fun x => kw [97, 110, 100] :: Jp x).flatten)) (hN : No l (j + (Jp x ++ (ps.map fun x => kw [97, 110, 100] :: Jp x).flatten).length) [[97, 110, 100]]) (hb : ps.length ≤ 10000) :
    Bg C (l, (j : Int)) = some (.inl (if ps.length = 0 then x else Tr25.of (5, 0, 0, x :: ps), (l, ((j + (Jp x ++ (ps.map fun x => kw [97, 110, 100] :: Jp x).flatten).length : Nat) : Int)))) := by
  unfold Bg
  rw [HE hl (sep := [97, 110, 100]) (sb := kw [97, 110, 100]) (Q := []) (q := Jp) (pf := BN C) (node := fun xs => Tr25.of (5, 0, 0, xs)) (S := Bh C [97, 110, 100]) (fun xs k => rfl) (by decide) (fun s hs => by cases hs) (P := BF C (l, (j : Int)) [97, 110, 100]) rfl
    (fun y hy k hk _ => factor_ok' hl hC (hps y hy).1 (hps y hy).2.1 (hps y hy).2.2 hk) hA hN hb]
  rfl
theorem Pj (hl : Tks l) : ∀ n : Nat, TM (Ap n) l n
  | 0, x, _, h, _, _, _ => absurd h (Nat.not_lt_zero _)
  | n + 1, x, hf, hn, j, hA, hN => by
    obtain ⟨h1, h2⟩ := (E9 x).1 hf
    have hC := Pj hl n
    have hcc := II x
    have hch : ∀ y ∈ x.un.2.2.2, Ij y = true ∧ (y.un.1 ≤ 4 → y.cnt ≤ n) ∧ (5 ≤ y.un.1 → y.cnt < n) := fun y hy => by
      have := Kv (g := Tr25.cnt) hy
      exact ⟨h2 y hy, fun _ => by omega, fun _ => by omega⟩
    show AU (Ap n) (l, (j : Int)) = _
    unfold AU
    by_cases g6 : x.un.1 = 6
    · have hz := h1.2.2.1 (by omega)
      have hlen := h1.2.2.2.2.2.2 (by omega)
      cases hL : x.un.2.2.2 with
      | nil => rw [hL] at hlen; simp at hlen
      | cons y ps =>
        rw [hL] at hlen hch
        have ht : tk x = Jp y ++ (ps.map fun x => kw [111, 114] :: Jp x).flatten := by
          rw [OI, hL]; unfold SW
          rw [if_neg (by omega), if_neg (by omega), if_neg (by omega), if_neg (by omega), if_neg (by omega), Kw]
        rw [ht] at hA hN ⊢
        rw [HE hl (sep := [111, 114]) (sb := kw [111, 114]) (Q := [[97, 110, 100]]) (q := Jp) (pf := Bg (Ap n)) (node := fun xs => Tr25.of (6, 0, 0, xs)) (S := Bj (Ap n) [111, 114]) (fun xs k => rfl) (by decide) (by decide) (P := BH (Ap n) (l, (j : Int)) [111, 114]) rfl
          (fun z hz k hk hk2 => by
            have := NP hl hC (x := z) (ps := []) (fun w hw => by rw [List.mem_singleton.1 hw]; exact hch z hz) (j := k) (by simpa using hk) (by simpa using hk2) (by simp)
            simpa using this) hA (Kq hN (by decide)) (by simp only [List.length_cons] at hlen; omega)]
        simp only [List.length_cons] at hlen
        rw [if_neg (by omega), KE g6 hz.1 hz.2 hL]
        rfl
    · have hone : ∀ k : Nat, Sp l k (tk x) → No l (k + (tk x).length) [[97, 110, 100]] → Bg (Ap n) (l, (k : Int)) = some (.inl (x, (l, ((k + (tk x).length : Nat) : Int)))) := fun k hk hk2 => by
        by_cases g5 : x.un.1 = 5
        · have hz := h1.2.2.1 (by omega)
          have hlen := h1.2.2.2.2.2.2 (by omega)
          cases hL : x.un.2.2.2 with
          | nil => rw [hL] at hlen; simp at hlen
          | cons y ps =>
            rw [hL] at hlen hch
            simp only [List.length_cons] at hlen
            have ht : tk x = Jp y ++ (ps.map fun x => kw [97, 110, 100] :: Jp x).flatten := by
              rw [OI, hL]; unfold SW
              rw [if_neg (by omega), if_neg (by omega), if_neg (by omega), if_neg (by omega), if_pos g5, Kw]
            rw [ht] at hk hk2 ⊢
            rw [NP hl hC hch hk hk2 (by omega), if_neg (by omega), KE g5 hz.1 hz.2 hL]
        · have hw : Jp x = tk x := by
            show Qa _ _ = _
            unfold Qa; rw [if_neg (by omega)]
          rw [← hw] at hk hk2 ⊢
          have := NP hl hC (x := x) (ps := []) (fun w hw => by rw [List.mem_singleton.1 hw]; exact ⟨hf, fun _ => by omega, fun _ => by unfold Gi at h1; omega⟩) (j := k) (by simpa using hk) (by simpa using hk2) (by simp)
          simpa using this
      rw [HE hl (x := x) (ps := []) (sep := [111, 114]) (sb := kw [111, 114]) (Q := [[97, 110, 100]]) (q := tk) (pf := Bg (Ap n)) (node := fun xs => Tr25.of (6, 0, 0, xs)) (S := Bj (Ap n) [111, 114]) (fun xs k => rfl) (by decide) (by decide) (P := BH (Ap n) (l, (j : Int)) [111, 114]) rfl
          (fun z hz k hk hk2 => by rw [List.mem_singleton.1 hz] at hk hk2 ⊢; exact hone k hk hk2) (by simpa using hA) (by simpa using Kq hN (by decide)) (by simp)]
      show some (Sum.inl (x, (l, ((j + (tk x ++ []).length : Nat) : Int)))) = _
      rw [List.append_nil]
theorem cond_ok' (hl : Tks l) {x : Tr25} (hf : Ij x = true) {j : Nat} (hA : Sp l j (tk x)) (hN : No l (j + (tk x).length) [[97, 110, 100], [111, 114]]) : Ce (l, (j : Int)) = some (.inl (x, (l, ((j + (tk x).length : Nat) : Int)))) :=
  Ca (g := fun n => Ap n (l, (j : Int))) (fun n r h => Ck n _ r h) (Pj hl (x.cnt + 1) x hf (Nat.lt_succ_self _) j hA hN)
def SH (k : Int) (p : Tr25) (f v : Int) (L : List (List Bk)) : List Bk :=
  if k = 1 then (if p.un.1 = 1 then [kw [105, 100]] else if p.un.1 = 2 then [kw [100, 114, 111, 112]] else kw [119, 104, 101, 110] :: tk p) else if k = 2 then [kw (AY f), sg [58, 61], nb v]
  else if k = 3 then jn (sg [59]) L else if k = 4 then jn (sg [124]) L else kw [105, 102] :: (tk p ++ kw [116, 104, 101, 110] :: jn (kw [101, 108, 115, 101]) L)
def Rm (k : Int) (s : List Bk) : List Bk := if k = 3 ∨ k = 4 ∨ k = 5 then sg [40] :: (s ++ [sg [41]]) else s
def tq : Tr28 → List Bk
  | .mk k p f v l => SH k p f v (l.map fun x => Rm x.un.1 (tq x))
abbrev JL (x : Tr28) : List Bk := Rm x.un.1 (tq x)
theorem N5 (t : Tr28) : tq t = SH t.un.1 t.un.2.1 t.un.2.2.1 t.un.2.2.2.1 (t.un.2.2.2.2.map JL) := by cases t; rw [tq]; rfl
theorem JJ {x : Tr28} {k : Int} {p : Tr25} {f v : Int} {L : List Tr28} (h1 : x.un.1 = k) (h0 : x.un.2.1 = p) (h2 : x.un.2.2.1 = f) (h3 : x.un.2.2.2.1 = v) (h4 : x.un.2.2.2.2 = L) : Tr28.of (k, p, f, v, L) = x := by rw [← h1, ← h0, ← h2, ← h3, ← h4]; exact GE x
theorem Rz {α : Type} : ∀ {l : List α}, l.length = 2 → ∃ a b, l = [a, b]
  | [a, b], _ => ⟨a, b, rfl⟩
def Sj : List (List UInt8) := [[97, 110, 100], [111, 114], [59], [124]]
def Tc (C : Ps → PD) (l : List C2) (c : Nat) : Prop := ∀ x : Tr28, HV x = true → sz x < c → ∀ j : Nat, Sp l j (tq x) → No l (j + (tq x).length) Sj → C (l, (j : Int)) = some (.inl (x, (l, ((j + (tq x).length : Nat) : Int))))
theorem SQ (x : Tr28) : 1 ≤ sz x := by rw [LC]; omega
theorem RN (hl : Tks l) {C : Ps → PD} {c : Nat} (hC : Tc C l c) (m : Nat) {x : Tr28} (hf : HV x = true) (hc : sz x < c) {j : Nat} (hA : Sp l j (sg [40] :: (tq x ++ [sg [41]]))) : AB C (m + 1) (l, (j : Int)) = some (.inl (x, (l, ((j + (sg [40] :: (tq x ++ [sg [41]])).length : Nat) : Int)))) := by
  show A0 C (AB C m) (l, (j : Int)) = _
  unfold A0
  simp only [Gw, GE, Aj]
  obtain ⟨a1, a2⟩ := JI.1 hA.2
  rw [DP hA (by decide)]
  simp only [Option.bind_some, Bool.false_eq_true, if_false]
  rw [DP hA (by decide)]
  simp only [Option.bind_some, Bool.false_eq_true, if_false]
  rw [DP hA (by decide)]
  simp only [Option.bind_some, Bool.false_eq_true, if_false]
  rw [DP hA (by decide)]
  simp only [Option.bind_some, Bool.false_eq_true, if_false]
  rw [IQ hl hA (by decide)]
  simp only [Option.bind_some, if_true]
  rw [hC x hf hc (j + 1) a1 (M9 a2 (by decide))]
  show (Ao (l, ((j + 1 + (tq x).length : Nat) : Int)) [41]).bind _ = _
  rw [Mq hl a2 (by decide)]
  show some (Sum.inl (x, (l, ((j + 1 + (tq x).length + 1 : Nat) : Int)))) = _
  congr 5; simp; omega
theorem Lr (hl : Tks l) {C : Ps → PD} {c : Nat} (hC : Tc C l c) : ∀ (m : Nat) (x : Tr28), sz x ≤ m → HV x = true → sz x ≤ c →
    ((x.un.1 ≤ 2 ∨ x.un.1 = 5) → ∀ j : Nat, Sp l j (tq x) → No l (j + (tq x).length) [[97, 110, 100], [111, 114]] → AB C m (l, (j : Int)) = some (.inl (x, (l, ((j + (tq x).length : Nat) : Int))))) ∧
    ((3 ≤ x.un.1 → sz x < c) → ∀ j : Nat, Sp l j (JL x) → No l (j + (JL x).length) [[97, 110, 100], [111, 114]] → AB C m (l, (j : Int)) = some (.inl (x, (l, ((j + (JL x).length : Nat) : Int)))))
  | 0, x, hm, _, _ => by have := SQ x; omega
  | m + 1, x, hm, hf, hc => by
    obtain ⟨h1, h2⟩ := (E3 x).1 hf
    have hlin := h1.1.1
    unfold Fd at hlin
    have hraw : (x.un.1 ≤ 2 ∨ x.un.1 = 5) → ∀ j : Nat, Sp l j (tq x) → No l (j + (tq x).length) [[97, 110, 100], [111, 114]] → AB C (m + 1) (l, (j : Int)) = some (.inl (x, (l, ((j + (tq x).length : Nat) : Int)))) := by
      intro hk j hA hN
      show A0 C (AB C m) (l, (j : Int)) = _
      unfold A0
      simp only [Gw, GE, Aj]
      rw [N5] at hA hN ⊢
      unfold SH at hA hN ⊢
      by_cases g1 : x.un.1 = 1
      · have hz := hlin.2.2.1 (by omega)
        have hL : x.un.2.2.2.2 = [] := List.length_eq_zero_iff.1 (hlin.2.2.2.2.1 (by omega))
        have ho := h1.2 (.inl g1)
        obtain ⟨p1, _⟩ := (E9 x.un.2.1).1 ho.1
        rw [if_pos g1] at hA hN ⊢
        by_cases q1 : x.un.2.1.un.1 = 1
        · have hpz := p1.2.2.1 (by omega)
          have hpL : x.un.2.1.un.2.2.2 = [] := List.length_eq_zero_iff.1 (p1.2.2.2.2.1 (by omega))
          rw [if_pos q1] at hA hN ⊢
          rw [DP hA (by decide)]
          simp only [Option.bind_some, Bool.false_eq_true, if_false]
          rw [IQ hl hA (by decide), Option.bind_some, if_pos rfl, KE q1 hpz.1 hpz.2 hpL]
          show some (Sum.inl (Tr28.of (1, x.un.2.1, 0, 0, []), _)) = _
          rw [JJ g1 rfl hz.1 hz.2 hL]; rfl
        rw [if_neg q1] at hA hN ⊢
        by_cases q2 : x.un.2.1.un.1 = 2
        · have hpz := p1.2.2.1 (by omega)
          have hpL : x.un.2.1.un.2.2.2 = [] := List.length_eq_zero_iff.1 (p1.2.2.2.2.1 (by omega))
          rw [if_pos q2] at hA hN ⊢
          rw [IQ hl hA (by decide), Option.bind_some, if_pos rfl, KE q2 hpz.1 hpz.2 hpL]
          show some (Sum.inl (Tr28.of (1, x.un.2.1, 0, 0, []), _)) = _
          rw [JJ g1 rfl hz.1 hz.2 hL]; rfl
        rw [if_neg q2] at hA hN ⊢
        rw [DP hA (by decide)]
        simp only [Option.bind_some, Bool.false_eq_true, if_false]
        rw [DP hA (by decide)]
        simp only [Option.bind_some, Bool.false_eq_true, if_false]
        rw [IQ hl hA (by decide)]
        simp only [Option.bind_some, if_true]
        have hlen : j + (kw [119, 104, 101, 110] :: tk x.un.2.1).length = j + 1 + (tk x.un.2.1).length := by simp; omega
        rw [hlen] at hN ⊢
        rw [cond_ok' hl ho.1 hA.2 hN]
        show some (Sum.inl (Tr28.of (1, x.un.2.1, 0, 0, []), _)) = _
        rw [JJ g1 rfl hz.1 hz.2 hL]
      rw [if_neg g1] at hA hN ⊢
      by_cases g2 : x.un.1 = 2
      · have hz := hlin.2.2.2.1 g2
        have hL : x.un.2.2.2.2 = [] := List.length_eq_zero_iff.1 (hlin.2.2.2.2.1 (by omega))
        have hp := h1.1.2 (.inl g2)
        rw [if_pos g2] at hA hN ⊢
        obtain ⟨_, _, _, n4, n5, n6, n7, n8⟩ := Pb (f := x.un.2.2.1) hz.1 (by omega)
        rw [DP hA n5]
        simp only [Option.bind_some, Bool.false_eq_true, if_false]
        rw [DP hA n6]
        simp only [Option.bind_some, Bool.false_eq_true, if_false]
        rw [DP hA n7]
        simp only [Option.bind_some, Bool.false_eq_true, if_false]
        rw [DP hA n8]
        simp only [Option.bind_some, Bool.false_eq_true, if_false]
        rw [DP hA n4]
        simp only [Option.bind_some, Bool.false_eq_true, if_false]
        rw [Sc hl hA hz.1 (by omega) hz.2.1]
        show (Ao (l, ((j + 1 : Nat) : Int)) [58, 61]).bind _ = _
        rw [Mq hl hA.2 (by decide), Option.bind_some]
        show (AQ (l, ((j + 1 + 1 : Nat) : Int))).bind _ = _
        rw [Sn hl hA.2.2, Option.bind_some]
        show some (Sum.inl (Tr28.of (2, ZP, x.un.2.2.1, x.un.2.2.2.1, []), _)) = _
        rw [JJ g2 hp rfl rfl hL]; rfl
      rw [if_neg g2] at hA hN ⊢
      have g5 : x.un.1 = 5 := by omega
      have hz := hlin.2.2.1 (by omega)
      have ho := h1.2 (.inr g5)
      rw [if_neg (by omega), if_neg (by omega)] at hA hN ⊢
      obtain ⟨a, b, hL⟩ : ∃ a b, x.un.2.2.2.2 = [a, b] := Rz (hlin.2.2.2.2.2.1 g5)
      have ma : a ∈ x.un.2.2.2.2 := by rw [hL]; exact List.mem_cons_self ..
      have mb : b ∈ x.un.2.2.2.2 := by rw [hL]; exact List.mem_cons_of_mem _ (List.mem_cons_self ..)
      have sa := Of ma
      have sb := Of mb
      have hj : jn (kw [101, 108, 115, 101]) (x.un.2.2.2.2.map JL) = JL a ++ kw [101, 108, 115, 101] :: JL b := by rw [hL]; simp [jn]
      rw [hj] at hA hN ⊢
      obtain ⟨a1, a2⟩ := JI.1 hA.2
      obtain ⟨a3, a4⟩ := JI.1 a2.2
      have hlen : j + (kw [105, 102] :: (tk x.un.2.1 ++ kw [116, 104, 101, 110] :: (JL a ++ kw [101, 108, 115, 101] :: JL b))).length = j + 1 + (tk x.un.2.1).length + 1 + (JL a).length + 1 + (JL b).length := by simp; omega
      rw [hlen] at hN ⊢
      rw [DP hA (by decide)]
      simp only [Option.bind_some, Bool.false_eq_true, if_false]
      rw [DP hA (by decide)]
      simp only [Option.bind_some, Bool.false_eq_true, if_false]
      rw [DP hA (by decide)]
      simp only [Option.bind_some, Bool.false_eq_true, if_false]
      rw [IQ hl hA (by decide)]
      simp only [Option.bind_some, if_true]
      unfold Bq
      simp only [Gw, GE]
      rw [cond_ok' hl ho.1 a1 (M9 a2 (by decide))]
      have e1 : Ao ((x.un.2.1, (l, ((j + 1 + (tk x.un.2.1).length : Nat) : Int))) : Tr25 × Ps).2 [116, 104, 101, 110] = _ := Mq hl a2 (by decide)
      simp only [Option.bind_some, B1, e1]
      rw [(Lr hl hC m a (by omega) (h2 a ma) (by omega)).2 (fun _ => by omega) _ a3 (M9 a4 (by decide))]
      have e2 : Ao (l, ((j + 1 + (tk x.un.2.1).length + 1 + (JL a).length : Nat) : Int)) [101, 108, 115, 101] = _ := Mq hl a4 (by decide)
      simp only [Option.bind_some, e2]
      rw [(Lr hl hC m b (by omega) (h2 b mb) (by omega)).2 (fun _ => by omega) _ a4.2 hN]
      show some (Sum.inl (Tr28.of (5, x.un.2.1, 0, 0, [a, b]), _)) = _
      rw [JJ g5 rfl hz.1 hz.2 hL]
    refine ⟨hraw, fun hc2 j hA hN => ?_⟩
    by_cases g3 : 3 ≤ x.un.1
    · have hw : JL x = sg [40] :: (tq x ++ [sg [41]]) := by
        show Rm _ _ = _
        unfold Rm; rw [if_pos (by omega)]
      rw [hw] at hA ⊢
      exact RN hl hC m hf (hc2 g3) hA
    · have hw : JL x = tq x := by
        show Rm _ _ = _
        unfold Rm; rw [if_neg (by omega)]
      rw [hw] at hA hN ⊢
      exact hraw (.inl (by omega)) j hA hN
theorem QD (hl : Tks l) {C : Ps → PD} {c : Nat} (hC : Tc C l c) {x : Tr28} (hf : HV x = true) (hc : sz x ≤ c) (hk : x.un.1 ≤ 2 ∨ x.un.1 = 5) {j : Nat} (hA : Sp l j (tq x)) (hN : No l (j + (tq x).length) [[97, 110, 100], [111, 114]]) : Bu C (l, (j : Int)) = some (.inl (x, (l, ((j + (tq x).length : Nat) : Int)))) :=
  Ca (g := fun n => AB C n (l, (j : Int))) (fun n r h => BO (fun _ => Le.rfl' _) n _ r h) ((Lr hl hC (sz x) x (Nat.le_refl _) hf hc).1 hk j hA hN)
theorem SL (hl : Tks l) {C : Ps → PD} {c : Nat} (hC : Tc C l c) {x : Tr28} (hf : HV x = true) (hc : sz x < c) {j : Nat} (hA : Sp l j (JL x)) (hN : No l (j + (JL x).length) [[97, 110, 100], [111, 114]]) : Bu C (l, (j : Int)) = some (.inl (x, (l, ((j + (JL x).length : Nat) : Int)))) :=
  Ca (g := fun n => AB C n (l, (j : Int))) (fun n r h => BO (fun _ => Le.rfl' _) n _ r h) ((Lr hl hC (sz x) x (Nat.le_refl _) hf (Nat.le_of_lt hc)).2 (fun _ => hc) j hA hN)
theorem OY (hl : Tks l) {C : Ps → PD} {q : Tr28 → List Bk} {x : Tr28} {ps : List Tr28} (hst : ∀ y ∈ x :: ps, ∀ k : Nat, Sp l k (q y) → No l (k + (q y).length) [[97, 110, 100], [111, 114]] → Bu C (l, (k : Int)) = some (.inl (y, (l, ((k + (q y).length : Nat) : Int))))) {j : Nat}
    (hA : Sp l j (q x ++ (ps.map fun x => sg [59] :: q x).flatten)) (hN : No l (j + (q x ++ (ps.map fun x => sg [59] :: q x).flatten).length) [[59], [97, 110, 100], [111, 114]]) (hb : ps.length ≤ 10000) :
    AJ C (l, (j : Int)) = some (.inl (if ps.length = 0 then x else Tr28.of (3, ZP, 0, 0, x :: ps), (l, ((j + (q x ++ (ps.map fun x => sg [59] :: q x).flatten).length : Nat) : Int)))) := by
  unfold AJ
  simp only [Gw, GE]
  rw [HE hl (sep := [59]) (sb := sg [59]) (Q := [[97, 110, 100], [111, 114]]) (q := q) (pf := Bu C) (node := fun xs => Tr28.of (3, ZP, 0, 0, xs)) (S := AK C [59]) (fun xs k => by rw [AK]; simp only [Gw, GE]) (by decide) (by decide) (P := A1 C (l, (j : Int)) [59]) (by unfold A1; simp only [Gw, GE] <;> rfl)
    hst hA hN hb]
  rfl
theorem QJ (hl : Tks l) : ∀ n : Nat, Tc (An n) l n
  | 0, x, _, h, _, _, _ => absurd h (Nat.not_lt_zero _)
  | n + 1, x, hf, hn, j, hA, hN => by
    obtain ⟨h1, h2⟩ := (E3 x).1 hf
    have hlin := h1.1.1
    unfold Fd at hlin
    have hC := QJ hl n
    have hw : ∀ y ∈ x.un.2.2.2.2, ∀ k : Nat, Sp l k (JL y) → No l (k + (JL y).length) [[97, 110, 100], [111, 114]] → Bu (An n) (l, (k : Int)) = some (.inl (y, (l, ((k + (JL y).length : Nat) : Int)))) := fun y hy k hk hk2 => SL hl hC (h2 y hy) (by have := Of hy; omega) hk hk2
    show AZ (An n) (l, (j : Int)) = _
    unfold AZ
    simp only [Gw, GE]
    by_cases g4 : x.un.1 = 4
    · have hz := hlin.2.2.1 (by omega)
      have hlen := hlin.2.2.2.2.2.2 (by omega)
      have hp := h1.1.2 (.inr (.inr g4))
      cases hL : x.un.2.2.2.2 with
      | nil => rw [hL] at hlen; simp at hlen
      | cons y ps =>
        rw [hL] at hlen hw
        simp only [List.length_cons] at hlen
        have ht : tq x = JL y ++ (ps.map fun x => sg [124] :: JL x).flatten := by
          rw [N5, hL]; unfold SH
          rw [if_neg (by omega), if_neg (by omega), if_neg (by omega), if_pos g4, Kw]
        rw [ht] at hA hN ⊢
        rw [HE hl (sep := [124]) (sb := sg [124]) (Q := [[59], [97, 110, 100], [111, 114]]) (q := JL) (pf := AJ (An n)) (node := fun xs => Tr28.of (4, ZP, 0, 0, xs)) (S := AH (An n) [124]) (fun xs k => by rw [AH]; simp only [Gw, GE]) (by decide) (by decide) (P := AW (An n) (l, (j : Int)) [124]) (by unfold AW; simp only [Gw, GE] <;> rfl)
          (fun z hz k hk hk2 => by
            have := OY hl (C := An n) (q := JL) (x := z) (ps := []) (fun w hw' => by rw [List.mem_singleton.1 hw']; exact hw z hz) (j := k) (by simpa using hk) (by simpa using hk2) (by simp)
            simpa using this) hA (Kq hN (by decide)) (by omega)]
        rw [if_neg (by omega), JJ g4 hp hz.1 hz.2 hL]
        rfl
    · have hone : ∀ k : Nat, Sp l k (tq x) → No l (k + (tq x).length) [[59], [97, 110, 100], [111, 114]] → AJ (An n) (l, (k : Int)) = some (.inl (x, (l, ((k + (tq x).length : Nat) : Int)))) := fun k hk hk2 => by
        by_cases g3 : x.un.1 = 3
        · have hz := hlin.2.2.1 (by omega)
          have hlen := hlin.2.2.2.2.2.2 (by omega)
          have hp := h1.1.2 (.inr (.inl g3))
          cases hL : x.un.2.2.2.2 with
          | nil => rw [hL] at hlen; simp at hlen
          | cons y ps =>
            rw [hL] at hlen hw
            simp only [List.length_cons] at hlen
            have ht : tq x = JL y ++ (ps.map fun x => sg [59] :: JL x).flatten := by
              rw [N5, hL]; unfold SH
              rw [if_neg (by omega), if_neg (by omega), if_pos g3, Kw]
            rw [ht] at hk hk2 ⊢
            rw [OY hl hw hk hk2 (by omega), if_neg (by omega), JJ g3 hp hz.1 hz.2 hL]
        · have := OY hl (C := An n) (q := tq) (x := x) (ps := []) (fun w hw' => by rw [List.mem_singleton.1 hw']; exact fun k hk hk2 => QD hl hC hf (by omega) (by omega) hk hk2) (j := k) (by simpa using hk) (by simpa using hk2) (by simp)
          simpa using this
      rw [HE hl (x := x) (ps := []) (sep := [124]) (sb := sg [124]) (Q := [[59], [97, 110, 100], [111, 114]]) (q := tq) (pf := AJ (An n)) (node := fun xs => Tr28.of (4, ZP, 0, 0, xs)) (S := AH (An n) [124]) (fun xs k => by rw [AH]; simp only [Gw, GE]) (by decide) (by decide) (P := AW (An n) (l, (j : Int)) [124]) (by unfold AW; simp only [Gw, GE] <;> rfl)
          (fun z hz k hk hk2 => by rw [List.mem_singleton.1 hz] at hk hk2 ⊢; exact hone k hk hk2) (by simpa using hA) (by simpa using Kq hN (by decide)) (by simp)]
      show some (Sum.inl (x, (l, ((j + (tq x ++ []).length : Nat) : Int)))) = _
      rw [List.append_nil]
theorem pol_ok' (hl : Tks l) {x : Tr28} (hf : HV x = true) {j : Nat} (hA : Sp l j (tq x)) (hN : No l (j + (tq x).length) Sj) : Bv (l, (j : Int)) = some (.inl (x, (l, ((j + (tq x).length : Nat) : Int)))) :=
  Ca (g := fun n => An n (l, (j : Int))) (fun n r h => Cg n _ r h) (QJ hl (sz x + 1) x hf (Nat.lt_succ_self _) j hA hN)
end reads
def Ur (r : List UInt8) : Prop := r = [] ∨ ∃ c r', r = c :: r' ∧ Jt c = false ∧ IA c = false ∧ c ≠ 61
def NB (v : List UInt8) : Prop := ∀ r, BP false (v ++ r) = 0
def LX (u : List UInt8) (β : List Bk) : Prop := ∀ (s : List UInt8) (a : Nat) (r : List UInt8), s.length ≤ 4000 → s.drop a = u ++ r → Ur r → ∀ ts, Run s (a + u.length + BP false r) ts → ∃ ts', ts'.map bare = β ∧ Run s a (ts' ++ ts)
theorem Gt {u v : List UInt8} (h : NB u) : NB (u ++ v) := fun r => by rw [List.append_assoc]; exact h _
theorem SF (v : List UInt8) : Ur (32 :: v) := .inr ⟨32, v, rfl, by decide, by decide, by decide⟩
theorem TF {v r : List UInt8} (h : NB v) : BP false (32 :: (v ++ r)) = 1 := by rw [DW, if_neg (by decide), if_neg (by decide), if_neg (by decide), h r]
theorem OZ {t : C2} (h : Good t) (hl : (tx t).length ≤ 900) : LX (tx t) [bare t] ∧ NB (tx t) := by
  have hp := h.pos
  refine ⟨fun s a r hs hd ho ts hr => ?_, PU h (by omega)⟩
  have hlen := congrArg List.length hd
  rw [List.length_drop, List.length_append] at hlen
  have hf : Cl (s.drop a) = some ((t.1, t.2.1, t.2.2.1, 0), ((tx t).length : Int)) := by
    rw [hd]
    rcases ho with rfl | ⟨c, r', rfl, h1, h2, h3⟩
    · rw [List.append_nil]; exact h.fst
    · rw [Km h1 h2 h3 hp (by simp only [List.length_append, List.length_cons] at hlen ⊢; omega)]; exact h.fst
  have hdr : s.drop (a + (tx t).length) = r := by rw [← List.drop_drop, hd, List.drop_left]
  exact ⟨[(t.1, t.2.1, t.2.2.1, (a : Int))], rfl, .cons (by omega) hf hp (by omega) (by rw [hdr]; exact hr)⟩
theorem Q8 {u v : List UInt8} {β γ : List Bk} (hu : LX u β) (hv : LX v γ) (ho : ∀ r, Ur (v ++ r)) (hn : NB v) : LX (u ++ v) (β ++ γ) := fun s a r hs hd hr ts h => by
  rw [List.append_assoc] at hd
  have hdr : s.drop (a + u.length) = v ++ r := by rw [← List.drop_drop, hd, List.drop_left]
  obtain ⟨t2, e2, r2⟩ := hv s (a + u.length) r hs hdr hr ts (by rw [List.length_append] at h; rw [show a + u.length + v.length = a + (u.length + v.length) by omega]; exact h)
  obtain ⟨t1, e1, r1⟩ := hu s a (v ++ r) hs hd (ho r) (t2 ++ ts) (by rw [hn r]; exact r2)
  exact ⟨t1 ++ t2, by rw [List.map_append, e1, e2], by rw [List.append_assoc]; exact r1⟩
theorem Jq {u v : List UInt8} {β γ : List Bk} (hu : LX u β) (hv : LX v γ) (hn : NB v) : LX (u ++ 32 :: v) (β ++ γ) := fun s a r hs hd hr ts h => by
  rw [List.append_assoc] at hd
  have hdr : s.drop (a + u.length + 1) = v ++ r := by
    rw [show a + u.length + 1 = a + (u ++ [32]).length by simp; omega, ← List.drop_drop, hd, show u ++ (32 :: v ++ r) = (u ++ [32]) ++ (v ++ r) by simp, List.drop_left]
  obtain ⟨t2, e2, r2⟩ := hv s (a + u.length + 1) r hs hdr hr ts (by
    rw [List.length_append, List.length_cons] at h
    rw [show a + u.length + 1 + v.length = a + (u.length + (v.length + 1)) by omega]; exact h)
  obtain ⟨t1, e1, r1⟩ := hu s a (32 :: (v ++ r)) hs hd (SF _) (t2 ++ ts) (by rw [TF hn]; exact r2)
  exact ⟨t1 ++ t2, by rw [List.map_append, e1, e2], by rw [List.append_assoc]; exact r1⟩
theorem Tx {v : List UInt8} {γ : List Bk} (hv : LX v γ) (hn : NB v) : LX (40 :: v) (sg [40] :: γ) := fun s a r hs hd hr ts h => by
  have hlen := congrArg List.length hd
  rw [List.length_drop, List.length_append, List.length_cons] at hlen
  have hf : Cl (s.drop a) = some ((3, 0, [40], 0), ((1 : Nat) : Int)) := by
    rw [hd, DQ (by simp) (by simp only [List.length_append, List.length_cons]; omega)]
    have h1 : Cc Jt (40 :: v ++ r) = 0 := by show Cc Jt (40 :: (v ++ r)) = 0; rw [DH, if_neg (by decide)]
    have h2 : Cc IA (40 :: v ++ r) = 0 := by show Cc IA (40 :: (v ++ r)) = 0; rw [DH, if_neg (by decide)]
    have h3 : ES (40 :: v ++ r) = 1 := by show ES (40 :: (v ++ r)) = 1; rw [Fg, if_pos (.inl (by decide))]
    rw [h1, h2, h3, if_neg (by decide), if_neg (by decide), if_neg (by decide)]; rfl
  have hdr : s.drop (a + 1) = v ++ r := by rw [← List.drop_drop, hd]; rfl
  obtain ⟨t2, e2, r2⟩ := hv s (a + 1) r hs hdr hr ts (by
    rw [List.length_cons] at h
    rw [show a + 1 + v.length = a + (v.length + 1) by omega]; exact h)
  exact ⟨(3, 0, [40], (a : Int)) :: t2, by rw [List.map_cons, e2], .cons (by omega) hf (by decide) (by omega) (by rw [hdr, hn r]; exact r2)⟩
theorem Rt {w : List UInt8} (h : Cc Jt w = w.length) (h0 : 0 < w.length) (hl : w.length ≤ 900) : Good (1, 0, w, 0) where
  pos := h0
  fst := by
    show Cl w = some ((1, 0, w, 0), (w.length : Int))
    rw [DQ h0 (by omega), if_pos (by omega), h, List.take_length]
  num := fun h => absurd h (show ¬ (1 : Int) = 2 by decide)
  kind := .inl rfl
theorem RQ {w : List UInt8} (h1 : Cc Jt w = 0) (h2 : Cc IA w = 0) (h : ES w = w.length) (h0 : 0 < w.length) (hl : w.length ≤ 900) : Good (3, 0, w, 0) where
  pos := h0
  fst := by
    show Cl w = some ((3, 0, w, 0), (w.length : Int))
    rw [DQ h0 (by omega), if_neg (by omega), if_neg (by omega), if_neg (by omega), h, List.take_length]
  num := fun h => absurd h (show ¬ (3 : Int) = 2 by decide)
  kind := .inr (.inr rfl)
theorem SB : ∀ n : Fin 1000, (∀ b ∈ d3 n.val, 48 ≤ b.toNat ∧ b.toNat ≤ 57) ∧ Cc Jt (d3 n.val) = 0 ∧ Cc IA (d3 n.val) = (d3 n.val).length := by decide +kernel
theorem Rw {n : Nat} (h : n < 1000) : Good (2, (n : Int), [], 0) := by
  obtain ⟨a1, a2, a3, _⟩ := NK ⟨n, h⟩
  obtain ⟨b1, b2, b3⟩ := SB ⟨n, h⟩
  simp only at a1 a2 a3 b1 b2 b3
  have e : tx (2, (n : Int), [], 0) = d3 n := by unfold tx; rw [if_pos rfl]; rfl
  have hnum : Cw (d3 n) = some ((2, (n : Int), [], 0), ((d3 n).length : Int)) := by
    rcases Qu b1 a3 (by omega) with ⟨e1, _⟩ | ⟨_, e2⟩
    · rw [e1, a1]
    · exfalso
      rw [JD, JN (v := (n : Int)) (x := n) (List.mem_range.2 h) (if_pos rfl) (fun y hy u hu => by
        by_cases c : d3 y = d3 n
        · rw [if_pos c] at hu
          rw [← Option.some.inj hu, ← Qk (List.mem_range.1 hy) c, a1]
        · rw [if_neg c] at hu; cases hu)] at e2
      have := Option.some.inj e2
      simp only at this; omega
  exact ⟨by rw [e]; omega, by
    rw [e, DQ (by omega) (by omega), b2, b3, if_neg (by decide), if_pos (by omega), List.take_length]; exact hnum, fun _ => by simp only; omega, .inr (.inl rfl)⟩
theorem Iv {w : List UInt8} (h : Cc Jt w = w.length) (h0 : 0 < w.length) (hl : w.length ≤ 900) : LX w [kw w] ∧ NB w := OZ (Rt h h0 hl) hl
theorem Ob {w : List UInt8} (h1 : Cc Jt w = 0) (h2 : Cc IA w = 0) (h : ES w = w.length) (h0 : 0 < w.length) (hl : w.length ≤ 900) : LX w [sg w] ∧ NB w := OZ (RQ h1 h2 h h0 hl) hl
theorem Sd {v : Int} (h0 : 0 ≤ v) (h : v < 1000) : LX (Lib.itoa v) [nb v] ∧ NB (Lib.itoa v) := by
  obtain ⟨n, rfl⟩ : ∃ n : Nat, v = (n : Int) := ⟨v.toNat, by omega⟩
  have hn : n < 1000 := by omega
  have e : tx (2, (n : Int), [], 0) = d3 n := by unfold tx; rw [if_pos rfl]; rfl
  have := OZ (Rw hn) (by rw [e]; have := (NK ⟨n, hn⟩).2.1; simp only at this; omega)
  rw [Lib.itoa_nonneg, QZ hn]
  rw [e] at this
  exact this
theorem Px {f : Int} (h0 : 0 ≤ f) (h5 : f ≤ 5) : LX (AY f) [kw (AY f)] ∧ NB (AY f) := by
  have : f = 0 ∨ f = 1 ∨ f = 2 ∨ f = 3 ∨ f = 4 ∨ f = 5 := by omega
  rcases this with rfl | rfl | rfl | rfl | rfl | rfl <;> exact Iv (by decide) (by decide) (by decide)
theorem R3 {u : List UInt8} {β : List Bk} (hu : LX u β) (hn : NB u) : LX ([40] ++ u ++ [41]) (sg [40] :: (β ++ [sg [41]])) ∧ NB ([40] ++ u ++ [41]) := by
  obtain ⟨c1, c2⟩ := Ob (w := [41]) (by decide) (by decide) (by decide) (by decide) (by decide)
  refine ⟨Tx (Q8 hu c1 (fun r => .inr ⟨41, r, rfl, by decide, by decide, by decide⟩) c2) (Gt hn), fun r => ?_⟩
  show BP false (40 :: _) = 0
  rw [DW, if_neg (by decide), if_neg (by decide), if_pos (by decide)]
def PO (sep : List UInt8) (sb : Bk) : Prop := ∀ {u : List UInt8} {β : List Bk} {v : List UInt8} {γ : List Bk}, LX u β → LX v γ → NB v → LX (u ++ (sep ++ v)) (β ++ sb :: γ)
theorem IE {w : List UInt8} {b : Bk} (h : LX w [b] ∧ NB w) : PO (32 :: (w ++ [32])) b := fun {u β v γ} hu hv hn => by
  have := Jq hu (Jq h.1 hv hn) (Gt h.2)
  rw [show u ++ (32 :: (w ++ [32]) ++ v) = u ++ 32 :: (w ++ 32 :: v) by simp]
  exact this
theorem QV : PO [59, 32] (sg [59]) := fun {u β v γ} hu hv hn => by
  obtain ⟨c1, c2⟩ := Ob (w := [59]) (by decide) (by decide) (by decide) (by decide) (by decide)
  exact Q8 hu (Jq c1 hv hn) (fun r => .inr ⟨59, 32 :: v ++ r, rfl, by decide, by decide, by decide⟩) (Gt c2)
theorem Ph {A : Type} {sep : List UInt8} {sb : Bk} (hs : PO sep sb) {g : A → List UInt8} {q : A → List Bk} : ∀ (r : List A), (∀ x ∈ r, LX (g x) (q x) ∧ NB (g x)) → ∀ {u : List UInt8} {β : List Bk}, LX u β → LX (u ++ Lib.joinTail sep (r.map g)) (β ++ (r.map fun x => sb :: q x).flatten)
  | [], _, u, β, hu => by
    show LX (u ++ []) (β ++ [])
    rw [List.append_nil, List.append_nil]; exact hu
  | y :: r, h, u, β, hu => by
    have h1 := h y (List.mem_cons_self ..)
    have := Ph hs r (fun x hx => h x (List.mem_cons_of_mem _ hx)) (hs hu h1.1 h1.2)
    rw [show u ++ Lib.joinTail sep ((y :: r).map g) = u ++ (sep ++ g y) ++ Lib.joinTail sep (r.map g) by simp [Lib.joinTail], show β ++ ((y :: r).map fun x => sb :: q x).flatten = β ++ sb :: q y ++ (r.map fun x => sb :: q x).flatten by simp]
    exact this
theorem J1 {A : Type} {sep : List UInt8} {sb : Bk} (hs : PO sep sb) {g : A → List UInt8} {q : A → List Bk} {L : List A} (h0 : 0 < L.length) (h : ∀ x ∈ L, LX (g x) (q x) ∧ NB (g x)) : LX (Lib.join (L.map g) sep) (jn sb (L.map q)) ∧ NB (Lib.join (L.map g) sep) := by
  cases L with
  | nil => cases h0
  | cons y r =>
    have h1 := h y (List.mem_cons_self ..)
    rw [Kw, List.map_cons, Lib.join_cons]
    exact ⟨Ph hs r (fun x hx => h x (List.mem_cons_of_mem _ hx)) h1.1, Gt h1.2⟩
theorem PK : ∀ (n : Nat) (t : Tr25), SizeOf.sizeOf t < n → Ij t = true → (LX (px t) (tk t) ∧ NB (px t)) ∧ LX (OC t) (Jp t) ∧ NB (OC t)
  | 0, t, h, _ => absurd h (Nat.not_lt_zero _)
  | n + 1, t, h, hf => by
    obtain ⟨h1, h2⟩ := (E9 t).1 hf
    have hch : ∀ x ∈ t.un.2.2.2, LX (OC x) (Jp x) ∧ NB (OC x) := fun x hx => (PK n x (by have := OD hx; omega) (h2 x hx)).2
    have key : LX (px t) (tk t) ∧ NB (px t) := by
      rw [Q0, OI]
      unfold TB SW
      by_cases g1 : t.un.1 = 1
      · rw [if_pos g1, if_pos g1]; exact Iv (by decide) (by decide) (by decide)
      rw [if_neg g1, if_neg g1]
      by_cases g2 : t.un.1 = 2
      · rw [if_pos g2, if_pos g2]; exact Iv (by decide) (by decide) (by decide)
      rw [if_neg g2, if_neg g2]
      by_cases g3 : t.un.1 = 3
      · have h4 := h1.2.2.2.1 g3
        have htb := Kz t.un.2.1
        have a := Px h4.1 h4.2.1
        have b := Ob (w := [61]) (by decide) (by decide) (by decide) (by decide) (by decide)
        have c := Sd (v := t.un.2.2.1) h4.2.2.1 (by omega)
        rw [if_pos g3, if_pos g3, show AY t.un.2.1 ++ [32, 61, 32] ++ Lib.itoa t.un.2.2.1 = AY t.un.2.1 ++ 32 :: ([61] ++ 32 :: Lib.itoa t.un.2.2.1) by simp]
        exact ⟨Jq a.1 (Jq b.1 c.1 c.2) (Gt b.2), Gt a.2⟩
      rw [if_neg g3, if_neg g3]
      by_cases g4 : t.un.1 = 4
      · obtain ⟨y, hy⟩ : ∃ y, t.un.2.2.2 = [y] := List.length_eq_one_iff.1 (h1.2.2.2.2.2.1 g4)
        have a := hch y (by rw [hy]; exact List.mem_cons_self ..)
        have b := Iv (w := [110, 111, 116]) (by decide) (by decide) (by decide)
        rw [if_pos g4, if_pos g4, show Lib.join (t.un.2.2.2.map OC) [] = OC y by rw [hy]; exact Lib.join_one _ _, show (t.un.2.2.2.map Jp).flatten = Jp y by rw [hy]; simp]
        exact ⟨Jq b.1 a.1 a.2, Gt (u := [110, 111, 116]) (v := 32 :: OC y) b.2⟩
      rw [if_neg g4, if_neg g4]
      have hl0 : 0 < t.un.2.2.2.length := by unfold Gi at h1; omega
      by_cases g5 : t.un.1 = 5
      · rw [if_pos g5, if_pos g5]
        exact J1 (IE (w := [97, 110, 100]) (Iv (by decide) (by decide) (by decide))) hl0 hch
      rw [if_neg g5, if_neg g5, if_pos (by unfold Gi at h1; omega)]
      exact J1 (IE (w := [111, 114]) (Iv (by decide) (by decide) (by decide))) hl0 hch
    refine ⟨key, ?_⟩
    show LX (wr _ _) (Qa _ _) ∧ NB (wr _ _)
    unfold wr Qa
    by_cases g : t.un.1 = 5 ∨ t.un.1 = 6
    · rw [if_pos g, if_pos g]; exact R3 key.1 key.2
    · rw [if_neg g, if_neg g]; exact key
theorem lx_pred' {t : Tr25} (h : Ij t = true) : LX (px t) (tk t) ∧ NB (px t) := (PK (SizeOf.sizeOf t + 1) t (by omega) h).1
theorem Qr : ∀ (n : Nat) (t : Tr28), SizeOf.sizeOf t < n → HV t = true → (LX (qx t) (tq t) ∧ NB (qx t)) ∧ LX (O0 t) (JL t) ∧ NB (O0 t)
  | 0, t, h, _ => absurd h (Nat.not_lt_zero _)
  | n + 1, t, h, hf => by
    obtain ⟨h1, h2⟩ := (E3 t).1 hf
    have hlin := h1.1.1
    unfold Fd at hlin
    have hch : ∀ x ∈ t.un.2.2.2.2, LX (O0 x) (JL x) ∧ NB (O0 x) := fun x hx => (Qr n x (by have := Se hx; omega) (h2 x hx)).2
    have key : LX (qx t) (tq t) ∧ NB (qx t) := by
      rw [Rk, N5]
      unfold Th SH
      by_cases g1 : t.un.1 = 1
      · have a := lx_pred' (h1.2 (.inl g1)).1
        rw [if_pos g1, if_pos g1]
        by_cases q1 : t.un.2.1.un.1 = 1
        · rw [if_pos q1, if_pos q1]; exact Iv (by decide) (by decide) (by decide)
        rw [if_neg q1, if_neg q1]
        by_cases q2 : t.un.2.1.un.1 = 2
        · rw [if_pos q2, if_pos q2]; exact Iv (by decide) (by decide) (by decide)
        rw [if_neg q2, if_neg q2]
        have b := Iv (w := [119, 104, 101, 110]) (by decide) (by decide) (by decide)
        exact ⟨Jq b.1 a.1 a.2, Gt (u := [119, 104, 101, 110]) (v := 32 :: px t.un.2.1) b.2⟩
      rw [if_neg g1, if_neg g1]
      by_cases g2 : t.un.1 = 2
      · have h4 := hlin.2.2.2.1 g2
        have htb := Kz t.un.2.2.1
        have a := Px h4.1 (by omega)
        have b := Ob (w := [58, 61]) (by decide) (by decide) (by decide) (by decide) (by decide)
        have c := Sd (v := t.un.2.2.2.1) h4.2.2.1 (by omega)
        have en : Ch t.un.2.2.1 = AY t.un.2.2.1 := by
          have : t.un.2.2.1 = 0 ∨ t.un.2.2.1 = 1 ∨ t.un.2.2.1 = 2 ∨ t.un.2.2.1 = 3 ∨ t.un.2.2.1 = 4 := by omega
          rcases this with h | h | h | h | h <;> rw [h] <;> rfl
        rw [if_pos g2, if_pos g2, en, show AY t.un.2.2.1 ++ [32, 58, 61, 32] ++ Lib.itoa t.un.2.2.2.1 = AY t.un.2.2.1 ++ 32 :: ([58, 61] ++ 32 :: Lib.itoa t.un.2.2.2.1) by simp]
        exact ⟨Jq a.1 (Jq b.1 c.1 c.2) (Gt b.2), Gt a.2⟩
      rw [if_neg g2, if_neg g2]
      have hl0 : 0 < t.un.2.2.2.2.length := by omega
      by_cases g3 : t.un.1 = 3
      · rw [if_pos g3, if_pos g3]
        exact J1 QV hl0 hch
      rw [if_neg g3, if_neg g3]
      by_cases g4 : t.un.1 = 4
      · rw [if_pos g4, if_pos g4]
        exact J1 (IE (w := [124]) (Ob (by decide) (by decide) (by decide) (by decide) (by decide))) hl0 hch
      have g5 : t.un.1 = 5 := by omega
      have a := lx_pred' (h1.2 (.inr g5)).1
      have b := Iv (w := [105, 102]) (by decide) (by decide) (by decide)
      have d := J1 (IE (w := [101, 108, 115, 101]) (Iv (by decide) (by decide) (by decide))) hl0 hch
      have e := IE (w := [116, 104, 101, 110]) (Iv (by decide) (by decide) (by decide)) a.1 d.1 d.2
      rw [if_neg g4, if_neg g4, if_pos g5, show [105, 102, 32] ++ px t.un.2.1 ++ [32, 116, 104, 101, 110, 32] ++ Lib.join (t.un.2.2.2.2.map O0) [32, 101, 108, 115, 101, 32] = [105, 102] ++ 32 :: (px t.un.2.1 ++ ([32, 116, 104, 101, 110, 32] ++ Lib.join (t.un.2.2.2.2.map O0) [32, 101, 108, 115, 101, 32])) by simp]
      exact ⟨Jq b.1 e (Gt a.2), Gt (u := [105, 102]) b.2⟩
    refine ⟨key, ?_⟩
    show LX (RX _ _) (Rm _ _) ∧ NB (RX _ _)
    unfold RX Rm
    by_cases g : t.un.1 = 3 ∨ t.un.1 = 4 ∨ t.un.1 = 5
    · rw [if_pos g, if_pos g]; exact R3 key.1 key.2
    · rw [if_neg g, if_neg g]; exact key
theorem lx_pol' {t : Tr28} (h : HV t = true) : LX (qx t) (tq t) ∧ NB (qx t) := (Qr (SizeOf.sizeOf t + 1) t (by omega) h).1
theorem Qz {A : Type} {sb : Bk} {q : A → List Bk} {c : A → Nat} : ∀ (L : List A), (∀ x ∈ L, (q x).length + 1 ≤ 6 * c x) → (jn sb (L.map q)).length ≤ 6 * (L.map c).sum
  | [], _ => Nat.zero_le _
  | x :: r, h => by
    have key : ∀ r : List A, (∀ x ∈ r, (q x).length + 1 ≤ 6 * c x) → (r.map fun x => sb :: q x).flatten.length ≤ 6 * (r.map c).sum := by
      intro r
      induction r with
      | nil => intro _; exact Nat.zero_le _
      | cons y r ih =>
        intro h
        have h1 := h y (List.mem_cons_self ..)
        have h2 := ih fun z hz => h z (List.mem_cons_of_mem _ hz)
        rw [List.map_cons, List.flatten_cons, List.length_append, List.length_cons, List.map_cons, List.sum_cons]; omega
    have h1 := h x (List.mem_cons_self ..)
    have h2 := key r fun z hz => h z (List.mem_cons_of_mem _ hz)
    rw [Kw, List.length_append, List.map_cons, List.sum_cons]; omega
theorem Rx (k : Int) (s : List Bk) : (Qa k s).length ≤ s.length + 2 := by unfold Qa; split <;> simp
theorem Ro (k : Int) (s : List Bk) : (Rm k s).length ≤ s.length + 2 := by unfold Rm; split <;> simp
theorem Rd : ∀ (n : Nat) (t : Tr25), SizeOf.sizeOf t < n → Ij t = true → (tk t).length + 3 ≤ 6 * t.cnt
  | 0, t, h, _ => absurd h (Nat.not_lt_zero _)
  | n + 1, t, h, hf => by
    obtain ⟨h1, h2⟩ := (E9 t).1 hf
    have hcc := II t
    have hch : ∀ x ∈ t.un.2.2.2, (Jp x).length + 1 ≤ 6 * x.cnt := fun x hx => by
      have := Rd n x (by have := OD hx; omega) (h2 x hx)
      have : (Jp x).length ≤ _ := Rx x.un.1 (tk x)
      omega
    have hj := fun sb => Qz (sb := sb) t.un.2.2.2 hch
    rw [OI]; unfold SW
    by_cases g1 : t.un.1 = 1
    · rw [if_pos g1]; simp only [List.length_cons, List.length_nil]; omega
    rw [if_neg g1]
    by_cases g2 : t.un.1 = 2
    · rw [if_pos g2]; simp only [List.length_cons, List.length_nil]; omega
    rw [if_neg g2]
    by_cases g3 : t.un.1 = 3
    · rw [if_pos g3]; simp only [List.length_cons, List.length_nil]; omega
    rw [if_neg g3]
    by_cases g4 : t.un.1 = 4
    · obtain ⟨y, hy⟩ : ∃ y, t.un.2.2.2 = [y] := List.length_eq_one_iff.1 (h1.2.2.2.2.2.1 g4)
      have := hch y (by rw [hy]; exact List.mem_cons_self ..)
      have hyc : t.cnt = 1 + y.cnt := by rw [hcc, hy]; simp
      rw [if_pos g4, show (t.un.2.2.2.map Jp).flatten = Jp y by rw [hy]; simp]
      simp only [List.length_cons]; omega
    rw [if_neg g4]
    by_cases g5 : t.un.1 = 5
    · have := hj (kw [97, 110, 100])
      rw [if_pos g5]; omega
    · have := hj (kw [111, 114])
      rw [if_neg g5]; omega
theorem QA : ∀ (n : Nat) (t : Tr28), SizeOf.sizeOf t < n → HV t = true → (tq t).length + 3 ≤ 6 * sz t
  | 0, t, h, _ => absurd h (Nat.not_lt_zero _)
  | n + 1, t, h, hf => by
    obtain ⟨h1, h2⟩ := (E3 t).1 hf
    have hcc := LC t
    have hch : ∀ x ∈ t.un.2.2.2.2, (JL x).length + 1 ≤ 6 * sz x := fun x hx => by
      have := QA n x (by have := Se hx; omega) (h2 x hx)
      have : (JL x).length ≤ _ := Ro x.un.1 (tq x)
      omega
    have hj := fun sb => Qz (sb := sb) t.un.2.2.2.2 hch
    have hp : t.un.1 = 1 ∨ t.un.1 = 5 → (tk t.un.2.1).length + 3 ≤ 6 * t.un.2.1.cnt := fun h => Rd (SizeOf.sizeOf t.un.2.1 + 1) _ (by omega) (h1.2 h).1
    rw [N5]; unfold SH
    by_cases g1 : t.un.1 = 1
    · have := hp (.inl g1)
      rw [if_pos (by omega)] at hcc
      rw [if_pos g1]
      split
      · simp only [List.length_cons, List.length_nil]; omega
      · split
        · simp only [List.length_cons, List.length_nil]; omega
        · simp only [List.length_cons]; omega
    rw [if_neg g1]
    by_cases g2 : t.un.1 = 2
    · rw [if_pos g2]; simp only [List.length_cons, List.length_nil]; omega
    rw [if_neg g2]
    by_cases g3 : t.un.1 = 3
    · have := hj (sg [59])
      rw [if_pos g3]; omega
    rw [if_neg g3]
    by_cases g4 : t.un.1 = 4
    · have := hj (sg [124])
      rw [if_pos g4]; omega
    have g5 : t.un.1 = 5 := by have := h1.1.1; unfold Fd at this; omega
    have := hj (kw [101, 108, 115, 101])
    have := hp (.inr g5)
    rw [if_pos (by omega)] at hcc
    rw [if_neg g4]; simp only [List.length_cons, List.length_append]; omega
theorem So : ∀ (ts pre post : List C2), Sp (pre ++ (ts ++ post)) pre.length (ts.map bare)
  | [], _, _ => trivial
  | t :: ts, pre, post => by
    have := So ts (pre ++ [t]) post
    rw [List.length_append, List.append_assoc] at this
    exact ⟨⟨by simp, by rw [List.getElem_append_right (Nat.le_refl _)]; simp⟩, this⟩
theorem QI {u : List UInt8} {β : List Bk} (h : LX u β ∧ NB u) (hu : u.length ≤ 4000) (hb : β.length ≤ 500) : ∃ ts, EM u = some (ts ++ [Fh u], 0, 0) ∧ Tks (ts ++ [Fh u]) ∧ ts.length = β.length ∧ Sp (ts ++ [Fh u]) 0 β := by
  obtain ⟨ts, e, r⟩ := h.1 u 0 [] hu (by rw [List.drop_zero, List.append_nil]) (.inl rfl) [] (.nil (by show u.length ≤ 0 + u.length + 0; omega))
  rw [List.append_nil] at r
  have hl : ts.length = β.length := by rw [← e, List.length_map]
  have h0 : BP false u = 0 := by have := h.2 []; rwa [List.append_nil] at this
  refine ⟨ts, lex_run' hu (by rw [h0]; exact r) (by omega), Nj hu r (by omega), hl, ?_⟩
  have := So ts [] [Fh u]
  rw [e] at this
  exact this
theorem S0 {ts : List C2} {s : List UInt8} (S : List (List UInt8)) : No (ts ++ [Fh s]) ts.length S := by
  refine ⟨by simp, fun w _ => ?_⟩
  rw [List.getElem_append_right (Nat.le_refl _)]
  unfold F3
  exact decide_eq_false (fun h => by simp at h)
theorem OS {x : Tr28} (hf : HV x = true) (hs : sz x ≤ 64) : B0 (qx x) = some (x, 0, 0) := by
  have hb := QA (SizeOf.sizeOf x + 1) x (by omega) hf
  have hq := qx_len' hf
  obtain ⟨ts, h1, hl, h2, h3⟩ := QI (lx_pol' hf) (by omega) (by omega)
  have p1 : Bv (ts ++ [Fh (qx x)], 0) = _ := pol_ok' hl hf (j := 0) h3 (by rw [Nat.zero_add, ← h2]; exact S0 _)
  rw [Nat.zero_add, ← h2] at p1
  have e2 : BS (ts ++ [Fh (qx x)], (ts.length : Int)) = _ := Q1 (i := ts.length) (by simp) (by rw [List.getElem_append_right (Nat.le_refl _)]; simp)
  unfold B0 EJ
  simp only [Gw, GE, Ad, B8]
  rw [h1]
  simp only [Option.bind_some]
  rw [if_neg (fun q => q rfl)]
  simp only [B1, Option.bind_some, p1, e2]
end Go.Proofs.YtlgjpoapclifbaaDoor
