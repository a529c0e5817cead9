/- Layer 29: ParseBack: trees that may be, their texts, what is spelled is read. Conditions: none. -/
import Derived.Test.YtlgjpoapclifbaaDoorcM29Q
import Derived.Test.YtlgjpoapclifbaaDoorcEV2
namespace Go.Proofs.YtlgjpoapclifbaaDoor
set_option linter.unusedVariables false
set_option linter.unusedSimpArgs false
open Go Go.RowKit
def mi : Tr34 → Tr25
  | .mk k f v l => .mk k f v (l.map mi)
theorem KU (t : Tr34) : (mi t).un = (t.un.1, t.un.2.1, t.un.2.2.1, t.un.2.2.2.map mi) := by cases t; rw [mi]; rfl
theorem UJ (t : Tr34) : mi t = Tr25.of (t.un.1, t.un.2.1, t.un.2.2.1, t.un.2.2.2.map mi) := by cases t; rw [mi]; rfl
theorem R3 : ∀ (n : Nat) (t : Tr34), SizeOf.sizeOf t < n → (mi t).cnt = t.cnt
  | 0, t, h => absurd h (Nat.not_lt_zero _)
  | n + 1, t, h => by
    rw [IM, Pf, KU]
    show 1 + ((t.un.2.2.2.map mi).map Tr25.cnt).sum = _
    rw [List.map_map]
    congr 2
    exact List.map_congr_left fun x hx => R3 n x (by have := Pe hx; omega)
theorem SG : ∀ (n : Nat) (t : Tr34), SizeOf.sizeOf t < n → t.cnt ≤ 1048576 → Ds n t = some (mi t)
  | 0, t, h, _ => absurd h (Nat.not_lt_zero _)
  | n + 1, t, h, hc => by
    have hl := Ur t
    show Er (Ds n) t = _
    unfold Er
    obtain ⟨o, h1, h2⟩ := EN t.un.2.2.2.length (fun (o : List Tr25) (i : Nat) => ((i : Int), o)) (C3 (Ds n) t) id (fun o i => o = (t.un.2.2.2.take i).map mi)
      (fun o i hi ho => by
        have hm := List.getElem_mem hi
        have hx := SG n t.un.2.2.2[i] (by have := Pe hm; omega) (Nat.le_trans (Tn hm) hc)
        refine ⟨o ++ [mi t.un.2.2.2[i]], ?_, by rw [ho, List.take_succ_eq_append_getElem hi, List.map_append]; rfl⟩
        rw [C3, if_pos (by omega), C0 (List.getElem?_eq_getElem hi), Option.bind_some, hx, Option.bind_some, BS (by rw [ho]; simp; omega), Option.bind_some, BN (by omega)]; rfl)
      (fun o _ => by rw [C3, if_neg (by omega)]; rfl) [] rfl
    rw [List.take_length] at h1
    have h2' : Br (C3 (Ds n) t) (0, []) = some o := h2
    rw [h2', h1, Option.bind_some, ← UJ]
theorem Qw {t : Tr34} (hc : t.cnt ≤ 1048576) : I9 t = some (mi t) := B9 (g := fun n => Ds n t) (fun n r h => JS n t r h) (SG (SizeOf.sizeOf t + 1) t (by omega) hc)
theorem QY : ∀ (n : Nat) (t : Tr34), SizeOf.sizeOf t < n → t.cnt ≤ 1048576 → Dy n t = some (t.cnt : Int)
  | 0, t, h, _ => absurd h (Nat.not_lt_zero _)
  | n + 1, t, h, hc => by
    have hl := Ur t
    have hcc := Pf t
    show Em (Dy n) t = _
    unfold Em
    obtain ⟨o, h1, h2⟩ := EN t.un.2.2.2.length (fun (o : Int) (i : Nat) => (o, (i : Int))) (C1 (Dy n) t) id (fun o i => o = 1 + (((t.un.2.2.2.take i).map Tr34.cnt).sum : Nat))
      (fun o i hi ho => by
        have hm := List.getElem_mem hi
        have hx := QY n t.un.2.2.2[i] (by have := Pe hm; omega) (Nat.le_trans (Tn hm) hc)
        have hs : ((t.un.2.2.2.take (i + 1)).map Tr34.cnt).sum = ((t.un.2.2.2.take i).map Tr34.cnt).sum + t.un.2.2.2[i].cnt := by
          rw [List.take_succ_eq_append_getElem hi, List.map_append, List.sum_append]; simp
        have hle := O1 (g := Tr34.cnt) t.un.2.2.2 (i + 1)
        refine ⟨o + (t.un.2.2.2[i].cnt : Int), ?_, by rw [ho, hs]; omega⟩
        rw [C1, if_pos (by omega), C0 (List.getElem?_eq_getElem hi), Option.bind_some, hx, Option.bind_some, BN (by rw [ho]; omega), BN (by omega)]; rfl)
      (fun o _ => by rw [C1, if_neg (by omega)]; rfl) 1 (by simp)
    rw [List.take_length] at h1
    have h2' : Br (C1 (Dy n) t) (1, 0) = some o := h2
    rw [h2', h1, Option.bind_some, hcc]
    congr 1
theorem OV {t : Tr34} (hc : t.cnt ≤ 1048576) : IY t = some (t.cnt : Int) := B9 (g := fun n => Dy n t) (fun n r h => JK n t r h) (QY (SizeOf.sizeOf t + 1) t (by omega) hc)
theorem TF : ∀ (n : Nat) (t : Tr34), SizeOf.sizeOf t < n → th (mi t) = t
  | 0, t, h => absurd h (Nat.not_lt_zero _)
  | n + 1, t, h => by
    rw [Tx, KU]
    show Tr34.of (t.un.1, t.un.2.1, t.un.2.2.1, (t.un.2.2.2.map mi).map th) = t
    rw [List.map_map, show t.un.2.2.2.map (th ∘ mi) = t.un.2.2.2 from map_id_in fun x hx => TF n x (by have := Pe hx; omega)]
    exact T8 t
where map_id_in {α : Type} {g : α → α} : ∀ {l : List α}, (∀ x ∈ l, g x = x) → l.map g = l
  | [], _ => rfl
  | x :: l, h => by rw [List.map_cons, h x (List.mem_cons_self ..), map_id_in fun y hy => h y (List.mem_cons_of_mem _ hy)]
theorem th_mi' (t : Tr34) : th (mi t) = t := TF (SizeOf.sizeOf t + 1) t (by omega)
theorem TZ {a b : Tr34} (h : mi a = mi b) : a = b := by rw [← th_mi' a, h, th_mi' b]
def mx : List Nat → Nat
  | [] => 0
  | a :: l => max a (mx l)
theorem TI {l : List Nat} {b : Nat} (h : ∀ a ∈ l, a ≤ b) : mx l ≤ b := by
  induction l with
  | nil => exact Nat.zero_le _
  | cons x l ih => exact Nat.max_le.2 ⟨h x (List.mem_cons_self ..), ih fun a ha => h a (List.mem_cons_of_mem _ ha)⟩
theorem Q9 (l : List Nat) (a : Nat) : mx (l ++ [a]) = max (mx l) a := by
  induction l with
  | nil => simp [mx]
  | cons x l ih => rw [List.cons_append, mx, ih, mx, Nat.max_assoc]
def dp : Tr25 → Nat
  | .mk _ _ _ l => 1 + mx (l.map dp)
theorem TL (t : Tr25) : dp t = 1 + mx (t.un.2.2.2.map dp) := by cases t; rw [dp]; rfl
theorem Si : ∀ (n : Nat) (t : Tr25), SizeOf.sizeOf t < n → dp t ≤ t.cnt
  | 0, t, h => absurd h (Nat.not_lt_zero _)
  | n + 1, t, h => by
    rw [TL, IM]
    have : mx (t.un.2.2.2.map dp) ≤ (t.un.2.2.2.map Tr25.cnt).sum := TI fun a ha => by
      obtain ⟨x, hx, rfl⟩ := List.mem_map.1 ha
      exact Nat.le_trans (Si n x (by have := Qc hx; omega)) (Iq (g := Tr25.cnt) hx)
    omega
theorem UO (t : Tr34) : dp (mi t) = 1 + mx (t.un.2.2.2.map fun x => dp (mi x)) := by rw [TL, KU, List.map_map]; rfl
theorem Ou (t : Tr34) : (mi t).cnt = t.cnt := R3 (SizeOf.sizeOf t + 1) t (by omega)
theorem Qp : ∀ (n : Nat) (t : Tr34), SizeOf.sizeOf t < n → t.cnt ≤ 1048576 → DA n t = some (dp (mi t) : Int)
  | 0, t, h, _ => absurd h (Nat.not_lt_zero _)
  | n + 1, t, h, hc => by
    have hl := Ur t
    show Ec (DA n) t = _
    unfold Ec
    obtain ⟨o, h1, h2⟩ := EN t.un.2.2.2.length (fun (o : Int) (i : Nat) => (o, (i : Int))) (C4 (DA n) t) id (fun o i => o = 1 + (mx ((t.un.2.2.2.take i).map fun x => dp (mi x)) : Nat))
      (fun o i hi ho => by
        have hm := List.getElem_mem hi
        have hx := Qp n t.un.2.2.2[i] (by have := Pe hm; omega) (Nat.le_trans (Tn hm) hc)
        have hd := Si (SizeOf.sizeOf (mi t.un.2.2.2[i]) + 1) (mi t.un.2.2.2[i]) (by omega)
        rw [Ou] at hd
        have hcl := Tn hm
        refine ⟨max o (dp (mi t.un.2.2.2[i]) + 1 : Int), ?_, by rw [ho, List.take_succ_eq_append_getElem hi, List.map_append, List.map_cons, List.map_nil, Q9]; omega⟩
        rw [C4, if_pos (by omega), C0 (List.getElem?_eq_getElem hi), Option.bind_some, hx, Option.bind_some, BN (by omega)]
        by_cases q : o < (dp (mi t.un.2.2.2[i]) : Int) + 1
        · rw [if_pos q, Option.bind_some, hx, Option.bind_some, BN (by omega), Option.bind_some, BN (by omega)]
          rw [show max o ((dp (mi t.un.2.2.2[i]) : Int) + 1) = (dp (mi t.un.2.2.2[i]) : Int) + 1 by omega]; rfl
        · rw [if_neg q, Option.bind_some, BN (by omega)]
          rw [show max o ((dp (mi t.un.2.2.2[i]) : Int) + 1) = o by omega]; rfl)
      (fun o _ => by rw [C4, if_neg (by omega)]; rfl) 1 (by simp [mx])
    rw [List.take_length] at h1
    have h2' : Br (C4 (DA n) t) (1, 0) = some o := h2
    rw [h2', h1, Option.bind_some, UO]
    exact congrArg some (by omega)
theorem Se {t : Tr34} (hc : t.cnt ≤ 1048576) : LZ t = some (dp (mi t) : Int) := B9 (g := fun n => DA n t) (fun n r h => JD n t r h) (Qp (SizeOf.sizeOf t + 1) t (by omega) hc)
theorem HG (f : Int) : 0 ≤ EF f ∧ EF f ≤ 255 := by
  unfold EF Kb
  split
  · omega
  · split
    · omega
    · split <;> omega
abbrev H4 (k f v : Int) (n : Nat) : Prop := 1 ≤ k ∧ k ≤ 6 ∧ (k ≠ 3 → f = 0 ∧ v = 0) ∧ (k = 3 → 0 ≤ f ∧ f ≤ 5 ∧ 0 ≤ v ∧ v ≤ EF f) ∧ (k ≤ 3 → n = 0) ∧ (k = 4 → n = 1) ∧ (5 ≤ k → 2 ≤ n ∧ n ≤ 8)
def E1 : Tr25 → Bool
  | .mk k f v l => decide (H4 k f v l.length) && (l.map E1).all id
theorem Gt (t : Tr25) : E1 t = true ↔ H4 t.un.1 t.un.2.1 t.un.2.2.1 t.un.2.2.2.length ∧ ∀ x ∈ t.un.2.2.2, E1 x = true := by
  cases t with
  | mk k f v l =>
    rw [E1, Bool.and_eq_true, decide_eq_true_eq, List.all_map, List.all_eq_true]; rfl
abbrev ON (t : Tr25) (b d : Int) : Prop := E1 t = true ∧ (dp t : Int) ≤ d ∧ (t.cnt : Int) ≤ b
theorem Mq (t : Tr34) : E1 (mi t) = true ↔ H4 t.un.1 t.un.2.1 t.un.2.2.1 t.un.2.2.2.length ∧ ∀ x ∈ t.un.2.2.2, E1 (mi x) = true := by
  rw [Gt, KU]
  show H4 _ _ _ (t.un.2.2.2.map mi).length ∧ _ ↔ _
  rw [List.length_map]
  refine and_congr_right fun _ => ⟨fun h x hx => h _ (List.mem_map.2 ⟨x, hx, rfl⟩), fun h x hx => ?_⟩
  obtain ⟨y, hy, rfl⟩ := List.mem_map.1 hx
  exact h y hy
theorem Q4 : ∀ (n : Nat) (t : Tr34), SizeOf.sizeOf t < n → t.cnt ≤ 1048576 → Dz n t = some (E1 (mi t))
  | 0, t, h, _ => absurd h (Nat.not_lt_zero _)
  | n + 1, t, h, hc => by
    have hl := Ur t
    have htb := HG t.un.2.1
    show Ed (Dz n) t = _
    unfold Ed
    have no : ¬ H4 t.un.1 t.un.2.1 t.un.2.2.1 t.un.2.2.2.length → E1 (mi t) = false := fun hn => by
      cases hh : E1 (mi t) with
      | false => rfl
      | true => exact absurd ((Mq t).1 hh).1 hn
    by_cases g1 : (bif decide (t.un.1 ≠ 3) then (decide (t.un.2.1 ≠ 0) || (decide (t.un.2.2.1 ≠ 0) || (decide (t.un.1 < 1) || decide (6 < t.un.1)))) else (decide (t.un.1 < 1) || decide (6 < t.un.1))) = true
    · rw [if_pos g1, no (fun hf => by
        unfold H4 at hf
        by_cases c : t.un.1 = 3
        · simp [c] at g1
        · rw [show decide (t.un.1 ≠ 3) = true from decide_eq_true c] at g1
          simp only [cond_true, Bool.or_eq_true, decide_eq_true_eq] at g1
          omega)]
    rw [if_neg g1]
    by_cases g2 : (decide (t.un.1 = 3) && (decide (t.un.2.1 < 0) || (decide (5 < t.un.2.1) || (decide (t.un.2.2.1 < 0) || decide ((EF t.un.2.1) < t.un.2.2.1))))) = true
    · rw [if_pos g2, no (fun hf => by
        unfold H4 at hf
        simp only [Bool.and_eq_true, Bool.or_eq_true, decide_eq_true_eq] at g2
        omega)]
    rw [if_neg g2]
    by_cases g3 : (bif decide (t.un.1 ≤ 3) then (decide ((t.un.2.2.2.length : Int) ≠ 0) || (bif decide (t.un.1 = 4) then (decide ((t.un.2.2.2.length : Int) ≠ 1) || (decide (5 ≤ t.un.1) && (decide ((t.un.2.2.2.length : Int) < 2) || decide (8 < (t.un.2.2.2.length : Int))))) else (decide (5 ≤ t.un.1) && (decide ((t.un.2.2.2.length : Int) < 2) || decide (8 < (t.un.2.2.2.length : Int)))))) else (bif decide (t.un.1 = 4) then (decide ((t.un.2.2.2.length : Int) ≠ 1) || (decide (5 ≤ t.un.1) && (decide ((t.un.2.2.2.length : Int) < 2) || decide (8 < (t.un.2.2.2.length : Int))))) else (decide (5 ≤ t.un.1) && (decide ((t.un.2.2.2.length : Int) < 2) || decide (8 < (t.un.2.2.2.length : Int)))))) = true
    · rw [if_pos g3, no (fun hf => by
        unfold H4 at hf
        by_cases c : t.un.1 ≤ 3
        · rw [show decide (t.un.1 ≤ 3) = true from decide_eq_true c, show decide (t.un.1 = 4) = false from decide_eq_false (by omega)] at g3
          simp only [cond_true, cond_false, Bool.or_eq_true, Bool.and_eq_true, decide_eq_true_eq] at g3
          omega
        · by_cases c4 : t.un.1 = 4
          · rw [show decide (t.un.1 ≤ 3) = false from decide_eq_false c, show decide (t.un.1 = 4) = true from decide_eq_true c4] at g3
            simp only [cond_true, cond_false, Bool.or_eq_true, Bool.and_eq_true, decide_eq_true_eq] at g3
            omega
          · rw [show decide (t.un.1 ≤ 3) = false from decide_eq_false c, show decide (t.un.1 = 4) = false from decide_eq_false c4] at g3
            simp only [cond_true, cond_false, Bool.or_eq_true, Bool.and_eq_true, decide_eq_true_eq] at g3
            omega)]
    rw [if_neg g3]
    have hfl : H4 t.un.1 t.un.2.1 t.un.2.2.1 t.un.2.2.2.length := by
      simp only [Bool.and_eq_true, Bool.or_eq_true, decide_eq_true_eq, not_and, not_or] at g2
      by_cases c3 : t.un.1 = 3
      · rw [show decide (t.un.1 ≤ 3) = true from decide_eq_true (by omega), show decide (t.un.1 = 4) = false from decide_eq_false (by omega)] at g3
        simp only [cond_true, cond_false, Bool.or_eq_true, Bool.and_eq_true, decide_eq_true_eq] at g3
        have := g2 c3
        unfold H4; omega
      · by_cases cl : t.un.1 ≤ 3
        · have c4 : ¬ t.un.1 = 4 := by omega
          simp [c3, cl, c4] at g1 g3
          unfold H4
          have : t.un.2.2.2.length = 0 := by
            rw [List.length_eq_zero_iff]
            exact g3.1
          omega
        · by_cases c4 : t.un.1 = 4
          · simp [c3, cl, c4] at g1 g3
            unfold H4; omega
          · simp [c3, cl, c4] at g1 g3
            unfold H4; omega
    have hx : ∀ x ∈ t.un.2.2.2, Dz n x = some (E1 (mi x)) := fun x hm => Q4 n x (by have := Pe hm; omega) (Nat.le_trans (Tn hm) hc)
    rw [J5 t.un.2.2.2.length (Eg (Dz n) t) (fun k => ∃ e, t.un.2.2.2[k]? = some e ∧ E1 (mi e) = false) false (fun k hk => by
      rw [Eg, if_pos (by omega), C0 (List.getElem?_eq_getElem hk), Option.bind_some, hx _ (List.getElem_mem hk), Option.bind_some, BN (by omega)]
      cases hq : E1 (mi t.un.2.2.2[k]) with
      | true => rw [if_neg (by decide), if_neg (fun hh => by rw [LB hk, hq] at hh; cases hh)]; rfl
      | false => rw [if_pos (by decide), if_pos ((LB hk).2 hq)]) (by rw [Eg, if_neg (by omega)])]
    by_cases e : ∃ k, k < t.un.2.2.2.length ∧ ∃ e, t.un.2.2.2[k]? = some e ∧ E1 (mi e) = false
    · rw [if_pos e]
      obtain ⟨x, hxm, hxf⟩ := N8.1 e
      have : E1 (mi t) = false := by
        cases hh : E1 (mi t) with
        | false => rfl
        | true => rw [((Mq t).1 hh).2 x hxm] at hxf; cases hxf
      rw [this]; rfl
    · rw [if_neg e]
      have : E1 (mi t) = true := (Mq t).2 ⟨hfl, fun x hxm => by
        cases hh : E1 (mi x) with
        | true => rfl
        | false => exact absurd (N8.2 ⟨x, hxm, hh⟩) e⟩
      rw [this]; rfl
theorem Nt {t : Tr34} (hc : t.cnt ≤ 1048576) : FI t = some (decide (ON (mi t) 64 8)) := by
  have hcm := Ou t
  unfold FI
  rw [show LP t = some (E1 (mi t)) from B9 (g := fun n => Dz n t) (fun n r h => JQ n t r h) (Q4 (SizeOf.sizeOf t + 1) t (by omega) hc), Option.bind_some]
  by_cases hf : E1 (mi t) = true
  case neg => rw [if_neg hf, Option.bind_some, decide_eq_false (fun h => hf h.1)]
  case pos =>
    rw [if_pos hf, OV hc, Option.bind_some]
    by_cases c : (t.cnt : Int) ≤ 64
    · rw [if_pos c, Se hc, Option.bind_some, Option.bind_some]
      exact congrArg some (decide_eq_decide.2 ⟨fun h => ⟨hf, h, by omega⟩, fun h => h.2.1⟩)
    · rw [if_neg c, Option.bind_some, decide_eq_false (fun h => by have := h.2.2; omega)]
def wr (k : Int) (s : List UInt8) : List UInt8 := if k = 5 ∨ k = 6 then [40] ++ s ++ [41] else s
def Up (k f v : Int) (L : List (List UInt8)) : List UInt8 :=
  if k = 1 then [116, 114, 117, 101] else if k = 2 then [102, 97, 108, 115, 101] else if k = 3 then AQ f ++ [32, 61, 32] ++ Lib.itoa v else if k = 4 then [110, 111, 116, 32] ++ Lib.join L []
  else if k = 5 then Lib.join L [32, 97, 110, 100, 32] else if k = 6 then Lib.join L [32, 111, 114, 32] else [63]
def px : Tr25 → List UInt8
  | .mk k f v l => Up k f v (l.map fun x => wr x.un.1 (px x))
abbrev Jk (x : Tr25) : List UInt8 := wr x.un.1 (px x)
theorem Qq (t : Tr25) : px t = Up t.un.1 t.un.2.1 t.un.2.2.1 (t.un.2.2.2.map Jk) := by cases t; rw [px]; rfl
theorem KV (sep : List UInt8) (hs : sep.length ≤ 5) : ∀ (r : List (List UInt8)), (Lib.joinTail sep r).length ≤ (r.map fun s => s.length + 5).sum
  | [] => Nat.le_refl _
  | y :: r => by
    have := KV sep hs r
    unfold Lib.joinTail at this ⊢
    rw [List.map_cons, List.flatten_cons, List.length_append, List.length_append, List.map_cons, List.sum_cons]; omega
theorem Qt {sep : List UInt8} (hs : sep.length ≤ 5) : ∀ (r : List (List UInt8)), (Lib.join r sep).length ≤ (r.map fun s => s.length + 5).sum
  | [] => by rw [Lib.join_nil]; exact Nat.zero_le _
  | y :: r => by
    have := KV sep hs r
    rw [Lib.join_cons, List.length_append, List.map_cons, List.sum_cons]; omega
theorem PV : ∀ (l : List Tr25), (∀ x ∈ l, (px x).length + 8 ≤ 40 * x.cnt) → ((l.map Jk).map fun s => s.length + 5).sum ≤ 40 * (l.map Tr25.cnt).sum
  | [], _ => Nat.le_refl _
  | x :: l, h => by
    have h1 := h x (List.mem_cons_self ..)
    have h2 := PV l fun y hy => h y (List.mem_cons_of_mem _ hy)
    have h3 : (Jk x).length ≤ (px x).length + 2 := by
      show (wr _ _).length ≤ _
      unfold wr; split <;> simp
    rw [List.map_cons, List.map_cons, List.sum_cons, List.map_cons, List.sum_cons]; omega
theorem Mc (f : Int) : (AQ f).length ≤ 6 := by unfold AQ; split; (· decide); split; (· decide); split; (· decide); split; (· decide); split; (· decide); split <;> decide
theorem I6 : ∀ (n : Nat) (t : Tr25), SizeOf.sizeOf t < n → E1 t = true → (px t).length + 8 ≤ 40 * t.cnt
  | 0, t, h, _ => absurd h (Nat.not_lt_zero _)
  | n + 1, t, h, hf => by
    obtain ⟨h1, h2⟩ := (Gt t).1 hf
    have hcc := IM t
    have hs := PV t.un.2.2.2 fun x hx => I6 n x (by have := Qc hx; omega) (h2 x hx)
    have j := fun sep hsl => Qt (sep := sep) hsl (t.un.2.2.2.map Jk)
    rw [Qq]; unfold Up
    by_cases g1 : t.un.1 = 1
    · rw [if_pos g1]; simp; omega
    rw [if_neg g1]
    by_cases g2 : t.un.1 = 2
    · rw [if_pos g2]; simp; omega
    rw [if_neg g2]
    by_cases g3 : t.un.1 = 3
    · have := h1.2.2.2.1 g3
      have htb := HG t.un.2.1
      have := H8 (n := t.un.2.2.1) (by omega)
      have := Mc t.un.2.1
      rw [if_pos g3]; simp; omega
    rw [if_neg g3]
    by_cases g4 : t.un.1 = 4
    · have hl1 := h1.2.2.2.2.2.1 g4
      obtain ⟨y, hy⟩ := List.length_eq_one_iff.1 hl1
      have hj : Lib.join (t.un.2.2.2.map Jk) [] = Jk y := by rw [hy]; exact Lib.join_one _ _
      have h5 := I6 n y (by have := Qc (t := t) (x := y) (by rw [hy]; exact List.mem_cons_self ..); omega) (h2 y (by rw [hy]; exact List.mem_cons_self ..))
      have h6 : (Jk y).length ≤ (px y).length + 2 := by
        show (wr _ _).length ≤ _
        unfold wr; split <;> simp
      have h7 : t.cnt = 1 + y.cnt := by rw [hcc, hy]; simp
      rw [if_pos g4, hj, List.length_append]
      simp only [List.length_cons, List.length_nil]; omega
    rw [if_neg g4]
    by_cases g5 : t.un.1 = 5
    · have := j [32, 97, 110, 100, 32] (by decide)
      rw [if_pos g5]; omega
    rw [if_neg g5]
    by_cases g6 : t.un.1 = 6
    · have := j [32, 111, 114, 32] (by decide)
      rw [if_pos g6]; omega
    rw [if_neg g6]; simp; omega
theorem KJ {F : Tr25 → Option (List UInt8)} {l : List Tr25} (hl : l.length ≤ 1000000) (hF : ∀ x ∈ l, F x = some (px x)) (hb : ∀ x ∈ l, (px x).length ≤ 1000000) {sep : List UInt8} (hj : (Lib.join (l.map Jk) sep).length ≤ 1000000000) : DI F l sep = some (Lib.join (l.map Jk) sep) := by
  unfold DI
  rw [NN l (by omega) Jk (CG F l) (fun k hk out ho => by
    have hm := List.getElem_mem hk
    have hb' := hb _ hm
    rw [CG, if_pos (by omega), C0 (List.getElem?_eq_getElem hk), Option.bind_some, hF _ hm, Option.bind_some]
    show _ = (DQ out [wr l[k].un.1 (px l[k])]).bind _
    unfold wr
    by_cases c : l[k].un.1 = 5 ∨ l[k].un.1 = 6
    · rw [if_pos (by simpa using c), if_pos c, BS (by simp; omega), Option.bind_some, BS (by simp; omega)]; rfl
    · rw [if_neg (by simpa using c), if_neg c]; rfl) (fun out => by rw [CG, if_neg (by omega)]), Option.bind_some]
  unfold HM
  rw [if_pos ⟨by rw [List.length_map]; omega, hj⟩]; rfl
theorem QG : ∀ (n : Nat) (t : Tr25), SizeOf.sizeOf t < n → t.cnt ≤ 1000 → E1 t = true → CV n t = some (px t)
  | 0, t, h, _, _ => absurd h (Nat.not_lt_zero _)
  | n + 1, t, h, hc, hf => by
    obtain ⟨h1, h2⟩ := (Gt t).1 hf
    have hl := VL t
    have hlen := I6 (SizeOf.sizeOf t + 1) t (by omega) hf
    have hF : ∀ x ∈ t.un.2.2.2, CV n x = some (px x) := fun x hx => QG n x (by have := Qc hx; omega) (by have := Vx hx; omega) (h2 x hx)
    have hb : ∀ x ∈ t.un.2.2.2, (px x).length ≤ 1000000 := fun x hx => by
      have := I6 (SizeOf.sizeOf x + 1) x (by omega) (h2 x hx)
      have := Vx hx
      omega
    show CZ (CV n) t = _
    unfold CZ
    rw [Qq] at hlen ⊢
    unfold Up at hlen ⊢
    by_cases g1 : t.un.1 = 1
    · rw [if_pos g1, if_pos g1]
    rw [if_neg g1, if_neg g1]
    rw [if_neg g1] at hlen
    by_cases g2 : t.un.1 = 2
    · rw [if_pos g2, if_pos g2]
    rw [if_neg g2, if_neg g2]
    rw [if_neg g2] at hlen
    by_cases g3 : t.un.1 = 3
    · have := h1.2.2.2.1 g3
      have htb := HG t.un.2.1
      have h5 := H8 (n := t.un.2.2.1) (by omega)
      have h6 := Mc t.un.2.1
      rw [if_pos g3, if_pos g3, BS (by simp; omega), Option.bind_some, O5 (by omega), Option.bind_some, BS (by simp; omega)]; rfl
    rw [if_neg g3, if_neg g3]
    rw [if_neg g3] at hlen
    by_cases g4 : t.un.1 = 4
    · rw [if_pos g4] at hlen
      rw [List.length_append] at hlen
      rw [if_pos g4, if_pos g4, KJ (by omega) hF hb (by omega), Option.bind_some, BS (by simp only [List.length_cons, List.length_nil] at hlen ⊢; omega)]; rfl
    rw [if_neg g4, if_neg g4]
    rw [if_neg g4] at hlen
    by_cases g5 : t.un.1 = 5
    · rw [if_pos g5] at hlen
      rw [if_pos g5, if_pos g5, KJ (by omega) hF hb (by omega)]; rfl
    rw [if_neg g5, if_neg g5]
    rw [if_neg g5] at hlen
    by_cases g6 : t.un.1 = 6
    · rw [if_pos g6] at hlen
      rw [if_pos g6, if_pos g6, KJ (by omega) hF hb (by omega)]; rfl
    rw [if_neg g6, if_neg g6]
theorem Md {t : Tr25} (hc : t.cnt ≤ 1000) (hf : E1 t = true) : Ga t = some (px t) := B9 (g := fun n => CV n t) (fun n r h => G8 n t r h) (QG (SizeOf.sizeOf t + 1) t (by omega) hc hf)
theorem NM {n : Int} (h : i64 n) : FB n = some (Lib.itoa n) :=
  Np (st := Fu) (run := Fa) (fun _ => rfl) (fun _ _ => rfl) (fun _ _ => rfl) n h
theorem R2 {f : Int} (h : 0 ≤ f ∧ f ≤ 5) : HZ f = some (AQ f) := by
  have : f = 0 ∨ f = 1 ∨ f = 2 ∨ f = 3 ∨ f = 4 ∨ f = 5 := by omega
  rcases this with rfl | rfl | rfl | rfl | rfl | rfl <;> rfl
theorem NK (sep y : List UInt8) : ∀ L : List (List UInt8), Lib.join (L ++ [y]) sep = (if 0 < L.length then Lib.join L sep ++ sep else []) ++ y
  | [] => by rw [if_neg (by simp)]; exact Lib.join_one _ _
  | x :: r => by
    rw [if_pos (by simp), List.cons_append, Lib.join_cons, Lib.join_cons]
    unfold Lib.joinTail
    rw [List.map_append, List.flatten_append]
    simp [List.append_assoc]
theorem Jy (sep : List UInt8) (L : List (List UInt8)) (i : Nat) : (Lib.join (L.take i) sep).length ≤ (Lib.join L sep).length := by
  cases L with
  | nil => simp [Lib.join_nil]
  | cons x r =>
    cases i with
    | zero => rw [List.take_zero, Lib.join_nil]; exact Nat.zero_le _
    | succ i =>
      have := Lib.joinTail_take_le sep r i
      rw [List.take_succ_cons, Lib.join_cons, Lib.join_cons, List.length_append, List.length_append]; omega
theorem Q8 : ∀ (n : Nat) (t : Tr34), SizeOf.sizeOf t < n → t.cnt ≤ 1000 → E1 (mi t) = true → CX n t = some (px (mi t))
  | 0, t, h, _, _ => absurd h (Nat.not_lt_zero _)
  | n + 1, t, h, hc, hf => by
    obtain ⟨h1, h2⟩ := (Mq t).1 hf
    have hl := Ur t
    have hm := Ou t
    have hlen := I6 (SizeOf.sizeOf (mi t) + 1) (mi t) (by omega) hf
    have hF : ∀ x ∈ t.un.2.2.2, CX n x = some (px (mi x)) := fun x hx => Q8 n x (by have := Pe hx; omega) (by have := Tn hx; omega) (h2 x hx)
    have hb : ∀ x ∈ t.un.2.2.2, (px (mi x)).length ≤ 1000000 := fun x hx => by
      have := I6 (SizeOf.sizeOf (mi x) + 1) (mi x) (by omega) (h2 x hx)
      have := Tn hx
      have := Ou x
      omega
    have hloop : ∀ sep : List UInt8, sep.length ≤ 5 → Br (CT (CX n) t sep) (([] : List UInt8), 0) = some (Lib.join (t.un.2.2.2.map fun x => Jk (mi x)) sep) := fun sep hsep => by
      have hjb := Qt hsep (t.un.2.2.2.map fun x => Jk (mi x))
      have hjs := PV (t.un.2.2.2.map mi) fun x hx => by
        obtain ⟨y, hy, rfl⟩ := List.mem_map.1 hx
        exact I6 (SizeOf.sizeOf (mi y) + 1) (mi y) (by omega) (h2 y hy)
      have hsum := IM (mi t)
      have hmm : (mi t).un.2.2.2 = t.un.2.2.2.map mi := by rw [KU]
      rw [hmm] at hsum
      have hmw : (t.un.2.2.2.map mi).map Jk = t.un.2.2.2.map fun x => Jk (mi x) := by rw [List.map_map]; rfl
      rw [hmw] at hjs
      obtain ⟨o, i1, i2⟩ := EN t.un.2.2.2.length (fun (o : List UInt8) (i : Nat) => (o, (i : Int))) (CT (CX n) t sep) id (fun o i => o = Lib.join ((t.un.2.2.2.map fun x => Jk (mi x)).take i) sep)
        (fun o i hi ho => by
          have hmem := List.getElem_mem hi
          have hb' := hb _ hmem
          have hmono := Jy sep (t.un.2.2.2.map fun x => Jk (mi x)) i
          have hiL : i < (t.un.2.2.2.map fun x => Jk (mi x)).length := by rw [List.length_map]; exact hi
          have hgt : (t.un.2.2.2.map fun x => Jk (mi x))[i] = Jk (mi t.un.2.2.2[i]) := by rw [List.getElem_map]
          have hw : (Jk (mi t.un.2.2.2[i])).length ≤ (px (mi t.un.2.2.2[i])).length + 2 := by
            show (wr _ _).length ≤ _
            unfold wr; split <;> simp
          have hk := ((Mq _).1 (h2 _ hmem)).1
          have hk1 : (mi t.un.2.2.2[i]).un.1 = t.un.2.2.2[i].un.1 := by rw [KU]
          refine ⟨Lib.join ((t.un.2.2.2.map fun x => Jk (mi x)).take (i + 1)) sep, ?_, rfl⟩
          have e1 : ((some t.un.2.2.2[i]).bind fun x12 => (if 4 < x12.un.1 then (DQ ([40] : List UInt8) (px (mi t.un.2.2.2[i]))).bind fun x13 => (DQ x13 ([41] : List UInt8)).bind fun x14 => some x14 else some (px (mi t.un.2.2.2[i])))) = some (Jk (mi t.un.2.2.2[i])) := by
            rw [Option.bind_some]
            show _ = some (wr _ _)
            unfold wr
            rw [hk1]
            by_cases c : 4 < t.un.2.2.2[i].un.1
            · rw [if_pos c, if_pos (by unfold H4 at hk; omega), BS (by simp; omega), Option.bind_some, BS (by simp; omega)]; rfl
            · rw [if_neg c, if_neg (by omega)]
          rw [CT, if_pos (by omega), C0 (List.getElem?_eq_getElem hi), Option.bind_some, hF _ hmem, Option.bind_some, e1, Option.bind_some, List.take_succ_eq_append_getElem hiL, hgt, NK, ← ho]
          have hol : o.length ≤ 1000000 := by rw [ho]; omega
          have htl : ((t.un.2.2.2.map fun x => Jk (mi x)).take i).length = i := by rw [List.length_take]; omega
          rw [htl]
          by_cases c : 0 < i
          · rw [if_pos (show (0 : Int) < (i : Int) by omega), if_pos c, BS (by omega), Option.bind_some, Option.bind_some, BS (by rw [List.length_append]; omega), Option.bind_some, BN (by omega)]; rfl
          · have h0 : i = 0 := by omega
            have ho' : o = [] := by rw [ho, h0, List.take_zero, Lib.join_nil]
            rw [if_neg (show ¬ (0 : Int) < (i : Int) by omega), if_neg c, Option.bind_some, ho', BS (by simp; omega), Option.bind_some, BN (by omega)]; rfl)
        (fun o _ => by rw [CT, if_neg (by omega)]; rfl) [] (by rw [List.take_zero, Lib.join_nil])
      have i2' : Br (CT (CX n) t sep) (([] : List UInt8), 0) = some o := i2
      rw [i2', i1, List.take_of_length_le (by rw [List.length_map]; omega)]
    have hmw : (t.un.2.2.2.map mi).map Jk = t.un.2.2.2.map fun x => Jk (mi x) := by rw [List.map_map]; rfl
    show Eh (CX n) t = _
    unfold Eh
    rw [Qq, KU] at hlen ⊢
    dsimp only at hlen ⊢
    rw [hmw] at hlen ⊢
    unfold Up at hlen ⊢
    by_cases g1 : t.un.1 = 1
    · rw [if_pos g1, if_pos g1]
    rw [if_neg g1, if_neg g1]
    rw [if_neg g1] at hlen
    by_cases g2 : t.un.1 = 2
    · rw [if_pos g2, if_pos g2]
    rw [if_neg g2, if_neg g2]
    rw [if_neg g2] at hlen
    by_cases g3 : t.un.1 = 3
    · have h4 := h1.2.2.2.1 g3
      have htb := HG t.un.2.1
      have h5 := H8 (n := t.un.2.2.1) (by omega)
      have h6 := Mc t.un.2.1
      rw [if_pos g3, if_pos g3, R2 ⟨h4.1, h4.2.1⟩, Option.bind_some, BS (by simp; omega), Option.bind_some, NM (by constructor <;> omega), Option.bind_some, BS (by simp; omega)]; rfl
    rw [if_neg g3, if_neg g3]
    rw [if_neg g3] at hlen
    by_cases g4 : t.un.1 = 4
    · obtain ⟨y, hy⟩ : ∃ y, t.un.2.2.2 = [y] := List.length_eq_one_iff.1 (h1.2.2.2.2.2.1 g4)
      have hj : ∀ sep, Lib.join (t.un.2.2.2.map fun x => Jk (mi x)) sep = Jk (mi y) := fun sep => by rw [hy]; exact Lib.join_one _ _
      rw [if_pos g4, hj] at hlen
      rw [List.length_append] at hlen
      simp only [List.length_cons, List.length_nil] at hlen
      rw [if_neg (by omega), Option.bind_some, hloop _ (by decide), Option.bind_some, if_pos g4, if_pos g4, hj, hj, BS (by simp only [List.length_cons, List.length_nil]; omega)]; rfl
    rw [if_neg g4]
    by_cases g5 : t.un.1 = 5
    · rw [if_pos g5, if_pos g5, Option.bind_some, hloop _ (by decide), Option.bind_some, if_neg g4]
    rw [if_neg g5, if_neg g5, Option.bind_some, hloop _ (by decide), Option.bind_some, if_neg g4, if_pos (by unfold H4 at h1; omega)]
theorem LY {t : Tr34} (hc : t.cnt ≤ 1000) (hf : E1 (mi t) = true) : HT t = some (px (mi t)) := B9 (g := fun n => CX n t) (fun n r h => JN n t r h) (Q8 (SizeOf.sizeOf t + 1) t (by omega) hc hf)
def pm : Tr37 → Tr28
  | .mk k p f v l => .mk k (mi p) f v (l.map pm)
theorem Kf (t : Tr37) : (pm t).un = (t.un.1, mi t.un.2.1, t.un.2.2.1, t.un.2.2.2.1, t.un.2.2.2.2.map pm) := by cases t; rw [pm]; rfl
theorem UA (t : Tr37) : pm t = Tr28.of (t.un.1, mi t.un.2.1, t.un.2.2.1, t.un.2.2.2.1, t.un.2.2.2.2.map pm) := by cases t; rw [pm]; rfl
theorem Sq : ∀ (n : Nat) (t : Tr37), SizeOf.sizeOf t < n → (pm t).cnt = t.cnt
  | 0, t, h => absurd h (Nat.not_lt_zero _)
  | n + 1, t, h => by
    rw [Qg, RW, Kf]
    show 1 + ((mi t.un.2.1).cnt + ((t.un.2.2.2.2.map pm).map Tr28.cnt).sum) = _
    rw [List.map_map, Ou]
    congr 3
    exact List.map_congr_left fun x hx => Sq n x (by have := S2 hx; omega)
theorem Vl (t : Tr37) : (pm t).cnt = t.cnt := Sq (SizeOf.sizeOf t + 1) t (by omega)
theorem Qo : ∀ (n : Nat) (t : Tr37), SizeOf.sizeOf t < n → t.cnt ≤ 1048576 → DW n t = some (pm t)
  | 0, t, h, _ => absurd h (Nat.not_lt_zero _)
  | n + 1, t, h, hc => by
    have hl := lD t
    have hq := qD t
    show Eo (DW n) t = _
    unfold Eo
    rw [PM, Qw (by omega), Option.bind_some, loop_copy' t.un.2.2.2.2 (by omega) pm (Dm (DW n) t) (fun k hk out ho => by
      have hm := List.getElem_mem hk
      rw [Dm, if_pos (by omega), C0 (List.getElem?_eq_getElem hk), Option.bind_some, PM, RD, Qo n _ (by have := S2 hm; omega) (Nat.le_trans (cD hm) hc), Option.bind_some, NE, Pm]) (fun out => by rw [Dm, if_neg (by omega)]), Option.bind_some, UA]
theorem Sy {t : Tr37} (hc : t.cnt ≤ 1048576) : Kl t = some (pm t) := B9 (g := fun n => DW n t) (fun n r h => Jv n t r h) (Qo (SizeOf.sizeOf t + 1) t (by omega) hc)
def sz : Tr28 → Nat
  | .mk k p _ _ l => 1 + (if k < 2 ∨ 4 < k then p.cnt else 0) + (l.map sz).sum
theorem Kx (t : Tr28) : sz t = 1 + (if t.un.1 < 2 ∨ 4 < t.un.1 then t.un.2.1.cnt else 0) + (t.un.2.2.2.2.map sz).sum := by cases t; rw [sz]; rfl
theorem sum_mono' {α : Type} {g h : α → Nat} : ∀ l : List α, (∀ x ∈ l, g x ≤ h x) → (l.map g).sum ≤ (l.map h).sum
  | [], _ => Nat.le_refl _
  | x :: l, hx => by
    have h1 := hx x (List.mem_cons_self ..)
    have h2 := sum_mono' (g := g) (h := h) l fun y hy => hx y (List.mem_cons_of_mem _ hy)
    rw [List.map_cons, List.sum_cons, List.map_cons, List.sum_cons]; omega
theorem RG : ∀ (n : Nat) (t : Tr28), SizeOf.sizeOf t < n → sz t ≤ t.cnt
  | 0, t, h => absurd h (Nat.not_lt_zero _)
  | n + 1, t, h => by
    have := sum_mono' (g := sz) (h := Tr28.cnt) t.un.2.2.2.2 fun x hx => RG n x (by have := To hx; omega)
    rw [Kx, Qg]
    split <;> omega
theorem Wc (t : Tr28) : sz t ≤ t.cnt := RG (SizeOf.sizeOf t + 1) t (by omega)
theorem UC (t : Tr37) : sz (pm t) = 1 + (if t.un.1 < 2 ∨ 4 < t.un.1 then t.un.2.1.cnt else 0) + (t.un.2.2.2.2.map fun x => sz (pm x)).sum := by rw [Kx, Kf]; show 1 + (if _ then (mi t.un.2.1).cnt else 0) + ((t.un.2.2.2.2.map pm).map sz).sum = _; rw [List.map_map, Ou]; rfl
theorem Nx : ∀ (n : Nat) (t : Tr37), SizeOf.sizeOf t < n → t.cnt ≤ 1048576 → Dt n t = some (sz (pm t) : Int)
  | 0, t, h, _ => absurd h (Nat.not_lt_zero _)
  | n + 1, t, h, hc => by
    have hl := lD t
    have hq := qD t
    have hs := Wc (pm t)
    rw [Vl] at hs
    have hse := UC t
    show En (Dt n) t = _
    unfold En
    have e1 : (if (decide (t.un.1 < 2) || decide (4 < t.un.1)) = true then (IY (Tr34.of (t.un.2.1.un.1, t.un.2.1.un.2.1, t.un.2.1.un.2.2.1, t.un.2.1.un.2.2.2))).bind fun x2 => some (DP (1 + x2)) else some 1) = some (1 + ((if t.un.1 < 2 ∨ 4 < t.un.1 then t.un.2.1.cnt else 0 : Nat) : Int)) := by
      rw [PM, OV (by omega), Option.bind_some, BN (by omega)]
      by_cases c : t.un.1 < 2 ∨ 4 < t.un.1
      · rw [if_pos (by simpa using c), if_pos c]
      · rw [if_neg (by simpa using c), if_neg c]; rfl
    rw [e1, Option.bind_some]
    obtain ⟨o, h1, h2⟩ := EN t.un.2.2.2.2.length (fun (o : Int) (i : Nat) => (o, (i : Int))) (C6 (Dt n) t) id (fun o i => o = 1 + ((if t.un.1 < 2 ∨ 4 < t.un.1 then t.un.2.1.cnt else 0 : Nat) : Int) + (((t.un.2.2.2.2.take i).map fun x => sz (pm x)).sum : Nat))
      (fun o i hi ho => by
        have hm := List.getElem_mem hi
        have hx := Nx n t.un.2.2.2.2[i] (by have := S2 hm; omega) (Nat.le_trans (cD hm) hc)
        have hs2 : ((t.un.2.2.2.2.take (i + 1)).map fun x => sz (pm x)).sum = ((t.un.2.2.2.2.take i).map fun x => sz (pm x)).sum + sz (pm t.un.2.2.2.2[i]) := by
          rw [List.take_succ_eq_append_getElem hi, List.map_append, List.sum_append]; simp
        have hle := O1 (g := fun x => sz (pm x)) t.un.2.2.2.2 (i + 1)
        refine ⟨o + (sz (pm t.un.2.2.2.2[i]) : Int), ?_, by rw [ho, hs2]; omega⟩
        rw [C6, if_pos (by omega), C0 (List.getElem?_eq_getElem hi), Option.bind_some, PM, RD, hx, Option.bind_some, BN (by rw [ho]; omega), BN (by omega)]; rfl)
      (fun o _ => by rw [C6, if_neg (by omega)]; rfl) (1 + ((if t.un.1 < 2 ∨ 4 < t.un.1 then t.un.2.1.cnt else 0 : Nat) : Int)) (by simp)
    rw [List.take_length] at h1
    have h2' : Br (C6 (Dt n) t) (1 + ((if t.un.1 < 2 ∨ 4 < t.un.1 then t.un.2.1.cnt else 0 : Nat) : Int), 0) = some o := h2
    rw [h2', h1, Option.bind_some, hse]
    exact congrArg some (by omega)
theorem Qe {t : Tr37} (hc : t.cnt ≤ 1048576) : LD t = some (sz (pm t) : Int) := B9 (g := fun n => Dt n t) (fun n r h => Jz n t r h) (Nx (SizeOf.sizeOf t + 1) t (by omega) hc)
def dq : Tr28 → Nat
  | .mk _ _ _ _ l => 1 + mx (l.map dq)
theorem Tu (t : Tr28) : dq t = 1 + mx (t.un.2.2.2.2.map dq) := by cases t; rw [dq]; rfl
theorem RT : ∀ (n : Nat) (t : Tr28), SizeOf.sizeOf t < n → dq t ≤ t.cnt
  | 0, t, h => absurd h (Nat.not_lt_zero _)
  | n + 1, t, h => by
    have : mx (t.un.2.2.2.2.map dq) ≤ (t.un.2.2.2.2.map Tr28.cnt).sum := TI fun a ha => by
      obtain ⟨x, hx, rfl⟩ := List.mem_map.1 ha
      exact Nat.le_trans (RT n x (by have := To hx; omega)) (Iq (g := Tr28.cnt) hx)
    rw [Tu, Qg]; omega
theorem Wj (t : Tr28) : dq t ≤ t.cnt := RT (SizeOf.sizeOf t + 1) t (by omega)
theorem UD (t : Tr37) : dq (pm t) = 1 + mx (t.un.2.2.2.2.map fun x => dq (pm x)) := by rw [Tu, Kf]; show 1 + mx ((t.un.2.2.2.2.map pm).map dq) = _; rw [List.map_map]; rfl
theorem NG : ∀ (n : Nat) (t : Tr37), SizeOf.sizeOf t < n → t.cnt ≤ 1048576 → DB n t = some (dq (pm t) : Int)
  | 0, t, h, _ => absurd h (Nat.not_lt_zero _)
  | n + 1, t, h, hc => by
    have hl := lD t
    show Eu (DB n) t = _
    unfold Eu
    obtain ⟨o, h1, h2⟩ := EN t.un.2.2.2.2.length (fun (o : Int) (i : Nat) => (o, (i : Int))) (C9 (DB n) t) id (fun o i => o = 1 + (mx ((t.un.2.2.2.2.take i).map fun x => dq (pm x)) : Nat))
      (fun o i hi ho => by
        have hm := List.getElem_mem hi
        have hx := NG n t.un.2.2.2.2[i] (by have := S2 hm; omega) (Nat.le_trans (cD hm) hc)
        have hd := Wj (pm t.un.2.2.2.2[i])
        rw [Vl] at hd
        have hcl := cD hm
        refine ⟨max o (dq (pm t.un.2.2.2.2[i]) + 1 : Int), ?_, by rw [ho, List.take_succ_eq_append_getElem hi, List.map_append, List.map_cons, List.map_nil, Q9]; omega⟩
        rw [C9, if_pos (by omega), C0 (List.getElem?_eq_getElem hi), Option.bind_some, PM, RD, hx, Option.bind_some, Option.bind_some]
        by_cases q : o ≤ (dq (pm t.un.2.2.2.2[i]) : Int)
        · rw [if_pos q, PM, RD, hx, Option.bind_some, BN (by omega), Option.bind_some, BN (by omega)]
          rw [show max o ((dq (pm t.un.2.2.2.2[i]) : Int) + 1) = (dq (pm t.un.2.2.2.2[i]) : Int) + 1 by omega]; rfl
        · rw [if_neg q, Option.bind_some, BN (by omega)]
          rw [show max o ((dq (pm t.un.2.2.2.2[i]) : Int) + 1) = o by omega]; rfl)
      (fun o _ => by rw [C9, if_neg (by omega)]; rfl) 1 (by simp [mx])
    rw [List.take_length] at h1
    have h2' : Br (C9 (DB n) t) (1, 0) = some o := h2
    rw [h2', h1, Option.bind_some, UD]
    exact congrArg some (by omega)
theorem Qd {t : Tr37} (hc : t.cnt ≤ 1048576) : Mt t = some (dq (pm t) : Int) := B9 (g := fun n => DB n t) (fun n r h => JO n t r h) (NG (SizeOf.sizeOf t + 1) t (by omega) hc)
def wf (k n w : Int) : Int := if k = 3 then min (n * w) 1000 else if k = 4 then min (n + w) 1000 else max n w
def w0 (k : Int) : Int := if k = 3 then 1 else 0
def wd : Tr28 → Int
  | .mk k _ _ _ l => if 3 ≤ k ∧ k ≤ 5 then (l.map wd).foldl (wf k) (w0 k) else 1
theorem TN (t : Tr28) : wd t = if 3 ≤ t.un.1 ∧ t.un.1 ≤ 5 then (t.un.2.2.2.2.map wd).foldl (wf t.un.1) (w0 t.un.1) else 1 := by cases t; rw [wd]; rfl
theorem UK {k n w : Int} (hn : 0 ≤ n ∧ n ≤ 1000) (hw : 0 ≤ w ∧ w ≤ 1000) : 0 ≤ wf k n w ∧ wf k n w ≤ 1000 := by
  unfold wf
  have h := Int.mul_nonneg hn.1 hw.1
  by_cases c3 : k = 3
  · rw [if_pos c3]; omega
  · rw [if_neg c3]
    by_cases c4 : k = 4
    · rw [if_pos c4]; omega
    · rw [if_neg c4]; omega
theorem NR {k : Int} : ∀ (l : List Int) (n : Int), 0 ≤ n ∧ n ≤ 1000 → (∀ w ∈ l, 0 ≤ w ∧ w ≤ 1000) → 0 ≤ l.foldl (wf k) n ∧ l.foldl (wf k) n ≤ 1000
  | [], n, hn, _ => hn
  | w :: l, n, hn, h => NR l (wf k n w) (UK hn (h w (List.mem_cons_self ..))) fun x hx => h x (List.mem_cons_of_mem _ hx)
theorem Tr (k : Int) : 0 ≤ w0 k ∧ w0 k ≤ 1000 := by unfold w0; split <;> omega
theorem TC : ∀ (n : Nat) (t : Tr28), SizeOf.sizeOf t < n → 0 ≤ wd t ∧ wd t ≤ 1000
  | 0, t, h => absurd h (Nat.not_lt_zero _)
  | n + 1, t, h => by
    rw [TN]
    split
    · exact NR _ _ (Tr _) fun w hw => by
        obtain ⟨x, hx, rfl⟩ := List.mem_map.1 hw
        exact TC n x (by have := To hx; omega)
    · omega
theorem VD (t : Tr28) : 0 ≤ wd t ∧ wd t ≤ 1000 := TC (SizeOf.sizeOf t + 1) t (by omega)
theorem Ui {a b : Int} (ha : 0 ≤ a ∧ a ≤ 1000) (hb : 0 ≤ b ∧ b ≤ 1000) : 0 ≤ a * b ∧ a * b ≤ 1000000 := by
  refine ⟨Int.mul_nonneg ha.1 hb.1, ?_⟩
  have h1 : a * b ≤ 1000 * b := Int.mul_le_mul_of_nonneg_right ha.2 hb.1
  omega
theorem Rc (k n : Int) (l : List Int) (w : Int) : (l ++ [w]).foldl (wf k) n = wf k (l.foldl (wf k) n) w := by rw [List.foldl_append]; rfl
theorem Uy (t : Tr37) : wd (pm t) = if 3 ≤ t.un.1 ∧ t.un.1 ≤ 5 then (t.un.2.2.2.2.map fun x => wd (pm x)).foldl (wf t.un.1) (w0 t.un.1) else 1 := by rw [TN, Kf]; show (if _ then ((t.un.2.2.2.2.map pm).map wd).foldl _ _ else _) = _; rw [List.map_map]; rfl
theorem Sv (n : Int) : Hw n = min n 1000 := by unfold Hw; split <;> omega
theorem QZ : ∀ (n : Nat) (t : Tr37), SizeOf.sizeOf t < n → t.cnt ≤ 1048576 → De n t = some (wd (pm t))
  | 0, t, h, _ => absurd h (Nat.not_lt_zero _)
  | n + 1, t, h, hc => by
    have hl := lD t
    have hx : ∀ x ∈ t.un.2.2.2.2, De n x = some (wd (pm x)) := fun x hm => QZ n x (by have := S2 hm; omega) (Nat.le_trans (cD hm) hc)
    have bd : ∀ i, ∀ w ∈ ((t.un.2.2.2.2.take i).map fun x => wd (pm x)), 0 ≤ w ∧ w ≤ 1000 := fun i w hw => by
      obtain ⟨x, _, rfl⟩ := List.mem_map.1 hw
      exact VD (pm x)
    show Ek (De n) t = _
    rw [Uy]
    unfold Ek
    by_cases c : 3 ≤ t.un.1 ∧ t.un.1 ≤ 5
    case neg => rw [if_pos (by simp only [Bool.or_eq_true, decide_eq_true_eq]; omega), if_neg c]
    case pos =>
      have e0 : (if t.un.1 = 3 then some 1 else some 0 : Option Int) = some (w0 t.un.1) := by unfold w0; split <;> rfl
      rw [if_neg (by simp only [Bool.or_eq_true, decide_eq_true_eq]; omega), if_pos c, e0, Option.bind_some]
      obtain ⟨o, h1, h2⟩ := EN t.un.2.2.2.2.length (fun (o : Int) (i : Nat) => (o, (i : Int))) (Da (De n) t) id (fun o i => o = ((t.un.2.2.2.2.take i).map fun x => wd (pm x)).foldl (wf t.un.1) (w0 t.un.1))
        (fun o i hi ho => by
          have hb := NR (k := t.un.1) _ (w0 t.un.1) (Tr _) (bd i)
          rw [← ho] at hb
          have hw := VD (pm t.un.2.2.2.2[i])
          have hm := Ui hb hw
          refine ⟨_, ?_, rfl⟩
          rw [Da, if_pos (by omega), C0 (List.getElem?_eq_getElem hi), Option.bind_some, PM, RD, hx _ (List.getElem_mem hi), Option.bind_some, BN (by omega), BN (by omega), List.take_succ_eq_append_getElem hi, List.map_append, List.map_cons, List.map_nil, Rc, ← ho, Sv]
          unfold wf
          by_cases c3 : t.un.1 = 3
          · rw [if_pos c3, if_pos c3, Option.bind_some, if_neg (by omega), Option.bind_some, decide_eq_false (show ¬ t.un.1 = 5 by omega), if_neg (by simp)]; rfl
          rw [if_neg c3, if_neg c3, Option.bind_some, BN (by omega)]
          by_cases c4 : t.un.1 = 4
          · rw [if_pos c4, if_pos c4, Option.bind_some, Sv, decide_eq_false (show ¬ t.un.1 = 5 by omega), if_neg (by simp)]; rfl
          rw [if_neg c4, if_neg c4, Option.bind_some, decide_eq_true (show t.un.1 = 5 by omega)]
          by_cases cw : o < wd (pm t.un.2.2.2.2[i])
          · rw [decide_eq_true cw, if_pos (by rfl), show max o (wd (pm t.un.2.2.2.2[i])) = wd (pm t.un.2.2.2.2[i]) by omega]; rfl
          · rw [decide_eq_false cw, if_neg (by decide), show max o (wd (pm t.un.2.2.2.2[i])) = o by omega]; rfl)
        (fun o _ => by rw [Da, if_neg (by omega)]; rfl) (w0 t.un.1) rfl
      rw [List.take_length] at h1
      have h2' : Br (Da (De n) t) (w0 t.un.1, 0) = some o := h2
      rw [h2', h1]; rfl
theorem SH {t : Tr37} (hc : t.cnt ≤ 1048576) : LL t = some (wd (pm t)) := B9 (g := fun n => De n t) (fun n r h => JI n t r h) (QZ (SizeOf.sizeOf t + 1) t (by omega) hc)
abbrev ZP : Tr25 := Tr25.of (0, 0, 0, ([] : List Tr25))
abbrev ZD : Tr34 := Tr34.of (0, 0, 0, ([] : List Tr34))
theorem UB : mi ZD = ZP := by show mi (.mk 0 0 0 []) = _; rw [mi]; rfl
theorem mi_Z' {p : Tr34} : mi p = ZP ↔ p = ZD := ⟨fun h => TZ (h.trans UB.symm), fun h => by rw [h, UB]⟩
abbrev MJ (k f v : Int) (n : Nat) : Prop := 1 ≤ k ∧ k ≤ 5 ∧ (k ≠ 2 → f = 0 ∧ v = 0) ∧ (k = 2 → 0 ≤ f ∧ f ≤ 4 ∧ 0 ≤ v ∧ v ≤ EF f) ∧ (k ≤ 2 → n = 0) ∧ (k = 5 → n = 2) ∧ (k = 3 ∨ k = 4 → 2 ≤ n ∧ n ≤ 8)
abbrev Vf (k : Int) (p : Tr25) (f v : Int) (n : Nat) : Prop := MJ k f v n ∧ (k = 2 ∨ k = 3 ∨ k = 4 → p = ZP)
abbrev Su (k : Int) (p : Tr25) (f v : Int) (n : Nat) : Prop := Vf k p f v n ∧ (k = 1 ∨ k = 5 → ON p 64 8)
open Classical in
noncomputable def E0 : Tr28 → Bool
  | .mk k p f v l => @decide (Su k p f v l.length) (propDecidable _) && (l.map E0).all id
theorem Hf (t : Tr28) : E0 t = true ↔ Su t.un.1 t.un.2.1 t.un.2.2.1 t.un.2.2.2.1 t.un.2.2.2.2.length ∧ ∀ x ∈ t.un.2.2.2.2, E0 x = true := by
  cases t with
  | mk k p f v l =>
    rw [E0, Bool.and_eq_true, @decide_eq_true_eq _ (Classical.propDecidable _), List.all_map, List.all_eq_true]; rfl
theorem Ky (t : Tr37) : E0 (pm t) = true ↔ Su t.un.1 (mi t.un.2.1) t.un.2.2.1 t.un.2.2.2.1 t.un.2.2.2.2.length ∧ ∀ x ∈ t.un.2.2.2.2, E0 (pm x) = true := by
  rw [Hf, Kf]
  show Su _ _ _ _ (t.un.2.2.2.2.map pm).length ∧ _ ↔ _
  rw [List.length_map]
  refine and_congr_right fun _ => ⟨fun h x hx => h _ (List.mem_map.2 ⟨x, hx, rfl⟩), fun h x hx => ?_⟩
  obtain ⟨y, hy, rfl⟩ := List.mem_map.1 hx
  exact h y hy
abbrev Vw (t : Tr28) (b d : Int) : Prop := E0 t = true ∧ (dq t : Int) ≤ d ∧ (sz t : Int) ≤ b
abbrev Vo (t : Tr28) : Prop := Vw t 64 8 ∧ wd t ≤ 64
theorem Nm : ∀ (n : Nat) (t : Tr37), SizeOf.sizeOf t < n → t.cnt ≤ 1048576 → Dv n t = some (E0 (pm t))
  | 0, t, h, _ => absurd h (Nat.not_lt_zero _)
  | n + 1, t, h, hc => by
    have hl := lD t
    have hq := qD t
    have htb := HG t.un.2.2.1
    show Es (Dv n) t = _
    unfold Es
    have no : ¬ Su t.un.1 (mi t.un.2.1) t.un.2.2.1 t.un.2.2.2.1 t.un.2.2.2.2.length → E0 (pm t) = false := fun hn => by
      cases hh : E0 (pm t) with
      | false => rfl
      | true => exact absurd ((Ky t).1 hh).1 hn
    by_cases g1 : (decide (t.un.1 < 1) || (decide (5 < t.un.1) || (decide (t.un.1 ≠ 2) && (decide (t.un.2.2.1 ≠ 0) || decide (t.un.2.2.2.1 ≠ 0))))) = true
    · rw [if_pos g1, no (fun hf => by
        have := hf.1.1
        unfold MJ at this
        simp only [Bool.and_eq_true, Bool.or_eq_true, decide_eq_true_eq] at g1
        omega)]
    rw [if_neg g1]
    simp only [Bool.and_eq_true, Bool.or_eq_true, decide_eq_true_eq, not_or, not_and] at g1
    have hask : ∃ x : Bool, (if (decide (t.un.1 = 1) || decide (t.un.1 = 5)) = true then (FI (Tr34.of (t.un.2.1.un.1, t.un.2.1.un.2.1, t.un.2.1.un.2.2.1, t.un.2.1.un.2.2.2))).bind fun x2 => (if (!x2) = true then some true else some false) else (Ha (Tr34.of (t.un.2.1.un.1, t.un.2.1.un.2.1, t.un.2.1.un.2.2.1, t.un.2.1.un.2.2.2)) (Tr34.of (0, 0, 0, ([] : List Tr34)))).bind fun x3 => some (!x3)) = some x ∧ (x = false ↔ (t.un.1 = 2 ∨ t.un.1 = 3 ∨ t.un.1 = 4 → mi t.un.2.1 = ZP) ∧ (t.un.1 = 1 ∨ t.un.1 = 5 → ON (mi t.un.2.1) 64 8)) := by
      rw [PM, Nt (by omega), L7 (by omega)]
      by_cases hk : t.un.1 = 1 ∨ t.un.1 = 5
      · rw [if_pos (by simpa using hk), Option.bind_some]
        by_cases ho : ON (mi t.un.2.1) 64 8
        · rw [decide_eq_true ho, if_neg (by decide)]
          exact ⟨false, rfl, ⟨fun _ => ⟨fun h => by omega, fun _ => ho⟩, fun _ => rfl⟩⟩
        · rw [decide_eq_false ho, if_pos (by decide)]
          exact ⟨true, rfl, ⟨(fun h => nomatch h), fun h => absurd (h.2 hk) ho⟩⟩
      · rw [if_neg (by simpa using hk), Option.bind_some]
        by_cases hz : t.un.2.1 = ZD
        · refine ⟨false, ?_, ?_⟩
          · rw [@decide_eq_true _ (_) hz]; rfl
          · exact ⟨fun _ => ⟨fun _ => mi_Z'.2 hz, fun h => absurd h hk⟩, fun _ => rfl⟩
        · refine ⟨true, ?_, ?_⟩
          · rw [@decide_eq_false _ (_) hz]; rfl
          · exact ⟨(fun h => nomatch h), fun h => absurd (mi_Z'.1 (h.1 (by omega))) hz⟩
    obtain ⟨x, hx1, hx2⟩ := hask
    rw [hx1, Option.bind_some]
    cases x with
    | true =>
      rw [if_pos rfl, no (fun hf => by have := hx2.2 ⟨hf.1.2, hf.2⟩; cases this)]
    | false =>
      obtain ⟨ha, hb⟩ := hx2.1 rfl
      rw [if_neg (by decide)]
      by_cases g2 : (decide (t.un.1 = 2) && (decide (t.un.2.2.1 < 0) || (decide (4 < t.un.2.2.1) || (decide (t.un.2.2.2.1 < 0) || decide ((EF t.un.2.2.1) < t.un.2.2.2.1))))) = true
      · rw [if_pos g2, no (fun hf => by
          have := hf.1.1
          unfold MJ at this
          simp only [Bool.and_eq_true, Bool.or_eq_true, decide_eq_true_eq] at g2
          omega)]
      rw [if_neg g2]
      simp only [Bool.and_eq_true, Bool.or_eq_true, decide_eq_true_eq, not_or, not_and] at g2
      have hlen : ∃ y : Bool, (bif decide (t.un.1 ≤ 2) then (decide ((t.un.2.2.2.2.length : Int) ≠ 0) || (bif decide (t.un.1 = 5) then (decide ((t.un.2.2.2.2.length : Int) ≠ 2) || (bif decide (t.un.1 = 3) then (decide ((t.un.2.2.2.2.length : Int) < 2) || decide (8 < (t.un.2.2.2.2.length : Int))) else (decide (t.un.1 = 4) && (decide ((t.un.2.2.2.2.length : Int) < 2) || decide (8 < (t.un.2.2.2.2.length : Int)))))) else (bif decide (t.un.1 = 3) then (decide ((t.un.2.2.2.2.length : Int) < 2) || decide (8 < (t.un.2.2.2.2.length : Int))) else (decide (t.un.1 = 4) && (decide ((t.un.2.2.2.2.length : Int) < 2) || decide (8 < (t.un.2.2.2.2.length : Int))))))) else (bif decide (t.un.1 = 5) then (decide ((t.un.2.2.2.2.length : Int) ≠ 2) || (bif decide (t.un.1 = 3) then (decide ((t.un.2.2.2.2.length : Int) < 2) || decide (8 < (t.un.2.2.2.2.length : Int))) else (decide (t.un.1 = 4) && (decide ((t.un.2.2.2.2.length : Int) < 2) || decide (8 < (t.un.2.2.2.2.length : Int)))))) else (bif decide (t.un.1 = 3) then (decide ((t.un.2.2.2.2.length : Int) < 2) || decide (8 < (t.un.2.2.2.2.length : Int))) else (decide (t.un.1 = 4) && (decide ((t.un.2.2.2.2.length : Int) < 2) || decide (8 < (t.un.2.2.2.2.length : Int))))))) = y ∧ (y = false ↔ MJ t.un.1 t.un.2.2.1 t.un.2.2.2.1 t.un.2.2.2.2.length) := by
        refine ⟨_, rfl, ?_⟩
        have hk : t.un.1 = 1 ∨ t.un.1 = 2 ∨ t.un.1 = 3 ∨ t.un.1 = 4 ∨ t.un.1 = 5 := by omega
        unfold MJ
        rcases hk with h | h | h | h | h <;> rw [h] at g1 g2 ⊢ <;> simp <;> omega
      obtain ⟨y, hy1, hy2⟩ := hlen
      rw [hy1]
      cases y with
      | true => rw [if_pos rfl, no (fun hf => by have := hy2.2 hf.1.1; cases this)]
      | false =>
        have hlin := hy2.1 rfl
        rw [if_neg (by decide)]
        have hx : ∀ x ∈ t.un.2.2.2.2, Dv n x = some (E0 (pm x)) := fun x hm => Nm n x (by have := S2 hm; omega) (Nat.le_trans (cD hm) hc)
        rw [Ns t.un.2.2.2.2 (by omega) (Ee (Dv n) t) (fun x => E0 (pm x) = false) false (fun k hk => by
          rw [Ee, if_pos (by omega), C0 (List.getElem?_eq_getElem hk), Option.bind_some, PM, RD, hx _ (List.getElem_mem hk), Option.bind_some]
          cases hq : E0 (pm t.un.2.2.2.2[k]) with
          | true => rw [if_neg (by decide), if_neg (by decide)]
          | false => rw [if_pos (by decide), if_pos rfl]) (by rw [Ee, if_neg (by omega)])]
        by_cases e : ∃ e ∈ t.un.2.2.2.2, E0 (pm e) = false
        · rw [if_pos e]
          obtain ⟨x, hxm, hxf⟩ := e
          have : E0 (pm t) = false := by
            cases hh : E0 (pm t) with
            | false => rfl
            | true => rw [((Ky t).1 hh).2 x hxm] at hxf; cases hxf
          rw [this]; rfl
        · rw [if_neg e]
          have : E0 (pm t) = true := (Ky t).2 ⟨⟨⟨hlin, ha⟩, hb⟩, fun x hxm => by
            cases hh : E0 (pm x) with
            | true => rfl
            | false => exact absurd ⟨x, hxm, hh⟩ e⟩
          rw [this]; rfl
open Classical in
theorem R0 {t : Tr37} (hc : t.cnt ≤ 1048576) : GK t = some (decide (Vo (pm t))) := by
  unfold GK
  rw [PM, RD, show Mp t = some (E0 (pm t)) from B9 (g := fun n => Dv n t) (fun n r h => JE n t r h) (Nm (SizeOf.sizeOf t + 1) t (by omega) hc), Option.bind_some, Qd hc, Qe hc, SH hc]
  simp only [Option.bind_some]
  by_cases hf : E0 (pm t) = true
  case neg => rw [if_neg hf, Option.bind_some, decide_eq_false (fun h => hf h.1.1)]
  case pos =>
    rw [if_pos hf]
    by_cases c : (dq (pm t) : Int) ≤ 8
    · rw [if_pos c]
      by_cases c2 : (sz (pm t) : Int) ≤ 64
      · rw [if_pos c2, Option.bind_some]
        exact congrArg some (decide_eq_decide.2 ⟨fun h => ⟨⟨hf, c, c2⟩, h⟩, fun h => h.2⟩)
      · rw [if_neg c2, Option.bind_some, decide_eq_false (fun h => c2 h.1.2.2)]
    · rw [if_neg c, Option.bind_some, decide_eq_false (fun h => c h.1.2.1)]
def SA (k : Int) (s : List UInt8) : List UInt8 := if k = 3 ∨ k = 4 ∨ k = 5 then [40] ++ s ++ [41] else s
noncomputable def Uk (k : Int) (p : Tr25) (f v : Int) (L : List (List UInt8)) : List UInt8 :=
  if k = 1 then (if p.un.1 = 1 then [105, 100] else if p.un.1 = 2 then [100, 114, 111, 112] else [119, 104, 101, 110, 32] ++ px p) else if k = 2 then BW f ++ [32, 58, 61, 32] ++ Lib.itoa v
  else if k = 3 then Lib.join L [59, 32] else if k = 4 then Lib.join L [32, 124, 32] else if k = 5 then [105, 102, 32] ++ px p ++ [32, 116, 104, 101, 110, 32] ++ Lib.join L [32, 101, 108, 115, 101, 32] else [63]
noncomputable def qx : Tr28 → List UInt8
  | .mk k p f v l => Uk k p f v (l.map fun x => SA x.un.1 (qx x))
noncomputable abbrev Kj (x : Tr28) : List UInt8 := SA x.un.1 (qx x)
theorem Qz (t : Tr28) : qx t = Uk t.un.1 t.un.2.1 t.un.2.2.1 t.un.2.2.2.1 (t.un.2.2.2.2.map Kj) := by cases t; rw [qx]; rfl
theorem OT {sep : List UInt8} (hs : sep.length ≤ 6) (r : List (List UInt8)) : (Lib.join r sep).length ≤ (r.map fun s => s.length + 6).sum := by
  have key : ∀ r : List (List UInt8), (Lib.joinTail sep r).length ≤ (r.map fun s => s.length + 6).sum := by
    intro r
    induction r with
    | nil => exact Nat.le_refl _
    | cons y r ih =>
      unfold Lib.joinTail at ih ⊢
      rw [List.map_cons, List.flatten_cons, List.length_append, List.length_append, List.map_cons, List.sum_cons]; omega
  cases r with
  | nil => rw [Lib.join_nil]; exact Nat.zero_le _
  | cons y r =>
    have := key r
    rw [Lib.join_cons, List.length_append, List.map_cons, List.sum_cons]; omega
theorem QW (x : Tr28) : (Kj x).length ≤ (qx x).length + 2 := by
  show (SA _ _).length ≤ _
  unfold SA; split <;> simp
theorem OB : ∀ (l : List Tr28), (∀ x ∈ l, (qx x).length + 8 ≤ 40 * sz x) → ((l.map Kj).map fun s => s.length + 6).sum ≤ 40 * (l.map sz).sum
  | [], _ => Nat.le_refl _
  | x :: l, h => by
    have h1 := h x (List.mem_cons_self ..)
    have h2 := OB l fun y hy => h y (List.mem_cons_of_mem _ hy)
    have h3 := QW x
    rw [List.map_cons, List.map_cons, List.sum_cons, List.map_cons, List.sum_cons]; omega
theorem KN (f : Int) : (BW f).length ≤ 6 := by unfold BW; split; (· decide); split; (· decide); split; (· decide); split; (· decide); split <;> decide
theorem px_len' {p : Tr25} (h : E1 p = true) : (px p).length + 8 ≤ 40 * p.cnt := I6 (SizeOf.sizeOf p + 1) p (by omega) h
theorem Sf : ∀ (n : Nat) (t : Tr28), SizeOf.sizeOf t < n → E0 t = true → (qx t).length + 8 ≤ 40 * sz t
  | 0, t, h, _ => absurd h (Nat.not_lt_zero _)
  | n + 1, t, h, hf => by
    obtain ⟨h1, h2⟩ := (Hf t).1 hf
    have hcc := Kx t
    have hs := OB t.un.2.2.2.2 fun x hx => Sf n x (by have := To hx; omega) (h2 x hx)
    have j := fun sep hsl => OT (sep := sep) hsl (t.un.2.2.2.2.map Kj)
    rw [Qz]; unfold Uk
    by_cases g1 : t.un.1 = 1
    · have hp := px_len' (h1.2 (.inl g1)).1
      rw [if_pos (by omega)] at hcc
      rw [if_pos g1]
      split
      · simp only [List.length_cons, List.length_nil]; omega
      · split
        · simp only [List.length_cons, List.length_nil]; omega
        · rw [List.length_append]; simp only [List.length_cons, List.length_nil]; omega
    rw [if_neg g1]
    by_cases g2 : t.un.1 = 2
    · have := h1.1.1.2.2.2.1 g2
      have htb := HG t.un.2.2.1
      have := H8 (n := t.un.2.2.2.1) (by omega)
      have := KN t.un.2.2.1
      rw [if_pos g2]; simp; omega
    rw [if_neg g2]
    by_cases g3 : t.un.1 = 3
    · have := j [59, 32] (by decide)
      rw [if_pos g3]; omega
    rw [if_neg g3]
    by_cases g4 : t.un.1 = 4
    · have := j [32, 124, 32] (by decide)
      rw [if_pos g4]; omega
    rw [if_neg g4]
    by_cases g5 : t.un.1 = 5
    · have := j [32, 101, 108, 115, 101, 32] (by decide)
      have hp := px_len' (h1.2 (.inr g5)).1
      rw [if_pos (by omega)] at hcc
      rw [if_pos g5]; simp only [List.length_append, List.length_cons, List.length_nil]; omega
    rw [if_neg g5]; simp; omega
theorem qx_len' {t : Tr28} (h : E0 t = true) : (qx t).length + 8 ≤ 40 * sz t := Sf (SizeOf.sizeOf t + 1) t (by omega) h
theorem Nk {t x : Tr28} (h : x ∈ t.un.2.2.2.2) : sz x < sz t := by
  have := Iq (g := sz) h
  rw [Kx t]; omega
theorem RX (t : Tr28) : t.un.2.2.2.2.length + 1 ≤ sz t := by
  have := Jj (g := sz) (fun x => by rw [Kx x]; omega) t.un.2.2.2.2
  rw [Kx t]; omega
theorem Mw {F : Tr28 → Option (List UInt8)} {l : List Tr28} (hl : l.length ≤ 1000000) (hF : ∀ x ∈ l, F x = some (qx x)) (hb : ∀ x ∈ l, (qx x).length ≤ 1000000) : BJ F l = some (l.map Kj) := by
  unfold BJ
  rw [NN l (by omega) Kj (Bu F l) (fun k hk out ho => by
    have hm := List.getElem_mem hk
    have hb' := hb _ hm
    rw [Bu, if_pos (by omega), C0 (List.getElem?_eq_getElem hk), Option.bind_some, NE, Pm, hF _ hm, Option.bind_some]
    show _ = (DQ out [SA l[k].un.1 (qx l[k])]).bind _
    unfold SA
    by_cases c : l[k].un.1 = 3 ∨ l[k].un.1 = 4 ∨ l[k].un.1 = 5
    · rw [if_pos (by simpa using c), if_pos c, BS (by simp; omega), Option.bind_some, BS (by simp; omega)]; rfl
    · rw [if_neg (by simpa using c), if_neg c]; rfl) (fun out => by rw [Bu, if_neg (by omega)]), Option.bind_some]
theorem Qs : ∀ (n : Nat) (t : Tr28), SizeOf.sizeOf t < n → sz t ≤ 1000 → E0 t = true → Cn n t = some (qx t)
  | 0, t, h, _, _ => absurd h (Nat.not_lt_zero _)
  | n + 1, t, h, hc, hf => by
    obtain ⟨h1, h2⟩ := (Hf t).1 hf
    have hl := RX t
    have hlen := qx_len' hf
    have hF : ∀ x ∈ t.un.2.2.2.2, Cn n x = some (qx x) := fun x hx => Qs n x (by have := To hx; omega) (by have := Nk hx; omega) (h2 x hx)
    have hb : ∀ x ∈ t.un.2.2.2.2, (qx x).length ≤ 1000000 := fun x hx => by
      have := qx_len' (h2 x hx)
      have := Nk hx
      omega
    have hj : ∀ sep : List UInt8, (Lib.join (t.un.2.2.2.2.map Kj) sep).length ≤ 1000000000 → HM (t.un.2.2.2.2.map Kj) sep = some (Lib.join (t.un.2.2.2.2.map Kj) sep) := fun sep hs => by
      unfold HM
      rw [if_pos ⟨by rw [List.length_map]; omega, hs⟩]
    show CF (Cn n) t = _
    unfold CF
    rw [NE, Qz] at *
    unfold Uk at hlen ⊢
    by_cases g1 : t.un.1 = 1
    · have ho := h1.2 (.inl g1)
      have hp := px_len' ho.1
      have ho3 := ho.2.2
      rw [if_pos g1, if_pos g1]
      unfold Dd
      by_cases q1 : t.un.2.1.un.1 = 1
      · rw [if_pos q1, if_pos q1]; rfl
      rw [if_neg q1, if_neg q1]
      by_cases q2 : t.un.2.1.un.1 = 2
      · rw [if_pos q2, if_pos q2]; rfl
      rw [if_neg q2, if_neg q2, Md (by omega) ho.1, Option.bind_some, BS (by simp only [List.length_cons, List.length_nil]; omega)]; rfl
    rw [if_neg g1, if_neg g1]
    rw [if_neg g1] at hlen
    by_cases g2 : t.un.1 = 2
    · have := h1.1.1.2.2.2.1 g2
      have htb := HG t.un.2.2.1
      have h5 := H8 (n := t.un.2.2.2.1) (by omega)
      have h6 := KN t.un.2.2.1
      rw [if_pos g2, if_pos g2, BS (by simp; omega), Option.bind_some, O5 (by omega), Option.bind_some, BS (by simp; omega)]; rfl
    rw [if_neg g2, if_neg g2]
    rw [if_neg g2] at hlen
    by_cases g3 : t.un.1 = 3
    · rw [if_pos g3] at hlen
      rw [if_pos g3, if_pos g3, Mw (by omega) hF hb, Option.bind_some, hj _ (by omega)]; rfl
    rw [if_neg g3, if_neg g3]
    rw [if_neg g3] at hlen
    by_cases g4 : t.un.1 = 4
    · rw [if_pos g4] at hlen
      rw [if_pos g4, if_pos g4, Mw (by omega) hF hb, Option.bind_some, hj _ (by omega)]; rfl
    rw [if_neg g4, if_neg g4]
    rw [if_neg g4] at hlen
    by_cases g5 : t.un.1 = 5
    · have ho := h1.2 (.inr g5)
      have ho3 := ho.2.2
      rw [if_pos g5] at hlen
      simp only [List.length_append, List.length_cons, List.length_nil] at hlen
      rw [if_pos g5, if_pos g5, Md (by omega) ho.1, Option.bind_some, BS (by simp only [List.length_cons, List.length_nil]; omega), Option.bind_some, BS (by simp only [List.length_append, List.length_cons, List.length_nil]; omega), Option.bind_some, Mw (by omega) hF hb, Option.bind_some, hj _ (by omega), Option.bind_some, BS (by simp only [List.length_append, List.length_cons, List.length_nil]; omega)]; rfl
    rw [if_neg g5, if_neg g5]
theorem Sj {t : Tr28} (hc : sz t ≤ 1000) (hf : E0 t = true) : FG t = some (qx t) := B9 (g := fun n => Cn n t) (fun n r h => F9 n t r h) (Qs (SizeOf.sizeOf t + 1) t (by omega) hc hf)
theorem Pv : ∀ (n : Nat) (t : Tr37), SizeOf.sizeOf t < n → sz (pm t) ≤ 1000 → E0 (pm t) = true → Cv n t = some (qx (pm t))
  | 0, t, h, _, _ => absurd h (Nat.not_lt_zero _)
  | n + 1, t, h, hc, hf => by
    obtain ⟨h1, h2⟩ := (Ky t).1 hf
    have hmm : (pm t).un.2.2.2.2 = t.un.2.2.2.2.map pm := by rw [Kf]
    have hl := RX (pm t)
    rw [hmm, List.length_map] at hl
    have hlen := qx_len' hf
    have hsz : ∀ x ∈ t.un.2.2.2.2, sz (pm x) < sz (pm t) := fun x hx => Nk (by rw [hmm]; exact List.mem_map.2 ⟨x, hx, rfl⟩)
    have hF : ∀ x ∈ t.un.2.2.2.2, Cv n x = some (qx (pm x)) := fun x hx => Pv n x (by have := S2 hx; omega) (by have := hsz x hx; omega) (h2 x hx)
    have hb : ∀ x ∈ t.un.2.2.2.2, (qx (pm x)).length ≤ 1000000 := fun x hx => by
      have := qx_len' (h2 x hx)
      have := hsz x hx
      omega
    have hloop : ∀ (pre sep : List UInt8), sep.length ≤ 6 → pre.length ≤ 1000000 → Br (Cj (Cv n) t sep) (pre, 0) = some (pre ++ Lib.join (t.un.2.2.2.2.map fun x => Kj (pm x)) sep) := fun pre sep hsep hpre => by
      have hjb := OT hsep (t.un.2.2.2.2.map fun x => Kj (pm x))
      have hjs := OB (t.un.2.2.2.2.map pm) fun x hx => by
        obtain ⟨y, hy, rfl⟩ := List.mem_map.1 hx
        exact qx_len' (h2 y hy)
      have hsum := Kx (pm t)
      rw [hmm] at hsum
      have hmw : (t.un.2.2.2.2.map pm).map Kj = t.un.2.2.2.2.map fun x => Kj (pm x) := by rw [List.map_map]; rfl
      rw [hmw] at hjs
      obtain ⟨o, i1, i2⟩ := EN t.un.2.2.2.2.length (fun (o : List UInt8) (i : Nat) => (o, (i : Int))) (Cj (Cv n) t sep) id (fun o i => o = pre ++ Lib.join ((t.un.2.2.2.2.map fun x => Kj (pm x)).take i) sep)
        (fun o i hi ho => by
          have hmem := List.getElem_mem hi
          have hb' := hb _ hmem
          have hmono := Jy sep (t.un.2.2.2.2.map fun x => Kj (pm x)) i
          have hiL : i < (t.un.2.2.2.2.map fun x => Kj (pm x)).length := by rw [List.length_map]; exact hi
          have hgt : (t.un.2.2.2.2.map fun x => Kj (pm x))[i] = Kj (pm t.un.2.2.2.2[i]) := by rw [List.getElem_map]
          have hw := QW (pm t.un.2.2.2.2[i])
          have hk := ((Ky _).1 (h2 _ hmem)).1.1.1
          have hk1 : (pm t.un.2.2.2.2[i]).un.1 = t.un.2.2.2.2[i].un.1 := by rw [Kf]
          refine ⟨pre ++ Lib.join ((t.un.2.2.2.2.map fun x => Kj (pm x)).take (i + 1)) sep, ?_, rfl⟩
          have e1 : ((some t.un.2.2.2.2[i]).bind fun x19 => (if 2 < x19.un.1 then (DQ ([40] : List UInt8) (qx (pm t.un.2.2.2.2[i]))).bind fun x20 => (DQ x20 ([41] : List UInt8)).bind fun x21 => some x21 else some (qx (pm t.un.2.2.2.2[i])))) = some (Kj (pm t.un.2.2.2.2[i])) := by
            rw [Option.bind_some]
            show _ = some (SA _ _)
            unfold SA
            rw [hk1]
            by_cases c : 2 < t.un.2.2.2.2[i].un.1
            · rw [if_pos c, if_pos (by unfold MJ at hk; omega), BS (by simp; omega), Option.bind_some, BS (by simp; omega)]; rfl
            · rw [if_neg c, if_neg (by omega)]
          rw [Cj, if_pos (by omega), C0 (List.getElem?_eq_getElem hi), Option.bind_some, PM, RD, hF _ hmem, Option.bind_some, e1, Option.bind_some, List.take_succ_eq_append_getElem hiL, hgt, NK]
          have hol : o.length ≤ 2000000 := by rw [ho, List.length_append]; omega
          have htl : ((t.un.2.2.2.2.map fun x => Kj (pm x)).take i).length = i := by rw [List.length_take]; omega
          rw [htl]
          by_cases c : 0 < i
          · rw [if_pos (show (0 : Int) < (i : Int) by omega), if_pos c, BS (by omega), Option.bind_some, Option.bind_some, BS (by rw [List.length_append]; omega), Option.bind_some, BN (by omega), ho]
            simp only [List.append_assoc]; rfl
          · have h0 : i = 0 := by omega
            have ho' : o = pre := by rw [ho, h0, List.take_zero, Lib.join_nil, List.append_nil]
            rw [if_neg (show ¬ (0 : Int) < (i : Int) by omega), if_neg c, Option.bind_some, ho', BS (by omega), Option.bind_some, BN (by omega)]; rfl)
        (fun o _ => by rw [Cj, if_neg (by omega)]; rfl) pre (by rw [List.take_zero, Lib.join_nil, List.append_nil])
      have i2' : Br (Cj (Cv n) t sep) (pre, 0) = some o := i2
      rw [i2', i1, List.take_of_length_le (by rw [List.length_map]; omega)]
    have hmw : (t.un.2.2.2.2.map pm).map Kj = t.un.2.2.2.2.map fun x => Kj (pm x) := by rw [List.map_map]; rfl
    have hpk : (mi t.un.2.1).un.1 = t.un.2.1.un.1 := by rw [KU]
    show Ev (Cv n) t = _
    unfold Ev
    rw [Qz, Kf] at hlen ⊢
    dsimp only at hlen ⊢
    rw [hmw, PM] at *
    unfold Uk at hlen ⊢
    rw [hpk]
    by_cases g1 : t.un.1 = 1
    · have ho := h1.2 (.inl g1)
      have hp := px_len' ho.1
      have ho3 := ho.2.2
      have hmc := Ou t.un.2.1
      rw [if_pos g1, if_pos g1]
      by_cases q1 : t.un.2.1.un.1 = 1
      · rw [if_pos (by simp [g1, q1]), if_pos q1]
      rw [if_neg (by simp [q1]), if_neg q1]
      by_cases q2 : t.un.2.1.un.1 = 2
      · rw [if_pos (by simp [g1, q2]), if_pos q2]
      rw [if_neg (by simp [q2]), if_neg q2, LY (by omega) ho.1, Option.bind_some, BS (by simp only [List.length_cons, List.length_nil]; omega)]; rfl
    rw [if_neg (by simp [g1]), if_neg (by simp [g1]), if_neg g1, if_neg g1]
    rw [if_neg g1] at hlen
    by_cases g2 : t.un.1 = 2
    · have h4 := h1.1.1.2.2.2.1 g2
      have htb := HG t.un.2.2.1
      have h5 := H8 (n := t.un.2.2.2.1) (by omega)
      have h6 := KN t.un.2.2.1
      have hw : HZ t.un.2.2.1 = some (BW t.un.2.2.1) := by
        have : t.un.2.2.1 = 0 ∨ t.un.2.2.1 = 1 ∨ t.un.2.2.1 = 2 ∨ t.un.2.2.1 = 3 ∨ t.un.2.2.1 = 4 := by omega
        rcases this with h | h | h | h | h <;> rw [h] <;> rfl
      rw [if_pos g2, if_pos g2, hw, Option.bind_some, BS (by simp; omega), Option.bind_some, NM (by constructor <;> omega), Option.bind_some, BS (by simp; omega)]; rfl
    rw [if_neg g2, if_neg g2]
    rw [if_neg g2] at hlen
    by_cases g3 : t.un.1 = 3
    · rw [if_pos g3, if_neg (by omega), Option.bind_some, if_neg (by omega), Option.bind_some]
      show (Br (Cj (Cv n) t [59, 32]) ([], 0)).bind _ = _
      rw [hloop _ _ (by decide) (by decide)]; rfl
    rw [if_neg g3]
    rw [if_neg g3] at hlen
    by_cases g4 : t.un.1 = 4
    · rw [if_pos g4, if_pos g4, Option.bind_some, if_neg (by omega), Option.bind_some]
      show (Br (Cj (Cv n) t [32, 124, 32]) ([], 0)).bind _ = _
      rw [hloop _ _ (by decide) (by decide)]; rfl
    rw [if_neg g4, if_neg g4]
    have g5 : t.un.1 = 5 := by have := h1.1.1; unfold MJ at this; omega
    have ho := h1.2 (.inr g5)
    have ho3 := ho.2.2
    have hmc := Ou t.un.2.1
    rw [if_neg g4, if_pos g5] at hlen
    simp only [List.length_append, List.length_cons, List.length_nil] at hlen
    rw [if_pos g5, Option.bind_some, if_pos g5, LY (by omega) ho.1, Option.bind_some, BS (by simp only [List.length_cons, List.length_nil]; omega), Option.bind_some, BS (by simp only [List.length_append, List.length_cons, List.length_nil]; omega), Option.bind_some, Option.bind_some]
    show (Br (Cj (Cv n) t [32, 101, 108, 115, 101, 32]) (_, 0)).bind _ = _
    rw [hloop _ _ (by decide) (by simp only [List.length_append, List.length_cons, List.length_nil]; omega)]; rfl
theorem Rt {t : Tr37} (hc : sz (pm t) ≤ 1000) (hf : E0 (pm t) = true) : Kp t = some (qx (pm t)) := B9 (g := fun n => Cv n t) (fun n r h => JF n t r h) (Pv (SizeOf.sizeOf t + 1) t (by omega) hc hf)
abbrev Bk := Int × Int × List UInt8
abbrev kw (w : List UInt8) : Bk := (1, 0, w)
abbrev sg (w : List UInt8) : Bk := (3, 0, w)
abbrev nb (v : Int) : Bk := (2, v, [])
def O3 (b : Bk) (s : List UInt8) : Bool := decide ((b.1 = 1 ∨ b.1 = 3) ∧ b.2.2 = s)
def Sp (l : List Hj) : Nat → List Bk → Prop
  | _, [] => True
  | i, b :: β => (∃ h : i < l.length, bare l[i] = b) ∧ Sp l (i + 1) β
theorem J2 {l : List Hj} : ∀ {β γ : List Bk} {i : Nat}, Sp l i (β ++ γ) ↔ Sp l i β ∧ Sp l (i + β.length) γ
  | [], γ, i => by show Sp l i γ ↔ True ∧ Sp l i γ; rw [true_and]
  | b :: β, γ, i => by
    show _ ∧ Sp l (i + 1) (β ++ γ) ↔ (_ ∧ Sp l (i + 1) β) ∧ Sp l (i + (b :: β).length) γ
    rw [J2 (β := β), and_assoc, show i + 1 + β.length = i + (b :: β).length by simp; omega]
def No (l : List Hj) (j : Nat) (S : List (List UInt8)) : Prop := ∃ h : j < l.length, ∀ s ∈ S, Tf l[j] s = false
theorem Nz {l : List Hj} {j : Nat} {b : Bk} {β : List Bk} {S : List (List UInt8)} (h : Sp l j (b :: β)) (hS : ∀ s ∈ S, O3 b s = false) : No l j S := by
  obtain ⟨⟨h1, h2⟩, _⟩ := h
  refine ⟨h1, fun s hs => ?_⟩
  rw [← hS s hs, ← h2]; rfl
theorem KT {l : List Hj} {j : Nat} {S S' : List (List UInt8)} (h : No l j S) (hs : ∀ s ∈ S', s ∈ S) : No l j S' := ⟨h.1, fun s hm => h.2 s (hs s hm)⟩
section reads
variable {l : List Hj}
theorem P5 {j : Nat} {b : Bk} (h : j < l.length) (e : bare l[j] = b) (s : List UInt8) : Tf l[j] s = O3 b s := by rw [← e]; rfl
theorem EJ {j : Nat} {b : Bk} {β : List Bk} (h : Sp l j (b :: β)) {s : List UInt8} (c : O3 b s = false) : AF (l, (j : Int)) s = some (false, (l, (j : Int))) := by
  obtain ⟨⟨h1, h2⟩, _⟩ := h
  exact Py h1 (by rw [P5 h1 h2, c]; decide)
theorem JG (hl : Tks l) {j : Nat} {b : Bk} {β : List Bk} (h : Sp l j (b :: β)) {s : List UInt8} (c : O3 b s = true) : AF (l, (j : Int)) s = some (true, (l, ((j + 1 : Nat) : Int))) := by
  obtain ⟨⟨h1, h2⟩, _⟩ := h
  exact PG hl h1 (by rw [P5 h1 h2, c])
theorem NQ (hl : Tks l) {j : Nat} {b : Bk} {β : List Bk} (h : Sp l j (b :: β)) {s : List UInt8} (c : O3 b s = true) : AV (l, (j : Int)) s = some (.inl (l, ((j + 1 : Nat) : Int))) := by
  obtain ⟨⟨h1, h2⟩, _⟩ := h
  exact SD hl h1 (by rw [P5 h1 h2, c])
theorem TD (hl : Tks l) {j : Nat} {v : Int} {β : List Bk} (h : Sp l j (nb v :: β)) : BE (l, (j : Int)) = some (.inl (v, (l, ((j + 1 : Nat) : Int)))) := by
  obtain ⟨⟨h1, h2⟩, _⟩ := h
  rw [RQ hl h1 (congrArg Prod.fst h2)]
  rw [show l[j].2.1 = v from congrArg (fun b : Bk => b.2.1) h2]
theorem Tw (hl : Tks l) {j : Nat} {f m : Int} {β : List Bk} (h : Sp l j (kw (AQ f) :: β)) (h0 : 0 ≤ f) (h5 : f ≤ 5) (hm : f ≤ m) : Ck (l, (j : Int)) m = some (.inl (f, (l, ((j + 1 : Nat) : Int)))) := by
  obtain ⟨⟨h1, h2⟩, _⟩ := h
  have e1 : l[j].1 = 1 := congrArg Prod.fst h2
  have e2 : l[j].2.2.1 = AQ f := congrArg (fun b : Bk => b.2.2) h2
  have e3 : BQ l[j] = f := by
    unfold BQ
    rw [if_neg (fun q => q e1), e2]
    have : f = 0 ∨ f = 1 ∨ f = 2 ∨ f = 3 ∨ f = 4 ∨ f = 5 := by omega
    rcases this with rfl | rfl | rfl | rfl | rfl | rfl <;> rfl
  unfold Ck
  rw [L9 h1, Option.bind_some, e3, if_neg (by simp only [Bool.or_eq_true, decide_eq_true_iff]; omega), RI hl h1]
theorem Q2 {A : Type} (hl : Tks l) {sep : List UInt8} {sb : Bk} {Q : List (List UInt8)} {q : A → List Bk} {pf : Ps → Option ((A × Ps) ⊕ Pn)}
    {S : (List A × List Hj × Int) → Option ((List A × List Hj × Int) ⊕ ((List A × List Hj × Int) ⊕ ((A × Ps) ⊕ Pn)))}
    (hS : ∀ xs (j : Nat), S (xs, l, (j : Int)) = (AF (l, (j : Int)) sep).bind fun x10 => if x10.1 = true then (pf x10.2).bind fun x11 => B4 x11 (fun x12 => (DQ xs [x12.1]).bind fun x14 => some (.inl (x14, x12.2.1, x12.2.2))) (fun x13 => some (.inr (.inr (.inr (x13.1, x13.2))))) else some (.inr (.inl (xs, x10.2.1, x10.2.2))))
    (hsb : O3 sb sep = true) (hQ : ∀ s ∈ Q, O3 sb s = false) :
    ∀ (ps : List A), (∀ x ∈ ps, ∀ j : Nat, Sp l j (q x) → No l (j + (q x).length) Q → pf (l, (j : Int)) = some (.inl (x, (l, ((j + (q x).length : Nat) : Int))))) →
      ∀ (j : Nat) (xs : List A), Sp l j (ps.map fun x => sb :: q x).flatten → No l (j + (ps.map fun x => sb :: q x).flatten.length) (sep :: Q) → xs.length + ps.length ≤ 100000 →
        Br S (xs, l, (j : Int)) = some (.inl (xs ++ ps, l, ((j + (ps.map fun x => sb :: q x).flatten.length : Nat) : Int)))
  | [], _, j, xs, hA, hN, hb => by
    obtain ⟨h1, h2⟩ : No l j (sep :: Q) := hN
    have hS1 := hS xs j
    rw [Py h1 (fun q => absurd (q.symm.trans (h2 sep (List.mem_cons_self ..))) (by decide)), Option.bind_some, if_neg (show ¬ ((false, (l, (j : Int))) : Bool × Ps).1 = true from Bool.false_ne_true)] at hS1
    rw [List.append_nil]
    exact GJ hS1
  | x :: ps, hpf, j, xs, hA, hN, hb => by
    have hfl : ((x :: ps).map fun x => sb :: q x).flatten = sb :: (q x ++ (ps.map fun x => sb :: q x).flatten) := by simp
    rw [hfl] at hA hN ⊢
    obtain ⟨a1, a2⟩ := J2.1 hA.2
    have hlen : j + (sb :: (q x ++ (ps.map fun x => sb :: q x).flatten)).length = j + 1 + (q x).length + (ps.map fun x => sb :: q x).flatten.length := by simp; omega
    rw [hlen] at hN ⊢
    have hn : No l (j + 1 + (q x).length) Q := by
      cases ps with
      | nil => exact KT hN fun s hs => List.mem_cons_of_mem _ hs
      | cons y ps => exact Nz (b := sb) (β := q y ++ (ps.map fun x => sb :: q x).flatten) (by simpa using a2) hQ
    have hS1 := hS xs j
    simp only [List.length_cons] at hb
    rw [JG hl hA hsb, Option.bind_some, if_pos rfl] at hS1
    have hS2 : S (xs, l, (j : Int)) = some (.inl (xs ++ [x], l, ((j + 1 + (q x).length : Nat) : Int))) := by
      rw [hS1]
      show (pf (l, ((j + 1 : Nat) : Int))).bind _ = _
      rw [hpf x (List.mem_cons_self ..) (j + 1) a1 hn, Option.bind_some]
      show (DQ xs [x]).bind _ = _
      rw [BS (by simp; omega)]; rfl
    rw [H1 hS2, Q2 hl hS hsb hQ ps (fun y hy => hpf y (List.mem_cons_of_mem _ hy)) (j + 1 + (q x).length) (xs ++ [x]) a2 hN (by simp; omega)]
    simp
theorem HN {A : Type} (hl : Tks l) {sep : List UInt8} {sb : Bk} {Q : List (List UInt8)} {q : A → List Bk} {pf : Ps → Option ((A × Ps) ⊕ Pn)} {node : List A → A}
    {S : (List A × List Hj × Int) → Option ((List A × List Hj × Int) ⊕ ((List A × List Hj × Int) ⊕ ((A × Ps) ⊕ Pn)))}
    (hS : ∀ xs (j : Nat), S (xs, l, (j : Int)) = (AF (l, (j : Int)) sep).bind fun x10 => if x10.1 = true then (pf x10.2).bind fun x11 => B4 x11 (fun x12 => (DQ xs [x12.1]).bind fun x14 => some (.inl (x14, x12.2.1, x12.2.2))) (fun x13 => some (.inr (.inr (.inr (x13.1, x13.2))))) else some (.inr (.inl (xs, x10.2.1, x10.2.2))))
    (hsb : O3 sb sep = true) (hQ : ∀ s ∈ Q, O3 sb s = false) {i : Nat} {P : Option ((A × Ps) ⊕ Pn)}
    (hP : P = (pf (l, (i : Int))).bind fun x1 => B4 x1 (fun x2 => KC (Br S ([x2.1], x2.2.1, x2.2.2)) fun z => if (z.1.length : Int) = 1 then (ix z.1 0).bind fun x15 => some (.inl (x15, (z.2.1, z.2.2))) else some (.inl (node z.1, (z.2.1, z.2.2)))) (fun x3 => some (.inr (x3.1, x3.2))))
    {x : A} {ps : List A} (hpf : ∀ y ∈ x :: ps, ∀ j : Nat, Sp l j (q y) → No l (j + (q y).length) Q → pf (l, (j : Int)) = some (.inl (y, (l, ((j + (q y).length : Nat) : Int)))))
    (hA : Sp l i (q x ++ (ps.map fun x => sb :: q x).flatten)) (hN : No l (i + (q x ++ (ps.map fun x => sb :: q x).flatten).length) (sep :: Q)) (hb : ps.length ≤ 10000) :
    P = some (.inl (if ps.length = 0 then x else node (x :: ps), (l, ((i + (q x ++ (ps.map fun x => sb :: q x).flatten).length : Nat) : Int)))) := by
  obtain ⟨a1, a2⟩ := J2.1 hA
  have hlen : i + (q x ++ (ps.map fun x => sb :: q x).flatten).length = i + (q x).length + (ps.map fun x => sb :: q x).flatten.length := by rw [List.length_append]; omega
  rw [hlen] at hN ⊢
  have hn : No l (i + (q x).length) Q := by
    cases ps with
    | nil => exact KT hN fun s hs => List.mem_cons_of_mem _ hs
    | cons y ps => exact Nz (b := sb) (β := q y ++ (ps.map fun x => sb :: q x).flatten) (by simpa using a2) hQ
  rw [hP, hpf x (List.mem_cons_self ..) i a1 hn, Option.bind_some]
  show KC (Br S ([x], l, ((i + (q x).length : Nat) : Int))) _ = _
  rw [Q2 hl hS hsb hQ ps (fun y hy => hpf y (List.mem_cons_of_mem _ hy)) (i + (q x).length) [x] a2 hN (by simp; omega)]
  show (if (([x] ++ ps).length : Int) = 1 then _ else _) = _
  cases ps with
  | nil => rfl
  | cons y ps =>
    rw [if_neg (by simp; omega), if_neg (by simp)]; rfl
def jn (sb : Bk) : List (List Bk) → List Bk
  | [] => []
  | x :: r => x ++ (r.map fun y => sb :: y).flatten
def Uc (k f v : Int) (L : List (List Bk)) : List Bk :=
  if k = 1 then [kw [116, 114, 117, 101]] else if k = 2 then [kw [102, 97, 108, 115, 101]] else if k = 3 then [kw (AQ f), sg [61], nb v] else if k = 4 then kw [110, 111, 116] :: L.flatten
  else if k = 5 then jn (kw [97, 110, 100]) L else jn (kw [111, 114]) L
def RA (k : Int) (s : List Bk) : List Bk := if k = 5 ∨ k = 6 then sg [40] :: (s ++ [sg [41]]) else s
def tk : Tr25 → List Bk
  | .mk k f v l => Uc k f v (l.map fun x => RA x.un.1 (tk x))
abbrev JV (x : Tr25) : List Bk := RA x.un.1 (tk x)
theorem OR (t : Tr25) : tk t = Uc t.un.1 t.un.2.1 t.un.2.2.1 (t.un.2.2.2.map JV) := by cases t; rw [tk]; rfl
theorem KR {A : Type} (sb : Bk) (q : A → List Bk) (x : A) (r : List A) : jn sb ((x :: r).map q) = q x ++ (r.map fun y => sb :: q y).flatten := by
  show q x ++ ((r.map q).map fun y => sb :: y).flatten = _
  rw [List.map_map]; rfl
theorem K8 {x : Tr25} {k f v : Int} {L : List Tr25} (h1 : x.un.1 = k) (h2 : x.un.2.1 = f) (h3 : x.un.2.2.1 = v) (h4 : x.un.2.2.2 = L) : Tr25.of (k, f, v, L) = x := by rw [← h1, ← h2, ← h3, ← h4]; exact NE x
theorem QM {f : Int} (h0 : 0 ≤ f) (h5 : f ≤ 5) : O3 (kw (AQ f)) [116, 114, 117, 101] = false ∧ O3 (kw (AQ f)) [102, 97, 108, 115, 101] = false ∧ O3 (kw (AQ f)) [110, 111, 116] = false ∧ O3 (kw (AQ f)) [40] = false ∧ O3 (kw (AQ f)) [100, 114, 111, 112] = false ∧ O3 (kw (AQ f)) [105, 100] = false ∧ O3 (kw (AQ f)) [119, 104, 101, 110] = false ∧ O3 (kw (AQ f)) [105, 102] = false := by
  have : f = 0 ∨ f = 1 ∨ f = 2 ∨ f = 3 ∨ f = 4 ∨ f = 5 := by omega
  rcases this with rfl | rfl | rfl | rfl | rfl | rfl <;> decide
def U8 (C : Ps → PC) (l : List Hj) (c : Nat) : Prop := ∀ x : Tr25, E1 x = true → x.cnt < c → ∀ j : Nat, Sp l j (tk x) → No l (j + (tk x).length) [[97, 110, 100], [111, 114]] → C (l, (j : Int)) = some (.inl (x, (l, ((j + (tk x).length : Nat) : Int))))
theorem Nj (hl : Tks l) {C : Ps → PC} {c : Nat} (hC : U8 C l c) : ∀ (m : Nat) (x : Tr25), x.cnt ≤ m → E1 x = true → (x.un.1 ≤ 4 → x.cnt ≤ c) → (5 ≤ x.un.1 → x.cnt < c) → ∀ j : Nat, Sp l j (JV x) → Bm C m (l, (j : Int)) = some (.inl (x, (l, ((j + (JV x).length : Nat) : Int))))
  | 0, x, hm, _, _, _, _, _ => by have := IM x; omega
  | m + 1, x, hm, hf, h4, h5, j, hA => by
    obtain ⟨h1, h2⟩ := (Gt x).1 hf
    have hcc := IM x
    show BB C (Bm C m) (l, (j : Int)) = _
    unfold BB
    by_cases g5 : 5 ≤ x.un.1
    · have hw : JV x = sg [40] :: (tk x ++ [sg [41]]) := by
        show RA _ _ = _
        unfold RA; rw [if_pos (by unfold H4 at h1; omega)]
      rw [hw] at hA ⊢
      obtain ⟨a1, a2⟩ := J2.1 hA.2
      rw [EJ hA (by decide)]
      simp only [Option.bind_some, Bool.false_eq_true, if_false]
      rw [EJ hA (by decide)]
      simp only [Option.bind_some, Bool.false_eq_true, if_false]
      rw [EJ hA (by decide)]
      simp only [Option.bind_some, Bool.false_eq_true, if_false]
      rw [JG hl hA (by decide)]
      simp only [Option.bind_some, if_true]
      rw [hC x hf (h5 g5) (j + 1) a1 (Nz a2 (by decide))]
      show (AV (l, ((j + 1 + (tk x).length : Nat) : Int)) [41]).bind _ = _
      rw [NQ hl a2 (by decide)]
      show some (Sum.inl (x, (l, ((j + 1 + (tk x).length + 1 : Nat) : Int)))) = _
      congr 5; simp; omega
    · have hw : JV x = tk x := by
        show RA _ _ = _
        unfold RA; rw [if_neg (by omega)]
      rw [hw, OR] at hA ⊢
      unfold Uc at hA ⊢
      by_cases g1 : x.un.1 = 1
      · rw [if_pos g1] at hA ⊢
        have hz := h1.2.2.1 (by omega)
        have hL : x.un.2.2.2 = [] := List.length_eq_zero_iff.1 (h1.2.2.2.2.1 (by omega))
        rw [JG hl hA (by decide), Option.bind_some, if_pos rfl, K8 g1 hz.1 hz.2 hL]; rfl
      rw [if_neg g1] at hA ⊢
      by_cases g2 : x.un.1 = 2
      · rw [if_pos g2] at hA ⊢
        have hz := h1.2.2.1 (by omega)
        have hL : x.un.2.2.2 = [] := List.length_eq_zero_iff.1 (h1.2.2.2.2.1 (by omega))
        rw [EJ hA (by decide)]
        simp only [Option.bind_some, Bool.false_eq_true, if_false]
        rw [JG hl hA (by decide), Option.bind_some, if_pos rfl, K8 g2 hz.1 hz.2 hL]; rfl
      rw [if_neg g2] at hA ⊢
      by_cases g3 : x.un.1 = 3
      · rw [if_pos g3] at hA ⊢
        have hz := h1.2.2.2.1 g3
        have hL : x.un.2.2.2 = [] := List.length_eq_zero_iff.1 (h1.2.2.2.2.1 (by omega))
        obtain ⟨n1, n2, n3, n4, _⟩ := QM hz.1 hz.2.1
        rw [EJ hA n1]
        simp only [Option.bind_some, Bool.false_eq_true, if_false]
        rw [EJ hA n2]
        simp only [Option.bind_some, Bool.false_eq_true, if_false]
        rw [EJ hA n3]
        simp only [Option.bind_some, Bool.false_eq_true, if_false]
        rw [EJ hA n4]
        simp only [Option.bind_some, Bool.false_eq_true, if_false]
        rw [Tw hl hA hz.1 hz.2.1 (by omega)]
        show (AV (l, ((j + 1 : Nat) : Int)) [61]).bind _ = _
        rw [NQ hl hA.2 (by decide), Option.bind_some]
        show (BE (l, ((j + 1 + 1 : Nat) : Int))).bind _ = _
        rw [TD hl hA.2.2, Option.bind_some]
        show some (Sum.inl (Tr25.of (3, x.un.2.1, x.un.2.2.1, []), _)) = _
        rw [K8 g3 rfl rfl hL]; rfl
      rw [if_neg g3] at hA ⊢
      have g4 : x.un.1 = 4 := by unfold H4 at h1; omega
      rw [if_pos g4] at hA ⊢
      have hz := h1.2.2.1 (by omega)
      obtain ⟨y, hy⟩ : ∃ y, x.un.2.2.2 = [y] := List.length_eq_one_iff.1 (h1.2.2.2.2.2.1 g4)
      have hL : (x.un.2.2.2.map JV).flatten = JV y := by rw [hy]; simp
      have hyc : x.cnt = 1 + y.cnt := by rw [hcc, hy]; simp
      rw [hL] at hA ⊢
      rw [EJ hA (by decide)]
      simp only [Option.bind_some, Bool.false_eq_true, if_false]
      rw [EJ hA (by decide)]
      simp only [Option.bind_some, Bool.false_eq_true, if_false]
      rw [JG hl hA (by decide)]
      simp only [Option.bind_some, if_true]
      rw [Nj hl hC m y (by omega) (h2 y (by rw [hy]; exact List.mem_cons_self ..)) (fun _ => by have := h4 (by omega); omega) (fun _ => by have := h4 (by omega); omega) (j + 1) hA.2]
      show some (Sum.inl (Tr25.of (4, 0, 0, [y]), _)) = _
      rw [K8 g4 hz.1 hz.2 hy]
      simp only [List.length_cons]
      rw [show j + 1 + (JV y).length = j + ((JV y).length + 1) by omega]
theorem factor_ok' (hl : Tks l) {C : Ps → PC} {c : Nat} (hC : U8 C l c) {x : Tr25} (hf : E1 x = true) (h4 : x.un.1 ≤ 4 → x.cnt ≤ c) (h5 : 5 ≤ x.un.1 → x.cnt < c) {j : Nat} (hA : Sp l j (JV x)) : Cc C (l, (j : Int)) = some (.inl (x, (l, ((j + (JV x).length : Nat) : Int)))) :=
  B9 (g := fun n => Bm C n (l, (j : Int))) (fun n r h => CE (fun _ => Le.rfl' _) n _ r h) (Nj hl hC x.cnt x (Nat.le_refl _) hf h4 h5 j hA)
theorem Oj (hl : Tks l) {C : Ps → PC} {c : Nat} (hC : U8 C l c) {x : Tr25} {ps : List Tr25} (hps : ∀ y ∈ x :: ps, E1 y = true ∧ (y.un.1 ≤ 4 → y.cnt ≤ c) ∧ (5 ≤ y.un.1 → y.cnt < c)) {j : Nat}
    (hA : Sp l j (JV x ++ (ps.map fun x => kw [97, 110, 100] :: JV x).flatten)) (hN : No l (j + (JV x ++ (ps.map fun x => kw [97, 110, 100] :: JV x).flatten).length) [[97, 110, 100]]) (hb : ps.length ≤ 10000) :
    Bz C (l, (j : Int)) = some (.inl (if ps.length = 0 then x else Tr25.of (5, 0, 0, x :: ps), (l, ((j + (JV x ++ (ps.map fun x => kw [97, 110, 100] :: JV x).flatten).length : Nat) : Int)))) := by
  unfold Bz
  rw [HN hl (sep := [97, 110, 100]) (sb := kw [97, 110, 100]) (Q := []) (q := JV) (pf := Cc C) (node := fun xs => Tr25.of (5, 0, 0, xs)) (S := Bg C [97, 110, 100]) (fun xs k => rfl) (by decide) (fun s hs => by cases hs) (P := BG C (l, (j : Int)) [97, 110, 100]) rfl
    (fun y hy k hk _ => factor_ok' hl hC (hps y hy).1 (hps y hy).2.1 (hps y hy).2.2 hk) hA hN hb]
  rfl
theorem Qu (hl : Tks l) : ∀ n : Nat, U8 (AH n) l n
  | 0, x, _, h, _, _, _ => absurd h (Nat.not_lt_zero _)
  | n + 1, x, hf, hn, j, hA, hN => by
    obtain ⟨h1, h2⟩ := (Gt x).1 hf
    have hC := Qu hl n
    have hcc := IM x
    have hch : ∀ y ∈ x.un.2.2.2, E1 y = true ∧ (y.un.1 ≤ 4 → y.cnt ≤ n) ∧ (5 ≤ y.un.1 → y.cnt < n) := fun y hy => by
      have := Iq (g := Tr25.cnt) hy
      exact ⟨h2 y hy, fun _ => by omega, fun _ => by omega⟩
    show Bf (AH n) (l, (j : Int)) = _
    unfold Bf
    by_cases g6 : x.un.1 = 6
    · have hz := h1.2.2.1 (by omega)
      have hlen := h1.2.2.2.2.2.2 (by omega)
      cases hL : x.un.2.2.2 with
      | nil => rw [hL] at hlen; simp at hlen
      | cons y ps =>
        rw [hL] at hlen hch
        have ht : tk x = JV y ++ (ps.map fun x => kw [111, 114] :: JV x).flatten := by
          rw [OR, hL]; unfold Uc
          rw [if_neg (by omega), if_neg (by omega), if_neg (by omega), if_neg (by omega), if_neg (by omega), KR]
        rw [ht] at hA hN ⊢
        rw [HN hl (sep := [111, 114]) (sb := kw [111, 114]) (Q := [[97, 110, 100]]) (q := JV) (pf := Bz (AH n)) (node := fun xs => Tr25.of (6, 0, 0, xs)) (S := Bh (AH n) [111, 114]) (fun xs k => rfl) (by decide) (by decide) (P := BH (AH n) (l, (j : Int)) [111, 114]) rfl
          (fun z hz k hk hk2 => by
            have := Oj hl hC (x := z) (ps := []) (fun w hw => by rw [List.mem_singleton.1 hw]; exact hch z hz) (j := k) (by simpa using hk) (by simpa using hk2) (by simp)
            simpa using this) hA (KT hN (by decide)) (by simp only [List.length_cons] at hlen; omega)]
        simp only [List.length_cons] at hlen
        rw [if_neg (by omega), K8 g6 hz.1 hz.2 hL]
        rfl
    · have hone : ∀ k : Nat, Sp l k (tk x) → No l (k + (tk x).length) [[97, 110, 100]] → Bz (AH n) (l, (k : Int)) = some (.inl (x, (l, ((k + (tk x).length : Nat) : Int)))) := fun k hk hk2 => by
        by_cases g5 : x.un.1 = 5
        · have hz := h1.2.2.1 (by omega)
          have hlen := h1.2.2.2.2.2.2 (by omega)
          cases hL : x.un.2.2.2 with
          | nil => rw [hL] at hlen; simp at hlen
          | cons y ps =>
            rw [hL] at hlen hch
            simp only [List.length_cons] at hlen
            have ht : tk x = JV y ++ (ps.map fun x => kw [97, 110, 100] :: JV x).flatten := by
              rw [OR, hL]; unfold Uc
              rw [if_neg (by omega), if_neg (by omega), if_neg (by omega), if_neg (by omega), if_pos g5, KR]
            rw [ht] at hk hk2 ⊢
            rw [Oj hl hC hch hk hk2 (by omega), if_neg (by omega), K8 g5 hz.1 hz.2 hL]
        · have hw : JV x = tk x := by
            show RA _ _ = _
            unfold RA; rw [if_neg (by omega)]
          rw [← hw] at hk hk2 ⊢
          have := Oj hl hC (x := x) (ps := []) (fun w hw => by rw [List.mem_singleton.1 hw]; exact ⟨hf, fun _ => by omega, fun _ => by unfold H4 at h1; omega⟩) (j := k) (by simpa using hk) (by simpa using hk2) (by simp)
          simpa using this
      rw [HN hl (x := x) (ps := []) (sep := [111, 114]) (sb := kw [111, 114]) (Q := [[97, 110, 100]]) (q := tk) (pf := Bz (AH n)) (node := fun xs => Tr25.of (6, 0, 0, xs)) (S := Bh (AH n) [111, 114]) (fun xs k => rfl) (by decide) (by decide) (P := BH (AH n) (l, (j : Int)) [111, 114]) rfl
          (fun z hz k hk hk2 => by rw [List.mem_singleton.1 hz] at hk hk2 ⊢; exact hone k hk hk2) (by simpa using hA) (by simpa using KT hN (by decide)) (by simp)]
      show some (Sum.inl (x, (l, ((j + (tk x ++ []).length : Nat) : Int)))) = _
      rw [List.append_nil]
theorem cond_ok' (hl : Tks l) {x : Tr25} (hf : E1 x = true) {j : Nat} (hA : Sp l j (tk x)) (hN : No l (j + (tk x).length) [[97, 110, 100], [111, 114]]) : B5 (l, (j : Int)) = some (.inl (x, (l, ((j + (tk x).length : Nat) : Int)))) :=
  B9 (g := fun n => AH n (l, (j : Int))) (fun n r h => Dl n _ r h) (Qu hl (x.cnt + 1) x hf (Nat.lt_succ_self _) j hA hN)
def T0 (k : Int) (p : Tr25) (f v : Int) (L : List (List Bk)) : List Bk :=
  if k = 1 then (if p.un.1 = 1 then [kw [105, 100]] else if p.un.1 = 2 then [kw [100, 114, 111, 112]] else kw [119, 104, 101, 110] :: tk p) else if k = 2 then [kw (AQ f), sg [58, 61], nb v]
  else if k = 3 then jn (sg [59]) L else if k = 4 then jn (sg [124]) L else kw [105, 102] :: (tk p ++ kw [116, 104, 101, 110] :: jn (kw [101, 108, 115, 101]) L)
def SN (k : Int) (s : List Bk) : List Bk := if k = 3 ∨ k = 4 ∨ k = 5 then sg [40] :: (s ++ [sg [41]]) else s
def tq : Tr28 → List Bk
  | .mk k p f v l => T0 k p f v (l.map fun x => SN x.un.1 (tq x))
abbrev J9 (x : Tr28) : List Bk := SN x.un.1 (tq x)
theorem Ph (t : Tr28) : tq t = T0 t.un.1 t.un.2.1 t.un.2.2.1 t.un.2.2.2.1 (t.un.2.2.2.2.map J9) := by cases t; rw [tq]; rfl
theorem J4 {x : Tr28} {k : Int} {p : Tr25} {f v : Int} {L : List Tr28} (h1 : x.un.1 = k) (h0 : x.un.2.1 = p) (h2 : x.un.2.2.1 = f) (h3 : x.un.2.2.2.1 = v) (h4 : x.un.2.2.2.2 = L) : Tr28.of (k, p, f, v, L) = x := by rw [← h1, ← h0, ← h2, ← h3, ← h4]; exact Pm x
theorem SP {α : Type} : ∀ {l : List α}, l.length = 2 → ∃ a b, l = [a, b]
  | [a, b], _ => ⟨a, b, rfl⟩
def TA : List (List UInt8) := [[97, 110, 100], [111, 114], [59], [124]]
def UF (C : Ps → PD) (l : List Hj) (c : Nat) : Prop := ∀ x : Tr28, E0 x = true → sz x < c → ∀ j : Nat, Sp l j (tq x) → No l (j + (tq x).length) TA → C (l, (j : Int)) = some (.inl (x, (l, ((j + (tq x).length : Nat) : Int))))
theorem Uf (x : Tr28) : 1 ≤ sz x := by rw [Kx]; omega
theorem SV (hl : Tks l) {C : Ps → PD} {c : Nat} (hC : UF C l c) (m : Nat) {x : Tr28} (hf : E0 x = true) (hc : sz x < c) {j : Nat} (hA : Sp l j (sg [40] :: (tq x ++ [sg [41]]))) : A6 C (m + 1) (l, (j : Int)) = some (.inl (x, (l, ((j + (sg [40] :: (tq x ++ [sg [41]])).length : Nat) : Int)))) := by
  show Bq C (A6 C m) (l, (j : Int)) = _
  unfold Bq
  simp only [NE, Pm, Am]
  obtain ⟨a1, a2⟩ := J2.1 hA.2
  rw [EJ hA (by decide)]
  simp only [Option.bind_some, Bool.false_eq_true, if_false]
  rw [EJ hA (by decide)]
  simp only [Option.bind_some, Bool.false_eq_true, if_false]
  rw [EJ hA (by decide)]
  simp only [Option.bind_some, Bool.false_eq_true, if_false]
  rw [EJ hA (by decide)]
  simp only [Option.bind_some, Bool.false_eq_true, if_false]
  rw [JG hl hA (by decide)]
  simp only [Option.bind_some, if_true]
  rw [hC x hf hc (j + 1) a1 (Nz a2 (by decide))]
  show (AV (l, ((j + 1 + (tq x).length : Nat) : Int)) [41]).bind _ = _
  rw [NQ hl a2 (by decide)]
  show some (Sum.inl (x, (l, ((j + 1 + (tq x).length + 1 : Nat) : Int)))) = _
  congr 5; simp; omega
theorem LC (hl : Tks l) {C : Ps → PD} {c : Nat} (hC : UF C l c) : ∀ (m : Nat) (x : Tr28), sz x ≤ m → E0 x = true → sz x ≤ c →
    ((x.un.1 ≤ 2 ∨ x.un.1 = 5) → ∀ j : Nat, Sp l j (tq x) → No l (j + (tq x).length) [[97, 110, 100], [111, 114]] → A6 C m (l, (j : Int)) = some (.inl (x, (l, ((j + (tq x).length : Nat) : Int))))) ∧
    ((3 ≤ x.un.1 → sz x < c) → ∀ j : Nat, Sp l j (J9 x) → No l (j + (J9 x).length) [[97, 110, 100], [111, 114]] → A6 C m (l, (j : Int)) = some (.inl (x, (l, ((j + (J9 x).length : Nat) : Int)))))
  | 0, x, hm, _, _ => by have := Uf x; omega
  | m + 1, x, hm, hf, hc => by
    obtain ⟨h1, h2⟩ := (Hf x).1 hf
    have hlin := h1.1.1
    unfold MJ at hlin
    have hraw : (x.un.1 ≤ 2 ∨ x.un.1 = 5) → ∀ j : Nat, Sp l j (tq x) → No l (j + (tq x).length) [[97, 110, 100], [111, 114]] → A6 C (m + 1) (l, (j : Int)) = some (.inl (x, (l, ((j + (tq x).length : Nat) : Int)))) := by
      intro hk j hA hN
      show Bq C (A6 C m) (l, (j : Int)) = _
      unfold Bq
      simp only [NE, Pm, Am]
      rw [Ph] at hA hN ⊢
      unfold T0 at hA hN ⊢
      by_cases g1 : x.un.1 = 1
      · have hz := hlin.2.2.1 (by omega)
        have hL : x.un.2.2.2.2 = [] := List.length_eq_zero_iff.1 (hlin.2.2.2.2.1 (by omega))
        have ho := h1.2 (.inl g1)
        obtain ⟨p1, _⟩ := (Gt x.un.2.1).1 ho.1
        rw [if_pos g1] at hA hN ⊢
        by_cases q1 : x.un.2.1.un.1 = 1
        · have hpz := p1.2.2.1 (by omega)
          have hpL : x.un.2.1.un.2.2.2 = [] := List.length_eq_zero_iff.1 (p1.2.2.2.2.1 (by omega))
          rw [if_pos q1] at hA hN ⊢
          rw [EJ hA (by decide)]
          simp only [Option.bind_some, Bool.false_eq_true, if_false]
          rw [JG hl hA (by decide), Option.bind_some, if_pos rfl, K8 q1 hpz.1 hpz.2 hpL]
          show some (Sum.inl (Tr28.of (1, x.un.2.1, 0, 0, []), _)) = _
          rw [J4 g1 rfl hz.1 hz.2 hL]; rfl
        rw [if_neg q1] at hA hN ⊢
        by_cases q2 : x.un.2.1.un.1 = 2
        · have hpz := p1.2.2.1 (by omega)
          have hpL : x.un.2.1.un.2.2.2 = [] := List.length_eq_zero_iff.1 (p1.2.2.2.2.1 (by omega))
          rw [if_pos q2] at hA hN ⊢
          rw [JG hl hA (by decide), Option.bind_some, if_pos rfl, K8 q2 hpz.1 hpz.2 hpL]
          show some (Sum.inl (Tr28.of (1, x.un.2.1, 0, 0, []), _)) = _
          rw [J4 g1 rfl hz.1 hz.2 hL]; rfl
        rw [if_neg q2] at hA hN ⊢
        rw [EJ hA (by decide)]
        simp only [Option.bind_some, Bool.false_eq_true, if_false]
        rw [EJ hA (by decide)]
        simp only [Option.bind_some, Bool.false_eq_true, if_false]
        rw [JG hl hA (by decide)]
        simp only [Option.bind_some, if_true]
        have hlen : j + (kw [119, 104, 101, 110] :: tk x.un.2.1).length = j + 1 + (tk x.un.2.1).length := by simp; omega
        rw [hlen] at hN ⊢
        rw [cond_ok' hl ho.1 hA.2 hN]
        show some (Sum.inl (Tr28.of (1, x.un.2.1, 0, 0, []), _)) = _
        rw [J4 g1 rfl hz.1 hz.2 hL]
      rw [if_neg g1] at hA hN ⊢
      by_cases g2 : x.un.1 = 2
      · have hz := hlin.2.2.2.1 g2
        have hL : x.un.2.2.2.2 = [] := List.length_eq_zero_iff.1 (hlin.2.2.2.2.1 (by omega))
        have hp := h1.1.2 (.inl g2)
        rw [if_pos g2] at hA hN ⊢
        obtain ⟨_, _, _, n4, n5, n6, n7, n8⟩ := QM (f := x.un.2.2.1) hz.1 (by omega)
        rw [EJ hA n5]
        simp only [Option.bind_some, Bool.false_eq_true, if_false]
        rw [EJ hA n6]
        simp only [Option.bind_some, Bool.false_eq_true, if_false]
        rw [EJ hA n7]
        simp only [Option.bind_some, Bool.false_eq_true, if_false]
        rw [EJ hA n8]
        simp only [Option.bind_some, Bool.false_eq_true, if_false]
        rw [EJ hA n4]
        simp only [Option.bind_some, Bool.false_eq_true, if_false]
        rw [Tw hl hA hz.1 (by omega) hz.2.1]
        show (AV (l, ((j + 1 : Nat) : Int)) [58, 61]).bind _ = _
        rw [NQ hl hA.2 (by decide), Option.bind_some]
        show (BE (l, ((j + 1 + 1 : Nat) : Int))).bind _ = _
        rw [TD hl hA.2.2, Option.bind_some]
        show some (Sum.inl (Tr28.of (2, ZP, x.un.2.2.1, x.un.2.2.2.1, []), _)) = _
        rw [J4 g2 hp rfl rfl hL]; rfl
      rw [if_neg g2] at hA hN ⊢
      have g5 : x.un.1 = 5 := by omega
      have hz := hlin.2.2.1 (by omega)
      have ho := h1.2 (.inr g5)
      rw [if_neg (by omega), if_neg (by omega)] at hA hN ⊢
      obtain ⟨a, b, hL⟩ : ∃ a b, x.un.2.2.2.2 = [a, b] := SP (hlin.2.2.2.2.2.1 g5)
      have ma : a ∈ x.un.2.2.2.2 := by rw [hL]; exact List.mem_cons_self ..
      have mb : b ∈ x.un.2.2.2.2 := by rw [hL]; exact List.mem_cons_of_mem _ (List.mem_cons_self ..)
      have sa := Nk ma
      have sb := Nk mb
      have hj : jn (kw [101, 108, 115, 101]) (x.un.2.2.2.2.map J9) = J9 a ++ kw [101, 108, 115, 101] :: J9 b := by rw [hL]; simp [jn]
      rw [hj] at hA hN ⊢
      obtain ⟨a1, a2⟩ := J2.1 hA.2
      obtain ⟨a3, a4⟩ := J2.1 a2.2
      have hlen : j + (kw [105, 102] :: (tk x.un.2.1 ++ kw [116, 104, 101, 110] :: (J9 a ++ kw [101, 108, 115, 101] :: J9 b))).length = j + 1 + (tk x.un.2.1).length + 1 + (J9 a).length + 1 + (J9 b).length := by simp; omega
      rw [hlen] at hN ⊢
      rw [EJ hA (by decide)]
      simp only [Option.bind_some, Bool.false_eq_true, if_false]
      rw [EJ hA (by decide)]
      simp only [Option.bind_some, Bool.false_eq_true, if_false]
      rw [EJ hA (by decide)]
      simp only [Option.bind_some, Bool.false_eq_true, if_false]
      rw [JG hl hA (by decide)]
      simp only [Option.bind_some, if_true]
      unfold BV
      simp only [NE, Pm]
      rw [cond_ok' hl ho.1 a1 (Nz a2 (by decide))]
      have e1 : AV ((x.un.2.1, (l, ((j + 1 + (tk x.un.2.1).length : Nat) : Int))) : Tr25 × Ps).2 [116, 104, 101, 110] = _ := NQ hl a2 (by decide)
      simp only [Option.bind_some, B4, e1]
      rw [(LC hl hC m a (by omega) (h2 a ma) (by omega)).2 (fun _ => by omega) _ a3 (Nz a4 (by decide))]
      have e2 : AV (l, ((j + 1 + (tk x.un.2.1).length + 1 + (J9 a).length : Nat) : Int)) [101, 108, 115, 101] = _ := NQ hl a4 (by decide)
      simp only [Option.bind_some, e2]
      rw [(LC hl hC m b (by omega) (h2 b mb) (by omega)).2 (fun _ => by omega) _ a4.2 hN]
      show some (Sum.inl (Tr28.of (5, x.un.2.1, 0, 0, [a, b]), _)) = _
      rw [J4 g5 rfl hz.1 hz.2 hL]
    refine ⟨hraw, fun hc2 j hA hN => ?_⟩
    by_cases g3 : 3 ≤ x.un.1
    · have hw : J9 x = sg [40] :: (tq x ++ [sg [41]]) := by
        show SN _ _ = _
        unfold SN; rw [if_pos (by omega)]
      rw [hw] at hA ⊢
      exact SV hl hC m hf (hc2 g3) hA
    · have hw : J9 x = tq x := by
        show SN _ _ = _
        unfold SN; rw [if_neg (by omega)]
      rw [hw] at hA hN ⊢
      exact hraw (.inl (by omega)) j hA hN
theorem Sz (hl : Tks l) {C : Ps → PD} {c : Nat} (hC : UF C l c) {x : Tr28} (hf : E0 x = true) (hc : sz x ≤ c) (hk : x.un.1 ≤ 2 ∨ x.un.1 = 5) {j : Nat} (hA : Sp l j (tq x)) (hN : No l (j + (tq x).length) [[97, 110, 100], [111, 114]]) : BO C (l, (j : Int)) = some (.inl (x, (l, ((j + (tq x).length : Nat) : Int)))) :=
  B9 (g := fun n => A6 C n (l, (j : Int))) (fun n r h => Cq (fun _ => Le.rfl' _) n _ r h) ((LC hl hC (sz x) x (Nat.le_refl _) hf hc).1 hk j hA hN)
theorem Ua (hl : Tks l) {C : Ps → PD} {c : Nat} (hC : UF C l c) {x : Tr28} (hf : E0 x = true) (hc : sz x < c) {j : Nat} (hA : Sp l j (J9 x)) (hN : No l (j + (J9 x).length) [[97, 110, 100], [111, 114]]) : BO C (l, (j : Int)) = some (.inl (x, (l, ((j + (J9 x).length : Nat) : Int)))) :=
  B9 (g := fun n => A6 C n (l, (j : Int))) (fun n r h => Cq (fun _ => Le.rfl' _) n _ r h) ((LC hl hC (sz x) x (Nat.le_refl _) hf (Nat.le_of_lt hc)).2 (fun _ => hc) j hA hN)
theorem PP (hl : Tks l) {C : Ps → PD} {q : Tr28 → List Bk} {x : Tr28} {ps : List Tr28} (hst : ∀ y ∈ x :: ps, ∀ k : Nat, Sp l k (q y) → No l (k + (q y).length) [[97, 110, 100], [111, 114]] → BO C (l, (k : Int)) = some (.inl (y, (l, ((k + (q y).length : Nat) : Int))))) {j : Nat}
    (hA : Sp l j (q x ++ (ps.map fun x => sg [59] :: q x).flatten)) (hN : No l (j + (q x ++ (ps.map fun x => sg [59] :: q x).flatten).length) [[59], [97, 110, 100], [111, 114]]) (hb : ps.length ≤ 10000) :
    Ba C (l, (j : Int)) = some (.inl (if ps.length = 0 then x else Tr28.of (3, ZP, 0, 0, x :: ps), (l, ((j + (q x ++ (ps.map fun x => sg [59] :: q x).flatten).length : Nat) : Int)))) := by
  unfold Ba
  simp only [NE, Pm]
  rw [HN hl (sep := [59]) (sb := sg [59]) (Q := [[97, 110, 100], [111, 114]]) (q := q) (pf := BO C) (node := fun xs => Tr28.of (3, ZP, 0, 0, xs)) (S := A8 C [59]) (fun xs k => by rw [A8]; simp only [NE, Pm]) (by decide) (by decide) (P := Bv C (l, (j : Int)) [59]) (by unfold Bv; simp only [NE, Pm] <;> rfl)
    hst hA hN hb]
  rfl
theorem RF (hl : Tks l) : ∀ n : Nat, UF (AJ n) l n
  | 0, x, _, h, _, _, _ => absurd h (Nat.not_lt_zero _)
  | n + 1, x, hf, hn, j, hA, hN => by
    obtain ⟨h1, h2⟩ := (Hf x).1 hf
    have hlin := h1.1.1
    unfold MJ at hlin
    have hC := RF hl n
    have hw : ∀ y ∈ x.un.2.2.2.2, ∀ k : Nat, Sp l k (J9 y) → No l (k + (J9 y).length) [[97, 110, 100], [111, 114]] → BO (AJ n) (l, (k : Int)) = some (.inl (y, (l, ((k + (J9 y).length : Nat) : Int)))) := fun y hy k hk hk2 => Ua hl hC (h2 y hy) (by have := Nk hy; omega) hk hk2
    show BA (AJ n) (l, (j : Int)) = _
    unfold BA
    simp only [NE, Pm]
    by_cases g4 : x.un.1 = 4
    · have hz := hlin.2.2.1 (by omega)
      have hlen := hlin.2.2.2.2.2.2 (by omega)
      have hp := h1.1.2 (.inr (.inr g4))
      cases hL : x.un.2.2.2.2 with
      | nil => rw [hL] at hlen; simp at hlen
      | cons y ps =>
        rw [hL] at hlen hw
        simp only [List.length_cons] at hlen
        have ht : tq x = J9 y ++ (ps.map fun x => sg [124] :: J9 x).flatten := by
          rw [Ph, hL]; unfold T0
          rw [if_neg (by omega), if_neg (by omega), if_neg (by omega), if_pos g4, KR]
        rw [ht] at hA hN ⊢
        rw [HN hl (sep := [124]) (sb := sg [124]) (Q := [[59], [97, 110, 100], [111, 114]]) (q := J9) (pf := Ba (AJ n)) (node := fun xs => Tr28.of (4, ZP, 0, 0, xs)) (S := A5 (AJ n) [124]) (fun xs k => by rw [A5]; simp only [NE, Pm]) (by decide) (by decide) (P := Bj (AJ n) (l, (j : Int)) [124]) (by unfold Bj; simp only [NE, Pm] <;> rfl)
          (fun z hz k hk hk2 => by
            have := PP hl (C := AJ n) (q := J9) (x := z) (ps := []) (fun w hw' => by rw [List.mem_singleton.1 hw']; exact hw z hz) (j := k) (by simpa using hk) (by simpa using hk2) (by simp)
            simpa using this) hA (KT hN (by decide)) (by omega)]
        rw [if_neg (by omega), J4 g4 hp hz.1 hz.2 hL]
        rfl
    · have hone : ∀ k : Nat, Sp l k (tq x) → No l (k + (tq x).length) [[59], [97, 110, 100], [111, 114]] → Ba (AJ n) (l, (k : Int)) = some (.inl (x, (l, ((k + (tq x).length : Nat) : Int)))) := fun k hk hk2 => by
        by_cases g3 : x.un.1 = 3
        · have hz := hlin.2.2.1 (by omega)
          have hlen := hlin.2.2.2.2.2.2 (by omega)
          have hp := h1.1.2 (.inr (.inl g3))
          cases hL : x.un.2.2.2.2 with
          | nil => rw [hL] at hlen; simp at hlen
          | cons y ps =>
            rw [hL] at hlen hw
            simp only [List.length_cons] at hlen
            have ht : tq x = J9 y ++ (ps.map fun x => sg [59] :: J9 x).flatten := by
              rw [Ph, hL]; unfold T0
              rw [if_neg (by omega), if_neg (by omega), if_pos g3, KR]
            rw [ht] at hk hk2 ⊢
            rw [PP hl hw hk hk2 (by omega), if_neg (by omega), J4 g3 hp hz.1 hz.2 hL]
        · have := PP hl (C := AJ n) (q := tq) (x := x) (ps := []) (fun w hw' => by rw [List.mem_singleton.1 hw']; exact fun k hk hk2 => Sz hl hC hf (by omega) (by omega) hk hk2) (j := k) (by simpa using hk) (by simpa using hk2) (by simp)
          simpa using this
      rw [HN hl (x := x) (ps := []) (sep := [124]) (sb := sg [124]) (Q := [[59], [97, 110, 100], [111, 114]]) (q := tq) (pf := Ba (AJ n)) (node := fun xs => Tr28.of (4, ZP, 0, 0, xs)) (S := A5 (AJ n) [124]) (fun xs k => by rw [A5]; simp only [NE, Pm]) (by decide) (by decide) (P := Bj (AJ n) (l, (j : Int)) [124]) (by unfold Bj; simp only [NE, Pm] <;> rfl)
          (fun z hz k hk hk2 => by rw [List.mem_singleton.1 hz] at hk hk2 ⊢; exact hone k hk hk2) (by simpa using hA) (by simpa using KT hN (by decide)) (by simp)]
      show some (Sum.inl (x, (l, ((j + (tq x ++ []).length : Nat) : Int)))) = _
      rw [List.append_nil]
theorem pol_ok' (hl : Tks l) {x : Tr28} (hf : E0 x = true) {j : Nat} (hA : Sp l j (tq x)) (hN : No l (j + (tq x).length) TA) : Di (l, (j : Int)) = some (.inl (x, (l, ((j + (tq x).length : Nat) : Int)))) :=
  B9 (g := fun n => AJ n (l, (j : Int))) (fun n r h => DY n _ r h) (RF hl (sz x + 1) x hf (Nat.lt_succ_self _) j hA hN)
end reads
def VA (r : List UInt8) : Prop := r = [] ∨ ∃ c r', r = c :: r' ∧ Kq c = false ∧ JT c = false ∧ c ≠ 61
def NB (v : List UInt8) : Prop := ∀ r, DJ false (v ++ r) = 0
def LX (u : List UInt8) (β : List Bk) : Prop := ∀ (s : List UInt8) (a : Nat) (r : List UInt8), s.length ≤ 4000 → s.drop a = u ++ r → VA r → ∀ ts, Run s (a + u.length + DJ false r) ts → ∃ ts', ts'.map bare = β ∧ Run s a (ts' ++ ts)
theorem GA {u v : List UInt8} (h : NB u) : NB (u ++ v) := fun r => by rw [List.append_assoc]; exact h _
theorem TV (v : List UInt8) : VA (32 :: v) := .inr ⟨32, v, rfl, by decide, by decide, by decide⟩
theorem UH {v r : List UInt8} (h : NB v) : DJ false (32 :: (v ++ r)) = 1 := by rw [JX, if_neg (by decide), if_neg (by decide), if_neg (by decide), h r]
theorem PY {t : Hj} (h : Good t) (hl : (tx t).length ≤ 900) : LX (tx t) [bare t] ∧ NB (tx t) := by
  have hp := h.pos
  refine ⟨fun s a r hs hd ho ts hr => ?_, Ro h (by omega)⟩
  have hlen := congrArg List.length hd
  rw [List.length_drop, List.length_append] at hlen
  have hf : CC (s.drop a) = some ((t.1, t.2.1, t.2.2.1, 0), ((tx t).length : Int)) := by
    rw [hd]
    rcases ho with rfl | ⟨c, r', rfl, h1, h2, h3⟩
    · rw [List.append_nil]; exact h.fst
    · rw [Ng h1 h2 h3 hp (by simp only [List.length_append, List.length_cons] at hlen ⊢; omega)]; exact h.fst
  have hdr : s.drop (a + (tx t).length) = r := by rw [← List.drop_drop, hd, List.drop_left]
  exact ⟨[(t.1, t.2.1, t.2.2.1, (a : Int))], rfl, .cons (by omega) hf hp (by omega) (by rw [hdr]; exact hr)⟩
theorem SF {u v : List UInt8} {β γ : List Bk} (hu : LX u β) (hv : LX v γ) (ho : ∀ r, VA (v ++ r)) (hn : NB v) : LX (u ++ v) (β ++ γ) := fun s a r hs hd hr ts h => by
  rw [List.append_assoc] at hd
  have hdr : s.drop (a + u.length) = v ++ r := by rw [← List.drop_drop, hd, List.drop_left]
  obtain ⟨t2, e2, r2⟩ := hv s (a + u.length) r hs hdr hr ts (by rw [List.length_append] at h; rw [show a + u.length + v.length = a + (u.length + v.length) by omega]; exact h)
  obtain ⟨t1, e1, r1⟩ := hu s a (v ++ r) hs hd (ho r) (t2 ++ ts) (by rw [hn r]; exact r2)
  exact ⟨t1 ++ t2, by rw [List.map_append, e1, e2], by rw [List.append_assoc]; exact r1⟩
theorem JR {u v : List UInt8} {β γ : List Bk} (hu : LX u β) (hv : LX v γ) (hn : NB v) : LX (u ++ 32 :: v) (β ++ γ) := fun s a r hs hd hr ts h => by
  rw [List.append_assoc] at hd
  have hdr : s.drop (a + u.length + 1) = v ++ r := by
    rw [show a + u.length + 1 = a + (u ++ [32]).length by simp; omega, ← List.drop_drop, hd, show u ++ (32 :: v ++ r) = (u ++ [32]) ++ (v ++ r) by simp, List.drop_left]
  obtain ⟨t2, e2, r2⟩ := hv s (a + u.length + 1) r hs hdr hr ts (by
    rw [List.length_append, List.length_cons] at h
    rw [show a + u.length + 1 + v.length = a + (u.length + (v.length + 1)) by omega]; exact h)
  obtain ⟨t1, e1, r1⟩ := hu s a (32 :: (v ++ r)) hs hd (TV _) (t2 ++ ts) (by rw [UH hn]; exact r2)
  exact ⟨t1 ++ t2, by rw [List.map_append, e1, e2], by rw [List.append_assoc]; exact r1⟩
theorem Uw {v : List UInt8} {γ : List Bk} (hv : LX v γ) (hn : NB v) : LX (40 :: v) (sg [40] :: γ) := fun s a r hs hd hr ts h => by
  have hlen := congrArg List.length hd
  rw [List.length_drop, List.length_append, List.length_cons] at hlen
  have hf : CC (s.drop a) = some ((3, 0, [40], 0), ((1 : Nat) : Int)) := by
    rw [hd, E2 (by simp) (by simp only [List.length_append, List.length_cons]; omega)]
    have h1 : Cf Kq (40 :: v ++ r) = 0 := by show Cf Kq (40 :: (v ++ r)) = 0; rw [ER, if_neg (by decide)]
    have h2 : Cf JT (40 :: v ++ r) = 0 := by show Cf JT (40 :: (v ++ r)) = 0; rw [ER, if_neg (by decide)]
    have h3 : FD (40 :: v ++ r) = 1 := by show FD (40 :: (v ++ r)) = 1; rw [Gb, if_pos (.inl (by decide))]
    rw [h1, h2, h3, if_neg (by decide), if_neg (by decide), if_neg (by decide)]; rfl
  have hdr : s.drop (a + 1) = v ++ r := by rw [← List.drop_drop, hd]; rfl
  obtain ⟨t2, e2, r2⟩ := hv s (a + 1) r hs hdr hr ts (by
    rw [List.length_cons] at h
    rw [show a + 1 + v.length = a + (v.length + 1) by omega]; exact h)
  exact ⟨(3, 0, [40], (a : Int)) :: t2, by rw [List.map_cons, e2], .cons (by omega) hf (by decide) (by omega) (by rw [hdr, hn r]; exact r2)⟩
theorem Td {w : List UInt8} (h : Cf Kq w = w.length) (h0 : 0 < w.length) (hl : w.length ≤ 900) : Good (1, 0, w, 0) where
  pos := h0
  fst := by
    show CC w = some ((1, 0, w, 0), (w.length : Int))
    rw [E2 h0 (by omega), if_pos (by omega), h, List.take_length]
  num := fun h => absurd h (show ¬ (1 : Int) = 2 by decide)
  kind := .inl rfl
theorem SX {w : List UInt8} (h1 : Cf Kq w = 0) (h2 : Cf JT w = 0) (h : FD w = w.length) (h0 : 0 < w.length) (hl : w.length ≤ 900) : Good (3, 0, w, 0) where
  pos := h0
  fst := by
    show CC w = some ((3, 0, w, 0), (w.length : Int))
    rw [E2 h0 (by omega), if_neg (by omega), if_neg (by omega), if_neg (by omega), h, List.take_length]
  num := fun h => absurd h (show ¬ (3 : Int) = 2 by decide)
  kind := .inr (.inr rfl)
theorem Uh : ∀ n : Fin 1000, (∀ b ∈ d3 n.val, 48 ≤ b.toNat ∧ b.toNat ≤ 57) ∧ Cf Kq (d3 n.val) = 0 ∧ Cf JT (d3 n.val) = (d3 n.val).length := by decide +kernel
theorem SZ {n : Nat} (h : n < 1000) : Good (2, (n : Int), [], 0) := by
  obtain ⟨a1, a2, a3, _⟩ := OC ⟨n, h⟩
  obtain ⟨b1, b2, b3⟩ := Uh ⟨n, h⟩
  simp only at a1 a2 a3 b1 b2 b3
  have e : tx (2, (n : Int), [], 0) = d3 n := by unfold tx; rw [if_pos rfl]; rfl
  have hnum : Cu (d3 n) = some ((2, (n : Int), [], 0), ((d3 n).length : Int)) := by
    rcases SB b1 a3 (by omega) with ⟨e1, _⟩ | ⟨_, e2⟩
    · rw [e1, a1]
    · exfalso
      rw [J3, LW (v := (n : Int)) (x := n) (List.mem_range.2 h) (if_pos rfl) (fun y hy u hu => by
        by_cases c : d3 y = d3 n
        · rw [if_pos c] at hu
          rw [← Option.some.inj hu, ← RH (List.mem_range.1 hy) c, a1]
        · rw [if_neg c] at hu; cases hu)] at e2
      have := Option.some.inj e2
      simp only at this; omega
  exact ⟨by rw [e]; omega, by
    rw [e, E2 (by omega) (by omega), b2, b3, if_neg (by decide), if_pos (by omega), List.take_length]; exact hnum, fun _ => by simp only; omega, .inr (.inl rfl)⟩
theorem Iw {w : List UInt8} (h : Cf Kq w = w.length) (h0 : 0 < w.length) (hl : w.length ≤ 900) : LX w [kw w] ∧ NB w := PY (Td h h0 hl) hl
theorem Pl {w : List UInt8} (h1 : Cf Kq w = 0) (h2 : Cf JT w = 0) (h : FD w = w.length) (h0 : 0 < w.length) (hl : w.length ≤ 900) : LX w [sg w] ∧ NB w := PY (SX h1 h2 h h0 hl) hl
theorem TT {v : Int} (h0 : 0 ≤ v) (h : v < 1000) : LX (Lib.itoa v) [nb v] ∧ NB (Lib.itoa v) := by
  obtain ⟨n, rfl⟩ : ∃ n : Nat, v = (n : Int) := ⟨v.toNat, by omega⟩
  have hn : n < 1000 := by omega
  have e : tx (2, (n : Int), [], 0) = d3 n := by unfold tx; rw [if_pos rfl]; rfl
  have := PY (SZ hn) (by rw [e]; have := (OC ⟨n, hn⟩).2.1; simp only at this; omega)
  rw [Lib.itoa_nonneg, R9 hn]
  rw [e] at this
  exact this
theorem QK {f : Int} (h0 : 0 ≤ f) (h5 : f ≤ 5) : LX (AQ f) [kw (AQ f)] ∧ NB (AQ f) := by
  have : f = 0 ∨ f = 1 ∨ f = 2 ∨ f = 3 ∨ f = 4 ∨ f = 5 := by omega
  rcases this with rfl | rfl | rfl | rfl | rfl | rfl <;> exact Iw (by decide) (by decide) (by decide)
theorem TG {u : List UInt8} {β : List Bk} (hu : LX u β) (hn : NB u) : LX ([40] ++ u ++ [41]) (sg [40] :: (β ++ [sg [41]])) ∧ NB ([40] ++ u ++ [41]) := by
  obtain ⟨c1, c2⟩ := Pl (w := [41]) (by decide) (by decide) (by decide) (by decide) (by decide)
  refine ⟨Uw (SF hu c1 (fun r => .inr ⟨41, r, rfl, by decide, by decide, by decide⟩) c2) (GA hn), fun r => ?_⟩
  show DJ false (40 :: _) = 0
  rw [JX, if_neg (by decide), if_neg (by decide), if_pos (by decide)]
def QU (sep : List UInt8) (sb : Bk) : Prop := ∀ {u : List UInt8} {β : List Bk} {v : List UInt8} {γ : List Bk}, LX u β → LX v γ → NB v → LX (u ++ (sep ++ v)) (β ++ sb :: γ)
theorem II {w : List UInt8} {b : Bk} (h : LX w [b] ∧ NB w) : QU (32 :: (w ++ [32])) b := fun {u β v γ} hu hv hn => by
  have := JR hu (JR h.1 hv hn) (GA h.2)
  rw [show u ++ (32 :: (w ++ [32]) ++ v) = u ++ 32 :: (w ++ 32 :: v) by simp]
  exact this
theorem RM : QU [59, 32] (sg [59]) := fun {u β v γ} hu hv hn => by
  obtain ⟨c1, c2⟩ := Pl (w := [59]) (by decide) (by decide) (by decide) (by decide) (by decide)
  exact SF hu (JR c1 hv hn) (fun r => .inr ⟨59, 32 :: v ++ r, rfl, by decide, by decide, by decide⟩) (GA c2)
theorem QX {A : Type} {sep : List UInt8} {sb : Bk} (hs : QU sep sb) {g : A → List UInt8} {q : A → List Bk} : ∀ (r : List A), (∀ x ∈ r, LX (g x) (q x) ∧ NB (g x)) → ∀ {u : List UInt8} {β : List Bk}, LX u β → LX (u ++ Lib.joinTail sep (r.map g)) (β ++ (r.map fun x => sb :: q x).flatten)
  | [], _, u, β, hu => by
    show LX (u ++ []) (β ++ [])
    rw [List.append_nil, List.append_nil]; exact hu
  | y :: r, h, u, β, hu => by
    have h1 := h y (List.mem_cons_self ..)
    have := QX hs r (fun x hx => h x (List.mem_cons_of_mem _ hx)) (hs hu h1.1 h1.2)
    rw [show u ++ Lib.joinTail sep ((y :: r).map g) = u ++ (sep ++ g y) ++ Lib.joinTail sep (r.map g) by simp [Lib.joinTail], show β ++ ((y :: r).map fun x => sb :: q x).flatten = β ++ sb :: q y ++ (r.map fun x => sb :: q x).flatten by simp]
    exact this
theorem Ke {A : Type} {sep : List UInt8} {sb : Bk} (hs : QU sep sb) {g : A → List UInt8} {q : A → List Bk} {L : List A} (h0 : 0 < L.length) (h : ∀ x ∈ L, LX (g x) (q x) ∧ NB (g x)) : LX (Lib.join (L.map g) sep) (jn sb (L.map q)) ∧ NB (Lib.join (L.map g) sep) := by
  cases L with
  | nil => cases h0
  | cons y r =>
    have h1 := h y (List.mem_cons_self ..)
    rw [KR, List.map_cons, Lib.join_cons]
    exact ⟨QX hs r (fun x hx => h x (List.mem_cons_of_mem _ hx)) h1.1, GA h1.2⟩
theorem QD : ∀ (n : Nat) (t : Tr25), SizeOf.sizeOf t < n → E1 t = true → (LX (px t) (tk t) ∧ NB (px t)) ∧ LX (Jk t) (JV t) ∧ NB (Jk t)
  | 0, t, h, _ => absurd h (Nat.not_lt_zero _)
  | n + 1, t, h, hf => by
    obtain ⟨h1, h2⟩ := (Gt t).1 hf
    have hch : ∀ x ∈ t.un.2.2.2, LX (Jk x) (JV x) ∧ NB (Jk x) := fun x hx => (QD n x (by have := Qc hx; omega) (h2 x hx)).2
    have key : LX (px t) (tk t) ∧ NB (px t) := by
      rw [Qq, OR]
      unfold Up Uc
      by_cases g1 : t.un.1 = 1
      · rw [if_pos g1, if_pos g1]; exact Iw (by decide) (by decide) (by decide)
      rw [if_neg g1, if_neg g1]
      by_cases g2 : t.un.1 = 2
      · rw [if_pos g2, if_pos g2]; exact Iw (by decide) (by decide) (by decide)
      rw [if_neg g2, if_neg g2]
      by_cases g3 : t.un.1 = 3
      · have h4 := h1.2.2.2.1 g3
        have htb := HG t.un.2.1
        have a := QK h4.1 h4.2.1
        have b := Pl (w := [61]) (by decide) (by decide) (by decide) (by decide) (by decide)
        have c := TT (v := t.un.2.2.1) h4.2.2.1 (by omega)
        rw [if_pos g3, if_pos g3, show AQ t.un.2.1 ++ [32, 61, 32] ++ Lib.itoa t.un.2.2.1 = AQ t.un.2.1 ++ 32 :: ([61] ++ 32 :: Lib.itoa t.un.2.2.1) by simp]
        exact ⟨JR a.1 (JR b.1 c.1 c.2) (GA b.2), GA a.2⟩
      rw [if_neg g3, if_neg g3]
      by_cases g4 : t.un.1 = 4
      · obtain ⟨y, hy⟩ : ∃ y, t.un.2.2.2 = [y] := List.length_eq_one_iff.1 (h1.2.2.2.2.2.1 g4)
        have a := hch y (by rw [hy]; exact List.mem_cons_self ..)
        have b := Iw (w := [110, 111, 116]) (by decide) (by decide) (by decide)
        rw [if_pos g4, if_pos g4, show Lib.join (t.un.2.2.2.map Jk) [] = Jk y by rw [hy]; exact Lib.join_one _ _, show (t.un.2.2.2.map JV).flatten = JV y by rw [hy]; simp]
        exact ⟨JR b.1 a.1 a.2, GA (u := [110, 111, 116]) (v := 32 :: Jk y) b.2⟩
      rw [if_neg g4, if_neg g4]
      have hl0 : 0 < t.un.2.2.2.length := by unfold H4 at h1; omega
      by_cases g5 : t.un.1 = 5
      · rw [if_pos g5, if_pos g5]
        exact Ke (II (w := [97, 110, 100]) (Iw (by decide) (by decide) (by decide))) hl0 hch
      rw [if_neg g5, if_neg g5, if_pos (by unfold H4 at h1; omega)]
      exact Ke (II (w := [111, 114]) (Iw (by decide) (by decide) (by decide))) hl0 hch
    refine ⟨key, ?_⟩
    show LX (wr _ _) (RA _ _) ∧ NB (wr _ _)
    unfold wr RA
    by_cases g : t.un.1 = 5 ∨ t.un.1 = 6
    · rw [if_pos g, if_pos g]; exact TG key.1 key.2
    · rw [if_neg g, if_neg g]; exact key
theorem lx_pred' {t : Tr25} (h : E1 t = true) : LX (px t) (tk t) ∧ NB (px t) := (QD (SizeOf.sizeOf t + 1) t (by omega) h).1
theorem Sd : ∀ (n : Nat) (t : Tr28), SizeOf.sizeOf t < n → E0 t = true → (LX (qx t) (tq t) ∧ NB (qx t)) ∧ LX (Kj t) (J9 t) ∧ NB (Kj t)
  | 0, t, h, _ => absurd h (Nat.not_lt_zero _)
  | n + 1, t, h, hf => by
    obtain ⟨h1, h2⟩ := (Hf t).1 hf
    have hlin := h1.1.1
    unfold MJ at hlin
    have hch : ∀ x ∈ t.un.2.2.2.2, LX (Kj x) (J9 x) ∧ NB (Kj x) := fun x hx => (Sd n x (by have := To hx; omega) (h2 x hx)).2
    have key : LX (qx t) (tq t) ∧ NB (qx t) := by
      rw [Qz, Ph]
      unfold Uk T0
      by_cases g1 : t.un.1 = 1
      · have a := lx_pred' (h1.2 (.inl g1)).1
        rw [if_pos g1, if_pos g1]
        by_cases q1 : t.un.2.1.un.1 = 1
        · rw [if_pos q1, if_pos q1]; exact Iw (by decide) (by decide) (by decide)
        rw [if_neg q1, if_neg q1]
        by_cases q2 : t.un.2.1.un.1 = 2
        · rw [if_pos q2, if_pos q2]; exact Iw (by decide) (by decide) (by decide)
        rw [if_neg q2, if_neg q2]
        have b := Iw (w := [119, 104, 101, 110]) (by decide) (by decide) (by decide)
        exact ⟨JR b.1 a.1 a.2, GA (u := [119, 104, 101, 110]) (v := 32 :: px t.un.2.1) b.2⟩
      rw [if_neg g1, if_neg g1]
      by_cases g2 : t.un.1 = 2
      · have h4 := hlin.2.2.2.1 g2
        have htb := HG t.un.2.2.1
        have a := QK h4.1 (by omega)
        have b := Pl (w := [58, 61]) (by decide) (by decide) (by decide) (by decide) (by decide)
        have c := TT (v := t.un.2.2.2.1) h4.2.2.1 (by omega)
        have en : BW t.un.2.2.1 = AQ t.un.2.2.1 := by
          have : t.un.2.2.1 = 0 ∨ t.un.2.2.1 = 1 ∨ t.un.2.2.1 = 2 ∨ t.un.2.2.1 = 3 ∨ t.un.2.2.1 = 4 := by omega
          rcases this with h | h | h | h | h <;> rw [h] <;> rfl
        rw [if_pos g2, if_pos g2, en, show AQ t.un.2.2.1 ++ [32, 58, 61, 32] ++ Lib.itoa t.un.2.2.2.1 = AQ t.un.2.2.1 ++ 32 :: ([58, 61] ++ 32 :: Lib.itoa t.un.2.2.2.1) by simp]
        exact ⟨JR a.1 (JR b.1 c.1 c.2) (GA b.2), GA a.2⟩
      rw [if_neg g2, if_neg g2]
      have hl0 : 0 < t.un.2.2.2.2.length := by omega
      by_cases g3 : t.un.1 = 3
      · rw [if_pos g3, if_pos g3]
        exact Ke RM hl0 hch
      rw [if_neg g3, if_neg g3]
      by_cases g4 : t.un.1 = 4
      · rw [if_pos g4, if_pos g4]
        exact Ke (II (w := [124]) (Pl (by decide) (by decide) (by decide) (by decide) (by decide))) hl0 hch
      have g5 : t.un.1 = 5 := by omega
      have a := lx_pred' (h1.2 (.inr g5)).1
      have b := Iw (w := [105, 102]) (by decide) (by decide) (by decide)
      have d := Ke (II (w := [101, 108, 115, 101]) (Iw (by decide) (by decide) (by decide))) hl0 hch
      have e := II (w := [116, 104, 101, 110]) (Iw (by decide) (by decide) (by decide)) a.1 d.1 d.2
      rw [if_neg g4, if_neg g4, if_pos g5, show [105, 102, 32] ++ px t.un.2.1 ++ [32, 116, 104, 101, 110, 32] ++ Lib.join (t.un.2.2.2.2.map Kj) [32, 101, 108, 115, 101, 32] = [105, 102] ++ 32 :: (px t.un.2.1 ++ ([32, 116, 104, 101, 110, 32] ++ Lib.join (t.un.2.2.2.2.map Kj) [32, 101, 108, 115, 101, 32])) by simp]
      exact ⟨JR b.1 e (GA a.2), GA (u := [105, 102]) b.2⟩
    refine ⟨key, ?_⟩
    show LX (SA _ _) (SN _ _) ∧ NB (SA _ _)
    unfold SA SN
    by_cases g : t.un.1 = 3 ∨ t.un.1 = 4 ∨ t.un.1 = 5
    · rw [if_pos g, if_pos g]; exact TG key.1 key.2
    · rw [if_neg g, if_neg g]; exact key
theorem lx_pol' {t : Tr28} (h : E0 t = true) : LX (qx t) (tq t) ∧ NB (qx t) := (Sd (SizeOf.sizeOf t + 1) t (by omega) h).1
theorem So {A : Type} {sb : Bk} {q : A → List Bk} {c : A → Nat} : ∀ (L : List A), (∀ x ∈ L, (q x).length + 1 ≤ 6 * c x) → (jn sb (L.map q)).length ≤ 6 * (L.map c).sum
  | [], _ => Nat.zero_le _
  | x :: r, h => by
    have key : ∀ r : List A, (∀ x ∈ r, (q x).length + 1 ≤ 6 * c x) → (r.map fun x => sb :: q x).flatten.length ≤ 6 * (r.map c).sum := by
      intro r
      induction r with
      | nil => intro _; exact Nat.zero_le _
      | cons y r ih =>
        intro h
        have h1 := h y (List.mem_cons_self ..)
        have h2 := ih fun z hz => h z (List.mem_cons_of_mem _ hz)
        rw [List.map_cons, List.flatten_cons, List.length_append, List.length_cons, List.map_cons, List.sum_cons]; omega
    have h1 := h x (List.mem_cons_self ..)
    have h2 := key r fun z hz => h z (List.mem_cons_of_mem _ hz)
    rw [KR, List.length_append, List.map_cons, List.sum_cons]; omega
theorem S0 (k : Int) (s : List Bk) : (RA k s).length ≤ s.length + 2 := by unfold RA; split <;> simp
theorem S1 (k : Int) (s : List Bk) : (SN k s).length ≤ s.length + 2 := by unfold SN; split <;> simp
theorem P0 : ∀ (n : Nat) (t : Tr25), SizeOf.sizeOf t < n → E1 t = true → (tk t).length + 3 ≤ 6 * t.cnt
  | 0, t, h, _ => absurd h (Nat.not_lt_zero _)
  | n + 1, t, h, hf => by
    obtain ⟨h1, h2⟩ := (Gt t).1 hf
    have hcc := IM t
    have hch : ∀ x ∈ t.un.2.2.2, (JV x).length + 1 ≤ 6 * x.cnt := fun x hx => by
      have := P0 n x (by have := Qc hx; omega) (h2 x hx)
      have : (JV x).length ≤ _ := S0 x.un.1 (tk x)
      omega
    have hj := fun sb => So (sb := sb) t.un.2.2.2 hch
    rw [OR]; unfold Uc
    by_cases g1 : t.un.1 = 1
    · rw [if_pos g1]; simp only [List.length_cons, List.length_nil]; omega
    rw [if_neg g1]
    by_cases g2 : t.un.1 = 2
    · rw [if_pos g2]; simp only [List.length_cons, List.length_nil]; omega
    rw [if_neg g2]
    by_cases g3 : t.un.1 = 3
    · rw [if_pos g3]; simp only [List.length_cons, List.length_nil]; omega
    rw [if_neg g3]
    by_cases g4 : t.un.1 = 4
    · obtain ⟨y, hy⟩ : ∃ y, t.un.2.2.2 = [y] := List.length_eq_one_iff.1 (h1.2.2.2.2.2.1 g4)
      have := hch y (by rw [hy]; exact List.mem_cons_self ..)
      have hyc : t.cnt = 1 + y.cnt := by rw [hcc, hy]; simp
      rw [if_pos g4, show (t.un.2.2.2.map JV).flatten = JV y by rw [hy]; simp]
      simp only [List.length_cons]; omega
    rw [if_neg g4]
    by_cases g5 : t.un.1 = 5
    · have := hj (kw [97, 110, 100])
      rw [if_pos g5]; omega
    · have := hj (kw [111, 114])
      rw [if_neg g5]; omega
theorem RV : ∀ (n : Nat) (t : Tr28), SizeOf.sizeOf t < n → E0 t = true → (tq t).length + 3 ≤ 6 * sz t
  | 0, t, h, _ => absurd h (Nat.not_lt_zero _)
  | n + 1, t, h, hf => by
    obtain ⟨h1, h2⟩ := (Hf t).1 hf
    have hcc := Kx t
    have hch : ∀ x ∈ t.un.2.2.2.2, (J9 x).length + 1 ≤ 6 * sz x := fun x hx => by
      have := RV n x (by have := To hx; omega) (h2 x hx)
      have : (J9 x).length ≤ _ := S1 x.un.1 (tq x)
      omega
    have hj := fun sb => So (sb := sb) t.un.2.2.2.2 hch
    have hp : t.un.1 = 1 ∨ t.un.1 = 5 → (tk t.un.2.1).length + 3 ≤ 6 * t.un.2.1.cnt := fun h => P0 (SizeOf.sizeOf t.un.2.1 + 1) _ (by omega) (h1.2 h).1
    rw [Ph]; unfold T0
    by_cases g1 : t.un.1 = 1
    · have := hp (.inl g1)
      rw [if_pos (by omega)] at hcc
      rw [if_pos g1]
      split
      · simp only [List.length_cons, List.length_nil]; omega
      · split
        · simp only [List.length_cons, List.length_nil]; omega
        · simp only [List.length_cons]; omega
    rw [if_neg g1]
    by_cases g2 : t.un.1 = 2
    · rw [if_pos g2]; simp only [List.length_cons, List.length_nil]; omega
    rw [if_neg g2]
    by_cases g3 : t.un.1 = 3
    · have := hj (sg [59])
      rw [if_pos g3]; omega
    rw [if_neg g3]
    by_cases g4 : t.un.1 = 4
    · have := hj (sg [124])
      rw [if_pos g4]; omega
    have g5 : t.un.1 = 5 := by have := h1.1.1; unfold MJ at this; omega
    have := hj (kw [101, 108, 115, 101])
    have := hp (.inr g5)
    rw [if_pos (by omega)] at hcc
    rw [if_neg g4]; simp only [List.length_cons, List.length_append]; omega
theorem Tl : ∀ (ts pre post : List Hj), Sp (pre ++ (ts ++ post)) pre.length (ts.map bare)
  | [], _, _ => trivial
  | t :: ts, pre, post => by
    have := Tl ts (pre ++ [t]) post
    rw [List.length_append, List.append_assoc] at this
    exact ⟨⟨by simp, by rw [List.getElem_append_right (Nat.le_refl _)]; simp⟩, this⟩
theorem OW {u : List UInt8} {β : List Bk} (h : LX u β ∧ NB u) (hu : u.length ≤ 4000) (hb : β.length ≤ 500) : ∃ ts, Hu u = some (ts ++ [Lv u], 0, 0) ∧ Tks (ts ++ [Lv u]) ∧ ts.length = β.length ∧ Sp (ts ++ [Lv u]) 0 β := by
  obtain ⟨ts, e, r⟩ := h.1 u 0 [] hu (by rw [List.drop_zero, List.append_nil]) (.inl rfl) [] (.nil (by show u.length ≤ 0 + u.length + 0; omega))
  rw [List.append_nil] at r
  have hl : ts.length = β.length := by rw [← e, List.length_map]
  have h0 : DJ false u = 0 := by have := h.2 []; rwa [List.append_nil] at this
  refine ⟨ts, lex_run' hu (by rw [h0]; exact r) (by omega), Ub hu r (by omega), hl, ?_⟩
  have := Tl ts [] [Lv u]
  rw [e] at this
  exact this
theorem Sk {ts : List Hj} {s : List UInt8} (S : List (List UInt8)) : No (ts ++ [Lv s]) ts.length S := by
  refine ⟨by simp, fun w _ => ?_⟩
  rw [List.getElem_append_right (Nat.le_refl _)]
  unfold Tf
  exact decide_eq_false (fun h => by simp at h)
theorem P8 {x : Tr28} (hf : E0 x = true) (hs : sz x ≤ 64) : DM (qx x) = some (x, 0, 0) := by
  have hb := RV (SizeOf.sizeOf x + 1) x (by omega) hf
  have hq := qx_len' hf
  obtain ⟨ts, h1, hl, h2, h3⟩ := OW (lx_pol' hf) (by omega) (by omega)
  have p1 : Di (ts ++ [Lv (qx x)], 0) = _ := pol_ok' hl hf (j := 0) h3 (by rw [Nat.zero_add, ← h2]; exact Sk _)
  rw [Nat.zero_add, ← h2] at p1
  have e2 : Cb (ts ++ [Lv (qx x)], (ts.length : Int)) = _ := Tq (i := ts.length) (by simp) (by rw [List.getElem_append_right (Nat.le_refl _)]; simp)
  unfold DM E3
  simp only [NE, Pm, Af, Bb]
  rw [h1]
  simp only [Option.bind_some]
  rw [if_neg (fun q => q rfl)]
  simp only [B4, Option.bind_some, p1, e2]
theorem Ry {x : Tr25} (hf : E1 x = true) (hs : x.cnt ≤ 64) : Gc (px x) = some (x, 0, 0) := by
  have hb := P0 (SizeOf.sizeOf x + 1) x (by omega) hf
  have hq := px_len' hf
  obtain ⟨ts, h1, hl, h2, h3⟩ := OW (lx_pred' hf) (by omega) (by omega)
  have p1 : B5 (ts ++ [Lv (px x)], 0) = _ := cond_ok' hl hf (j := 0) h3 (by rw [Nat.zero_add, ← h2]; exact Sk _)
  rw [Nat.zero_add, ← h2] at p1
  have e2 : Cb (ts ++ [Lv (px x)], (ts.length : Int)) = _ := Tq (i := ts.length) (by simp) (by rw [List.getElem_append_right (Nat.le_refl _)]; simp)
  unfold Gc E3
  simp only [NE, Ao, Bb]
  rw [h1]
  simp only [Option.bind_some]
  rw [if_neg (fun q => q rfl)]
  simp only [B4, Option.bind_some, p1, e2]
theorem Tj : ∀ (n : Nat) (t : Tr37), SizeOf.sizeOf t < n → pt (pm t) = t
  | 0, t, h => absurd h (Nat.not_lt_zero _)
  | n + 1, t, h => by
    rw [Tp, Kf]
    show Tr37.of (t.un.1, th (mi t.un.2.1), t.un.2.2.1, t.un.2.2.2.1, (t.un.2.2.2.2.map pm).map pt) = t
    rw [th_mi', List.map_map, show t.un.2.2.2.2.map (pt ∘ pm) = t.un.2.2.2.2 from map_id fun x hx => Tj n x (by have := S2 hx; omega)]
    exact RD t
where map_id {α : Type} {g : α → α} : ∀ {l : List α}, (∀ x ∈ l, g x = x) → l.map g = l
  | [], _ => rfl
  | x :: l, h => by rw [List.map_cons, h x (List.mem_cons_self ..), map_id fun y hy => h y (List.mem_cons_of_mem _ hy)]
theorem Ms (p0 : Tr37) (ok0 : p0.cnt ≤ 1048576) (p1 : Tr34) (ok1 : p1.cnt ≤ 1048576) : Gh p0 p1 = some true := by
  have hm := Ou p1
  have hpc := Vl p0
  obtain ⟨b, e1, hb⟩ : ∃ b : Bool, ((GK p0).bind fun x2 => (if x2 = true then (Kp p0).bind fun x3 => some (decide ((x3.length : Int) ≤ 4000)) else some false)) = some b ∧ (b = true → Vo (pm p0)) := by
    rw [R0 ok0, Option.bind_some]
    by_cases g : Vo (pm p0)
    · have hq := qx_len' g.1.1
      have := g.1.2.2
      rw [@decide_eq_true _ (_) g, if_pos rfl, Rt (by omega) g.1.1, Option.bind_some, decide_eq_true (by omega)]
      exact ⟨true, rfl, fun _ => g⟩
    · rw [@decide_eq_false _ (_) g, if_neg (by decide)]
      exact ⟨false, rfl, fun h => by cases h⟩
  have e2 : ((FI p1).bind fun x11 => (if x11 = true then (HT p1).bind fun x12 => some (decide ((x12.length : Int) ≤ 4000)) else some false)) = some (decide (ON (mi p1) 64 8)) := by
    rw [Nt ok1, Option.bind_some]
    by_cases g : ON (mi p1) 64 8
    · have hq := px_len' g.1
      have := g.2.2
      rw [decide_eq_true g, if_pos rfl, LY (by omega) g.1, Option.bind_some, decide_eq_true (by omega)]
    · rw [decide_eq_false g, if_neg (by decide)]
  unfold Gh
  simp only [PM, RD, NE, Pm]
  rw [e1, e2]
  simp only [Option.bind_some]
  have s1 : (if b = true then (Kl p0).bind fun x4 => (FG x4).bind fun x5 => (DM x5).bind fun x6 => (if x6.2.2 ≠ 0 then some true else (if x6.2.1 ≠ 0 then some true else (Ib x6.1).bind fun x8 => (KA x8 p0).bind fun x9 => some (!x9))).bind fun x7 => (if x7 = true then some (.inr false) else some (.inl ())) else some (.inl ()) : Option (Unit ⊕ Bool)) = some (.inl ()) := by
    by_cases hbt : b = true
    · have g := hb hbt
      have := g.1.2.2
      rw [if_pos hbt, Sy ok0, Option.bind_some, Sj (by omega) g.1.1, Option.bind_some, P8 g.1.1 (by omega), Option.bind_some]
      dsimp only
      rw [if_neg (fun h => h rfl), if_neg (fun h => h rfl), Qa (by omega), Option.bind_some, Tj _ p0 (Nat.lt_succ_self _), Ud (by omega), Option.bind_some, Option.bind_some, if_neg (by decide)]
    · rw [if_neg hbt]
  have s2 : (if (decide (ON (mi p1) 64 8)) = true then (I9 p1).bind fun x13 => (Ga x13).bind fun x14 => (Gc x14).bind fun x15 => (if x15.2.2 ≠ 0 then some true else (if x15.2.1 ≠ 0 then some true else (GY x15.1).bind fun x17 => (Ha x17 p1).bind fun x18 => some (!x18))).bind fun x16 => (if x16 = true then some (.inr false) else some (.inl ())) else some (.inl ()) : Option (Unit ⊕ Bool)) = some (.inl ()) := by
    by_cases g : ON (mi p1) 64 8
    · have := g.2.2
      rw [decide_eq_true g, if_pos rfl, Qw ok1, Option.bind_some, Md (by omega) g.1, Option.bind_some, Ry g.1 (by omega), Option.bind_some]
      dsimp only
      rw [if_neg (fun h => h rfl), if_neg (fun h => h rfl), Ny (by omega), Option.bind_some, th_mi', L7 (by omega), Option.bind_some, Option.bind_some, @decide_eq_true _ (_) rfl, if_neg (by decide)]
    · rw [decide_eq_false g, if_neg (by decide)]
  rw [s1]
  show KC _ _ = _
  rw [s2, S4]; rfl
end Go.Proofs.YtlgjpoapclifbaaDoor
