/- Layer 40: what is told. Conditions: none. -/
import Derived.Test.YthmkgdnnocemmaaGreatDoorbM40B
namespace Go.Proofs.YthmkgdnnocemmaaGreatDoor
set_option linter.unusedVariables false
set_option linter.unusedSimpArgs false
open Go Go.RowKit
theorem Hi {A : Type} (l : List A) (g : A → List UInt8) (step : Int × List UInt8 → Option ((Int × List UInt8) ⊕ List UInt8)) (hl : l.length ≤ 1000000)
    (hs : ∀ (k : Nat) (hk : k < l.length) (o : List UInt8), (o ++ g l[k]).length ≤ 1000000 → step ((k : Int), o) = some (.inl (BD ((k : Int) + 1), o ++ g l[k])))
    (he : ∀ o, step ((l.length : Int), o) = some (.inr o)) (o : List UInt8) (hb : (o ++ (l.map g).flatten).length ≤ 1000000) : Av step (0, o) = some (o ++ (l.map g).flatten) := by
  have key : ∀ (d k : Nat) (o : List UInt8), k + d = l.length → (o ++ ((l.drop k).map g).flatten).length ≤ 1000000 → Av step ((k : Int), o) = some (o ++ ((l.drop k).map g).flatten) := by
    intro d
    induction d with
    | zero =>
      intro k o hk _
      obtain rfl : k = l.length := by omega
      rw [List.drop_length, List.map_nil, List.flatten_nil, List.append_nil, AN (he o)]
    | succ d ih =>
      intro k o hk hb
      have hkl : k < l.length := by omega
      rw [List.drop_eq_getElem_cons hkl, List.map_cons, List.flatten_cons, ← List.append_assoc] at hb ⊢
      have := hs k hkl o (by rw [List.length_append] at hb; omega)
      rw [Bx (by omega)] at this
      rw [BZ this]
      exact ih (k + 1) _ (by omega) hb
  have := key l.length 0 o (by omega) (by rw [List.drop_zero]; exact hb)
  rwa [List.drop_zero] at this
theorem IV (w : List UInt8) (ws : List (List UInt8)) : KU w ws = w ++ (ws.map fun x => 32 :: x).flatten := rfl
abbrev Jk (v : Int) : Prop := -9223372036854775808 ≤ v ∧ v ≤ 9223372036854775807
structure OkI (c : Js) : Prop where
  sw : Jk c.1.1
  li : ∀ x ∈ c.1.2.1, ∀ v ∈ GV x, Jk v
  ho : ∀ x ∈ c.1.2.2, ∀ v ∈ GX x, Jk v
  we : ∀ x ∈ c.2.1, ∀ v ∈ x, Bh v
  st : ∀ v ∈ c.2.2.1, Jk v
  ra : Jk c.2.2.2.1
  ro : Jk c.2.2.2.2.1
  wi : Jk c.2.2.2.2.2.1
  le : Jk c.2.2.2.2.2.2.1
  ma : Jk c.2.2.2.2.2.2.2.1
  re : Jk c.2.2.2.2.2.2.2.2
theorem Bd.i {v : Int} (h : Bd v) : Jk v := ⟨by have := h.1; omega, by have := h.2; omega⟩
theorem OkC.i {c : Js} (h : OkC c) : OkI c := ⟨h.sw.i, fun x hx v hv => (h.li x hx v hv).i, fun x hx v hv => (h.ho x hx v hv).i, h.we, fun v hv => (h.st v hv).i, h.ra.i, h.ro.i, h.wi.i, h.le.i, h.ma.i, h.re.i⟩
theorem Fd {w : List UInt8} {ns : List Int} (hb : ∀ v ∈ ns, Jk v) (hl : (BR w ns).length ≤ 1000000) (hn : ns.length ≤ 1000000) : Bk w ns = some (BR w ns) := by
  have hl2 : (w ++ (ns.map fun v => 32 :: Lib.itoa v).flatten).length ≤ 1000000 := by
    unfold BR at hl
    rw [IV, List.map_map, List.length_append] at hl
    have : (ns.map ((fun x => 32 :: x) ∘ Lib.itoa)) = ns.map fun v => 32 :: Lib.itoa v := rfl
    rw [this] at hl; omega
  have e : BR w ns = (w ++ (ns.map fun v => 32 :: Lib.itoa v).flatten) ++ [10] := by
    unfold BR
    rw [IV, List.map_map]; rfl
  unfold Bk
  rw [Bo (by simp at hl2 ⊢; omega), Option.bind_some, List.nil_append, Hi ns (fun v => 32 :: Lib.itoa v) (Dq ns) hn (fun k hk o ho => by
    have hbk := hb _ (List.getElem_mem hk)
    unfold Jk at hbk
    simp only [List.length_append, List.length_cons] at ho
    rw [Dq, if_pos (by omega), AQ (List.getElem?_eq_getElem hk), Option.bind_some, Mu (by omega), Option.bind_some, Bo (by simp; omega), Option.bind_some, Bo (by simp; omega), Option.bind_some]; rfl) (fun o => by rw [Dq, if_neg (by omega)]) w hl2, Option.bind_some, Bo (by simp only [List.length_cons, List.length_nil]; omega), Option.bind_some, ← e]
  unfold Lx
  rw [if_pos (by omega)]; rfl
theorem Fw {A : Type} {g : A → List UInt8} (h : ∀ a, 1 ≤ (g a).length) : ∀ l : List A, l.length ≤ ((l.map g).flatten).length ∧ ∀ x ∈ l, (g x).length ≤ ((l.map g).flatten).length
  | [] => ⟨Nat.zero_le _, fun x h => (by cases h)⟩
  | y :: l => by
    obtain ⟨h1, h2⟩ := Fw h l
    have := h y
    rw [List.map_cons, List.flatten_cons, List.length_append, List.length_cons]
    refine ⟨by omega, fun x hx => ?_⟩
    rcases List.mem_cons.1 hx with rfl | hx
    · omega
    · have := h2 x hx; omega
theorem LJ (w : List UInt8) (ns : List Int) : ns.length ≤ (BR w ns).length := by
  have := (HF w (ns.map Lib.itoa)).2.1
  simp only [List.length_map] at this
  simp; omega
theorem QX {c : Js} (ok : OkI c) (hl : (TT c).length ≤ 900000) : D1 c = some (TT c) := by
  have one : ∀ {v : Int}, Jk v → ∀ u ∈ [v], Jk u := fun h u hu => by rw [List.mem_singleton.1 hu]; exact h
  obtain ⟨A0, a0⟩ : ∃ A, A = BR [115, 119, 105, 116, 99, 104, 101, 115] [c.1.1] := ⟨_, rfl⟩
  obtain ⟨A4, a4⟩ : ∃ A, A = BR [115, 116, 97, 114, 116, 115] c.2.2.1 := ⟨_, rfl⟩
  obtain ⟨A5, a5⟩ : ∃ A, A = BR [114, 97, 116, 101] [c.2.2.2.1] := ⟨_, rfl⟩
  obtain ⟨A6, a6⟩ : ∃ A, A = BR [114, 111, 111, 109] [c.2.2.2.2.1] := ⟨_, rfl⟩
  obtain ⟨A7, a7⟩ : ∃ A, A = BR [119, 105, 100, 101] [c.2.2.2.2.2.1] := ⟨_, rfl⟩
  obtain ⟨A8, a8⟩ : ∃ A, A = BR [108, 101, 97, 100] [c.2.2.2.2.2.2.1] := ⟨_, rfl⟩
  obtain ⟨A9, a9⟩ : ∃ A, A = BR [109, 97, 114, 103, 105, 110] [c.2.2.2.2.2.2.2.1] := ⟨_, rfl⟩
  obtain ⟨A10, a10⟩ : ∃ A, A = BR [114, 101, 116, 114, 121] [c.2.2.2.2.2.2.2.2] := ⟨_, rfl⟩
  obtain ⟨G1, g1⟩ : ∃ A, A = (c.1.2.1.map fun x => BR DE (GV x)).flatten := ⟨_, rfl⟩
  obtain ⟨G2, g2⟩ : ∃ A, A = (c.1.2.2.map fun x => BR DD (GX x)).flatten := ⟨_, rfl⟩
  obtain ⟨G3, g3⟩ : ∃ A, A = (c.2.1.map (Fo DO)).flatten := ⟨_, rfl⟩
  have hT : TT c = A0 ++ (G1 ++ (G2 ++ (G3 ++ (A4 ++ (A5 ++ (A6 ++ (A7 ++ (A8 ++ (A9 ++ A10))))))))) := by rw [a0, a4, a5, a6, a7, a8, a9, a10, g1, g2, g3]; rfl
  rw [hT] at hl ⊢
  simp only [List.length_append] at hl
  have t0 : Bk [115, 119, 105, 116, 99, 104, 101, 115] [c.1.1] = some A0 := by rw [a0]; exact Fd (one ok.sw) (by rw [← a0]; omega) (by simp)
  have t4 : Bk [115, 116, 97, 114, 116, 115] c.2.2.1 = some A4 := by rw [a4]; exact Fd ok.st (by rw [← a4]; omega) (by have := LJ [115, 116, 97, 114, 116, 115] c.2.2.1; rw [← a4] at this; omega)
  have t5 : Bk [114, 97, 116, 101] [c.2.2.2.1] = some A5 := by rw [a5]; exact Fd (one ok.ra) (by rw [← a5]; omega) (by simp)
  have t6 : Bk [114, 111, 111, 109] [c.2.2.2.2.1] = some A6 := by rw [a6]; exact Fd (one ok.ro) (by rw [← a6]; omega) (by simp)
  have t7 : Bk [119, 105, 100, 101] [c.2.2.2.2.2.1] = some A7 := by rw [a7]; exact Fd (one ok.wi) (by rw [← a7]; omega) (by simp)
  have t8 : Bk [108, 101, 97, 100] [c.2.2.2.2.2.2.1] = some A8 := by rw [a8]; exact Fd (one ok.le) (by rw [← a8]; omega) (by simp)
  have t9 : Bk [109, 97, 114, 103, 105, 110] [c.2.2.2.2.2.2.2.1] = some A9 := by rw [a9]; exact Fd (one ok.ma) (by rw [← a9]; omega) (by simp)
  have t10 : Bk [114, 101, 116, 114, 121] [c.2.2.2.2.2.2.2.2] = some A10 := by rw [a10]; exact Fd (one ok.re) (by rw [← a10]; omega) (by simp)
  have f1 := Fw (g := fun x => BR DE (GV x)) (fun a => GE _ _) c.1.2.1
  have f2 := Fw (g := fun x => BR DD (GX x)) (fun a => GE _ _) c.1.2.2
  have f3 := Fw (g := Fo DO) (fun a => KJ _ _) c.2.1
  rw [← g1] at f1
  rw [← g2] at f2
  rw [← g3] at f3
  have l1 : ∀ o : List UInt8, o.length ≤ 900000 → (o ++ G1).length ≤ 900000 → Av (C4 c) (0, o) = some (o ++ G1) := fun o ho ho2 => by
    rw [g1] at ho2 ⊢
    refine Hi c.1.2.1 (fun x => BR DE (GV x)) (C4 c) (by omega) (fun k hk o ho => ?_) (fun o => by rw [C4, if_neg (by omega)]) o (by omega)
    have hm := List.getElem_mem hk
    have hx := f1.2 _ hm
    have e : Bk [108, 105, 110, 107] [c.1.2.1[k].1, c.1.2.1[k].2.1, c.1.2.1[k].2.2.1, c.1.2.1[k].2.2.2.1, c.1.2.1[k].2.2.2.2.1, c.1.2.1[k].2.2.2.2.2] = some (BR DE (GV c.1.2.1[k])) := Fd (w := DE) (ns := GV c.1.2.1[k]) (ok.li _ hm) (by omega) (by simp [GV])
    rw [C4, if_pos (by omega), AQ (List.getElem?_eq_getElem hk), Option.bind_some, e, Option.bind_some, Bo (by rw [List.length_append] at ho; omega)]; rfl
  have l2 : ∀ o : List UInt8, o.length ≤ 900000 → (o ++ G2).length ≤ 900000 → Av (C6 c) (0, o) = some (o ++ G2) := fun o ho ho2 => by
    rw [g2] at ho2 ⊢
    refine Hi c.1.2.2 (fun x => BR DD (GX x)) (C6 c) (by omega) (fun k hk o ho => ?_) (fun o => by rw [C6, if_neg (by omega)]) o (by omega)
    have hm := List.getElem_mem hk
    have hx := f2.2 _ hm
    have e : Bk [104, 111, 115, 116] [c.1.2.2[k].1, c.1.2.2[k].2] = some (BR DD (GX c.1.2.2[k])) := Fd (w := DD) (ns := GX c.1.2.2[k]) (ok.ho _ hm) (by omega) (by simp [GX])
    rw [C6, if_pos (by omega), AQ (List.getElem?_eq_getElem hk), Option.bind_some, e, Option.bind_some, Bo (by rw [List.length_append] at ho; omega)]; rfl
  have l3 : ∀ o : List UInt8, o.length ≤ 900000 → (o ++ G3).length ≤ 900000 → Av (C3 c) (0, o) = some (o ++ G3) := fun o ho ho2 => by
    rw [g3] at ho2 ⊢
    refine Hi c.2.1 (Fo DO) (C3 c) (by omega) (fun k hk o ho => ?_) (fun o => by rw [C3, if_neg (by omega)]) o (by omega)
    have hm := List.getElem_mem hk
    have hx := f3.2 _ hm
    have hsl := (HF DO (c.2.1[k].map Fs)).2.1
    rw [List.length_map] at hsl
    have e1 : Fo DO c.2.1[k] = (DO ++ (c.2.1[k].map fun v => 32 :: Fs v).flatten) ++ [10] := by
      unfold Fo
      rw [IV, List.map_map]; rfl
    have hlw : (Fo DO c.2.1[k]).length = (KU DO (c.2.1[k].map Fs)).length + 1 := by unfold Fo; rw [List.length_append]; rfl
    have hlen : o.length + ((DO ++ (c.2.1[k].map fun v => 32 :: Fs v).flatten).length + 1) ≤ 1000000 := by
      rw [e1, List.length_append, List.length_append (bs := [10])] at ho
      simp only [List.length_cons, List.length_nil] at ho; omega
    have hi : Av (CL c.2.1[k]) (0, o ++ DO) = some ((o ++ DO) ++ (c.2.1[k].map fun v => 32 :: Fs v).flatten) := Hi c.2.1[k] (fun v => 32 :: Fs v) (CL c.2.1[k]) (by omega) (fun j hj o ho => by
      have hbj := ok.we _ hm _ (List.getElem_mem hj)
      have hhl := Iq c.2.1[k][j]
      simp only [List.length_append, List.length_cons] at ho
      rw [CL, if_pos (by omega), AQ (List.getElem?_eq_getElem hj), Option.bind_some, Oy hbj, Option.bind_some, Bo (by simp; omega), Option.bind_some, Bo (by simp; omega), Option.bind_some]; rfl) (fun o => by rw [CL, if_neg (by omega)]) (o ++ DO) (by rw [List.append_assoc, List.length_append]; omega)
    rw [C3, if_pos (by omega), AQ (List.getElem?_eq_getElem hk), Option.bind_some, Bo (by rw [List.length_append] at hlen; simp only [List.length_cons, List.length_nil] at hlen ⊢; omega), Option.bind_some, show Av (CL c.2.1[k]) (0, o ++ [119, 101, 105, 103, 104, 116, 115]) = _ from hi, Option.bind_some, Bo (by rw [List.append_assoc, List.length_append]; simp only [List.length_cons, List.length_nil]; omega), Option.bind_some, Option.bind_some, e1]
    simp
  unfold D1
  rw [t0, Option.bind_some, Bo (by simp only [List.length_nil]; omega), Option.bind_some, List.nil_append, l1 _ (by omega) (by simp only [List.length_append]; omega), Option.bind_some, l2 _ (by simp only [List.length_append]; omega) (by simp only [List.length_append]; omega), Option.bind_some, l3 _ (by simp only [List.length_append]; omega) (by simp only [List.length_append]; omega), Option.bind_some]
  rw [t4, Option.bind_some, Bo (by simp only [List.length_append]; omega), Option.bind_some]
  rw [t5, Option.bind_some, Bo (by simp only [List.length_append]; omega), Option.bind_some]
  rw [t6, Option.bind_some, Bo (by simp only [List.length_append]; omega), Option.bind_some]
  rw [t7, Option.bind_some, Bo (by simp only [List.length_append]; omega), Option.bind_some]
  rw [t8, Option.bind_some, Bo (by simp only [List.length_append]; omega), Option.bind_some]
  rw [t9, Option.bind_some, Bo (by simp only [List.length_append]; omega), Option.bind_some]
  rw [t10, Option.bind_some, Bo (by simp only [List.length_append]; omega), Option.bind_some]
  unfold Lx
  rw [if_pos (by simp only [List.length_append]; omega)]
  simp
end Go.Proofs.YthmkgdnnocemmaaGreatDoor
