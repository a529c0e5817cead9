/- Layer 40: what is told. Conditions: none. -/
import Derived.Test.YthmkgdnnocemmaaDoorcM40B
namespace Go.Proofs.YthmkgdnnocemmaaDoor
set_option linter.unusedVariables false
set_option linter.unusedSimpArgs false
open Go Go.RowKit
theorem Fy {A : Type} (l : List A) (g : A → List UInt8) (step : Int × List UInt8 → Option ((Int × List UInt8) ⊕ List UInt8)) (hl : l.length ≤ 1000000)
    (hs : ∀ (k : Nat) (hk : k < l.length) (o : List UInt8), (o ++ g l[k]).length ≤ 1000000 → step ((k : Int), o) = some (.inl (CL ((k : Int) + 1), o ++ g l[k])))
    (he : ∀ o, step ((l.length : Int), o) = some (.inr o)) (o : List UInt8) (hb : (o ++ (l.map g).flatten).length ≤ 1000000) : BB step (0, o) = some (o ++ (l.map g).flatten) := by
  have key : ∀ (d k : Nat) (o : List UInt8), k + d = l.length → (o ++ ((l.drop k).map g).flatten).length ≤ 1000000 → BB step ((k : Int), o) = some (o ++ ((l.drop k).map g).flatten) := by
    intro d
    induction d with
    | zero =>
      intro k o hk _
      obtain rfl : k = l.length := by omega
      rw [List.drop_length, List.map_nil, List.flatten_nil, List.append_nil, Cd (he o)]
    | succ d ih =>
      intro k o hk hb
      have hkl : k < l.length := by omega
      rw [List.drop_eq_getElem_cons hkl, List.map_cons, List.flatten_cons, ← List.append_assoc] at hb ⊢
      have := hs k hkl o (by rw [List.length_append] at hb; omega)
      rw [FE (by omega)] at this
      rw [E4 this]
      exact ih (k + 1) _ (by omega) hb
  have := key l.length 0 o (by omega) (by rw [List.drop_zero]; exact hb)
  rwa [List.drop_zero] at this
theorem Jq (w : List UInt8) (ws : List (List UInt8)) : HJ w ws = w ++ (ws.map fun x => 32 :: x).flatten := rfl
theorem DW {w : List UInt8} {ns : List Int} (hb : ∀ v ∈ ns, Bd v) (hl : (B6 w ns).length ≤ 1000000) (hn : ns.length ≤ 1000000) : AV w ns = some (B6 w ns) := by
  have hl2 : (w ++ (ns.map fun v => 32 :: Lib.itoa v).flatten).length ≤ 1000000 := by
    unfold B6 at hl
    rw [Jq, List.map_map, List.length_append] at hl
    have : (ns.map ((fun x => 32 :: x) ∘ Lib.itoa)) = ns.map fun v => 32 :: Lib.itoa v := rfl
    rw [this] at hl; omega
  have e : B6 w ns = (w ++ (ns.map fun v => 32 :: Lib.itoa v).flatten) ++ [10] := by
    unfold B6
    rw [Jq, List.map_map]; rfl
  unfold AV
  rw [Cz (by simp at hl2 ⊢; omega), Option.bind_some, List.nil_append, Fy ns (fun v => 32 :: Lib.itoa v) (CW ns) hn (fun k hk o ho => by
    have hbk := hb _ (List.getElem_mem hk)
    unfold Bd at hbk
    simp only [List.length_append, List.length_cons] at ho
    rw [CW, if_pos (by omega), Eb (List.getElem?_eq_getElem hk), Option.bind_some, IL (by omega), Option.bind_some, Cz (by simp; omega), Option.bind_some, Cz (by simp; omega), Option.bind_some]; rfl) (fun o => by rw [CW, if_neg (by omega)]) w hl2, Option.bind_some, Cz (by simp only [List.length_cons, List.length_nil]; omega), Option.bind_some, ← e]
  unfold Ip
  rw [if_pos (by omega)]; rfl
theorem Gb {A : Type} {g : A → List UInt8} (h : ∀ a, 1 ≤ (g a).length) : ∀ l : List A, l.length ≤ ((l.map g).flatten).length ∧ ∀ x ∈ l, (g x).length ≤ ((l.map g).flatten).length
  | [] => ⟨Nat.zero_le _, fun x h => (by cases h)⟩
  | y :: l => by
    obtain ⟨h1, h2⟩ := Gb h l
    have := h y
    rw [List.map_cons, List.flatten_cons, List.length_append, List.length_cons]
    refine ⟨by omega, fun x hx => ?_⟩
    rcases List.mem_cons.1 hx with rfl | hx
    · omega
    · have := h2 x hx; omega
theorem KY (w : List UInt8) (ns : List Int) : ns.length ≤ (B6 w ns).length := by
  have := (Ga w (ns.map Lib.itoa)).2.1
  simp only [List.length_map] at this
  simp; omega
theorem LU {c : Na} (ok : OkC c) (hl : (TT c).length ≤ 900000) : Dk c = some (TT c) := by
  have one : ∀ {v : Int}, Bd v → ∀ u ∈ [v], Bd u := fun h u hu => by rw [List.mem_singleton.1 hu]; exact h
  obtain ⟨A0, a0⟩ : ∃ A, A = B6 [115, 119, 105, 116, 99, 104, 101, 115] [c.1.1] := ⟨_, rfl⟩
  obtain ⟨A4, a4⟩ : ∃ A, A = B6 [115, 116, 97, 114, 116, 115] c.2.2.1 := ⟨_, rfl⟩
  obtain ⟨A5, a5⟩ : ∃ A, A = B6 [114, 97, 116, 101] [c.2.2.2.1] := ⟨_, rfl⟩
  obtain ⟨A6, a6⟩ : ∃ A, A = B6 [114, 111, 111, 109] [c.2.2.2.2.1] := ⟨_, rfl⟩
  obtain ⟨A7, a7⟩ : ∃ A, A = B6 [119, 105, 100, 101] [c.2.2.2.2.2.1] := ⟨_, rfl⟩
  obtain ⟨A8, a8⟩ : ∃ A, A = B6 [108, 101, 97, 100] [c.2.2.2.2.2.2.1] := ⟨_, rfl⟩
  obtain ⟨A9, a9⟩ : ∃ A, A = B6 [109, 97, 114, 103, 105, 110] [c.2.2.2.2.2.2.2.1] := ⟨_, rfl⟩
  obtain ⟨A10, a10⟩ : ∃ A, A = B6 [114, 101, 116, 114, 121] [c.2.2.2.2.2.2.2.2] := ⟨_, rfl⟩
  obtain ⟨G1, g1⟩ : ∃ A, A = (c.1.2.1.map fun x => B6 FW (GR x)).flatten := ⟨_, rfl⟩
  obtain ⟨G2, g2⟩ : ∃ A, A = (c.1.2.2.map fun x => B6 FR (GW x)).flatten := ⟨_, rfl⟩
  obtain ⟨G3, g3⟩ : ∃ A, A = (c.2.1.map (Fh Fq)).flatten := ⟨_, rfl⟩
  have hT : TT c = A0 ++ (G1 ++ (G2 ++ (G3 ++ (A4 ++ (A5 ++ (A6 ++ (A7 ++ (A8 ++ (A9 ++ A10))))))))) := by rw [a0, a4, a5, a6, a7, a8, a9, a10, g1, g2, g3]; rfl
  rw [hT] at hl ⊢
  simp only [List.length_append] at hl
  have t0 : AV [115, 119, 105, 116, 99, 104, 101, 115] [c.1.1] = some A0 := by rw [a0]; exact DW (one ok.sw) (by rw [← a0]; omega) (by simp)
  have t4 : AV [115, 116, 97, 114, 116, 115] c.2.2.1 = some A4 := by rw [a4]; exact DW ok.st (by rw [← a4]; omega) (by have := KY [115, 116, 97, 114, 116, 115] c.2.2.1; rw [← a4] at this; omega)
  have t5 : AV [114, 97, 116, 101] [c.2.2.2.1] = some A5 := by rw [a5]; exact DW (one ok.ra) (by rw [← a5]; omega) (by simp)
  have t6 : AV [114, 111, 111, 109] [c.2.2.2.2.1] = some A6 := by rw [a6]; exact DW (one ok.ro) (by rw [← a6]; omega) (by simp)
  have t7 : AV [119, 105, 100, 101] [c.2.2.2.2.2.1] = some A7 := by rw [a7]; exact DW (one ok.wi) (by rw [← a7]; omega) (by simp)
  have t8 : AV [108, 101, 97, 100] [c.2.2.2.2.2.2.1] = some A8 := by rw [a8]; exact DW (one ok.le) (by rw [← a8]; omega) (by simp)
  have t9 : AV [109, 97, 114, 103, 105, 110] [c.2.2.2.2.2.2.2.1] = some A9 := by rw [a9]; exact DW (one ok.ma) (by rw [← a9]; omega) (by simp)
  have t10 : AV [114, 101, 116, 114, 121] [c.2.2.2.2.2.2.2.2] = some A10 := by rw [a10]; exact DW (one ok.re) (by rw [← a10]; omega) (by simp)
  have f1 := Gb (g := fun x => B6 FW (GR x)) (fun a => Ev _ _) c.1.2.1
  have f2 := Gb (g := fun x => B6 FR (GW x)) (fun a => Ev _ _) c.1.2.2
  have f3 := Gb (g := Fh Fq) (fun a => H5 _ _) c.2.1
  rw [← g1] at f1
  rw [← g2] at f2
  rw [← g3] at f3
  have l1 : ∀ o : List UInt8, o.length ≤ 900000 → (o ++ G1).length ≤ 900000 → BB (CF c) (0, o) = some (o ++ G1) := fun o ho ho2 => by
    rw [g1] at ho2 ⊢
    refine Fy c.1.2.1 (fun x => B6 FW (GR x)) (CF c) (by omega) (fun k hk o ho => ?_) (fun o => by rw [CF, if_neg (by omega)]) o (by omega)
    have hm := List.getElem_mem hk
    have hx := f1.2 _ hm
    have e : AV [108, 105, 110, 107] [c.1.2.1[k].1, c.1.2.1[k].2.1, c.1.2.1[k].2.2.1, c.1.2.1[k].2.2.2.1, c.1.2.1[k].2.2.2.2.1, c.1.2.1[k].2.2.2.2.2] = some (B6 FW (GR c.1.2.1[k])) := DW (w := FW) (ns := GR c.1.2.1[k]) (ok.li _ hm) (by omega) (by simp [GR])
    rw [CF, if_pos (by omega), Eb (List.getElem?_eq_getElem hk), Option.bind_some, e, Option.bind_some, Cz (by rw [List.length_append] at ho; omega)]; rfl
  have l2 : ∀ o : List UInt8, o.length ≤ 900000 → (o ++ G2).length ≤ 900000 → BB (CE c) (0, o) = some (o ++ G2) := fun o ho ho2 => by
    rw [g2] at ho2 ⊢
    refine Fy c.1.2.2 (fun x => B6 FR (GW x)) (CE c) (by omega) (fun k hk o ho => ?_) (fun o => by rw [CE, if_neg (by omega)]) o (by omega)
    have hm := List.getElem_mem hk
    have hx := f2.2 _ hm
    have e : AV [104, 111, 115, 116] [c.1.2.2[k].1, c.1.2.2[k].2] = some (B6 FR (GW c.1.2.2[k])) := DW (w := FR) (ns := GW c.1.2.2[k]) (ok.ho _ hm) (by omega) (by simp [GW])
    rw [CE, if_pos (by omega), Eb (List.getElem?_eq_getElem hk), Option.bind_some, e, Option.bind_some, Cz (by rw [List.length_append] at ho; omega)]; rfl
  have l3 : ∀ o : List UInt8, o.length ≤ 900000 → (o ++ G3).length ≤ 900000 → BB (CB c) (0, o) = some (o ++ G3) := fun o ho ho2 => by
    rw [g3] at ho2 ⊢
    refine Fy c.2.1 (Fh Fq) (CB c) (by omega) (fun k hk o ho => ?_) (fun o => by rw [CB, if_neg (by omega)]) o (by omega)
    have hm := List.getElem_mem hk
    have hx := f3.2 _ hm
    have hsl := (Ga Fq (c.2.1[k].map Gn)).2.1
    rw [List.length_map] at hsl
    have e1 : Fh Fq c.2.1[k] = (Fq ++ (c.2.1[k].map fun v => 32 :: Gn v).flatten) ++ [10] := by
      unfold Fh
      rw [Jq, List.map_map]; rfl
    have hlw : (Fh Fq c.2.1[k]).length = (HJ Fq (c.2.1[k].map Gn)).length + 1 := by unfold Fh; rw [List.length_append]; rfl
    have hlen : o.length + ((Fq ++ (c.2.1[k].map fun v => 32 :: Gn v).flatten).length + 1) ≤ 1000000 := by
      rw [e1, List.length_append, List.length_append (bs := [10])] at ho
      simp only [List.length_cons, List.length_nil] at ho; omega
    have hi : BB (Cn c.2.1[k]) (0, o ++ Fq) = some ((o ++ Fq) ++ (c.2.1[k].map fun v => 32 :: Gn v).flatten) := Fy c.2.1[k] (fun v => 32 :: Gn v) (Cn c.2.1[k]) (by omega) (fun j hj o ho => by
      have hbj := ok.we _ hm _ (List.getElem_mem hj)
      have hhl := KR c.2.1[k][j]
      simp only [List.length_append, List.length_cons] at ho
      rw [Cn, if_pos (by omega), Eb (List.getElem?_eq_getElem hj), Option.bind_some, KW hbj, Option.bind_some, Cz (by simp; omega), Option.bind_some, Cz (by simp; omega), Option.bind_some]; rfl) (fun o => by rw [Cn, if_neg (by omega)]) (o ++ Fq) (by rw [List.append_assoc, List.length_append]; omega)
    rw [CB, if_pos (by omega), Eb (List.getElem?_eq_getElem hk), Option.bind_some, Cz (by rw [List.length_append] at hlen; simp only [List.length_cons, List.length_nil] at hlen ⊢; omega), Option.bind_some, show BB (Cn c.2.1[k]) (0, o ++ [119, 101, 105, 103, 104, 116, 115]) = _ from hi, Option.bind_some, Cz (by rw [List.append_assoc, List.length_append]; simp only [List.length_cons, List.length_nil]; omega), Option.bind_some, Option.bind_some, e1]
    simp
  unfold Dk
  rw [t0, Option.bind_some, Cz (by simp only [List.length_nil]; omega), Option.bind_some, List.nil_append, l1 _ (by omega) (by simp only [List.length_append]; omega), Option.bind_some, l2 _ (by simp only [List.length_append]; omega) (by simp only [List.length_append]; omega), Option.bind_some, l3 _ (by simp only [List.length_append]; omega) (by simp only [List.length_append]; omega), Option.bind_some]
  rw [t4, Option.bind_some, Cz (by simp only [List.length_append]; omega), Option.bind_some]
  rw [t5, Option.bind_some, Cz (by simp only [List.length_append]; omega), Option.bind_some]
  rw [t6, Option.bind_some, Cz (by simp only [List.length_append]; omega), Option.bind_some]
  rw [t7, Option.bind_some, Cz (by simp only [List.length_append]; omega), Option.bind_some]
  rw [t8, Option.bind_some, Cz (by simp only [List.length_append]; omega), Option.bind_some]
  rw [t9, Option.bind_some, Cz (by simp only [List.length_append]; omega), Option.bind_some]
  rw [t10, Option.bind_some, Cz (by simp only [List.length_append]; omega), Option.bind_some]
  unfold Ip
  rw [if_pos (by simp only [List.length_append]; omega)]
  simp
end Go.Proofs.YthmkgdnnocemmaaDoor
