/- Layer 40: SetupBack. Conditions: none. -/
import Derived.Test.YthmkgdnnocemmaaDoorbM40D
namespace Go.Proofs.YthmkgdnnocemmaaDoor
set_option linter.unusedVariables false
set_option linter.unusedSimpArgs false
open Go Go.RowKit
theorem Kf (v : Int) : EX v = true ↔ Bd v := by
  unfold EX
  simp only [Bool.and_eq_true, decide_eq_true_iff]
abbrev LS (c : KK) : Prop := c.1.2.1.length ≤ 30 ∧ c.1.2.2.length ≤ 30 ∧ c.2.1.length ≤ 10 ∧ c.2.2.1.length ≤ 30 ∧ ∀ x ∈ c.2.1, x.length ≤ 30
theorem Nl {c : KK} (hl : c.2.1.length ≤ 9223372036854775807) : ∃ b, FR c = some b ∧ (b = true → LS c) := by
  unfold FR
  rw [Ez c.2.1 hl (El c) (fun x => 30 < x.length) false (fun k hk => by
    rw [El, if_pos (by omega), C2 (List.getElem?_eq_getElem hk), Option.bind_some]
    by_cases q : 30 < c.2.1[k].length
    · rw [if_pos q, if_pos (by omega)]
    · rw [if_neg q, if_neg (by omega)]) (by rw [El, if_neg (by omega)])]
  by_cases q : ∃ x ∈ c.2.1, 30 < x.length
  · rw [if_pos q]; exact ⟨false, rfl, fun h => by cases h⟩
  · rw [if_neg q]
    refine ⟨_, rfl, fun h => ?_⟩
    simp only [Bool.and_eq_true, decide_eq_true_iff] at h
    exact ⟨by omega, by omega, by omega, by omega, fun x hx => by
      rcases Nat.lt_or_ge 30 x.length with g | g
      · exact absurd ⟨x, hx, g⟩ q
      · exact g⟩
theorem JP {A : Type} (l : List A) (g : A → List Int) (step : List Int × Int → Option ((List Int × Int) ⊕ List Int)) (hl : l.length ≤ 1000) (hg : ∀ a, (g a).length ≤ 6)
    (hs : ∀ (k : Nat) (hk : k < l.length) (o : List Int), o.length ≤ 100000 → step (o, (k : Int)) = some (.inl (o ++ g l[k], CD ((k : Int) + 1)))) (he : ∀ o, step (o, (l.length : Int)) = some (.inr o)) (o : List Int) (ho : o.length ≤ 1000) : Bf step (o, 0) = some (o ++ (l.map g).flatten) := by
  have key : ∀ (d k : Nat) (o : List Int), k + d = l.length → o.length + 6 * d ≤ 10000 → Bf step (o, (k : Int)) = some (o ++ ((l.drop k).map g).flatten) := by
    intro d
    induction d with
    | zero =>
      intro k o hk _
      obtain rfl : k = l.length := by omega
      rw [List.drop_length, List.map_nil, List.flatten_nil, List.append_nil, CP (he o)]
    | succ d ih =>
      intro k o hk hb
      have hkl : k < l.length := by omega
      have hgk := hg l[k]
      rw [List.drop_eq_getElem_cons hkl, List.map_cons, List.flatten_cons, ← List.append_assoc]
      have := hs k hkl o (by omega)
      rw [Fp (by omega)] at this
      rw [EV this]
      exact ih (k + 1) _ (by omega) (by rw [List.length_append]; omega)
  have := key l.length 0 o (by omega) (by omega)
  rwa [List.drop_zero] at this
theorem MW {c : KK} (hL : LS c) : ∃ b, FX c = some b ∧ (b = true → (∀ v ∈ [c.1.1, c.2.2.2.1, c.2.2.2.2.1, c.2.2.2.2.2.1, c.2.2.2.2.2.2.1, c.2.2.2.2.2.2.2.1, c.2.2.2.2.2.2.2.2], Bd v) ∧ (∀ v ∈ c.2.2.1, Bd v) ∧ (∀ x ∈ c.1.2.1, ∀ v ∈ DY x, Bd v) ∧ ∀ x ∈ c.1.2.2, ∀ v ∈ DT x, Bd v) := by
  obtain ⟨l1, l2, l3, l4, _⟩ := hL
  unfold FX
  rw [Ck (by simp; omega), Option.bind_some, JP c.1.2.1 DY (Ee c) (by omega) (fun a => by simp [DY]) (fun k hk o ho => by
    rw [Ee, if_pos (by omega), C2 (List.getElem?_eq_getElem hk), Option.bind_some, Ck (by simp; omega)]; rfl) (fun o => by rw [Ee, if_neg (by omega)]) _ (by simp; omega), Option.bind_some]
  have hf : ∀ {A : Type} (g : A → List Int), (∀ a, (g a).length ≤ 6) → ∀ l : List A, ((l.map g).flatten).length ≤ 6 * l.length := by
    intro A g hg l
    induction l with
    | nil => exact Nat.zero_le _
    | cons x l ih =>
      have := hg x
      rw [List.map_cons, List.flatten_cons, List.length_append, List.length_cons]; omega
  have hf1 := hf DY (fun a => by simp [DY]) c.1.2.1
  have hf2 := hf DT (fun a => by simp [DT]) c.1.2.2
  rw [JP c.1.2.2 DT (Ek c) (by omega) (fun a => by simp [DT]) (fun k hk o ho => by
    rw [Ek, if_pos (by omega), C2 (List.getElem?_eq_getElem hk), Option.bind_some, Option.bind_some, Ck (by simp; omega)]; rfl) (fun o => by rw [Ek, if_neg (by omega)]) _ (by simp only [List.length_append, List.length_cons, List.length_nil]; omega), Option.bind_some]
  generalize hall : [c.1.1, c.2.2.2.1, c.2.2.2.2.1, c.2.2.2.2.2.1, c.2.2.2.2.2.2.1, c.2.2.2.2.2.2.2.1, c.2.2.2.2.2.2.2.2] ++ c.2.2.1 ++ (c.1.2.1.map DY).flatten ++ (c.1.2.2.map DT).flatten = all
  have hlen : all.length ≤ 1000 := by rw [← hall]; simp only [List.length_append, List.length_cons, List.length_nil]; omega
  rw [Ez all (by omega) (Eb all) (fun v => ¬ Bd v) false (fun k hk => by
    rw [Eb, if_pos (by omega), C2 (List.getElem?_eq_getElem hk), Option.bind_some]
    by_cases q : Bd all[k]
    · rw [(Kf _).2 q, if_neg (by decide), if_neg (fun h => h q)]
    · rw [show EX all[k] = false from by
        cases hh : EX all[k] with
        | false => rfl
        | true => exact absurd ((Kf _).1 hh) q, if_pos (by decide), if_pos q]) (by rw [Eb, if_neg (by omega)])]
  by_cases q : ∃ v ∈ all, ¬ Bd v
  · rw [if_pos q]; exact ⟨false, rfl, fun h => by cases h⟩
  · rw [if_neg q]
    have hb : ∀ v ∈ all, Bd v := fun v hv => Classical.byContradiction fun h => q ⟨v, hv, h⟩
    rw [← hall] at hb
    refine ⟨true, rfl, fun _ => ⟨fun v hv => hb v (by simp only [List.mem_append]; exact .inl (.inl (.inl hv))), fun v hv => hb v (by simp only [List.mem_append]; exact .inl (.inl (.inr hv))), fun x hx v hv => hb v (by simp only [List.mem_append]; exact .inl (.inr (List.mem_flatten.2 ⟨_, List.mem_map.2 ⟨x, hx, rfl⟩, hv⟩))), fun x hx v hv => hb v (by simp only [List.mem_append]; exact .inr (List.mem_flatten.2 ⟨_, List.mem_map.2 ⟨x, hx, rfl⟩, hv⟩))⟩⟩
theorem Ll (w : List UInt8) (B : Nat) : ∀ ws : List (List UInt8), (∀ x ∈ ws, x.length ≤ B) → (D0 w ws).length ≤ w.length + (B + 1) * ws.length
  | [], _ => by unfold D0; simp
  | x :: ws, h => by
    have h1 := h x (List.mem_cons_self ..)
    have h2 := Ll w B ws fun y hy => h y (List.mem_cons_of_mem _ hy)
    have e : (D0 w (x :: ws)).length = (D0 w ws).length + (x.length + 1) := by unfold D0; simp; omega
    rw [e, List.length_cons, Nat.mul_succ]; omega
theorem DV {w : List UInt8} {ns : List Int} (hb : ∀ v ∈ ns, Bd v) : (AR w ns).length ≤ w.length + 22 * ns.length + 1 := by
  have := Ll w 21 (ns.map Lib.itoa) fun x hx => by
    obtain ⟨v, hv, rfl⟩ := List.mem_map.1 hx
    have := hb v hv
    unfold Bd at this
    exact Ny (by omega)
  rw [List.length_map] at this
  simp; omega
theorem ML {w : List UInt8} {ns : List Int} : (C9 w ns).length ≤ w.length + 17 * ns.length + 1 := by
  have := Ll w 16 (ns.map Dz) fun x hx => by
    obtain ⟨v, hv, rfl⟩ := List.mem_map.1 hx
    rw [IL]; exact Nat.le_refl _
  rw [List.length_map] at this
  simp; omega
theorem Ij {A : Type} {g : A → List UInt8} {B : Nat} : ∀ l : List A, (∀ a ∈ l, (g a).length ≤ B) → ((l.map g).flatten).length ≤ B * l.length
  | [], _ => Nat.zero_le _
  | x :: l, h => by
    have h1 := h x (List.mem_cons_self ..)
    have h2 := Ij l fun y hy => h y (List.mem_cons_of_mem _ hy)
    rw [List.map_cons, List.flatten_cons, List.length_append, List.length_cons, Nat.mul_succ]; omega
theorem Pl {c : KK} (ok : OkC c) (hL : LS c) : (TT c).length ≤ 80000 := by
  obtain ⟨l1, l2, l3, l4, l5⟩ := hL
  have one : ∀ {v : Int}, Bd v → ∀ u ∈ [v], Bd u := fun h u hu => by rw [List.mem_singleton.1 hu]; exact h
  have b0 := DV (w := [115, 119, 105, 116, 99, 104, 101, 115]) (one ok.sw)
  have b1 := Ij (g := fun x => AR Do (DY x)) (B := 200) c.1.2.1 fun a ha => by
    have := DV (w := Do) (ok.li a ha)
    simp only [DY, List.length_cons, List.length_nil] at this ⊢; omega
  have b2 := Ij (g := fun x => AR Dd (DT x)) (B := 200) c.1.2.2 fun a ha => by
    have := DV (w := Dd) (ok.ho a ha)
    simp only [DT, List.length_cons, List.length_nil] at this ⊢; omega
  have b3 := Ij (g := C9 DA) (B := 600) c.2.1 fun a ha => by
    have := ML (w := DA) (ns := a)
    have := l5 a ha
    simp only [List.length_cons, List.length_nil] at *; omega
  have b4 := DV (w := [115, 116, 97, 114, 116, 115]) ok.st
  have b5 := DV (w := [114, 97, 116, 101]) (one ok.ra)
  have b6 := DV (w := [114, 111, 111, 109]) (one ok.ro)
  have b7 := DV (w := [119, 105, 100, 101]) (one ok.wi)
  have b8 := DV (w := [108, 101, 97, 100]) (one ok.le)
  have b9 := DV (w := [109, 97, 114, 103, 105, 110]) (one ok.ma)
  have b10 := DV (w := [114, 101, 116, 114, 121]) (one ok.re)
  unfold TT
  simp only [List.length_append, List.length_cons, List.length_nil] at *
  omega
theorem MF {l : List Int} (hl : l.length ≤ 1000) : FT l l = some true := by
  unfold FT
  rw [if_neg (fun h => h rfl), Ez l (by omega) (EQ l l) (fun _ => False) false (fun k hk => by
    rw [EQ, if_pos (by omega), C2 (List.getElem?_eq_getElem hk), Option.bind_some, Option.bind_some, if_neg (fun h => h rfl), if_neg id]) (by rw [EQ, if_neg (by omega)]), if_neg (by simp)]; rfl
theorem OH {l : List Int} (hl : l.length ≤ 1000) : Gy l l = some true := by
  unfold Gy
  rw [if_neg (fun h => h rfl), Ez l (by omega) (EW l l) (fun _ => False) false (fun k hk => by
    rw [EW, if_pos (by omega), C2 (List.getElem?_eq_getElem hk), Option.bind_some, Option.bind_some, if_neg (fun h => h rfl), if_neg id]) (by rw [EW, if_neg (by omega)]), if_neg (by simp)]; rfl
theorem OQ {c : KK} (hL : LS c) : Gr c c = some true := by
  obtain ⟨l1, l2, l3, l4, l5⟩ := hL
  unfold Gr
  rw [if_neg (fun h => h rfl), if_neg (fun h => h rfl), if_neg (fun h => h rfl), if_neg (fun h => h rfl), MF (by omega), Option.bind_some, if_neg (by decide), MF (by simp [Dm]), Option.bind_some, Option.bind_some, if_neg (by decide)]
  rw [Ez c.1.2.1 (by omega) (EY c c) (fun _ => False) false (fun k hk => by
    rw [EY, if_pos (by omega), C2 (List.getElem?_eq_getElem hk), Option.bind_some, Option.bind_some, if_neg (by simp), if_neg id]) (by rw [EY, if_neg (by omega)]), if_neg (by simp)]
  show D6 (Bf (D4 c c) 0) _ = _
  rw [Ez c.1.2.2 (by omega) (D4 c c) (fun _ => False) false (fun k hk => by
    rw [D4, if_pos (by omega), C2 (List.getElem?_eq_getElem hk), Option.bind_some, Option.bind_some, if_neg (by simp), if_neg id]) (by rw [D4, if_neg (by omega)]), if_neg (by simp)]
  show D6 (Bf (D5 c c) 0) _ = _
  rw [Ez c.2.1 (by omega) (D5 c c) (fun _ => False) false (fun k hk => by
    rw [D5, if_pos (by omega), C2 (List.getElem?_eq_getElem hk), Option.bind_some, Option.bind_some, OH (by have := l5 _ (List.getElem_mem hk); omega), Option.bind_some, if_neg (by decide), if_neg id]) (by rw [D5, if_neg (by omega)]), if_neg (by simp)]
  rfl
theorem MB (c : KK) : ∃ P, TT c = P ++ AR [114, 101, 116, 114, 121] [c.2.2.2.2.2.2.2.2] := by
  unfold TT
  simp only [← List.append_assoc]
  exact ⟨_, rfl⟩
theorem NH (c : KK) : (TT c).getLast? = some 10 := by
  obtain ⟨P, hP⟩ := MB c
  rw [hP]
  unfold AR
  rw [← List.append_assoc]
  simp
theorem OP {c : KK} (ok : OkC c) : ∃ Y, TT c = Y ++ [10] ∧ Y.getLast? ≠ some 10 := by
  have h1 := J1 ok.re (c := 10) (.inl rfl)
  have h2 : Lib.itoa c.2.2.2.2.2.2.2.2 ≠ [] := fun e => by
    have := (HI ok.re).1
    rw [e] at this
    cases this
  have key : ∀ (P x : List UInt8), x ≠ [] → (10 : UInt8) ∉ x → (P ++ x).getLast? ≠ some 10 := fun P x h0 h e => by
    rw [List.getLast?_append] at e
    cases hx : x.getLast? with
    | none => exact h0 (List.getLast?_eq_none_iff.1 hx)
    | some b =>
      rw [hx] at e
      have : b = 10 := Option.some.inj e
      exact h (this ▸ List.mem_of_getLast? hx)
  obtain ⟨P, hP⟩ := MB c
  have e : AR [114, 101, 116, 114, 121] [c.2.2.2.2.2.2.2.2] = ([114, 101, 116, 114, 121, 32] ++ Lib.itoa c.2.2.2.2.2.2.2.2) ++ [10] := by
    unfold AR D0
    simp
  refine ⟨P ++ ([114, 101, 116, 114, 121, 32] ++ Lib.itoa c.2.2.2.2.2.2.2.2), by rw [hP, e, ← List.append_assoc], ?_⟩
  rw [← List.append_assoc]
  exact key _ _ h2 h1
theorem IG (c : KK) (p1 : List UInt8) (hl : c.2.1.length ≤ 9223372036854775807) (hw : ∀ x ∈ c.2.1, ∀ v ∈ x, Bh v) : DU c p1 = some true := by
  unfold DU
  obtain ⟨b, e1, e2⟩ := Nl hl
  rw [e1, Option.bind_some]
  by_cases q : b = true
  case neg =>
    rw [if_pos (by simpa using q), Option.bind_some, if_pos rfl, Ih]; rfl
  subst q
  have hL := e2 rfl
  obtain ⟨b, t1, t2⟩ := MW hL
  rw [if_neg (by decide), t1, Option.bind_some]
  by_cases q : b = true
  case neg =>
    rw [if_pos (by simpa using q), Option.bind_some, if_pos rfl, Ih]; rfl
  subst q
  obtain ⟨u1, u2, u3, u4⟩ := t2 rfl
  rw [if_neg (by decide), Option.bind_some]
  by_cases q : 100 < (p1.length : Int)
  · rw [decide_eq_true q, if_pos rfl, Ih]; rfl
  rw [decide_eq_false q, if_neg (by decide)]
  have ok : OkC c := ⟨u1 _ (by simp), u3, u4, hw, u2, u1 _ (by simp), u1 _ (by simp), u1 _ (by simp), u1 _ (by simp), u1 _ (by simp), u1 _ (by simp)⟩
  have hT := Pl ok hL
  obtain ⟨y1, _⟩ := LV ok [] (by rw [List.append_nil]; omega)
  have y1 := y1 rfl
  rw [List.append_nil] at y1
  obtain ⟨_, y2⟩ := LV ok (p1 ++ [10]) (by rw [List.length_append, List.length_append]; simp; omega)
  obtain ⟨n2, y2⟩ := y2 (by simp)
  obtain ⟨Y, z1, z2⟩ := OP ok
  have y3 : ∃ n3, Ca Y = some (HO, n3, 10) := by
    rcases N4 (s := Y) (by have := congrArg List.length z1; simp at this; omega) with ⟨x, _, h2, _⟩ | ⟨n, _, h⟩
    · exact absurd (by rw [h2]; exact NH x) z2
    · exact ⟨n, h⟩
  obtain ⟨n3, y3⟩ := y3
  have hlen : (TT c).length = Y.length + 1 := by rw [z1]; simp
  have hsub : EC (TT c) 0 (CD (((TT c).length : Int) - 1)) = some Y := by
    rw [Fp (by omega), Ii (by omega)]
    have e : (((TT c).length : Int) - 1).toNat = Y.length := by omega
    rw [e, z1]
    simp
  rw [NW ok (by omega), Option.bind_some, y1, Option.bind_some, Ck (by omega), Option.bind_some, Ck (by simp; omega), Option.bind_some, List.append_assoc, y2, Option.bind_some, if_neg (by omega), hsub, Option.bind_some, y3, Option.bind_some]
  dsimp only
  rw [if_pos rfl, OQ hL, Option.bind_some, if_pos rfl, if_pos rfl, if_pos rfl, Ih]; rfl
theorem Ji (p0 : KK) {K : (Int × List Lk × List (Int × Int)) → Prop} {K2 : List Int × Int × Int × Int × Int × Int × Int → Prop} (ok0 : F2 K (F2 (KJ (KJ (fun n => (Lit.int .u64 n).wf = true))) K2) p0) (p1 : List UInt8) {A : Prop} (_ : A) : DU p0 p1 = some true :=
  IG p0 p1 ok0.2.1.1 fun x hx v hv => by
    have h : (Lit.int .u64 v).wf = true := (ok0.2.1.2 x hx).2 v hv
    simp only [Lit.wf, IntKind.has] at h
    have : 0 ≤ v ∧ v ≤ 18446744073709551615 := by simpa [IntKind.min, IntKind.max, IntKind.bits, IntKind.signed] using h
    exact ⟨this.1, by omega⟩
end Go.Proofs.YthmkgdnnocemmaaDoor
