/- Layer 40: SetupAgain; what is told is parsed. Conditions: none. -/
import Derived.Test.YthmkgdnnocemmaaDoorbM40C
import Derived.Test.YthmkgdnnocemmaaDoorbEV
namespace Go.Proofs.YthmkgdnnocemmaaDoor
set_option linter.unusedVariables false
set_option linter.unusedSimpArgs false
open Go Go.RowKit
def Hd (W : List (List UInt8)) (s : List UInt8) : Prop := ∃ w ws rest, w ∈ W ∧ (10 : UInt8) ∉ w ∧ (32 : UInt8) ∉ w ∧ (∀ x ∈ ws, (10 : UInt8) ∉ x) ∧ (∀ x ∈ ws, (32 : UInt8) ∉ x) ∧ s = D0 w ws ++ 10 :: rest
theorem Nr {W V : List (List UInt8)} {s : List UInt8} (h : Hd W s) (hs : ∀ w ∈ W, w ∈ V) : Hd V s := by
  obtain ⟨w, ws, rest, h1, h2⟩ := h
  exact ⟨w, ws, rest, hs w h1, h2⟩
theorem FZ {ns : List Int} (h : ∀ v ∈ ns, Bd v) {c : UInt8} (hc : c.toNat = 10 ∨ c.toNat = 32) : ∀ x ∈ ns.map Lib.itoa, c ∉ x := fun x hx => by
  obtain ⟨v, hv, rfl⟩ := List.mem_map.1 hx
  exact J1 (h v hv) hc
theorem Ig {ns : List Int} {c : UInt8} (hc : c.toNat = 10 ∨ c.toNat = 32) : ∀ x ∈ ns.map Dz, c ∉ x := fun x hx => by
  obtain ⟨v, hv, rfl⟩ := List.mem_map.1 hx
  exact LC hc
theorem Pk {w rest : List UInt8} {ns : List Int} (h10 : (10 : UInt8) ∉ w) (h32 : (32 : UInt8) ∉ w) (hb : ∀ v ∈ ns, Bd v) : Hd [w] (AR w ns ++ rest) := ⟨w, ns.map Lib.itoa, rest, List.mem_cons_self .., h10, h32, FZ hb (by decide), FZ hb (by decide), by simp⟩
theorem PM {w rest : List UInt8} {ns : List Int} (h10 : (10 : UInt8) ∉ w) (h32 : (32 : UInt8) ∉ w) : Hd [w] (C9 w ns ++ rest) := ⟨w, ns.map Dz, rest, List.mem_cons_self .., h10, h32, Ig (by decide), Ig (by decide), by simp⟩
theorem LF {A : Type} {line : A → List UInt8} {w : List UInt8} {W : List (List UInt8)} {Q : List UInt8} : ∀ (ys : List A), (∀ a ∈ ys, ∀ rest, Hd [w] (line a ++ rest)) → Hd W Q → Hd (w :: W) ((ys.map line).flatten ++ Q)
  | [], _, h => Nr h fun w hw => List.mem_cons_of_mem _ hw
  | y :: ys, h1, _ => by
    rw [List.map_cons, List.flatten_cons, List.append_assoc]
    exact Nr (h1 y (List.mem_cons_self ..) _) fun v hv => by rw [List.mem_singleton.1 hv]; exact List.mem_cons_self ..
theorem Hz {W : List (List UInt8)} {s : List UInt8} (h : Hd W s) (hs : s.length ≤ 100000) (n : Int) {w : List UInt8} (hw : w ∉ W) : Ax (s, n) w = some (.inl false) := by
  obtain ⟨w0, ws, rest, h1, h2, h3, h4, h5, rfl⟩ := h
  rw [Hf h2 h3 h4 h5 hs, decide_eq_false (fun (e : w0 = w) => hw (by rw [← e]; exact h1))]
theorem J5 {A : Type} {S : PS A → Option (PS A ⊕ (PS A ⊕ Pb))} {line : A → List UInt8} (h1 : ∀ a, 1 ≤ (line a).length) {Q : List UInt8} :
    ∀ (ys : List A), (∀ a ∈ ys, ∀ rest n xs, Iv n (line a ++ rest) → xs.length ≤ 100000 → S (line a ++ rest, n, xs) = some (.inl (rest, CD (n + 1), xs ++ [a]))) → (∀ n xs, Iv n Q → S (Q, n, xs) = some (.inr (.inl (Q, n, xs)))) →
      ∀ (n : Int) (xs : List A), Iv n ((ys.map line).flatten ++ Q) → xs.length + ys.length ≤ 100000 → ∃ m, Iv m Q ∧ Bf S ((ys.map line).flatten ++ Q, n, xs) = some (.inl (Q, m, xs ++ ys))
  | [], _, hQ, n, xs, hI, _ => ⟨n, hI, by rw [List.append_nil]; exact CP (hQ n xs hI)⟩
  | y :: ys, hS, hQ, n, xs, hI, hx => by
    rw [List.map_cons, List.flatten_cons, List.append_assoc] at hI ⊢
    obtain ⟨f1, f2⟩ := hI.next (h1 y)
    have := hS y (List.mem_cons_self ..) _ n xs hI (by omega)
    rw [EV this, f1]
    obtain ⟨m, g1, g2⟩ := J5 h1 ys (fun a ha => hS a (List.mem_cons_of_mem _ ha)) hQ (n + 1) (xs ++ [y]) f2 (by simp at hx ⊢; omega)
    exact ⟨m, g1, by rw [g2]; simp⟩
theorem Iv.len {n : Int} {s : List UInt8} (h : Iv n s) : s.length ≤ 100000 := by unfold Iv at h; omega
theorem M0 {w rest : List UInt8} {ns : List Int} (h10 : (10 : UInt8) ∉ w) (h32 : (32 : UInt8) ∉ w) (hb : ∀ v ∈ ns, Bd v) {c : Int} (hc : c = -1 ∨ (ns.length : Int) = c) {n : Int} (hI : Iv n (AR w ns ++ rest)) : Iv (n + 1) rest ∧ AE (AR w ns ++ rest, n) w c = some (.inl (ns, rest, n + 1)) := by
  obtain ⟨e1, e2⟩ := hI.next (Dl w ns)
  exact ⟨e2, by rw [HK h10 h32 hb hc hI.len, e1]⟩
theorem Ff {w rest : List UInt8} {v : Int} (h10 : (10 : UInt8) ∉ w) (h32 : (32 : UInt8) ∉ w) (hb : Bd v) {n : Int} (hI : Iv n (AR w [v] ++ rest)) : Iv (n + 1) rest ∧ AL (AR w [v] ++ rest, n) w = some (.inl (v, rest, n + 1)) := by
  obtain ⟨e1, e2⟩ := M0 (ns := [v]) h10 h32 (fun u hu => by rw [List.mem_singleton.1 hu]; exact hb) (c := 1) (.inr rfl) hI
  refine ⟨e1, ?_⟩
  unfold AL
  rw [e2]; rfl
theorem PI (x2 : Int × (List UInt8 × Int)) {a : Lk} (hb : ∀ v ∈ DY a, Bd v) (rest : List UInt8) (n : Int) (xs : List Lk) (hI : Iv n (AR Do (DY a) ++ rest)) (hx : xs.length ≤ 100000) : BU x2 (AR Do (DY a) ++ rest, n, xs) = some (.inl (rest, CD (n + 1), xs ++ [a])) := by
  have hbg : Ax (AR Do (DY a) ++ rest, n) Do = some (.inl true) := by
    have e : AR Do (DY a) ++ rest = D0 Do ((DY a).map Lib.itoa) ++ 10 :: rest := by simp
    have hl := hI.len
    rw [e] at hl ⊢
    rw [Hf (by decide) (by decide) (FZ hb (by decide)) (FZ hb (by decide)) hl, decide_eq_true rfl]
  unfold BU
  simp only [Ab, Bm]
  rw [show Ax (AR Do (DY a) ++ rest, n) [108, 105, 110, 107] = _ from hbg]
  simp only [Option.bind_some, B2, if_true]
  rw [show AE (AR Do (DY a) ++ rest, n) [108, 105, 110, 107] 6 = _ from HK (w := Do) (by decide) (by decide) hb (c := 6) (.inr rfl) hI.len n, Option.bind_some]
  show (DP xs [a]).bind _ = _
  rw [Ck (by simp; omega)]; rfl
theorem PZ (x2 : Int × (List UInt8 × Int)) (x6 : List Lk) {a : Int × Int} (hb : ∀ v ∈ DT a, Bd v) (rest : List UInt8) (n : Int) (xs : List (Int × Int)) (hI : Iv n (AR Dd (DT a) ++ rest)) (hx : xs.length ≤ 100000) : BS x2 x6 (AR Dd (DT a) ++ rest, n, xs) = some (.inl (rest, CD (n + 1), xs ++ [a])) := by
  have hbg : Ax (AR Dd (DT a) ++ rest, n) Dd = some (.inl true) := by
    have e : AR Dd (DT a) ++ rest = D0 Dd ((DT a).map Lib.itoa) ++ 10 :: rest := by simp
    have hl := hI.len
    rw [e] at hl ⊢
    rw [Hf (by decide) (by decide) (FZ hb (by decide)) (FZ hb (by decide)) hl, decide_eq_true rfl]
  unfold BS
  simp only [Ab, Bm]
  rw [show Ax (AR Dd (DT a) ++ rest, n) [104, 111, 115, 116] = _ from hbg]
  simp only [Option.bind_some, B2, if_true]
  rw [show AE (AR Dd (DT a) ++ rest, n) [104, 111, 115, 116] 2 = _ from HK (w := Dd) (by decide) (by decide) hb (c := 2) (.inr rfl) hI.len n, Option.bind_some]
  show (DP xs [a]).bind _ = _
  rw [Ck (by simp; omega)]; rfl
theorem PJ (x2 : Int × (List UInt8 × Int)) (x6 : List Lk) (x25 : List (Int × Int)) {a : List Int} (hb : ∀ v ∈ a, Bh v) (rest : List UInt8) (n : Int) (xs : List (List Int)) (hI : Iv n (C9 DA a ++ rest)) (hx : xs.length ≤ 100000) : BV x2 x6 x25 (C9 DA a ++ rest, n, xs) = some (.inl (rest, CD (n + 1), xs ++ [a])) := by
  have hbg : Ax (C9 DA a ++ rest, n) DA = some (.inl true) := by
    have e : C9 DA a ++ rest = D0 DA (a.map Dz) ++ 10 :: rest := by simp
    have hl := hI.len
    rw [e] at hl ⊢
    rw [Hf (by decide) (by decide) (Ig (by decide)) (Ig (by decide)) hl, decide_eq_true rfl]
  unfold BV
  simp only [Ab, Bm]
  rw [show Ax (C9 DA a ++ rest, n) [119, 101, 105, 103, 104, 116, 115] = _ from hbg]
  simp only [Option.bind_some, B2, if_true]
  rw [show BA (C9 DA a ++ rest, n) [119, 101, 105, 103, 104, 116, 115] = _ from ON (w := DA) (by decide) (by decide) hb hI.len n, Option.bind_some]
  show (DP xs [a]).bind _ = _
  rw [Ck (by simp; omega)]; rfl
theorem Pg (x2 : Int × (List UInt8 × Int)) {Q : List UInt8} {W : List (List UInt8)} (h : Hd W Q) (hw : Do ∉ W) (n : Int) (xs : List Lk) (hI : Iv n Q) : BU x2 (Q, n, xs) = some (.inr (.inl (Q, n, xs))) := by
  unfold BU
  simp only [Ab, Bm]
  rw [show Ax (Q, n) [108, 105, 110, 107] = _ from Hz h hI.len n (w := Do) hw]; rfl
theorem Pq (x2 : Int × (List UInt8 × Int)) (x6 : List Lk) {Q : List UInt8} {W : List (List UInt8)} (h : Hd W Q) (hw : Dd ∉ W) (n : Int) (xs : List (Int × Int)) (hI : Iv n Q) : BS x2 x6 (Q, n, xs) = some (.inr (.inl (Q, n, xs))) := by
  unfold BS
  simp only [Ab, Bm]
  rw [show Ax (Q, n) [104, 111, 115, 116] = _ from Hz h hI.len n (w := Dd) hw]; rfl
theorem Pa (x2 : Int × (List UInt8 × Int)) (x6 : List Lk) (x25 : List (Int × Int)) {Q : List UInt8} {W : List (List UInt8)} (h : Hd W Q) (hw : DA ∉ W) (n : Int) (xs : List (List Int)) (hI : Iv n Q) : BV x2 x6 x25 (Q, n, xs) = some (.inr (.inl (Q, n, xs))) := by
  unfold BV
  simp only [Ab, Bm]
  rw [show Ax (Q, n) [119, 101, 105, 103, 104, 116, 115] = _ from Hz h hI.len n (w := DA) hw]; rfl
theorem LV {c : KK} (ok : OkC c) (extra : List UInt8) (hl : (TT c ++ extra).length ≤ 90000) : (extra = [] → Ca (TT c ++ extra) = some (c, 0, 0)) ∧ (extra ≠ [] → ∃ n, Ca (TT c ++ extra) = some (HO, n, 10)) := by
  have I0 : Iv 1 (TT c ++ extra) := ⟨by decide, by omega⟩
  have hT : TT c ++ extra = AR [115, 119, 105, 116, 99, 104, 101, 115] [c.1.1] ++ ((c.1.2.1.map fun x => AR Do (DY x)).flatten ++ ((c.1.2.2.map fun x => AR Dd (DT x)).flatten ++ ((c.2.1.map (C9 DA)).flatten ++ (AR [115, 116, 97, 114, 116, 115] c.2.2.1 ++ (AR [114, 97, 116, 101] [c.2.2.2.1] ++ (AR [114, 111, 111, 109] [c.2.2.2.2.1] ++ (AR [119, 105, 100, 101] [c.2.2.2.2.2.1] ++ (AR [108, 101, 97, 100] [c.2.2.2.2.2.2.1] ++ (AR [109, 97, 114, 103, 105, 110] [c.2.2.2.2.2.2.2.1] ++ (AR [114, 101, 116, 114, 121] [c.2.2.2.2.2.2.2.2] ++ extra)))))))))) := by
    unfold TT AR C9
    simp only [List.append_assoc]
  rw [hT] at I0 ⊢
  have f1 := (Fk (g := fun x => AR Do (DY x)) (fun a => Dl _ _) c.1.2.1).1
  have f2 := (Fk (g := fun x => AR Dd (DT x)) (fun a => Dl _ _) c.1.2.2).1
  have f3 := (Fk (g := C9 DA) (fun a => GK _ _) c.2.1).1
  obtain ⟨I1, h0⟩ := Ff (by decide) (by decide) ok.sw I0
  have d4 : Hd [[115, 116, 97, 114, 116, 115]] _ := Pk (w := [115, 116, 97, 114, 116, 115]) (ns := c.2.2.1) (by decide) (by decide) ok.st (rest := AR [114, 97, 116, 101] [c.2.2.2.1] ++ (AR [114, 111, 111, 109] [c.2.2.2.2.1] ++ (AR [119, 105, 100, 101] [c.2.2.2.2.2.1] ++ (AR [108, 101, 97, 100] [c.2.2.2.2.2.2.1] ++ (AR [109, 97, 114, 103, 105, 110] [c.2.2.2.2.2.2.2.1] ++ (AR [114, 101, 116, 114, 121] [c.2.2.2.2.2.2.2.2] ++ extra))))))
  have d3 := LF (line := C9 DA) (w := DA) c.2.1 (fun a _ rest => PM (by decide) (by decide)) d4
  have d2 := LF (line := fun x => AR Dd (DT x)) (w := Dd) c.1.2.2 (fun a ha rest => Pk (by decide) (by decide) (ok.ho a ha)) d3
  obtain ⟨m1, I2, h1⟩ := J5 (line := fun x => AR Do (DY x)) (fun a => Dl _ _) c.1.2.1 (fun a ha => PI (c.1.1, _, 1 + 1) (ok.li a ha)) (fun n xs => Pg _ d2 (by decide) n xs) (1 + 1) [] I1 (by have := I1.len; rw [List.length_append] at this; simp only [List.length_nil]; omega)
  obtain ⟨m2, I3, h2⟩ := J5 (line := fun x => AR Dd (DT x)) (fun a => Dl _ _) c.1.2.2 (fun a ha => PZ (c.1.1, _, 1 + 1) c.1.2.1 (ok.ho a ha)) (fun n xs => Pq _ _ d3 (by decide) n xs) m1 [] I2 (by have := I2.len; rw [List.length_append] at this; simp only [List.length_nil]; omega)
  obtain ⟨m3, I4, h3⟩ := J5 (line := C9 DA) (fun a => GK _ _) c.2.1 (fun a ha => PJ (c.1.1, _, 1 + 1) c.1.2.1 c.1.2.2 (ok.we a ha)) (fun n xs => Pa _ _ _ d4 (by decide) n xs) m2 [] I3 (by have := I3.len; rw [List.length_append] at this; simp only [List.length_nil]; omega)
  obtain ⟨I5, h4⟩ := M0 (w := [115, 116, 97, 114, 116, 115]) (by decide) (by decide) ok.st (c := -1) (.inl rfl) I4
  obtain ⟨I6, h5⟩ := Ff (w := [114, 97, 116, 101]) (by decide) (by decide) ok.ra I5
  obtain ⟨I7, h6⟩ := Ff (w := [114, 111, 111, 109]) (by decide) (by decide) ok.ro I6
  obtain ⟨I8, h7⟩ := Ff (w := [119, 105, 100, 101]) (by decide) (by decide) ok.wi I7
  obtain ⟨I9, h8⟩ := Ff (w := [108, 101, 97, 100]) (by decide) (by decide) ok.le I8
  obtain ⟨I10, h9⟩ := Ff (w := [109, 97, 114, 103, 105, 110]) (by decide) (by decide) ok.ma I9
  obtain ⟨I11, h10⟩ := Ff (w := [114, 101, 116, 114, 121]) (by decide) (by decide) ok.re I10
  unfold Ca
  simp only [Ab, Bm]
  rw [h0, Option.bind_some]
  simp only [B2]
  rw [h1]
  simp only [D6, List.nil_append, Option.bind_some]
  rw [h2]
  simp only [D6, List.nil_append, Option.bind_some]
  rw [h3]
  simp only [D6, List.nil_append, Option.bind_some]
  rw [h4, Option.bind_some]
  simp only [B2]
  rw [h5, Option.bind_some]
  simp only [B2]
  rw [h6, Option.bind_some]
  simp only [B2]
  rw [h7, Option.bind_some]
  simp only [B2]
  rw [h8, Option.bind_some]
  simp only [B2]
  rw [h9, Option.bind_some]
  simp only [B2]
  rw [h10, Option.bind_some]
  simp only [B2]
  unfold CF
  refine ⟨fun h => ?_, fun h => ?_⟩
  · rw [if_neg (fun q => q h)]
  · rw [if_pos h]; exact ⟨_, rfl⟩
end Go.Proofs.YthmkgdnnocemmaaDoor
