/- Layer 40: whole texts. Conditions: none. -/
import Derived.Test.YthmkgdnnocemmaaDoorcM40
namespace Go.Proofs.YthmkgdnnocemmaaDoor
set_option linter.unusedVariables false
set_option linter.unusedSimpArgs false
open Go Go.RowKit
abbrev Lk : Type := Int × Int × Int × Int × Int × Int
abbrev Na : Type := (Int × List Lk × List (Int × Int)) × List (List Int) × List Int × Int × Int × Int × Int × Int × Int
abbrev GL : Na := ((0, [], []), [], [], 0, 0, 0, 0, 0, 0)
abbrev NA : Type := Na × Int × Int
abbrev PS (A : Type) : Type := List UInt8 × Int × List A
def GR (x : Lk) : List Int := [x.1, x.2.1, x.2.2.1, x.2.2.2.1, x.2.2.2.2.1, x.2.2.2.2.2]
def GW (x : Int × Int) : List Int := [x.1, x.2]
abbrev Iv (n : Int) (s : List UInt8) : Prop := 0 < n ∧ n + (s.length : Int) ≤ 100000
theorem Ev (w : List UInt8) (ns : List Int) : 1 ≤ (B6 w ns).length := by simp
theorem H5 (w : List UInt8) (ns : List Int) : 1 ≤ (Fh w ns).length := by simp
theorem Iv.next {n : Int} {u rest : List UInt8} (h : Iv n (u ++ rest)) (h1 : 1 ≤ u.length) : CL (n + 1) = n + 1 ∧ Iv (n + 1) rest := by
  unfold Iv at *
  rw [List.length_append] at h
  exact ⟨FE (by omega), by omega, by omega⟩
theorem EE {s : List UInt8} {n : Int} (hI : Iv n s) (w : List UInt8) : (∃ v rest m, s = B6 w [v] ++ rest ∧ Bd v ∧ Iv m rest ∧ AG (s, n) w = some (.inl (v, rest, m))) ∨ AG (s, n) w = some (.inr (n, s, n)) := by
  unfold AG
  rcases H6 (s := s) (by unfold Iv at hI; omega) n w 1 with ⟨ns, rest, h1, h2, h3, h4⟩ | h
  · left
    obtain ⟨v, rfl⟩ : ∃ v, ns = [v] := List.length_eq_one_iff.1 (by omega)
    rw [h1] at hI
    obtain ⟨e1, e2⟩ := hI.next (Ev w [v])
    refine ⟨v, rest, n + 1, h1, h2 v (List.mem_cons_self ..), e2, ?_⟩
    rw [h4, e1]; rfl
  · right; rw [h]; rfl
theorem Ju {s : List UInt8} {n : Int} (hI : Iv n s) (w : List UInt8) (c : Int) : (∃ ns rest m, s = B6 w ns ++ rest ∧ (∀ v ∈ ns, Bd v) ∧ (c = -1 ∨ (ns.length : Int) = c) ∧ Iv m rest ∧ AJ (s, n) w c = some (.inl (ns, rest, m)) ∧ CL (n + 1) = m) ∨ AJ (s, n) w c = some (.inr (n, s, n)) := by
  rcases H6 (s := s) (by unfold Iv at hI; omega) n w c with ⟨ns, rest, h1, h2, h3, h4⟩ | h
  · left
    rw [h1] at hI
    obtain ⟨e1, e2⟩ := hI.next (Ev w ns)
    exact ⟨ns, rest, n + 1, h1, h2, h3, e2, by rw [h4, e1], e1⟩
  · exact .inr h
theorem Hb {s : List UInt8} (hs : s.length ≤ 100000) (n : Int) (w : List UInt8) : (∃ b, Bi (s, n) w = some (.inl b)) ∨ Bi (s, n) w = some (.inr n) := by
  unfold Bi
  rcases Ix hs n w with ⟨_, h, _⟩ | ⟨w0, ws, rest, h1, h2, _, _⟩
  · right; rw [h]; rfl
  · left
    rw [h2, Option.bind_some]
    refine ⟨decide ((Lib.cut (HJ w0 ws) [32]).1 = w), ?_⟩
    show (GP (HJ w0 ws) [32]).bind _ = _
    rw [Iw (by have := congrArg List.length h1; simp at this; simp; omega)]; rfl
theorem Ir {A : Type} {S : PS A → Option (PS A ⊕ (PS A ⊕ NA))} {line : A → List UInt8} {ok : A → Prop} (h1 : ∀ a, 1 ≤ (line a).length)
    (hS : ∀ s n xs, Iv n s → xs.length ≤ 100000 → (∃ a rest, s = line a ++ rest ∧ ok a ∧ S (s, n, xs) = some (.inl (rest, CL (n + 1), xs ++ [a]))) ∨ S (s, n, xs) = some (.inr (.inl (s, n, xs))) ∨ S (s, n, xs) = some (.inr (.inr (GL, n, 10)))) :
    ∀ (d : Nat) (s : List UInt8) (n : Int) (xs : List A), s.length < d → s.length + xs.length ≤ 100000 → Iv n s →
      (∃ ys rest m, s = (ys.map line).flatten ++ rest ∧ (∀ a ∈ ys, ok a) ∧ Iv m rest ∧ BB S (s, n, xs) = some (.inl (rest, m, xs ++ ys))) ∨ ∃ m, 0 < m ∧ BB S (s, n, xs) = some (.inr (GL, m, 10))
  | 0, s, n, xs, h, _, _ => absurd h (Nat.not_lt_zero _)
  | d + 1, s, n, xs, h, hx, hI => by
    rcases hS s n xs hI (by omega) with ⟨a, rest, e1, e2, e3⟩ | e | e
    · rw [e1] at hI
      obtain ⟨f1, f2⟩ := hI.next (h1 a)
      have := h1 a
      have hl : s.length = (line a).length + rest.length := by rw [e1]; simp
      rw [E4 e3, f1]
      rcases Ir h1 hS d rest (n + 1) (xs ++ [a]) (by omega) (by simp; omega) f2 with ⟨ys, r2, m, g1, g2, g3, g4⟩ | ⟨m, g1, g2⟩
      · refine .inl ⟨a :: ys, r2, m, by rw [e1, g1]; simp, fun b hb => ?_, g3, by rw [g4]; simp⟩
        rcases List.mem_cons.1 hb with rfl | hb
        · exact e2
        · exact g2 b hb
      · exact .inr ⟨m, g1, g2⟩
    · exact .inl ⟨[], s, n, rfl, fun b hb => (by cases hb), hI, by rw [Cd e, List.append_nil]⟩
    · exact .inr ⟨n, hI.1, Cd e⟩
theorem NO {α : Type} : ∀ {l : List α}, l.length = 6 → ∃ a b c d e f, l = [a, b, c, d, e, f]
  | [a, b, c, d, e, f], _ => ⟨a, b, c, d, e, f, rfl⟩
theorem NH {α : Type} : ∀ {l : List α}, l.length = 2 → ∃ a b, l = [a, b]
  | [a, b], _ => ⟨a, b, rfl⟩
abbrev FW : List UInt8 := [108, 105, 110, 107]
abbrev FR : List UInt8 := [104, 111, 115, 116]
abbrev Fq : List UInt8 := [119, 101, 105, 103, 104, 116, 115]
theorem NB (x2 : Int × (List UInt8 × Int)) (s : List UInt8) (n : Int) (xs : List Lk) (hI : Iv n s) (hx : xs.length ≤ 100000) :
    (∃ a rest, s = B6 FW (GR a) ++ rest ∧ (∀ v ∈ GR a, Bd v) ∧ Ct x2 (s, n, xs) = some (.inl (rest, CL (n + 1), xs ++ [a]))) ∨ Ct x2 (s, n, xs) = some (.inr (.inl (s, n, xs))) ∨ Ct x2 (s, n, xs) = some (.inr (.inr (GL, n, 10))) := by
  unfold Ct
  simp only [Ab, B0]
  rcases Hb (s := s) (by unfold Iv at hI; omega) n FW with ⟨b, h⟩ | h
  · rw [h]
    cases b with
    | false => exact .inr (.inl rfl)
    | true =>
      simp only [Option.bind_some, B3, if_true]
      rcases Ju hI FW 6 with ⟨ns, rest, m, h1, h2, h3, h4, h5, h6⟩ | h1
      · obtain ⟨a, b, c, d, e, f, rfl⟩ := NO (l := ns) (by omega)
        left
        refine ⟨(a, b, c, d, e, f), rest, h1, h2, ?_⟩
        rw [h5, Option.bind_some]
        show (DB xs [(a, b, c, d, e, f)]).bind _ = _
        rw [Cz (by simp; omega), Option.bind_some, h6]
      · rw [h1]; exact .inr (.inr rfl)
  · rw [h]; exact .inr (.inr rfl)
theorem NM (x2 : Int × (List UInt8 × Int)) (x6 : List Lk) (s : List UInt8) (n : Int) (xs : List (Int × Int)) (hI : Iv n s) (hx : xs.length ≤ 100000) :
    (∃ a rest, s = B6 FR (GW a) ++ rest ∧ (∀ v ∈ GW a, Bd v) ∧ Cq x2 x6 (s, n, xs) = some (.inl (rest, CL (n + 1), xs ++ [a]))) ∨ Cq x2 x6 (s, n, xs) = some (.inr (.inl (s, n, xs))) ∨ Cq x2 x6 (s, n, xs) = some (.inr (.inr (GL, n, 10))) := by
  unfold Cq
  simp only [Ab, B0]
  rcases Hb (s := s) (by unfold Iv at hI; omega) n FR with ⟨b, h⟩ | h
  · rw [h]
    cases b with
    | false => exact .inr (.inl rfl)
    | true =>
      simp only [Option.bind_some, B3, if_true]
      rcases Ju hI FR 2 with ⟨ns, rest, m, h1, h2, h3, h4, h5, h6⟩ | h1
      · obtain ⟨a, b, rfl⟩ := NH (l := ns) (by omega)
        left
        refine ⟨(a, b), rest, h1, h2, ?_⟩
        rw [h5, Option.bind_some]
        show (DB xs [(a, b)]).bind _ = _
        rw [Cz (by simp; omega), Option.bind_some, h6]
      · rw [h1]; exact .inr (.inr rfl)
  · rw [h]; exact .inr (.inr rfl)
theorem NI (x2 : Int × (List UInt8 × Int)) (x6 : List Lk) (x25 : List (Int × Int)) (s : List UInt8) (n : Int) (xs : List (List Int)) (hI : Iv n s) (hx : xs.length ≤ 100000) :
    (∃ a rest, s = Fh Fq a ++ rest ∧ (∀ v ∈ a, Bh v) ∧ Cr x2 x6 x25 (s, n, xs) = some (.inl (rest, CL (n + 1), xs ++ [a]))) ∨ Cr x2 x6 x25 (s, n, xs) = some (.inr (.inl (s, n, xs))) ∨ Cr x2 x6 x25 (s, n, xs) = some (.inr (.inr (GL, n, 10))) := by
  unfold Cr
  simp only [Ab, B0]
  rcases Hb (s := s) (by unfold Iv at hI; omega) n Fq with ⟨b, h⟩ | h
  · rw [h]
    cases b with
    | false => exact .inr (.inl rfl)
    | true =>
      simp only [Option.bind_some, B3, if_true]
      rcases MH (s := s) (by unfold Iv at hI; omega) n Fq with ⟨ns, rest, h1, h2, h3⟩ | h1
      · left
        refine ⟨ns, rest, h1, h2, ?_⟩
        rw [h3, Option.bind_some]
        show (DB xs [ns]).bind _ = _
        rw [Cz (by simp; omega), Option.bind_some]
      · rw [h1]; exact .inr (.inr rfl)
  · rw [h]; exact .inr (.inr rfl)
def TT (c : Na) : List UInt8 :=
  B6 [115, 119, 105, 116, 99, 104, 101, 115] [c.1.1] ++ ((c.1.2.1.map fun x => B6 FW (GR x)).flatten ++ ((c.1.2.2.map fun x => B6 FR (GW x)).flatten ++ ((c.2.1.map (Fh Fq)).flatten ++ (B6 [115, 116, 97, 114, 116, 115] c.2.2.1 ++ (B6 [114, 97, 116, 101] [c.2.2.2.1] ++ (B6 [114, 111, 111, 109] [c.2.2.2.2.1] ++ (B6 [119, 105, 100, 101] [c.2.2.2.2.2.1] ++ (B6 [108, 101, 97, 100] [c.2.2.2.2.2.2.1] ++ (B6 [109, 97, 114, 103, 105, 110] [c.2.2.2.2.2.2.2.1] ++ B6 [114, 101, 116, 114, 121] [c.2.2.2.2.2.2.2.2])))))))))
structure OkC (c : Na) : Prop where
  sw : Bd c.1.1
  li : ∀ x ∈ c.1.2.1, ∀ v ∈ GR x, Bd v
  ho : ∀ x ∈ c.1.2.2, ∀ v ∈ GW x, Bd v
  we : ∀ x ∈ c.2.1, ∀ v ∈ x, Bh v
  st : ∀ v ∈ c.2.2.1, Bd v
  ra : Bd c.2.2.2.1
  ro : Bd c.2.2.2.2.1
  wi : Bd c.2.2.2.2.2.1
  le : Bd c.2.2.2.2.2.2.1
  ma : Bd c.2.2.2.2.2.2.2.1
  re : Bd c.2.2.2.2.2.2.2.2
theorem LL {s : List UInt8} (hs : s.length ≤ 90000) : (∃ c, CS s = some (c, 0, 0) ∧ s = TT c ∧ OkC c) ∨ ∃ n, 0 < n ∧ CS s = some (GL, n, 10) := by
  have I0 : Iv 1 s := ⟨by decide, by omega⟩
  unfold CS
  simp only [Ab, B0]
  rcases EE I0 [115, 119, 105, 116, 99, 104, 101, 115] with ⟨v0, s1, n1, e0, b0, I1, h0⟩ | h0
  case inr => right; exact ⟨1, I0.1, by rw [h0]; rfl⟩
  rw [h0, Option.bind_some]
  simp only [B3]
  rcases Ir (line := fun x => B6 FW (GR x)) (ok := fun x => ∀ v ∈ GR x, Bd v) (fun a => Ev _ _) (NB (v0, s1, n1)) (s1.length + 1) s1 n1 [] (Nat.lt_succ_self _) (by unfold Iv at I1; simp; omega) I1 with ⟨li, s2, n2, e1, b1, I2, h1⟩ | ⟨m, p, h1⟩
  case inr => right; exact ⟨m, p, by rw [h1]; rfl⟩
  rw [h1]
  simp only [Es, List.nil_append, Option.bind_some]
  rcases Ir (line := fun x => B6 FR (GW x)) (ok := fun x => ∀ v ∈ GW x, Bd v) (fun a => Ev _ _) (NM (v0, s1, n1) li) (s2.length + 1) s2 n2 [] (Nat.lt_succ_self _) (by unfold Iv at I2; simp; omega) I2 with ⟨ho, s3, n3, e2, b2, I3, h2⟩ | ⟨m, p, h2⟩
  case inr => right; exact ⟨m, p, by rw [h2]; rfl⟩
  rw [h2]
  simp only [Es, List.nil_append, Option.bind_some]
  rcases Ir (line := Fh Fq) (ok := fun x => ∀ v ∈ x, Bh v) (fun a => H5 _ _) (NI (v0, s1, n1) li ho) (s3.length + 1) s3 n3 [] (Nat.lt_succ_self _) (by unfold Iv at I3; simp; omega) I3 with ⟨we, s4, n4, e3, b3, I4, h3⟩ | ⟨m, p, h3⟩
  case inr => right; exact ⟨m, p, by rw [h3]; rfl⟩
  rw [h3]
  simp only [Es, List.nil_append, Option.bind_some]
  rcases Ju I4 [115, 116, 97, 114, 116, 115] (-1) with ⟨st, s5, n5, e4, b4, _, I5, h4, _⟩ | h4
  case inr => right; exact ⟨n4, I4.1, by rw [h4]; rfl⟩
  rw [h4, Option.bind_some]
  simp only [B3]
  rcases EE I5 [114, 97, 116, 101] with ⟨v5, s6, n6, e5, b5, I6, h5⟩ | h5
  case inr => right; exact ⟨n5, I5.1, by rw [h5]; rfl⟩
  rw [h5, Option.bind_some]
  simp only [B3]
  rcases EE I6 [114, 111, 111, 109] with ⟨v6, s7, n7, e6, b6, I7, h6⟩ | h6
  case inr => right; exact ⟨n6, I6.1, by rw [h6]; rfl⟩
  rw [h6, Option.bind_some]
  simp only [B3]
  rcases EE I7 [119, 105, 100, 101] with ⟨v7, s8, n8, e7, b7, I8, h7⟩ | h7
  case inr => right; exact ⟨n7, I7.1, by rw [h7]; rfl⟩
  rw [h7, Option.bind_some]
  simp only [B3]
  rcases EE I8 [108, 101, 97, 100] with ⟨v8, s9, n9, e8, b8, I9, h8⟩ | h8
  case inr => right; exact ⟨n8, I8.1, by rw [h8]; rfl⟩
  rw [h8, Option.bind_some]
  simp only [B3]
  rcases EE I9 [109, 97, 114, 103, 105, 110] with ⟨v9, s10, n10, e9, b9, I10, h9⟩ | h9
  case inr => right; exact ⟨n9, I9.1, by rw [h9]; rfl⟩
  rw [h9, Option.bind_some]
  simp only [B3]
  rcases EE I10 [114, 101, 116, 114, 121] with ⟨v10, s11, n11, e10, b10, I11, h10⟩ | h10
  case inr => right; exact ⟨n10, I10.1, by rw [h10]; rfl⟩
  rw [h10, Option.bind_some]
  simp only [B3]
  by_cases c : s11 = []
  · left
    refine ⟨((v0, li, ho), we, st, v5, v6, v7, v8, v9, v10), ?_, ?_, ⟨b0, b1, b2, b3, b4, b5, b6, b7, b8, b9, b10⟩⟩
    · unfold CG
      rw [if_neg (fun h => h c)]
    · rw [e0, e1, e2, e3, e4, e5, e6, e7, e8, e9, e10, c, List.append_nil]; rfl
  · right
    refine ⟨n11, I11.1, ?_⟩
    unfold CG
    rw [if_pos c]; rfl
end Go.Proofs.YthmkgdnnocemmaaDoor
