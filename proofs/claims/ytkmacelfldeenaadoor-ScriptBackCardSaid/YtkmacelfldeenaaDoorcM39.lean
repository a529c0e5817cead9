/- Layer 39: scripts. Conditions: none. -/
import Derived.Test.YtkmacelfldeenaaDoorcLD
import Derived.Test.YtkmacelfldeenaaDoorcOB
import Derived.Test.YtkmacelfldeenaaDoorcEV
import Derived.Test.YtkmacelfldeenaaDoorcA2
namespace Go.Proofs.YtkmacelfldeenaaDoor
set_option linter.unusedVariables false
set_option linter.unusedSimpArgs false
open Go Go.RowKit
theorem DH {n : Int} (h : i64 n) : Do n = some (Lib.itoa n) :=
  GD (st := Dd) (run := CH) (fun _ => rfl) (fun _ _ => rfl) (fun _ _ => rfl) n h
def HI (b : UInt8) : Prop := 48 ≤ b.toNat ∧ b.toNat ≤ 57
instance (b : UInt8) : Decidable (HI b) := by unfold HI; infer_instance
def El (a : Nat) (l : List UInt8) : Nat := l.foldl (fun a b => a * 10 + (b.toNat - 48)) a
theorem Hh (a : Nat) (l m : List UInt8) : El a (l ++ m) = El (El a l) m := by unfold El; rw [List.foldl_append]
theorem C7 (a : Nat) (b : UInt8) (l : List UInt8) : El a (b :: l) = El (a * 10 + (b.toNat - 48)) l := by unfold El; rw [List.foldl_cons]
theorem FY : ∀ (l : List UInt8) (a : Nat), a ≤ El a l
  | [], a => Nat.le_refl _
  | b :: l, a => by rw [C7]; exact Nat.le_trans (by omega) (FY l _)
theorem DZ {d : Nat} (h : d < 10) : (UInt8.ofNat (48 + d)).toNat = 48 + d := by
  have : d = 0 ∨ d = 1 ∨ d = 2 ∨ d = 3 ∨ d = 4 ∨ d = 5 ∨ d = 6 ∨ d = 7 ∨ d = 8 ∨ d = 9 := by omega
  rcases this with rfl | rfl | rfl | rfl | rfl | rfl | rfl | rfl | rfl | rfl <;> rfl
theorem CA : ∀ (k u : Nat), u < 10 ^ (k + 1) → (∀ b ∈ Lib.decDigits u, HI b) ∧ El 0 (Lib.decDigits u) = u ∧ Lib.decDigits u ≠ [] ∧ (Lib.decDigits u).length ≤ k + 1
  | 0, u, h => by
    have hu : u < 10 := by omega
    rw [Lib.decDigits_one hu]
    refine ⟨fun b hb => ?_, ?_, by simp, by simp⟩
    · rw [List.mem_singleton.1 hb]; unfold HI; rw [DZ hu]; omega
    · rw [C7, DZ hu]; show 0 * 10 + (48 + u - 48) = u; omega
  | k + 1, u, h => by
    by_cases hu : u < 10
    · obtain ⟨h1, h2, h3, h4⟩ := CA 0 u (by omega)
      exact ⟨h1, h2, h3, by omega⟩
    · have hq : u / 10 < 10 ^ (k + 1) := by rw [Nat.pow_succ] at h; omega
      obtain ⟨h1, h2, h3, h4⟩ := CA k (u / 10) hq
      have hm : u % 10 < 10 := by omega
      rw [D2 (by omega)]
      refine ⟨fun b hb => ?_, ?_, by simp, by rw [List.length_append, List.length_singleton]; omega⟩
      · rcases List.mem_append.1 hb with hb | hb
        · exact h1 b hb
        · rw [List.mem_singleton.1 hb]; unfold HI; rw [DZ hm]; omega
      · rw [Hh, h2, C7, DZ hm]; show u / 10 * 10 + (48 + u % 10 - 48) = u; omega
theorem Eo : ∀ (l : List UInt8) (a : Nat), (∀ b ∈ l, HI b) → El a l < 9223372036854775808 → Lib.parseUint10 a l = .ok (El a l)
  | [], a, _, _ => rfl
  | c :: r, a, h, hv => by
    have hc := h c (List.mem_cons_self ..)
    have hg := FY r (a * 10 + (c.toNat - 48))
    rw [C7] at hv ⊢
    rw [Lib.parseUint10, if_pos (show 48 ≤ c.toNat ∧ c.toNat ≤ 57 from hc), if_neg (by omega), if_neg (by omega)]
    exact Eo r _ (fun b hb => h b (List.mem_cons_of_mem _ hb)) hv
theorem G0 {u : Nat} (h : u ≤ 1125899906842624) : Lib.atoiAll (Lib.decDigits u) = .ok (u : Int) := by
  obtain ⟨h1, h2, h3, h4⟩ := CA 15 u (by omega)
  cases hl : Lib.decDigits u with
  | nil => exact absurd hl h3
  | cons c r =>
    rw [hl] at h1 h2
    have hc : HI c := h1 c (List.mem_cons_self ..)
    unfold HI at hc
    have hp : Lib.parseMag (c :: r) = .ok u := by unfold Lib.parseMag; rw [if_neg (by simp), Eo _ 0 h1 (by rw [h2]; omega), h2]
    unfold Lib.atoiAll
    simp only
    rw [if_neg (by omega), hp]
    simp only
    rw [if_neg (by omega), if_neg (by omega), if_neg (by omega)]
theorem EL (sep : List UInt8) : ∀ (k : Nat) (s : List UInt8), ∀ x ∈ Lib.splitK sep 0 k s, x.length ≤ s.length
  | 0, s, x, hx => by rw [List.mem_singleton.1 (show x ∈ [s] from hx)]; exact Nat.le_refl _
  | k + 1, s, x, hx => by
    unfold Lib.splitK at hx
    split at hx
    · rw [List.mem_singleton.1 hx]; exact Nat.le_refl _
    · rcases List.mem_cons.1 hx with rfl | hx
      · rw [List.length_take]; omega
      · have := EL sep k _ x hx
        rw [List.length_drop] at this; omega
theorem Cm {w : List UInt8} {c : UInt8} (h : c ∉ w) : Lib.split w [c] = [w] := by
  unfold Lib.split
  rw [Lib.count_miss (GE h)]; rfl
theorem BO {w r : List UInt8} {c : UInt8} (h : c ∉ w) : Lib.split (w ++ c :: r) [c] = w :: Lib.split r [c] := by
  have hi : Lib.index (w ++ c :: r) [c] = (w.length : Int) := Ha h
  have hd : (w ++ c :: r).drop (w.length + 1) = r := by
    rw [show w ++ c :: r = (w ++ [c]) ++ r by simp, List.drop_left' (by simp)]
  have hne : ¬ (Lib.index (w ++ c :: r) [c] == -1) = true := by rw [hi]; intro e; have := beq_iff_eq.1 e; omega
  have key : ∀ k, Lib.splitK [c] 0 (k + 1) (w ++ c :: r) = w :: Lib.splitK [c] 0 k r := fun k => by
    rw [Lib.splitK, if_neg hne, hi]
    simp only [Int.toNat_natCast, Nat.add_zero, List.length_singleton]
    rw [hd, List.take_left' rfl]
  unfold Lib.split
  rw [Lib.count_hit (by simp) hi, Nat.add_comm 1]
  have e2 : (w ++ c :: r).drop (w.length + ([c] : List UInt8).length) = r := hd
  rw [e2]
  exact key _
theorem E8 {n : Int} (h : 0 ≤ n) : Lib.itoa n = Lib.decDigits n.toNat := by
  have := Lib.itoa_nonneg n.toNat
  rw [show ((n.toNat : Nat) : Int) = n by omega] at this; exact this
theorem Ef {c : UInt8} : ∀ {l : List UInt8}, c ∈ l → ∃ w r, l = w ++ c :: r ∧ c ∉ w
  | x :: l, h => by
    by_cases e : x = c
    · exact ⟨[], l, by rw [e]; rfl, by simp⟩
    · rcases List.mem_cons.1 h with h | h
      · exact absurd h.symm e
      · obtain ⟨w, r, e1, e2⟩ := Ef h
        refine ⟨x :: w, r, by rw [e1]; rfl, fun hm => ?_⟩
        rcases List.mem_cons.1 hm with h | h
        · exact e h.symm
        · exact e2 h
abbrev Cs := Int × Int × Int
def hI (k : Int) : Prop := k = 2 ∨ k = 8 ∨ k = 10 ∨ k = 11
def hN (k : Int) : Prop := k ≠ 3 ∧ k ≠ 10 ∧ k ≠ 11
instance (k : Int) : Decidable (hI k) := by unfold hI; infer_instance
instance (k : Int) : Decidable (hN k) := by unfold hN; infer_instance
def Vs (s : Cs) : Prop := (1 ≤ s.1 ∧ s.1 ≤ 11) ∧ (-1 ≤ s.2.1 ∧ s.2.1 ≤ 15) ∧ (-1000 ≤ s.2.2 ∧ s.2.2 ≤ 1048576) ∧ (hI s.1 ∨ s.2.1 = 0) ∧ (hN s.1 ∨ s.2.2 = 0)
instance (s : Cs) : Decidable (Vs s) := by unfold Vs; infer_instance
theorem itoa_neg' {n : Int} (h : n < 0) : Lib.itoa n = 45 :: Lib.decDigits (-n).toNat := by
  have := Lib.itoa_neg (-n).toNat (by omega)
  rw [show -(((-n).toNat : Nat) : Int) = n by omega] at this; exact this
def Nb (n : Int) : Prop := -1000 ≤ n ∧ n ≤ 1048576
theorem A7 {n : Int} (h : Nb n) : Lib.atoiAll (Lib.itoa n) = .ok n := by
  unfold Nb at h
  by_cases c : 0 ≤ n
  · rw [E8 c, G0 (by omega)]; congr 1; omega
  · rw [itoa_neg' (by omega)]
    obtain ⟨h1, h2, h3, h4⟩ := CA 3 (-n).toNat (by omega)
    have hp : Lib.parseMag (Lib.decDigits (-n).toNat) = .ok (-n).toNat := by unfold Lib.parseMag; rw [if_neg h3, Eo _ 0 h1 (by rw [h2]; omega), h2]
    unfold Lib.atoiAll
    simp only
    rw [if_pos (by decide), hp]
    simp only
    rw [if_neg (by simp), if_neg (by omega), if_pos (by decide)]; congr 1; omega
theorem E7 {n : Int} (h : Nb n) : ∀ b ∈ Lib.itoa n, HI b ∨ b = 45 := fun b hb => by
  unfold Nb at h
  by_cases c : 0 ≤ n
  · rw [E8 c] at hb
    exact .inl ((CA 6 n.toNat (by omega)).1 b hb)
  · rw [itoa_neg' (by omega)] at hb
    rcases List.mem_cons.1 hb with rfl | hb
    · exact .inr rfl
    · exact .inl ((CA 6 (-n).toNat (by omega)).1 b hb)
theorem EQ {n : Int} (h : Nb n) : (32 : UInt8) ∉ Lib.itoa n := fun hm => by
  rcases E7 h _ hm with hd | hd
  · revert hd; decide
  · revert hd; decide
theorem GH {n : Int} (h : Nb n) : (10 : UInt8) ∉ Lib.itoa n := fun hm => by
  rcases E7 h _ hm with hd | hd
  · revert hd; decide
  · revert hd; decide
theorem Dj {k : Int} (h : 1 ≤ k ∧ k ≤ 11) : k = 1 ∨ k = 2 ∨ k = 3 ∨ k = 4 ∨ k = 5 ∨ k = 6 ∨ k = 7 ∨ k = 8 ∨ k = 9 ∨ k = 10 ∨ k = 11 := by omega
theorem EO {k : Int} (h : ¬ (1 ≤ k ∧ k ≤ 11)) : Ai k = [63] := by
  unfold Ai
  rw [if_neg (by omega), if_neg (by omega), if_neg (by omega), if_neg (by omega), if_neg (by omega), if_neg (by omega), if_neg (by omega), if_neg (by omega), if_neg (by omega), if_neg (by omega), if_neg (by omega)]
theorem HG {k : Int} (h : 1 ≤ k ∧ k ≤ 11) : Ai k ≠ [63] := by
  rcases Dj h with rfl | rfl | rfl | rfl | rfl | rfl | rfl | rfl | rfl | rfl | rfl <;> decide
theorem Cd (k : Int) : (Ai k).length ≤ 7 ∧ (∀ b ∈ Ai k, 36 ≤ b.toNat) ∧ Ai k ≠ [] := by
  by_cases h : 1 ≤ k ∧ k ≤ 11
  · rcases Dj h with rfl | rfl | rfl | rfl | rfl | rfl | rfl | rfl | rfl | rfl | rfl <;> decide
  · rw [EO h]; decide
theorem EY (k : Int) : (32 : UInt8) ∉ Ai k := fun hm => by have := (Cd k).2.1 _ hm; revert this; decide
theorem HR (k : Int) : (10 : UInt8) ∉ Ai k := fun hm => by have := (Cd k).2.1 _ hm; revert this; decide
theorem G7 {k : Int} (h : i64 k) : D1 k = some (Ai k) := by
  unfold D1
  by_cases c : 1 ≤ k ∧ k ≤ 11
  · rw [if_neg (by rw [Bool.or_eq_true, decide_eq_true_eq, decide_eq_true_eq]; omega)]
    rcases Dj c with rfl | rfl | rfl | rfl | rfl | rfl | rfl | rfl | rfl | rfl | rfl <;> rfl
  · rw [if_pos (by rw [Bool.or_eq_true, decide_eq_true_eq, decide_eq_true_eq]; omega), EO c]
def GC (k : Int) : List UInt8 := if k = 1 ∨ k = 4 ∨ k = 5 ∨ k = 6 ∨ k = 7 ∨ k = 9 then [78] else if k = 2 ∨ k = 8 then [73, 78] else if k = 10 ∨ k = 11 then [73] else []
theorem Dh (k : Int) : AL k = some (GC k) := by
  by_cases c : 1 ≤ k ∧ k ≤ 11
  · rcases Dj c with rfl | rfl | rfl | rfl | rfl | rfl | rfl | rfl | rfl | rfl | rfl <;> rfl
  · unfold AL GC
    rw [if_neg (by omega), if_neg (by omega), if_neg (by omega), if_neg (by omega), if_neg (by omega), Option.bind_some, if_neg (by rw [decide_eq_true_eq]; omega), if_neg (by omega), Option.bind_some, if_neg (by rw [decide_eq_true_eq]; omega), if_neg (by omega), Option.bind_some, if_neg (by rw [decide_eq_true_eq]; omega), if_neg (by omega), if_neg (by omega), if_neg (by omega)]
theorem DB {k : Int} (h : 1 ≤ k ∧ k ≤ 11) : (GC k = [78] ∧ ¬ hI k ∧ hN k) ∨ (GC k = [73, 78] ∧ hI k ∧ hN k) ∨ (GC k = [73] ∧ hI k ∧ ¬ hN k) ∨ (GC k = [] ∧ ¬ hI k ∧ ¬ hN k) := by
  rcases Dj h with rfl | rfl | rfl | rfl | rfl | rfl | rfl | rfl | rfl | rfl | rfl <;> decide
theorem Gx {k : Int} (h : 1 ≤ k ∧ k ≤ 11) : BA (GC k) [73] = some (decide (hI k)) ∧ BA (GC k) [78] = some (decide (hN k)) := by
  rcases Dj h with rfl | rfl | rfl | rfl | rfl | rfl | rfl | rfl | rfl | rfl | rfl <;> exact ⟨rfl, rfl⟩
theorem FD (s : Cs) : Bu s = some (decide (Vs s)) := by
  unfold Bu
  rw [Dh, Option.bind_some]
  by_cases c : 1 ≤ s.1 ∧ s.1 ≤ 11
  · obtain ⟨e1, e2⟩ := Gx c
    rw [if_pos (HG c), e1, e2]
    simp only [Option.bind_some]
    by_cases a1 : -1 ≤ s.2.1
    · rw [if_pos a1]
      by_cases a2 : s.2.1 ≤ 15
      · rw [if_pos a2]
        by_cases a3 : -1000 ≤ s.2.2
        · rw [if_pos a3]
          by_cases a4 : s.2.2 ≤ 1048576
          · rw [if_pos a4]
            by_cases a5 : s.2.1 = 0
            · rw [if_pos a5]
              by_cases a6 : s.2.2 = 0
              · rw [if_pos a6, decide_eq_true (show Vs s from ⟨c, ⟨a1, a2⟩, ⟨a3, a4⟩, .inr a5, .inr a6⟩)]; rfl
              · rw [if_neg a6]
                by_cases b : hN s.1
                · rw [decide_eq_true b, decide_eq_true (show Vs s from ⟨c, ⟨a1, a2⟩, ⟨a3, a4⟩, .inr a5, .inl b⟩)]; rfl
                · rw [decide_eq_false b, decide_eq_false (fun h : Vs s => h.2.2.2.2.elim b a6)]; rfl
            · rw [if_neg a5]
              by_cases b0 : hI s.1
              · rw [if_pos (decide_eq_true b0)]
                by_cases a6 : s.2.2 = 0
                · rw [if_pos a6, decide_eq_true (show Vs s from ⟨c, ⟨a1, a2⟩, ⟨a3, a4⟩, .inl b0, .inr a6⟩)]; rfl
                · rw [if_neg a6]
                  by_cases b : hN s.1
                  · rw [decide_eq_true b, decide_eq_true (show Vs s from ⟨c, ⟨a1, a2⟩, ⟨a3, a4⟩, .inl b0, .inl b⟩)]; rfl
                  · rw [decide_eq_false b, decide_eq_false (fun h : Vs s => h.2.2.2.2.elim b a6)]; rfl
              · rw [if_neg (by rw [decide_eq_true_eq]; exact b0), decide_eq_false (fun h : Vs s => h.2.2.2.1.elim b0 a5)]; rfl
          · rw [if_neg a4, decide_eq_false (fun h : Vs s => a4 h.2.2.1.2)]; rfl
        · rw [if_neg a3, decide_eq_false (fun h : Vs s => a3 h.2.2.1.1)]; rfl
      · rw [if_neg a2, decide_eq_false (fun h : Vs s => a2 h.2.1.2)]; rfl
    · rw [if_neg a1, decide_eq_false (fun h : Vs s => a1 h.2.1.1)]; rfl
  · rw [if_neg (by rw [EO c]; exact fun h => h rfl), decide_eq_false (fun h : Vs s => c h.1)]; rfl
theorem FZ (k : Int) : Bq k = decide (hI k) := by
  unfold Bq hI
  rw [Bool.eq_iff_iff]; simp; exact decide_eq_true_iff.symm
theorem FR (k : Int) : Bw k = decide (hN k) := by
  unfold Bw hN
  rw [Bool.eq_iff_iff]; simp; exact decide_eq_true_iff.symm
theorem DY (s : Cs) : Co s = decide (Vs s) := by
  unfold Co
  rw [FZ, FR]
  by_cases c : s.1 < 1 ∨ 11 < s.1 ∨ s.2.1 < -1 ∨ 15 < s.2.1 ∨ s.2.2 < -1000 ∨ 1048576 < s.2.2
  · rw [if_pos (by simpa using c), decide_eq_false (fun h : Vs s => by obtain ⟨h1, h2, h3, _⟩ := h; omega)]
  · rw [if_neg (by simpa using c)]
    by_cases b0 : hI s.1 ∨ s.2.1 = 0
    · rw [if_neg (by simp; intro h; exact b0.elim (fun q => absurd q h) id)]
      by_cases b1 : hN s.1 ∨ s.2.2 = 0
      · rw [decide_eq_true (show Vs s from ⟨by omega, by omega, by omega, b0, b1⟩)]; simpa using b1
      · rw [decide_eq_false (fun h : Vs s => b1 h.2.2.2.2)]; simpa using b1
    · rw [if_pos (by simpa using b0), decide_eq_false (fun h : Vs s => b0 h.2.2.2.1)]
def FC (p : Prop) [Decidable p] (n : Int) : List UInt8 := if p then 32 :: Lib.itoa n else []
def AZ (s : Cs) : List UInt8 := Ai s.1 ++ (FC (hI s.1) s.2.1 ++ FC (hN s.1) s.2.2)
def Ea (s : Cs) : List UInt8 := if Vs s then AZ s else []
theorem Vs.nb {s : Cs} (h : Vs s) : Nb s.2.1 ∧ Nb s.2.2 := by obtain ⟨_, h2, h3, _⟩ := h; unfold Nb; omega
theorem Nb.i {n : Int} (h : Nb n) : i64 n := by unfold Nb at h; constructor <;> omega
theorem C6 {s : Cs} {L : List UInt8} {i : Nat} {c : UInt8} (hi5 : i ≤ 5) (hc : L[i]? = some c) {x : List UInt8} (hx : x.length ≤ 1000) {n : Int} (hn : Nb n) (e : (if (c.toNat : Int) = 73 then s.2.1 else s.2.2) = n) : AU s L (x, (i : Int)) = some (.inl (x ++ 32 :: Lib.itoa n, ((i + 1 : Nat) : Int))) := by
  have hi := (List.getElem?_eq_some_iff.1 hc).1
  have hl := CE hn.i
  have e2 : ((if (c.toNat : Int) = 73 then some s.2.1 else some s.2.2) : Option Int) = some n := by
    by_cases q : (c.toNat : Int) = 73
    · rw [if_pos q] at e ⊢; rw [e]
    · rw [if_neg q] at e ⊢; rw [e]
  rw [AU, if_pos (by omega), BS hc, Option.bind_some, e2, Option.bind_some, GK hn.i, Option.bind_some, A4 (by simp; omega), Option.bind_some, A4 (by simp; omega), Option.bind_some, Bk (by omega)]
  rfl
theorem Dw {s : Cs} {L x : List UInt8} {j : Nat} (h : j = L.length) : AU s L (x, (j : Int)) = some (.inr x) := by rw [AU, if_neg (by omega)]
theorem FU (s : Cs) : AY s = some (Ea s) := by
  unfold AY Ea
  rw [FD, Option.bind_some]
  by_cases c : Vs s
  · rw [if_neg (by simp [c]), if_pos c, Dh, Option.bind_some]
    obtain ⟨n1, n2⟩ := c.nb
    have hw := (Cd s.1).1
    have l1 := CE n1.i
    unfold AZ FC
    rcases DB c.1 with ⟨e, a, b⟩ | ⟨e, a, b⟩ | ⟨e, a, b⟩ | ⟨e, a, b⟩
    · rw [e, if_neg a, if_pos b, show ((Ai s.1, (0 : Int))) = (Ai s.1, ((0 : Nat) : Int)) from rfl, Bf (C6 (by omega) (c := 78) rfl (by omega) n2 rfl), Ax (Dw (L := [78]) (j := 0 + 1) rfl)]; simp
    · rw [e, if_pos a, if_pos b, show ((Ai s.1, (0 : Int))) = (Ai s.1, ((0 : Nat) : Int)) from rfl, Bf (C6 (by omega) (c := 73) rfl (by omega) n1 rfl), Bf (C6 (by omega) (c := 78) rfl (by simp; omega) n2 rfl), Ax (Dw (L := [73, 78]) (j := 0 + 1 + 1) rfl)]; simp
    · rw [e, if_pos a, if_neg b, show ((Ai s.1, (0 : Int))) = (Ai s.1, ((0 : Nat) : Int)) from rfl, Bf (C6 (by omega) (c := 73) rfl (by omega) n1 rfl), Ax (Dw (L := [73]) (j := 0 + 1) rfl)]; simp
    · rw [e, if_neg a, if_neg b, show ((Ai s.1, (0 : Int))) = (Ai s.1, ((0 : Nat) : Int)) from rfl, Ax (Dw (L := []) (j := 0) rfl)]; simp
  · rw [if_pos (by simp [c]), if_neg c]
theorem GU (s : Cs) : D6 s = some (Ea s) := by
  unfold D6 Ea
  rw [DY]
  by_cases c : Vs s
  · obtain ⟨n1, n2⟩ := c.nb
    have hw := (Cd s.1).1
    have l1 := CE n1.i
    have l2 := CE n2.i
    rw [if_neg (by simp [c]), if_pos c, G7 ⟨by have := c.1; omega, by have := c.1; omega⟩, Option.bind_some, FZ, FR]
    unfold AZ FC
    by_cases a : hI s.1
    · rw [if_pos (decide_eq_true a), if_pos a, A4 (by simp; omega), Option.bind_some, DH n1.i, Option.bind_some, A4 (by simp; omega), Option.bind_some, Option.bind_some]
      by_cases b : hN s.1
      · rw [if_pos (decide_eq_true b), if_pos b, A4 (by simp; omega), Option.bind_some, DH n2.i, Option.bind_some, A4 (by simp; omega), Option.bind_some, Option.bind_some]; simp
      · rw [if_neg (by simpa using b), if_neg b, Option.bind_some]; simp
    · rw [if_neg (by simpa using a), if_neg a, Option.bind_some]
      by_cases b : hN s.1
      · rw [if_pos (decide_eq_true b), if_pos b, A4 (by simp; omega), Option.bind_some, DH n2.i, Option.bind_some, A4 (by simp; omega), Option.bind_some, Option.bind_some]; simp
      · rw [if_neg (by simpa using b), if_neg b, Option.bind_some]; simp
  · rw [if_pos (by simp [c]), if_neg c]
theorem Eg {s : Cs} (h : Vs s) : (AZ s).length ≤ 51 := by
  obtain ⟨n1, n2⟩ := h.nb
  have hw := (Cd s.1).1
  have l1 := CE n1.i
  have l2 := CE n2.i
  unfold AZ FC
  by_cases a : hI s.1 <;> by_cases b : hN s.1 <;> simp [a, b] <;> omega
theorem Gi (s : Cs) : ∃ c r, AZ s = c :: r ∧ c ≠ 35 := by
  obtain ⟨_, h2, h3⟩ := Cd s.1
  unfold AZ
  cases hw : Ai s.1 with
  | nil => exact absurd hw h3
  | cons c r =>
    refine ⟨c, _, rfl, fun e => ?_⟩
    have := h2 c (by rw [hw]; exact List.mem_cons_self ..)
    rw [e] at this; revert this; decide
theorem HX {s : Cs} (h : Vs s) : (10 : UInt8) ∉ AZ s := by
  obtain ⟨n1, n2⟩ := h.nb
  have a := GH n1
  have b := GH n2
  have d := HR s.1
  unfold AZ FC
  by_cases p : hI s.1 <;> by_cases q : hN s.1 <;> simp [p, q, a, b, d]
def Hz (t : List UInt8) (x : Cs) (b : Bool) : Prop := (b = true → Vs x ∧ AZ x = t) ∧ ∀ r, Vs r → AZ r = t → b = true ∧ x = r
theorem Hj {t : List UInt8} (ht : t ≠ []) {x : Cs} (h : ∀ r, Vs r → AZ r = t → x = r) : Hz t x (decide (Ea x = t)) := by
  unfold Ea
  refine ⟨fun hb => ?_, fun r hr e => ?_⟩
  · have hb := of_decide_eq_true hb
    by_cases c : Vs x
    · rw [if_pos c] at hb; exact ⟨c, hb⟩
    · rw [if_neg c] at hb; exact absurd hb.symm ht
  · obtain rfl := h r hr e
    exact ⟨decide_eq_true (by rw [if_pos hr]; exact e), rfl⟩
theorem B9 {t : List UInt8} {x : Cs} (h : ∀ r, Vs r → AZ r = t → False) : Hz t x false := ⟨fun h => (by cases h), fun r hr e => (h r hr e).elim⟩
def IY (w : List UInt8) : Int := if Ai 1 = w then 1 else if Ai 2 = w then 2 else if Ai 3 = w then 3 else if Ai 4 = w then 4 else if Ai 5 = w then 5 else if Ai 6 = w then 6 else if Ai 7 = w then 7 else if Ai 8 = w then 8 else if Ai 9 = w then 9 else if Ai 10 = w then 10 else if Ai 11 = w then 11 else 0
theorem E5 {k : Int} (h : 1 ≤ k ∧ k ≤ 11) : IY (Ai k) = k := by
  rcases Dj h with rfl | rfl | rfl | rfl | rfl | rfl | rfl | rfl | rfl | rfl | rfl <;> decide
theorem EK (w : List UInt8) : ∀ (d k : Nat), 1 ≤ k → k + d = 12 → (∃ z : Int, Ez (AD (AJ w) (k : Int)) (fun _ => some 0) = some z ∧ (0 ≤ z ∧ z ≤ 11) ∧ ∀ j : Nat, k ≤ j → j ≤ 11 → Ai (j : Int) = w → z = j)
  | 0, k, h1, h2 => ⟨0, by rw [Ax (by rw [AJ, if_neg (by omega)])]; rfl, by omega, fun j a b => by omega⟩
  | d + 1, k, h1, h2 => by
    by_cases c : Ai (k : Int) = w
    · refine ⟨(k : Int), by rw [Ax (e := .inr (k : Int)) (by rw [AJ, if_pos (by omega), if_pos c])]; rfl, by omega, fun j a b e => ?_⟩
      have h3 := E5 (k := (k : Int)) (by omega)
      have h4 := E5 (k := (j : Int)) (by omega)
      rw [e, ← c] at h4
      omega
    · obtain ⟨z, e1, e2, e3⟩ := EK w d (k + 1) (by omega) (by omega)
      refine ⟨z, by rw [Bf (s' := ((k + 1 : Nat) : Int)) (by rw [AJ, if_pos (by omega), if_neg c, Bk (by omega)]; rfl)]; exact e1, e2, fun j a b e => ?_⟩
      by_cases q : j = k
      · subst q; exact absurd e c
      · exact e3 j (by omega) b e
theorem Hr (w : List UInt8) : ∃ z : Int, Bn w = some z ∧ (0 ≤ z ∧ z ≤ 11) ∧ ∀ k : Int, 1 ≤ k ∧ k ≤ 11 → Ai k = w → z = k := by
  obtain ⟨z, e1, e2, e3⟩ := EK w 11 1 (by omega) rfl
  refine ⟨z, e1, e2, fun k hk e => ?_⟩
  have := e3 k.toNat (by omega) (by omega) (by rw [show ((k.toNat : Nat) : Int) = k by omega]; exact e)
  omega
def DK (s : Cs) : List (List UInt8) := (if hI s.1 then [Lib.itoa s.2.1] else []) ++ (if hN s.1 then [Lib.itoa s.2.2] else [])
theorem FO {s : Cs} (h : Vs s) : Lib.split (AZ s) [32] = Ai s.1 :: DK s := by
  obtain ⟨n1, n2⟩ := h.nb
  unfold AZ FC DK
  by_cases a : hI s.1
  · rw [if_pos a, if_pos a]
    by_cases b : hN s.1
    · rw [if_pos b, if_pos b, List.cons_append, BO (EY _), BO (EQ n1), Cm (EQ n2)]; rfl
    · rw [if_neg b, if_neg b, List.cons_append, List.append_nil, BO (EY _), Cm (EQ n1)]; rfl
  · rw [if_neg a, if_neg a]
    by_cases b : hN s.1
    · rw [if_pos b, if_pos b, List.nil_append, BO (EY _), Cm (EQ n2)]; rfl
    · rw [if_neg b, if_neg b, List.nil_append, List.append_nil, Cm (EY _)]; rfl
theorem FH (c : UInt8) (s : List UInt8) : ∃ w r, Lib.split s [c] = w :: r := by
  by_cases h : c ∈ s
  · obtain ⟨w, r, e, hw⟩ := Ef h
    rw [e, BO hw]; exact ⟨_, _, rfl⟩
  · rw [Cm h]; exact ⟨_, _, rfl⟩
theorem C4 {W : List (List UInt8)} {L : List UInt8} {i : Nat} {c : UInt8} {p : List UInt8} (hc : L[i]? = some c) (hp : W[i + 1]? = some p) (hl : p.length ≤ 10000) (hi : i ≤ 5) (a b : Int) :
    Am W L ((i : Int), a, b) = match Lib.atoiAll p with | .ok v => some (.inl (((i + 1 : Nat) : Int), (if (c.toNat : Int) = 73 then v else a), (if (c.toNat : Int) = 73 then b else v))) | _ => some (.inr (.inr ((0, 0, 0), false))) := by
  have hi2 := (List.getElem?_eq_some_iff.1 hc).1
  rw [Am, if_pos (by omega), Bk (by omega), show ((i : Int) + 1) = ((i + 1 : Nat) : Int) from rfl, BS hp, Option.bind_some]
  unfold Fb
  rw [if_pos (by omega)]
  cases Lib.atoiAll p with
  | ok v =>
    simp only [Option.bind_some, FB]
    rw [BS hc, Option.bind_some]
    by_cases q : (c.toNat : Int) = 73
    · rw [if_pos q, if_pos q, if_pos q]; rfl
    · rw [if_neg q, if_neg q, if_neg q]; rfl
  | «syntax» => rfl
  | range => rfl
theorem GB {t : List UInt8} (ht : t.length ≤ 5000) (hne : t ≠ []) : ∃ x b, AH t = some (x, b) ∧ Hz t x b := by
  have hmem : ∀ p ∈ Lib.split t [32], p.length ≤ 10000 := fun p hp => Nat.le_trans (EL [32] _ t p hp) (by omega)
  have hsp : ∀ r, Vs r → AZ r = t → Lib.split t [32] = Ai r.1 :: DK r := fun r hr e => by rw [← e]; exact FO hr
  obtain ⟨w, ps, hW⟩ := FH 32 t
  obtain ⟨k, hk1, hk2, hk3⟩ := Hr w
  unfold AH CS
  rw [if_pos ⟨by omega, by decide⟩, Option.bind_some]
  rw [hW] at hmem hsp ⊢
  rw [show ix (w :: ps) 0 = some w from rfl, Option.bind_some, hk1, Option.bind_some, Dh, Option.bind_some]
  have hr : ∀ r, Vs r → AZ r = t → k = r.1 ∧ ps = DK r := fun r hr e => by
    have := hsp r hr e
    simp only [List.cons.injEq] at this
    exact ⟨hk3 r.1 hr.1 this.1.symm, this.2⟩
  have hLl : (GC k).length ≤ 2 := by unfold GC; split <;> (try split) <;> (try split) <;> decide
  by_cases c : ((w :: ps).length : Int) ≠ CF (1 + ((GC k).length : Int))
  · rw [if_pos c]
    refine ⟨_, _, rfl, B9 fun r hv e => c ?_⟩
    obtain ⟨rfl, rfl⟩ := hr r hv e
    rw [Bk (by omega), List.length_cons]
    unfold DK
    rcases DB hv.1 with ⟨e, a, b⟩ | ⟨e, a, b⟩ | ⟨e, a, b⟩ | ⟨e, a, b⟩ <;> rw [e] <;> simp [a, b]
  · rw [if_neg c]
    rw [Bk (by omega), List.length_cons] at c
    have hlen : ps.length = (GC k).length := by omega
    have fin : ∀ {a b : Int}, (∀ r, Vs r → AZ r = t → ((k, a, b) : Cs) = r) → ∃ x q, ((AY (k, a, b)).bind fun x17 => some (((k, a, b) : Cs), decide (x17 = t))) = some (x, q) ∧ Hz t x q := fun {a b} h => by
      rw [FU, Option.bind_some]; exact ⟨_, _, rfl, Hj hne h⟩
    have zI : ∀ r, Vs r → ¬ hI r.1 → r.2.1 = 0 := fun r hv h => hv.2.2.2.1.elim (fun q => absurd q h) id
    have zN : ∀ r, Vs r → ¬ hN r.1 → r.2.2 = 0 := fun r hv h => hv.2.2.2.2.elim (fun q => absurd q h) id
    by_cases hk0 : k = 0
    · have hL : GC k = [] := by rw [hk0]; rfl
      rw [hL]
      rw [Ax (by rw [Am, if_neg (by decide)])]
      exact fin fun r hv e => by have := (hr r hv e).1; have := hv.1; omega
    · rcases DB (k := k) (by omega) with ⟨e, ha, hb⟩ | ⟨e, ha, hb⟩ | ⟨e, ha, hb⟩ | ⟨e, ha, hb⟩
      · rw [e] at hlen ⊢
        obtain ⟨p, rfl⟩ : ∃ p, ps = [p] := List.length_eq_one_iff.1 hlen
        have s0 := C4 (W := [w, p]) (L := [78]) (i := 0) (c := 78) rfl rfl (hmem p (by simp)) (by omega) 0 0
        rw [show ((0 : Int), (0 : Int), (0 : Int)) = (((0 : Nat) : Int), (0 : Int), (0 : Int)) from rfl]
        have hnum : ∀ r, Vs r → AZ r = t → k = r.1 ∧ p = Lib.itoa r.2.2 := fun r hv e => by
          obtain ⟨e1, e2⟩ := hr r hv e
          subst e1
          unfold DK at e2
          rw [if_neg ha, if_pos hb] at e2
          simp at e2
          exact ⟨rfl, e2⟩
        cases hat : Lib.atoiAll p with
        | ok v =>
          rw [hat] at s0
          rw [Bf s0, show AD (Am [w, p] [78]) (((0 + 1 : Nat) : Int), (if ((78 : UInt8).toNat : Int) = 73 then v else 0), (if ((78 : UInt8).toNat : Int) = 73 then 0 else v)) = some (.inl (0, v)) from Ax (by rw [Am, if_neg (by decide)]; rfl)]
          refine fin fun r hv e => ?_
          obtain ⟨e1, e2⟩ := hnum r hv e
          rw [e2, A7 hv.nb.2] at hat
          cases hat
          have h0 := zI r hv (by rw [← e1]; exact ha)
          rw [e1, ← h0]
        | «syntax» =>
          rw [hat] at s0
          rw [Ax s0]
          refine ⟨_, _, rfl, B9 fun r hv e => ?_⟩
          rw [(hnum r hv e).2, A7 hv.nb.2] at hat; cases hat
        | range =>
          rw [hat] at s0
          rw [Ax s0]
          refine ⟨_, _, rfl, B9 fun r hv e => ?_⟩
          rw [(hnum r hv e).2, A7 hv.nb.2] at hat; cases hat
      · rw [e] at hlen ⊢
        obtain ⟨p, q, rfl⟩ : ∃ p q, ps = [p, q] := by
          match ps, hlen with
          | [p, q], _ => exact ⟨p, q, rfl⟩
        have s0 := C4 (W := [w, p, q]) (L := [73, 78]) (i := 0) (c := 73) rfl rfl (hmem p (by simp)) (by omega) 0 0
        rw [show ((0 : Int), (0 : Int), (0 : Int)) = (((0 : Nat) : Int), (0 : Int), (0 : Int)) from rfl]
        have hnum : ∀ r, Vs r → AZ r = t → k = r.1 ∧ p = Lib.itoa r.2.1 ∧ q = Lib.itoa r.2.2 := fun r hv e => by
          obtain ⟨e1, e2⟩ := hr r hv e
          subst e1
          unfold DK at e2
          rw [if_pos ha, if_pos hb] at e2
          simp at e2
          exact ⟨rfl, e2⟩
        cases hat : Lib.atoiAll p with
        | ok v =>
          rw [hat] at s0
          have s1 := C4 (W := [w, p, q]) (L := [73, 78]) (i := 1) (c := 78) rfl rfl (hmem q (by simp)) (by omega) v 0
          rw [Bf s0]
          cases hat2 : Lib.atoiAll q with
          | ok u =>
            rw [hat2] at s1
            rw [show AD (Am [w, p, q] [73, 78]) (((0 + 1 : Nat) : Int), (if ((73 : UInt8).toNat : Int) = 73 then v else 0), (if ((73 : UInt8).toNat : Int) = 73 then 0 else v)) = _ from Bf s1, show AD (Am [w, p, q] [73, 78]) (((1 + 1 : Nat) : Int), (if ((78 : UInt8).toNat : Int) = 73 then u else v), (if ((78 : UInt8).toNat : Int) = 73 then 0 else u)) = some (.inl (v, u)) from Ax (by rw [Am, if_neg (by decide)]; rfl)]
            refine fin fun r hv e => ?_
            obtain ⟨e1, e2, e3⟩ := hnum r hv e
            rw [e2, A7 hv.nb.1] at hat
            rw [e3, A7 hv.nb.2] at hat2
            cases hat; cases hat2
            rw [e1]
          | «syntax» =>
            rw [hat2] at s1
            rw [show AD (Am [w, p, q] [73, 78]) (((0 + 1 : Nat) : Int), (if ((73 : UInt8).toNat : Int) = 73 then v else 0), (if ((73 : UInt8).toNat : Int) = 73 then 0 else v)) = _ from Ax s1]
            refine ⟨_, _, rfl, B9 fun r hv e => ?_⟩
            rw [(hnum r hv e).2.2, A7 hv.nb.2] at hat2; cases hat2
          | range =>
            rw [hat2] at s1
            rw [show AD (Am [w, p, q] [73, 78]) (((0 + 1 : Nat) : Int), (if ((73 : UInt8).toNat : Int) = 73 then v else 0), (if ((73 : UInt8).toNat : Int) = 73 then 0 else v)) = _ from Ax s1]
            refine ⟨_, _, rfl, B9 fun r hv e => ?_⟩
            rw [(hnum r hv e).2.2, A7 hv.nb.2] at hat2; cases hat2
        | «syntax» =>
          rw [hat] at s0
          rw [Ax s0]
          refine ⟨_, _, rfl, B9 fun r hv e => ?_⟩
          rw [(hnum r hv e).2.1, A7 hv.nb.1] at hat; cases hat
        | range =>
          rw [hat] at s0
          rw [Ax s0]
          refine ⟨_, _, rfl, B9 fun r hv e => ?_⟩
          rw [(hnum r hv e).2.1, A7 hv.nb.1] at hat; cases hat
      · rw [e] at hlen ⊢
        obtain ⟨p, rfl⟩ : ∃ p, ps = [p] := List.length_eq_one_iff.1 hlen
        have s0 := C4 (W := [w, p]) (L := [73]) (i := 0) (c := 73) rfl rfl (hmem p (by simp)) (by omega) 0 0
        rw [show ((0 : Int), (0 : Int), (0 : Int)) = (((0 : Nat) : Int), (0 : Int), (0 : Int)) from rfl]
        have hnum : ∀ r, Vs r → AZ r = t → k = r.1 ∧ p = Lib.itoa r.2.1 := fun r hv e => by
          obtain ⟨e1, e2⟩ := hr r hv e
          subst e1
          unfold DK at e2
          rw [if_pos ha, if_neg hb] at e2
          simp at e2
          exact ⟨rfl, e2⟩
        cases hat : Lib.atoiAll p with
        | ok v =>
          rw [hat] at s0
          rw [Bf s0, show AD (Am [w, p] [73]) (((0 + 1 : Nat) : Int), (if ((73 : UInt8).toNat : Int) = 73 then v else 0), (if ((73 : UInt8).toNat : Int) = 73 then 0 else v)) = some (.inl (v, 0)) from Ax (by rw [Am, if_neg (by decide)]; rfl)]
          refine fin fun r hv e => ?_
          obtain ⟨e1, e2⟩ := hnum r hv e
          rw [e2, A7 hv.nb.1] at hat
          cases hat
          have h0 := zN r hv (by rw [← e1]; exact hb)
          rw [e1, ← h0]
        | «syntax» =>
          rw [hat] at s0
          rw [Ax s0]
          refine ⟨_, _, rfl, B9 fun r hv e => ?_⟩
          rw [(hnum r hv e).2, A7 hv.nb.1] at hat; cases hat
        | range =>
          rw [hat] at s0
          rw [Ax s0]
          refine ⟨_, _, rfl, B9 fun r hv e => ?_⟩
          rw [(hnum r hv e).2, A7 hv.nb.1] at hat; cases hat
      · rw [e] at hlen ⊢
        rw [Ax (by rw [Am, if_neg (by decide)])]
        refine fin fun r hv e => ?_
        have e1 := (hr r hv e).1
        have h0 := zI r hv (by rw [← e1]; exact ha)
        have h1 := zN r hv (by rw [← e1]; exact hb)
        rw [e1]
        refine Prod.ext rfl (Prod.ext h0.symm h1.symm)
def skipW (w : List UInt8) : Bool := w.isEmpty || decide (w.head? = some 35)
theorem FQ (w : List UInt8) : ((if w = ([] : List UInt8) then some true else (ix w 0).bind fun x8 => some (decide ((x8.toNat : Int) = 35))) : Option Bool) = some (skipW w) := by
  cases w with
  | nil => rfl
  | cons c r =>
    rw [if_neg (by simp), show ix (c :: r) 0 = some c from rfl, Option.bind_some]
    unfold skipW
    congr 1
    by_cases e : c = 35
    · rw [e]; rfl
    · have : (c.toNat : Int) ≠ 35 := fun h => e (UInt8.toNat_inj.1 (show c.toNat = (35 : UInt8).toNat by have : (35 : UInt8).toNat = 35 := rfl; omega))
      rw [decide_eq_false this]
      simp [e]
theorem Gy {W : List (List UInt8)} {i : Nat} {w : List UInt8} (hw : W[i]? = some w) (hi : i ≤ 100000) (hs : skipW w = true) (l : List Cs) : Az W (l, (i : Int)) = some (.inl (l, ((i + 1 : Nat) : Int))) := by
  have h := (List.getElem?_eq_some_iff.1 hw).1
  rw [Az, if_pos (by omega), BS hw, Option.bind_some, FQ, Option.bind_some, if_pos hs]
  simp only [Ez]
  rw [Bk (by omega)]; rfl
theorem Gl {W : List (List UInt8)} {i : Nat} {w : List UInt8} (hw : W[i]? = some w) (hi : i ≤ 100000) (hs : skipW w = false) {l : List Cs} (hl : l.length ≤ 100000) {x : Cs} {b : Bool} (h1 : AH w = some (x, b)) : Az W (l, (i : Int)) = some (if b = true then .inl (l ++ [x], ((i + 1 : Nat) : Int)) else .inr (.inr ([], ((i + 1 : Nat) : Int), 10))) := by
  have h := (List.getElem?_eq_some_iff.1 hw).1
  rw [Az, if_pos (by omega), BS hw, Option.bind_some, FQ, Option.bind_some, if_neg (by rw [hs]; decide), h1, Option.bind_some, Bk (by omega)]
  cases b with
  | true =>
    rw [if_neg (by simp), A4 (by simp; omega)]; rfl
  | false => rw [if_pos (by simp)]; rfl
theorem IB {W : List (List UInt8)} {i : Nat} (h : W.length ≤ i) (l : List Cs) : Az W (l, (i : Int)) = some (.inr (.inl l)) := by rw [Az, if_neg (by omega)]
theorem EP {l : List Cs} (hl : l.length ≤ 1000000000) : Cf l = some l := by
  unfold Cf
  rw [Gm l hl (fun a => a) (B3 l) (fun k hk out ho => by
    rw [B3, if_pos (by omega), BS (List.getElem?_eq_getElem hk)]; rfl) (fun out => by rw [B3, if_neg (by omega)]), map_id' l (fun a => rfl)]; rfl
theorem Hs {l : List Cs} (hl : l.length ≤ 1000000) : CB l l = some true := by
  unfold CB
  rw [EP (by omega), Option.bind_some, if_neg (by simp), DC l (by omega) (B2 l l) (fun _ => False) false (fun k hk => by
    rw [B2, if_pos (by omega), BS (List.getElem?_eq_getElem hk), Option.bind_some, Option.bind_some]; simp) (by rw [B2, if_neg (by omega)]), if_neg (fun ⟨_, _, h⟩ => h)]; rfl
def A9 (l : List Cs) : List UInt8 := l.flatMap fun r => AZ r ++ [10]
theorem Df (r : Cs) (l : List Cs) : A9 (r :: l) = AZ r ++ 10 :: A9 l := by unfold A9; rw [List.flatMap_cons]; simp
theorem Gh (l m : List Cs) : A9 (l ++ m) = A9 l ++ A9 m := by unfold A9; rw [List.flatMap_append]
theorem C3 : ∀ {l : List Cs}, (∀ r ∈ l, Vs r) → (A9 l).length ≤ 52 * l.length
  | [], _ => by simp [A9]
  | r :: l, h => by
    have h2 := Eg (h r (List.mem_cons_self ..))
    have h3 := C3 fun x hx => h x (List.mem_cons_of_mem _ hx)
    rw [Df, List.length_append, List.length_cons, List.length_cons]; omega
theorem Es (l : List Cs) (hl : l.length ≤ 1000) : ∀ (m : List Cs) (k : Nat) (acc : List UInt8), l.drop k = m → k ≤ l.length → acc.length + 52 * m.length ≤ 100000 →
    AD (A5 l) ((k : Int), acc) = some (if ∀ r ∈ m, Vs r then .inl (acc ++ A9 m) else .inr []) ∧ AD (BH l) (acc, (k : Int)) = some (if ∀ r ∈ m, Vs r then .inl (acc ++ A9 m) else .inr [])
  | [], k, acc, hm, hk, ha => by
    have : l.length ≤ k := List.drop_eq_nil_iff.1 hm
    rw [if_pos (by simp), show acc ++ A9 [] = acc by simp [A9]]
    exact ⟨Ax (by rw [A5, if_neg (by omega)]), Ax (by rw [BH, if_neg (by omega)])⟩
  | r :: m, k, acc, hm, hk, ha => by
    have hg : l[k]? = some r := by rw [← List.head?_drop, hm]; rfl
    have hlt := (List.getElem?_eq_some_iff.1 hg).1
    have hd : l.drop (k + 1) = m := by rw [← List.tail_drop, hm]; rfl
    rw [List.length_cons] at ha
    by_cases c : Vs r
    · have hll := Eg c
      have hq : Ea r = AZ r := if_pos c
      obtain ⟨i1, i2⟩ := Es l hl m (k + 1) (acc ++ (AZ r ++ [10])) hd (by omega) (by simp; omega)
      have hiff : (∀ x ∈ r :: m, Vs x) ↔ ∀ x ∈ m, Vs x := ⟨fun h x hx => h x (List.mem_cons_of_mem _ hx), fun h x hx => (List.mem_cons.1 hx).elim (fun e => e ▸ c) (h x)⟩
      have hfin : (if ∀ x ∈ m, Vs x then (.inl (acc ++ (AZ r ++ [10]) ++ A9 m) : List UInt8 ⊕ List UInt8) else .inr []) = if ∀ x ∈ r :: m, Vs x then .inl (acc ++ A9 (r :: m)) else .inr [] := by
        by_cases q : ∀ x ∈ m, Vs x
        · rw [if_pos q, if_pos (hiff.2 q), Df]; simp
        · rw [if_neg q, if_neg (fun h => q (hiff.1 h))]
      rw [← hfin]
      constructor
      · rw [Bf (s' := (((k + 1 : Nat) : Int), acc ++ (AZ r ++ [10]))) (by
          rw [A5, if_pos (by omega), BS hg, Option.bind_some, FD, Option.bind_some, if_neg (by simp [c]), FU, Option.bind_some, hq, A4 (by simp; omega), Option.bind_some, A4 (by simp; omega), Option.bind_some, Bk (by omega)]; rfl)]
        exact i1
      · rw [Bf (s' := (acc ++ (AZ r ++ [10]), ((k + 1 : Nat) : Int))) (by
          rw [BH, if_pos (by omega), BS hg, Option.bind_some, DY, if_neg (by simp [c]), Option.bind_some, GU, Option.bind_some, hq, A4 (by omega), Option.bind_some, A4 (by simp; omega), Option.bind_some, Bk (by omega), List.append_assoc]; rfl)]
        exact i2
    · have hno : ¬ ∀ x ∈ r :: m, Vs x := fun h => c (h r (List.mem_cons_self ..))
      rw [if_neg hno]
      exact ⟨Ax (by rw [A5, if_pos (by omega), BS hg, Option.bind_some, FD, Option.bind_some, if_pos (by simp [c])]), Ax (by rw [BH, if_pos (by omega), BS hg, Option.bind_some, DY, if_pos (by simp [c])])⟩
def E6 (l : List Cs) : List UInt8 := if ∀ r ∈ l, Vs r then A9 l else []
theorem Gd {l : List Cs} (hl : l.length ≤ 1000) : BI l = some (E6 l) ∧ Fn l = some (E6 l) := by
  obtain ⟨h1, h2⟩ := Es l hl l 0 [] rfl (Nat.zero_le _) (by simp; omega)
  have h1 : AD (A5 l) (0, []) = _ := h1
  have h2 : AD (BH l) ([], 0) = _ := h2
  unfold BI Fn E6
  rw [h1, h2]
  by_cases q : ∀ r ∈ l, Vs r
  · have := C3 q
    rw [if_pos q, if_pos q, List.nil_append]
    refine ⟨?_, rfl⟩
    show (Gj (A9 l)).bind (fun x => some x) = some (A9 l)
    rw [Hy (by omega)]; rfl
  · rw [if_neg q, if_neg q]; exact ⟨rfl, rfl⟩
inductive Rd : List (List UInt8) → List Cs → Prop
  | nil : Rd [] []
  | skipW {w ps l} : skipW w = true → Rd ps l → Rd (w :: ps) l
  | line {r ps l} : Vs r → Rd ps l → Rd (AZ r :: ps) (r :: l)
theorem HA (W : List (List UInt8)) {ps : List (List UInt8)} {l : List Cs} (h : Rd ps l) : ∀ (i : Nat) (acc : List Cs), W.drop i = ps → i + ps.length ≤ 10000 → acc.length ≤ i → AD (Az W) (acc, (i : Int)) = some (.inl (acc ++ l)) := by
  induction h with
  | nil =>
    intro i acc hW hi ha
    rw [List.append_nil]
    exact Ax (IB (List.drop_eq_nil_iff.1 hW) acc)
  | @skipW w ps l hs _ ih =>
    intro i acc hW hi ha
    have hg : W[i]? = some w := by rw [← List.head?_drop, hW]; rfl
    rw [List.length_cons] at hi
    rw [Bf (Gy hg (by omega) hs acc)]
    exact ih (i + 1) acc (by rw [← List.tail_drop, hW]; rfl) (by omega) (by omega)
  | @line r ps l hv _ ih =>
    intro i acc hW hi ha
    have hg : W[i]? = some (AZ r) := by rw [← List.head?_drop, hW]; rfl
    rw [List.length_cons] at hi
    obtain ⟨c, z, e1, e2⟩ := Gi r
    have hk : skipW (AZ r) = false := by rw [e1]; unfold skipW; simp [e2]
    have hll := Eg hv
    obtain ⟨x, b, h1, _, h3⟩ := GB (t := AZ r) (by omega) (by rw [e1]; simp)
    obtain ⟨rfl, rfl⟩ := h3 r hv rfl
    rw [Bf ((Gl hg (by omega) hk (by omega) h1).trans (by rw [if_pos rfl])), ih (i + 1) (acc ++ [x]) (by rw [← List.tail_drop, hW]; rfl) (by omega) (by simp; omega)]
    simp
theorem DX : ∀ {l : List Cs}, (∀ r ∈ l, Vs r) → ∀ {t : List UInt8} {m : List Cs}, Rd (Lib.split t [10]) m → Rd (Lib.split (A9 l ++ t) [10]) (l ++ m)
  | [], _, t, m, h => h
  | r :: l, hv, t, m, h => by
    have h0 := hv r (List.mem_cons_self ..)
    rw [Df, List.append_assoc, List.cons_append, BO (HX h0)]
    exact .line h0 (DX (fun x hx => hv x (List.mem_cons_of_mem _ hx)) h)
theorem Ho : Rd (Lib.split [] [10]) [] := by rw [Cm (by simp)]; exact .skipW rfl .nil
theorem EG : ∀ (n : Nat) (s : List UInt8), s.length ≤ n → (Lib.split s [10]).length ≤ s.length + 1
  | n, s, hn => by
    by_cases c : (10 : UInt8) ∈ s
    · obtain ⟨w, r, e, hw⟩ := Ef c
      have hel := congrArg List.length e
      rw [List.length_append, List.length_cons] at hel
      obtain ⟨n', rfl⟩ : ∃ n', n = n' + 1 := ⟨n - 1, by omega⟩
      have ih := EG n' r (by omega)
      rw [e, BO hw, List.length_cons, List.length_append, List.length_cons]; omega
    · rw [Cm c]; simp
theorem E9 {s : List UInt8} {l : List Cs} (hs : s.length ≤ 9000) (h : Rd (Lib.split s [10]) l) : AN s = some (l, 0, 0) := by
  have hc := EG s.length s (Nat.le_refl _)
  have := HA (Lib.split s [10]) h 0 [] rfl (by omega) (Nat.le_refl _)
  have h1 : AD (Az (Lib.split s [10])) ([], 0) = some (.inl ([] ++ l)) := this
  unfold AN CS
  rw [if_pos ⟨by omega, by decide⟩, Option.bind_some, h1]; rfl
theorem DU (p0 : List Cs) {A0 : Prop} (_ : A0) (p1 : Int) {A1 : Prop} (_ : A1) (p2 : List UInt8) {A : Prop} (_ : A) : BL p0 p1 p2 = some true := by
  unfold BL
  rw [E0]
  by_cases c : 60 < (p0.length : Int) ∨ p1 < 0 ∨ (p0.length : Int) < p1 ∨ 100 < (p2.length : Int)
  · rw [if_pos (by simpa using c)]; rfl
  · rw [if_neg (by simpa using c)]
    rw [DC p0 (by omega) (A8 p0) (fun r => ¬ Vs r) true (fun k hk => by
      have hg : p0[k]? = some p0[k] := List.getElem?_eq_getElem hk
      rw [A8, if_pos (by omega), BS hg, Option.bind_some, DY, E0]
      by_cases cv : Vs p0[k]
      · rw [if_neg (by simp [cv]), if_neg (fun h => h cv)]
      · rw [if_pos (by simp [cv]), if_pos cv]; rfl) (by rw [A8, if_neg (by omega)])]
    by_cases ca : ∃ r ∈ p0, ¬ Vs r
    · rw [if_pos ca]; rfl
    · rw [if_neg ca]
      have hV : ∀ r ∈ p0, Vs r := fun r hr => Classical.byContradiction fun h => ca ⟨r, hr, h⟩
      simp only [Ez]
      rw [DC p2 (by omega) (Ba p2) (fun b => b = 10) true (fun k hk => by
        have hg : p2[k]? = some p2[k] := List.getElem?_eq_getElem hk
        rw [Ba, if_pos (by omega), BS hg, Option.bind_some, E0]
        by_cases cv : p2[k] = 10
        · rw [if_pos (by rw [cv]; rfl), if_pos cv]; rfl
        · have : ¬ (p2[k].toNat : Int) = 10 := fun h => cv (UInt8.toNat_inj.1 (show p2[k].toNat = (10 : UInt8).toNat by have : (10 : UInt8).toNat = 10 := rfl; omega))
          rw [if_neg this, if_neg cv]) (by rw [Ba, if_neg (by omega)])]
      by_cases cr : ∃ b ∈ p2, b = 10
      · rw [if_pos cr]; rfl
      · rw [if_neg cr]
        have h10 : (10 : UInt8) ∉ p2 := fun h => cr ⟨10, h, rfl⟩
        obtain ⟨u, v, rfl, hu⟩ : ∃ u v, p0 = u ++ v ∧ (u.length : Int) = p1 := ⟨p0.take p1.toNat, p0.drop p1.toNat, (List.take_append_drop _ _).symm, by rw [List.length_take]; omega⟩
        have hVu : ∀ r ∈ u, Vs r := fun r hr => hV r (List.mem_append_left _ hr)
        have hVv : ∀ r ∈ v, Vs r := fun r hr => hV r (List.mem_append_right _ hr)
        rw [List.length_append] at c
        have lu := C3 hVu
        have lv := C3 hVv
        have su : CP (u ++ v) 0 p1 = some u := by
          rw [F0 (by rw [List.length_append]; omega), ← hu]; simp
        have sv : CP (u ++ v) p1 ((u ++ v).length : Int) = some v := by
          rw [F0 (by rw [List.length_append]; omega), ← hu, Int.toNat_natCast, Int.toNat_natCast, List.take_length, List.drop_left' rfl]
        have tu : E6 u = A9 u := if_pos hVu
        have tv : E6 v = A9 v := if_pos hVv
        have hu1 : u.length ≤ 60 := by omega
        have hv1 : v.length ≤ 60 := by omega
        have hp1 : AN (A9 u ++ A9 v) = some (u ++ v, 0, 0) := by
          refine E9 (by simp; omega) ?_
          have := DX hV (t := []) Ho
          rw [List.append_nil, List.append_nil, Gh] at this
          exact this
        have hp2 : AN (A9 u ++ [35] ++ p2 ++ [10, 10] ++ A9 v) = some (u ++ v, 0, 0) := by
          refine E9 (by simp; omega) ?_
          have e : A9 u ++ [35] ++ p2 ++ [10, 10] ++ A9 v = A9 u ++ ((35 :: p2) ++ 10 :: ([] ++ 10 :: A9 v)) := by simp
          rw [e]
          refine DX hVu ?_
          rw [BO (by simp [h10]), BO (by simp)]
          have h0 := DX hVv (t := []) Ho
          rw [List.append_nil, List.append_nil] at h0
          exact .skipW (by unfold skipW; simp) (.skipW rfl h0)
        rw [su, sv]
        simp only [Option.bind_some]
        rw [EP (by omega), Option.bind_some, (Gd (l := u) (by omega)).1, Option.bind_some, EP (by omega), Option.bind_some, (Gd (l := v) (by omega)).1, Option.bind_some, tu, tv, A4 (by omega), Option.bind_some, hp1, Option.bind_some, A4 (by simp; omega), Option.bind_some, A4 (by simp; omega), Option.bind_some, A4 (by simp; omega), Option.bind_some, A4 (by simp; omega), Option.bind_some, hp2, Option.bind_some, if_pos rfl, Hs (by simp; omega), Option.bind_some, if_pos rfl, if_pos rfl]
        rfl
end Go.Proofs.YtkmacelfldeenaaDoor
