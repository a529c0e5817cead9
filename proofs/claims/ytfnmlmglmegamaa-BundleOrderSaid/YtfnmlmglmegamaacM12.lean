/- Layer 12: bundles. Conditions: none. -/
import Derived.Test.YtfnmlmglmegamaacM11C
import Derived.Test.YtfnmlmglmegamaacEV
namespace Go.Proofs.Ytfnmlmglmegamaa
set_option linter.unusedVariables false
set_option linter.unusedSimpArgs false
set_option synthInstance.maxSize 1000
open Go Go.RowKit
abbrev OP := Bool × Md
abbrev Bd := Int × List OP
abbrev HA := Int × Int × List (Int × Md)
def Ej : List (Int × Md) → Int → Option Md
  | [], _ => none
  | x :: L, i => if x.1 = i then some x.2 else Ej L i
theorem Hs : ∀ {L : List (Int × Md)} {i : Int}, Ej L i = none ↔ ∀ x ∈ L, x.1 ≠ i
  | [], i => by simp [Ej]
  | x :: L, i => by
    unfold Ej
    by_cases c : x.1 = i
    · rw [if_pos c]; exact ⟨fun h => (nomatch h), fun h => absurd c (h x (List.mem_cons_self ..))⟩
    · rw [if_neg c, Hs]; exact ⟨fun h y hy => (List.mem_cons.1 hy).elim (fun e => e ▸ c) (h y), fun h y hy => h y (List.mem_cons_of_mem _ hy)⟩
theorem Im : ∀ {L : List (Int × Md)} {i : Int} {m : Md}, Ej L i = some m → (i, m) ∈ L
  | [], i, m, h => nomatch h
  | x :: L, i, m, h => by
    unfold Ej at h
    by_cases c : x.1 = i
    · rw [if_pos c] at h; cases h; subst c; exact List.mem_cons_self ..
    · rw [if_neg c] at h; exact List.mem_cons_of_mem _ (Im h)
def OD (L : List (Int × Md)) (s : OP) (i : Int) : Prop := match Ej L i with | none => s.1 = false | some m => s = (true, m)
theorem JU {L : List (Int × Md)} {s : OP} {i : Int} (h : OD L s i) (hn : Ej L i = none) : s.1 = false := by unfold OD at h; rw [hn] at h; exact h
theorem IA {L : List (Int × Md)} {s : OP} {i : Int} {m : Md} (h : OD L s i) (hn : Ej L i = some m) : s = (true, m) := by unfold OD at h; rw [hn] at h; exact h
abbrev Gm (m : Md) : Prop := m.2.1.2.2.length ≤ 1000 ∧ I4 m.2.1.2.1.2.1
structure Inv12 (p : Bd) (r : HA) : Prop where
  st : p.1 = r.1
  len : p.2.length = 16
  sl : ∀ i : Nat, i < 16 → ∃ s, p.2[i]? = some s ∧ OD r.2.2 s i
  nd : (r.2.2.map (·.1)).Nodup
  rg : ∀ x ∈ r.2.2, 0 ≤ x.1 ∧ x.1 < 16 ∧ Gm x.2
  cl : p.1 = 1 → r.2.1 = (r.2.2.length : Int) ∧ ∀ x ∈ r.2.2, x.1 < r.2.1
theorem KN {α : Type} {n : Nat} {l : List α} {k : Nat} {x : α} (h : l.length = n) (hx : l[k]? = some x) : Mw n l (k : Int) = some x := by
  unfold Mw; rw [if_pos h]; exact BL hx
def Hb (L : List (Int × Md)) (k : Int) : Nat := (L.filter (fun x => decide (x.1 < k))).length
theorem Mu (x : Int × Md) (L : List (Int × Md)) (i : Int) : Ej (x :: L) i = if x.1 = i then some x.2 else Ej L i := rfl
theorem I7 (x : Int × Md) (L : List (Int × Md)) (k : Int) : Hb (x :: L) k = (if x.1 < k then 1 else 0) + Hb L k := by
  unfold Hb
  rw [List.filter_cons]
  by_cases c : x.1 < k
  · rw [if_pos (by simpa using c), if_pos c, List.length_cons]; omega
  · rw [if_neg (by simpa using c), if_neg c]; omega
theorem HE : ∀ {L : List (Int × Md)} (k : Int), (L.map (·.1)).Nodup → Hb L (k + 1) = Hb L k + (if (Ej L k).isSome then 1 else 0)
  | [], k, _ => rfl
  | x :: L, k, hn => by
    have hn2 := List.nodup_cons.1 hn
    have ih := HE (L := L) k hn2.2
    rw [I7, I7, Mu, ih]
    by_cases c : x.1 = k
    · have h0 : Ej L k = none := Hs.2 fun y hy e => hn2.1 (by show x.1 ∈ L.map (·.1); rw [c, ← e]; exact List.mem_map.2 ⟨y, hy, rfl⟩)
      rw [if_pos (show x.1 < k + 1 by omega), if_neg (show ¬ x.1 < k by omega), if_pos c, h0]; simp [Nat.add_comm]
    · rw [if_neg c]
      by_cases d : x.1 < k
      · rw [if_pos (show x.1 < k + 1 by omega), if_pos d]; omega
      · rw [if_neg (show ¬ x.1 < k + 1 by omega), if_neg d]; omega
theorem Ik {L : List (Int × Md)} {k : Int} (h : ∀ x ∈ L, x.1 < k) : Hb L k = L.length := by
  unfold Hb
  rw [List.filter_eq_self.2 (fun x hx => decide_eq_true (h x hx))]
theorem I9 {L : List (Int × Md)} (h : ∀ x ∈ L, 0 ≤ x.1) : Hb L 0 = 0 := by
  unfold Hb
  rw [List.filter_eq_nil_iff.2 (fun x hx => by have := h x hx; simp; omega)]; rfl
theorem HV {L : List (Int × Md)} (hn : (L.map (·.1)).Nodup) (h : ∀ x ∈ L, 0 ≤ x.1) : ∀ n : Nat, Hb L n ≤ n ∧ (Hb L n = n → ∀ k : Nat, k < n → ∃ m, Ej L k = some m)
  | 0 => ⟨by rw [show ((0 : Nat) : Int) = 0 from rfl, I9 h]; exact Nat.le_refl _, fun _ k hk => absurd hk (by omega)⟩
  | n + 1 => by
    have ih := HV hn h n
    have hs := HE (L := L) (n : Int) hn
    rw [show ((n + 1 : Nat) : Int) = (n : Int) + 1 by omega]
    cases hq : Ej L n with
    | none =>
      rw [hq] at hs
      simp only [Option.isSome_none, Bool.false_eq_true, if_false] at hs
      exact ⟨by omega, fun e => by omega⟩
    | some m =>
      rw [hq] at hs
      simp only [Option.isSome_some, if_true] at hs
      refine ⟨by omega, fun e k hk => ?_⟩
      by_cases c : k = n
      · subst c; exact ⟨m, hq⟩
      · exact ih.2 (by omega) k (by omega)
theorem Inv12.le {p : Bd} {r : HA} (h : Inv12 p r) : r.2.2.length ≤ 16 := by
  have := (HV h.nd (fun x hx => (h.rg x hx).1) 16).1
  rwa [show ((16 : Nat) : Int) = 16 from rfl, Ik (fun x hx => (h.rg x hx).2.1)] at this
theorem KA {p : Bd} {L : List (Int × Md)} (hl : p.2.length = 16) (hs : ∀ i : Nat, i < 16 → ∃ s, p.2[i]? = some s ∧ OD L s i) (hn : (L.map (·.1)).Nodup) (hr : ∀ x ∈ L, 0 ≤ x.1 ∧ x.1 < 16) :
    Bk p = some (L.length : Int) := by
  unfold Bk
  obtain ⟨s, h1, h2⟩ := Hd 16 (fun (c : Int) (k : Nat) => (c, (k : Int))) (Bx p) id (fun c k => c = (Hb L k : Int))
    (fun c k hk hI => by
      obtain ⟨s, e, hR⟩ := hs k hk
      have hle := (HV hn (fun x hx => (hr x hx).1) k).1
      have hst := HE (L := L) (k : Int) hn
      refine ⟨(Hb L ((k + 1 : Nat) : Int) : Int), ?_, rfl⟩
      rw [Bx, if_pos (by omega), KN hl e, Option.bind_some, show ((k + 1 : Nat) : Int) = (k : Int) + 1 by omega, hst]
      cases hq : Ej L k with
      | none =>
        rw [JU hR hq, if_neg (by decide), Option.bind_some, Bg (by omega), hI]; rfl
      | some m =>
        rw [IA hR hq, if_pos rfl, Option.bind_some, Bg (by omega), Bg (by omega), hI]
        rfl) (fun c _ => by rw [Bx, if_neg (by omega)]; rfl) 0 (by show (0 : Int) = (Hb L ((0 : Nat) : Int) : Int); rw [show ((0 : Nat) : Int) = 0 from rfl, I9 fun x hx => (hr x hx).1]; rfl)
  rw [show ((0 : Int), (0 : Int)) = ((0 : Int), ((0 : Nat) : Int)) from rfl, h2, Option.bind_some]
  show some s = _
  rw [h1, show ((16 : Nat) : Int) = 16 from rfl, Ik fun x hx => (hr x hx).2]
theorem M0 (L : List (Int × Md)) (a b : Int) (i : Int) (hl : L.length ≤ 1000) : ∀ (d k : Nat), k + d = L.length →
    Fu (AJ (CG (a, b, L) i) (k : Int)) (fun _ => some ((0, (0, (0, (0, 0, 0, 0), (0, 0, 0, 0)), ([] : List (Int × Int × Int))), false), false)) = some (match Ej (L.drop k) i with | some m => (m, true) | none => ((0, (0, (0, (0, 0, 0, 0), (0, 0, 0, 0)), []), false), false))
  | 0, k, hk => by
    obtain rfl : k = L.length := by omega
    rw [Bw (by rw [CG, if_neg (by simp)]), List.drop_length]; rfl
  | d + 1, k, hk => by
    have hk2 : k < L.length := by omega
    rw [List.drop_eq_getElem_cons hk2]
    show _ = some (match (if L[k].1 = i then some L[k].2 else Ej (L.drop (k + 1)) i) with | some m => (m, true) | none => _)
    by_cases c : L[k].1 = i
    · rw [Bw (e := .inr (L[k].2, true)) (by rw [CG, if_pos (by show (k : Int) < (L.length : Int); omega), BL (List.getElem?_eq_getElem hk2), Option.bind_some, if_pos c, Option.bind_some]), if_pos c]; rfl
    · rw [BG (s' := ((k + 1 : Nat) : Int)) (by rw [CG, if_pos (by show (k : Int) < (L.length : Int); omega), BL (List.getElem?_eq_getElem hk2), Option.bind_some, if_neg c, Bg (by omega)]; rfl), if_neg c]
      exact M0 L a b i hl d (k + 1) (by omega)
theorem KR {r : HA} (hl : r.2.2.length ≤ 1000) {i : Int} {m : Md} (h : Ej r.2.2 i = some m) : EP r i = some (m, true) := by
  unfold EP
  have := M0 r.2.2 r.1 r.2.1 i hl r.2.2.length 0 (by omega)
  rw [List.drop_zero, h] at this
  exact this
theorem J7 {m : Md} (h : m.2.1.2.2.length ≤ 1000) : Cv m = some m := by
  unfold Cv AW
  rw [Ew (by simp; omega)]; rfl
abbrev Nq (a b : Md) : Prop := a.1 = b.1 ∧ a.2.2 = b.2.2 ∧ Po a.2.1 b.2.1
theorem NJ {a b : Md} (h : a.2.1.2.2.length ≤ 1000) : Dn a b = some (decide (Nq a b)) ∧ DS a b = some (decide (Nq a b)) := by
  unfold Dn DS
  by_cases c1 : a.1 = b.1
  · by_cases c2 : a.2.2 = b.2.2
    · rw [if_pos c1, if_pos c2, if_pos c1, if_pos c2, J9 (by omega), Hi (by omega)]
      constructor <;> (show some (decide _) = _; congr 1; exact decide_eq_decide.2 ⟨fun h => ⟨c1, c2, h⟩, fun h => h.2.2⟩)
    · rw [if_pos c1, if_neg c2, if_pos c1, if_neg c2, decide_eq_false (fun h => c2 h.2.1)]; exact ⟨rfl, rfl⟩
  · rw [if_neg c1, if_neg c1, decide_eq_false (fun h => c1 h.1)]; exact ⟨rfl, rfl⟩
theorem Oc {p : Bd} (c : p.1 = 0) (hl : p.2.length = 16) {k : Nat} (hk : k < 16) {s : OP} (e : p.2[k]? = some s) (hs : s.1 = false) {m : Md} (hm : m.2.1.2.2.length ≤ 1000) : AP p (k : Int) m = some (0, (p.1, p.2.set k (true, m))) := by
  unfold AP Ai
  rw [if_neg (fun h => h c), if_neg (by simp; omega), KN hl e, Option.bind_some, hs, if_pos (show (!false) = true from rfl), J7 hm, Option.bind_some, Option.bind_some, Gy]
theorem NR {p : Bd} (c : p.1 = 0) (hl : p.2.length = 16) {k : Nat} (hk : k < 16) {m0 : Md} (e : p.2[k]? = some (true, m0)) (h0 : m0.2.1.2.2.length ≤ 1000) (m : Md) : AP p (k : Int) m = some (if Nq m0 m then 0 else 8, p) := by
  unfold AP Ai
  rw [if_neg (fun h => h c), if_neg (by simp; omega), KN hl e, Option.bind_some, if_neg (show ¬ (!true) = true by decide), Option.bind_some, (NJ h0).1, Option.bind_some]
  by_cases c3 : Nq m0 m
  · rw [decide_eq_true c3, if_pos c3]; rfl
  · rw [decide_eq_false c3, if_neg c3]; rfl
theorem Pp {l : List OP} (hl : l.length ≤ 1000) : Au l = some (decide (∃ s ∈ l, s.1 = true)) := by
  unfold Au AK
  rw [Gr l (by omega) (fun s => s.1) (Av l) (fun k hk => by
    rw [Av, if_pos (by omega), BL (List.getElem?_eq_getElem hk), Option.bind_some]; rfl) (by rw [Av, if_neg (by omega)]), Option.bind_some]
  congr 1
  exact JM (fun s : OP => s.1) l
theorem Nm {p : Bd} {r : HA} (h : Inv12 p r) {n : Nat} : (∃ s ∈ p.2.drop n, s.1 = true) ↔ ∃ x ∈ r.2.2, (n : Int) ≤ x.1 := by
  constructor
  · rintro ⟨s, hs, hu⟩
    obtain ⟨j, hj⟩ := List.mem_iff_getElem?.1 hs
    rw [List.getElem?_drop] at hj
    have hlt := (List.getElem?_eq_some_iff.1 hj).1
    rw [h.len] at hlt
    obtain ⟨s', e, hR⟩ := h.sl (n + j) hlt
    rw [hj] at e
    cases e
    cases hq : Ej r.2.2 ((n + j : Nat) : Int) with
    | none => rw [JU hR hq] at hu; cases hu
    | some m => exact ⟨_, Im hq, by show (n : Int) ≤ ((n + j : Nat) : Int); omega⟩
  · rintro ⟨x, hx, hn⟩
    obtain ⟨h0, h1, _⟩ := h.rg x hx
    obtain ⟨k, hk⟩ : ∃ k : Nat, x.1 = (k : Int) := ⟨x.1.toNat, by omega⟩
    obtain ⟨s, e, hR⟩ := h.sl k (by omega)
    refine ⟨s, List.mem_iff_getElem?.2 ⟨k - n, by rw [List.getElem?_drop, show n + (k - n) = k by omega]; exact e⟩, ?_⟩
    cases hq : Ej r.2.2 (k : Int) with
    | none => exact absurd hk (Hs.1 hq x hx)
    | some m => rw [IA hR hq]
theorem Ph {p : Bd} (hl : p.2.length = 16) {n : Nat} (hn : n ≤ 16) : F1 16 p.2 (n : Int) 16 = some (p.2.drop n) := by
  unfold F1
  rw [if_pos hl, Fa ⟨by omega, by omega, by rw [hl]; omega⟩]
  show some (List.drop (n : Int).toNat (List.take 16 p.2)) = _
  rw [List.take_of_length_le (by rw [hl]; exact Nat.le_refl _), Int.toNat_natCast]
theorem Inv12.cnt {p : Bd} {r : HA} (h : Inv12 p r) : Bk p = some (r.2.2.length : Int) := KA h.len h.sl h.nd fun x hx => ⟨(h.rg x hx).1, (h.rg x hx).2.1⟩
theorem MQ {p : Bd} {r : HA} (h : Inv12 p r) (c2 : p.1 ≠ 2) (c1 : p.1 ≠ 1) {k : Nat} (hk : k ≤ 16) [Decidable (∃ x ∈ r.2.2, (k : Int) ≤ x.1)] : Bv p (k : Int) = some (if ∃ x ∈ r.2.2, (k : Int) ≤ x.1 then (8, p) else if (r.2.2.length : Int) < (k : Int) then (7, p) else (0, (1, p.2))) := by
  have e : (if (k : Int) < 0 then some true else some (decide (16 < (k : Int)))) = some false := by rw [if_neg (by omega), decide_eq_false (by omega)]
  unfold Bv Ai
  rw [if_neg c2, if_neg c1, Option.bind_some, if_neg (show ¬ false = true by decide), if_neg c1, e, Option.bind_some, if_neg (show ¬ false = true by decide), Ph h.len hk, Option.bind_some, Pp (by rw [List.length_drop, h.len]; omega), Option.bind_some]
  by_cases cx : ∃ x ∈ r.2.2, (k : Int) ≤ x.1
  · rw [decide_eq_true ((Nm h).2 cx), if_pos (show true = true from rfl), if_pos cx]
  · rw [decide_eq_false (fun q => cx ((Nm h).1 q)), if_neg (show ¬ false = true by decide), if_neg cx, h.cnt, Option.bind_some]
    by_cases cl : (r.2.2.length : Int) < (k : Int)
    · rw [if_pos cl, if_pos cl]
    · rw [if_neg cl, if_neg cl]
theorem Mj {p : Bd} {r : HA} (h : Inv12 p r) {n : Nat} (ha : ∀ x ∈ r.2.2, x.1 < (n : Int)) (hc : r.2.2.length = n) : Inv12 (1, p.2) (1, (n : Int), r.2.2) :=
  ⟨rfl, h.len, h.sl, h.nd, h.rg, fun _ => ⟨by show (n : Int) = _; rw [hc], ha⟩⟩
theorem ND {p : Bd} {r : HA} (h : Inv12 p r) (h1 : p.1 = 1) : ∃ l : List Md, AF p = some l ∧ CD r = some l ∧ l = (p.2.take r.2.2.length).map (·.2) ∧ l.length ≤ 16 ∧ ∀ m ∈ l, Gm m := by
  have hle := h.le
  have hN := h.cl h1
  have hcnt := KA h.len h.sl h.nd (fun x hx => ⟨(h.rg x hx).1, (h.rg x hx).2.1⟩)
  have hall := (HV h.nd (fun x hx => (h.rg x hx).1) r.2.2.length).2 (Ik (fun x hx => by rw [← hN.1]; exact hN.2 x hx))
  have htl : (p.2.take r.2.2.length).length = r.2.2.length := by rw [List.length_take, h.len]; omega
  have hslot : ∀ k (hk : k < (p.2.take r.2.2.length).length), ∃ m, (p.2.take r.2.2.length)[k] = (true, m) ∧ Ej r.2.2 k = some m ∧ Gm m := fun k hk => by
    have hk' : k < r.2.2.length := by omega
    obtain ⟨m, hm⟩ := hall k hk'
    obtain ⟨s, e, hR⟩ := h.sl k (by omega)
    rw [IA hR hm] at e
    have e2 : (p.2.take r.2.2.length)[k]? = some (true, m) := by rw [List.getElem?_take_of_lt hk']; exact e
    rw [List.getElem?_eq_getElem hk] at e2
    exact ⟨m, Option.some.inj e2, hm, (h.rg _ (Im hm)).2.2⟩
  refine ⟨(p.2.take r.2.2.length).map (·.2), ?_, ?_, rfl, by rw [List.length_map, htl]; exact hle, fun m hm => ?_⟩
  · unfold AF Ai
    rw [if_neg (by rw [h1]; decide), hcnt, Option.bind_some]
    have e1 : F1 16 p.2 0 (r.2.2.length : Int) = some (p.2.take r.2.2.length) := by
      unfold F1
      rw [if_pos h.len, Fa ⟨by omega, by omega, by rw [h.len]; omega⟩]
      simp
    rw [e1, Option.bind_some, Jl (p.2.take r.2.2.length) (by omega) (·.2) (BF (p.2.take r.2.2.length)) (fun k hk out ho => by
      obtain ⟨m, e2, _, hg⟩ := hslot k hk
      rw [BF, if_pos (by omega), BL (List.getElem?_eq_getElem hk), Option.bind_some, e2, J7 hg.1, Option.bind_some]) (fun out => by rw [BF, if_neg (by omega)]), Option.bind_some]
  · unfold CD
    rw [Jl (p.2.take r.2.2.length) (by omega) (·.2) (Cy r) (fun k hk out ho => by
      obtain ⟨m, e2, hm, hg⟩ := hslot k hk
      rw [Cy, if_pos (by rw [← h.st, h1, hN.1]; simp; omega), KR (by omega) hm, Option.bind_some, e2]) (fun out => by rw [Cy, if_neg (by rw [hN.1, htl]; simp)]), Option.bind_some]
  · obtain ⟨s, hs, rfl⟩ := List.mem_map.1 hm
    obtain ⟨k, hk, e⟩ := List.mem_iff_getElem.1 hs
    obtain ⟨m, e2, _, hg⟩ := hslot k hk
    rw [← e, e2]; exact hg
theorem Od {p : Bd} {r : HA} (h : Inv12 p r) (h1 : p.1 ≠ 1) : AF p = some [] ∧ CD r = some [] := by
  constructor
  · unfold AF Ai
    rw [if_pos h1]
  · unfold CD
    rw [Bw (e := []) (by rw [Cy, if_neg (by rw [← h.st]; simp [h1])])]; rfl
theorem Qh {p : Bd} {r : HA} (h : Inv12 p r) : ∃ l : List Md, AF p = some l ∧ CD r = some l ∧ l.length ≤ 16 ∧ (∀ m ∈ l, Gm m) ∧ (p.1 ≠ 1 → l = []) := by
  by_cases c : p.1 = 1
  · obtain ⟨l, a1, a2, _, a3, a4⟩ := ND h c
    exact ⟨l, a1, a2, a3, a4, fun e => absurd c e⟩
  · obtain ⟨a1, a2⟩ := Od h c
    exact ⟨[], a1, a2, by simp, (fun m hm => nomatch hm), fun _ => rfl⟩
abbrev KE : OP := (false, (0, (0, (0, (0, 0, 0, 0), (0, 0, 0, 0)), []), false))
theorem Pi (n : Int) : Inv12 (2, List.replicate 16 KE) (2, n, []) :=
  ⟨rfl, by simp, fun i hi => ⟨KE, by rw [List.getElem?_replicate, if_pos hi], rfl⟩, List.nodup_nil, (fun x hx => nomatch hx), fun e => absurd (show (2 : Int) = 1 from e) (by decide)⟩
section
variable {p : Bd} {r : HA} {t : List Rl} {ports room : Int}
theorem MA (h : Inv12 p r) (ht : IJ ports room t) (hl : t.length ≤ 100) : ∃ l : List Md, AF p = some l ∧ CD r = some l ∧ l.length ≤ 16 ∧ (p.1 ≠ 1 → l = []) ∧ Cj p t ports room = some ((CX t ports room l 0 t).1, if p.1 = 1 then (CX t ports room l 0 t).2.2 else 16) ∧ Ij t l ports room = some (CX t ports room l 0 t) := by
  obtain ⟨l, a1, a2, a3, a4, a5⟩ := Qh h
  refine ⟨l, a1, a2, a3, a5, ?_, Nz (by omega) ht hl fun m hm => (a4 m hm).1⟩
  unfold Cj Ai
  rw [a1, Option.bind_some, LD (by omega) ht hl (fun m hm => (a4 m hm).2), Option.bind_some]
  by_cases c : p.1 = 1
  · rw [if_neg (by rw [c]; decide), if_pos c]
  · rw [if_pos c, if_neg c]
end
theorem KW {l : List Md} (hl : l.length ≤ 1000) (hA : ∀ m ∈ l, m.2.1.2.2.length ≤ 1000) : FD l l = some true := by
  unfold FD
  rw [if_neg (by simp), Gz l (by omega) (Ep l l) (fun _ => False) false (fun k hk => by
    have hm := hA _ (List.getElem_mem hk)
    rw [Ep, if_pos (by omega), BL (List.getElem?_eq_getElem hk), Option.bind_some, Option.bind_some, (NJ hm).2, decide_eq_true (show Nq l[k] l[k] from ⟨rfl, rfl, JC.2 rfl⟩), Option.bind_some, if_neg (by decide), if_neg (by simp)]) (by rw [Ep, if_neg (by omega)]), if_neg (by simp), Gw]
structure J12 (ports room : Int) (t : List Rl) (r : HA) (p : Bd) : Prop where
  inv : Inv12 p r
  ok : IJ ports room t
  l36 : t.length ≤ 36
  l20 : p.1 ≠ 2 → t.length ≤ 20
end Go.Proofs.Ytfnmlmglmegamaa
