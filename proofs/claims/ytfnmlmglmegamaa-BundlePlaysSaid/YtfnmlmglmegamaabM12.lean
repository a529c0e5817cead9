/- Layer 12: bundles. Conditions: none. -/
import Derived.Test.YtfnmlmglmegamaabM11C
import Derived.Test.YtfnmlmglmegamaabEV
namespace Go.Proofs.Ytfnmlmglmegamaa
set_option linter.unusedVariables false
set_option linter.unusedSimpArgs false
set_option synthInstance.maxSize 1000
open Go Go.RowKit
abbrev P2 := Bool × Md
abbrev Bd := Int × List P2
abbrev DU := Int × Int × List (Int × Md)
def DI : List (Int × Md) → Int → Option Md
  | [], _ => none
  | x :: L, i => if x.1 = i then some x.2 else DI L i
theorem Hb : ∀ {L : List (Int × Md)} {i : Int}, DI L i = none ↔ ∀ x ∈ L, x.1 ≠ i
  | [], i => by simp [DI]
  | x :: L, i => by
    unfold DI
    by_cases c : x.1 = i
    · rw [if_pos c]; exact ⟨fun h => (nomatch h), fun h => absurd c (h x (List.mem_cons_self ..))⟩
    · rw [if_neg c, Hb]; exact ⟨fun h y hy => (List.mem_cons.1 hy).elim (fun e => e ▸ c) (h y), fun h y hy => h y (List.mem_cons_of_mem _ hy)⟩
theorem HZ : ∀ {L : List (Int × Md)} {i : Int} {m : Md}, DI L i = some m → (i, m) ∈ L
  | [], i, m, h => nomatch h
  | x :: L, i, m, h => by
    unfold DI at h
    by_cases c : x.1 = i
    · rw [if_pos c] at h; cases h; subst c; exact List.mem_cons_self ..
    · rw [if_neg c] at h; exact List.mem_cons_of_mem _ (HZ h)
theorem Im : ∀ {L : List (Int × Md)} {j i : Int} {m : Md}, DI (L ++ [(j, m)]) i = match DI L i with | some q => some q | none => if j = i then some m else none
  | [], j, i, m => rfl
  | x :: L, j, i, m => by
    show DI (x :: (L ++ [(j, m)])) i = _
    unfold DI
    by_cases c : x.1 = i
    · rw [if_pos c, if_pos c]
    · rw [if_neg c, if_neg c, Im]
def PL (L : List (Int × Md)) (s : P2) (i : Int) : Prop := match DI L i with | none => s.1 = false | some m => s = (true, m)
theorem Jr {L : List (Int × Md)} {s : P2} {i : Int} (h : PL L s i) (hn : DI L i = none) : s.1 = false := by unfold PL at h; rw [hn] at h; exact h
theorem HG {L : List (Int × Md)} {s : P2} {i : Int} {m : Md} (h : PL L s i) (hn : DI L i = some m) : s = (true, m) := by unfold PL at h; rw [hn] at h; exact h
abbrev Gm (m : Md) : Prop := m.2.1.2.2.length ≤ 1000 ∧ I4 m.2.1.2.1.2.1
structure Inv12 (p : Bd) (r : DU) : Prop where
  st : p.1 = r.1
  len : p.2.length = 16
  sl : ∀ i : Nat, i < 16 → ∃ s, p.2[i]? = some s ∧ PL r.2.2 s i
  nd : (r.2.2.map (·.1)).Nodup
  rg : ∀ x ∈ r.2.2, 0 ≤ x.1 ∧ x.1 < 16 ∧ Gm x.2
  cl : p.1 = 1 → r.2.1 = (r.2.2.length : Int) ∧ ∀ x ∈ r.2.2, x.1 < r.2.1
theorem L8 {α : Type} {n : Nat} {l : List α} {k : Nat} {x : α} (h : l.length = n) (hx : l[k]? = some x) : NI n l (k : Int) = some x := by
  unfold NI; rw [if_pos h]; exact Cd hx
def HH (L : List (Int × Md)) (k : Int) : Nat := (L.filter (fun x => decide (x.1 < k))).length
theorem Nv (x : Int × Md) (L : List (Int × Md)) (i : Int) : DI (x :: L) i = if x.1 = i then some x.2 else DI L i := rfl
theorem JX (x : Int × Md) (L : List (Int × Md)) (k : Int) : HH (x :: L) k = (if x.1 < k then 1 else 0) + HH L k := by
  unfold HH
  rw [List.filter_cons]
  by_cases c : x.1 < k
  · rw [if_pos (by simpa using c), if_pos c, List.length_cons]; omega
  · rw [if_neg (by simpa using c), if_neg c]; omega
theorem Iq : ∀ {L : List (Int × Md)} (k : Int), (L.map (·.1)).Nodup → HH L (k + 1) = HH L k + (if (DI L k).isSome then 1 else 0)
  | [], k, _ => rfl
  | x :: L, k, hn => by
    have hn2 := List.nodup_cons.1 hn
    have ih := Iq (L := L) k hn2.2
    rw [JX, JX, Nv, ih]
    by_cases c : x.1 = k
    · have h0 : DI L k = none := Hb.2 fun y hy e => hn2.1 (by show x.1 ∈ L.map (·.1); rw [c, ← e]; exact List.mem_map.2 ⟨y, hy, rfl⟩)
      rw [if_pos (show x.1 < k + 1 by omega), if_neg (show ¬ x.1 < k by omega), if_pos c, h0]; simp [Nat.add_comm]
    · rw [if_neg c]
      by_cases d : x.1 < k
      · rw [if_pos (show x.1 < k + 1 by omega), if_pos d]; omega
      · rw [if_neg (show ¬ x.1 < k + 1 by omega), if_neg d]; omega
theorem HA {L : List (Int × Md)} {k : Int} (h : ∀ x ∈ L, x.1 < k) : HH L k = L.length := by
  unfold HH
  rw [List.filter_eq_self.2 (fun x hx => decide_eq_true (h x hx))]
theorem JY {L : List (Int × Md)} (h : ∀ x ∈ L, 0 ≤ x.1) : HH L 0 = 0 := by
  unfold HH
  rw [List.filter_eq_nil_iff.2 (fun x hx => by have := h x hx; simp; omega)]; rfl
theorem HL {L : List (Int × Md)} (hn : (L.map (·.1)).Nodup) (h : ∀ x ∈ L, 0 ≤ x.1) : ∀ n : Nat, HH L n ≤ n ∧ (HH L n = n → ∀ k : Nat, k < n → ∃ m, DI L k = some m)
  | 0 => ⟨by rw [show ((0 : Nat) : Int) = 0 from rfl, JY h]; exact Nat.le_refl _, fun _ k hk => absurd hk (by omega)⟩
  | n + 1 => by
    have ih := HL hn h n
    have hs := Iq (L := L) (n : Int) hn
    rw [show ((n + 1 : Nat) : Int) = (n : Int) + 1 by omega]
    cases hq : DI L n with
    | none =>
      rw [hq] at hs
      simp only [Option.isSome_none, Bool.false_eq_true, if_false] at hs
      exact ⟨by omega, fun e => by omega⟩
    | some m =>
      rw [hq] at hs
      simp only [Option.isSome_some, if_true] at hs
      refine ⟨by omega, fun e k hk => ?_⟩
      by_cases c : k = n
      · subst c; exact ⟨m, hq⟩
      · exact ih.2 (by omega) k (by omega)
theorem Inv12.le {p : Bd} {r : DU} (h : Inv12 p r) : r.2.2.length ≤ 16 := by
  have := (HL h.nd (fun x hx => (h.rg x hx).1) 16).1
  rwa [show ((16 : Nat) : Int) = 16 from rfl, HA (fun x hx => (h.rg x hx).2.1)] at this
theorem KE {p : Bd} {L : List (Int × Md)} (hl : p.2.length = 16) (hs : ∀ i : Nat, i < 16 → ∃ s, p.2[i]? = some s ∧ PL L s i) (hn : (L.map (·.1)).Nodup) (hr : ∀ x ∈ L, 0 ≤ x.1 ∧ x.1 < 16) :
    BD p = some (L.length : Int) := by
  unfold BD
  obtain ⟨s, h1, h2⟩ := Hz 16 (fun (c : Int) (k : Nat) => (c, (k : Int))) (BS p) id (fun c k => c = (HH L k : Int))
    (fun c k hk hI => by
      obtain ⟨s, e, hR⟩ := hs k hk
      have hle := (HL hn (fun x hx => (hr x hx).1) k).1
      have hst := Iq (L := L) (k : Int) hn
      refine ⟨(HH L ((k + 1 : Nat) : Int) : Int), ?_, rfl⟩
      rw [BS, if_pos (by omega), L8 hl e, Option.bind_some, show ((k + 1 : Nat) : Int) = (k : Int) + 1 by omega, hst]
      cases hq : DI L k with
      | none =>
        rw [Jr hR hq, if_neg (by decide), Option.bind_some, BC (by omega), hI]; rfl
      | some m =>
        rw [HG hR hq, if_pos rfl, Option.bind_some, BC (by omega), BC (by omega), hI]
        rfl) (fun c _ => by rw [BS, if_neg (by omega)]; rfl) 0 (by show (0 : Int) = (HH L ((0 : Nat) : Int) : Int); rw [show ((0 : Nat) : Int) = 0 from rfl, JY fun x hx => (hr x hx).1]; rfl)
  rw [show ((0 : Int), (0 : Int)) = ((0 : Int), ((0 : Nat) : Int)) from rfl, h2, Option.bind_some]
  show some s = _
  rw [h1, show ((16 : Nat) : Int) = 16 from rfl, HA fun x hx => (hr x hx).2]
theorem Ma (L : List (Int × Md)) (a b : Int) (i : Int) (hl : L.length ≤ 1000) : ∀ (d k : Nat), k + d = L.length →
    FR (AX (CK (a, b, L) i) (k : Int)) (fun _ => some ((0, (0, (0, (0, 0, 0, 0), (0, 0, 0, 0)), ([] : List (Int × Int × Int))), false), false)) = some (match DI (L.drop k) i with | some m => (m, true) | none => ((0, (0, (0, (0, 0, 0, 0), (0, 0, 0, 0)), []), false), false))
  | 0, k, hk => by
    obtain rfl : k = L.length := by omega
    rw [BP (by rw [CK, if_neg (by simp)]), List.drop_length]; rfl
  | d + 1, k, hk => by
    have hk2 : k < L.length := by omega
    rw [List.drop_eq_getElem_cons hk2]
    show _ = some (match (if L[k].1 = i then some L[k].2 else DI (L.drop (k + 1)) i) with | some m => (m, true) | none => _)
    by_cases c : L[k].1 = i
    · rw [BP (e := .inr (L[k].2, true)) (by rw [CK, if_pos (by show (k : Int) < (L.length : Int); omega), Cd (List.getElem?_eq_getElem hk2), Option.bind_some, if_pos c, Option.bind_some]), if_pos c]; rfl
    · rw [Cg (s' := ((k + 1 : Nat) : Int)) (by rw [CK, if_pos (by show (k : Int) < (L.length : Int); omega), Cd (List.getElem?_eq_getElem hk2), Option.bind_some, if_neg c, BC (by omega)]; rfl), if_neg c]
      exact Ma L a b i hl d (k + 1) (by omega)
theorem I0 {r : DU} (hl : r.2.2.length ≤ 1000) {i : Int} {m : Md} (h : DI r.2.2 i = some m) : CG r i = some (m, true) := by
  unfold CG
  have := Ma r.2.2 r.1 r.2.1 i hl r.2.2.length 0 (by omega)
  rw [List.drop_zero, h] at this
  exact this
theorem Mj {r : DU} (hl : r.2.2.length ≤ 1000) {i : Int} (h : DI r.2.2 i = none) : ∃ z, CG r i = some (z, false) := by
  unfold CG
  have := Ma r.2.2 r.1 r.2.1 i hl r.2.2.length 0 (by omega)
  rw [List.drop_zero, h] at this
  exact ⟨_, this⟩
theorem Lw {m : Md} (h : m.2.1.2.2.length ≤ 1000) : CS m = some m := by
  unfold CS A8
  rw [EU (by simp; omega)]; rfl
abbrev L7 (a b : Md) : Prop := a.1 = b.1 ∧ a.2.2 = b.2.2 ∧ Qi a.2.1 b.2.1
theorem Mh {a b : Md} (h : a.2.1.2.2.length ≤ 1000) : DO a b = some (decide (L7 a b)) ∧ DH a b = some (decide (L7 a b)) := by
  unfold DO DH
  by_cases c1 : a.1 = b.1
  · by_cases c2 : a.2.2 = b.2.2
    · rw [if_pos c1, if_pos c2, if_pos c1, if_pos c2, KM (by omega), HI (by omega)]
      constructor <;> (show some (decide _) = _; congr 1; exact decide_eq_decide.2 ⟨fun h => ⟨c1, c2, h⟩, fun h => h.2.2⟩)
    · rw [if_pos c1, if_neg c2, if_pos c1, if_neg c2, decide_eq_false (fun h => c2 h.2.1)]; exact ⟨rfl, rfl⟩
  · rw [if_neg c1, if_neg c1, decide_eq_false (fun h => c1 h.1)]; exact ⟨rfl, rfl⟩
theorem Qs {p : Bd} (c : p.1 ≠ 0) (i : Int) (m : Md) : AS p i m = some (16, p) := by unfold AS Ao; rw [if_pos c]
theorem Pr {r : DU} (c : r.1 ≠ 0) (i : Int) (m : Md) : BW r i m = some (16, r) := by unfold BW; rw [if_pos c]
theorem QW {p : Bd} (c : p.1 = 0) {i : Int} (h : i < 0 ∨ 16 ≤ i) (m : Md) : AS p i m = some (2, p) := by
  unfold AS Ao; rw [if_neg (fun h => h c), if_pos (by simpa using h)]
theorem Pj {r : DU} (c : r.1 = 0) {i : Int} (h : i < 0 ∨ 16 ≤ i) (m : Md) : BW r i m = some (2, r) := by
  unfold BW; rw [if_neg (fun h => h c), if_pos (by simp; omega)]
theorem Pe {p : Bd} (c : p.1 = 0) (hl : p.2.length = 16) {k : Nat} (hk : k < 16) {s : P2} (e : p.2[k]? = some s) (hs : s.1 = false) {m : Md} (hm : m.2.1.2.2.length ≤ 1000) : AS p (k : Int) m = some (0, (p.1, p.2.set k (true, m))) := by
  unfold AS Ao
  rw [if_neg (fun h => h c), if_neg (by simp; omega), L8 hl e, Option.bind_some, hs, if_pos (show (!false) = true from rfl), Lw hm, Option.bind_some, Option.bind_some, G0]
theorem Pi {p : Bd} (c : p.1 = 0) (hl : p.2.length = 16) {k : Nat} (hk : k < 16) {m0 : Md} (e : p.2[k]? = some (true, m0)) (h0 : m0.2.1.2.2.length ≤ 1000) (m : Md) : AS p (k : Int) m = some (if L7 m0 m then 0 else 8, p) := by
  unfold AS Ao
  rw [if_neg (fun h => h c), if_neg (by simp; omega), L8 hl e, Option.bind_some, if_neg (show ¬ (!true) = true by decide), Option.bind_some, (Mh h0).1, Option.bind_some]
  by_cases c3 : L7 m0 m
  · rw [decide_eq_true c3, if_pos c3]; rfl
  · rw [decide_eq_false c3, if_neg c3]; rfl
theorem NM {r : DU} (c : r.1 = 0) (hl : r.2.2.length ≤ 1000) {k : Nat} (hk : k < 16) (hq : DI r.2.2 k = none) (m : Md) : BW r (k : Int) m = some (0, (r.1, r.2.1, r.2.2 ++ [((k : Int), m)])) := by
  obtain ⟨z, hz⟩ := Mj hl hq
  unfold BW
  rw [if_neg (fun h => h c), if_neg (by simp; omega), hz, Option.bind_some]
  show Option.bind (if false = true then _ else some (false, false)) _ = _
  rw [if_neg (by decide), Option.bind_some]
  show (if false = true then _ else _) = _
  rw [if_neg (by decide), if_pos (show (!false) = true from rfl), EU (by simp; omega)]; rfl
theorem N8 {r : DU} (c : r.1 = 0) (hl : r.2.2.length ≤ 1000) {k : Nat} (hk : k < 16) {m0 : Md} (hq : DI r.2.2 k = some m0) (h0 : m0.2.1.2.2.length ≤ 1000) (m : Md) : BW r (k : Int) m = some (if L7 m0 m then 0 else 8, r) := by
  unfold BW
  rw [if_neg (fun h => h c), if_neg (by simp; omega), I0 hl hq, Option.bind_some]
  show Option.bind (if true = true then (DH m0 m).bind _ else _) _ = _
  rw [if_pos rfl, (Mh h0).2, Option.bind_some, Option.bind_some]
  by_cases c3 : L7 m0 m
  · rw [decide_eq_true c3, if_pos c3]; rfl
  · rw [decide_eq_false c3, if_neg c3]; rfl
theorem PU {p : Bd} {r : DU} (h : Inv12 p r) (c : p.1 = 0) {k : Nat} (hk : k < 16) (hq : DI r.2.2 k = none) {m : Md} (hm : Gm m) : Inv12 (p.1, p.2.set k (true, m)) (r.1, r.2.1, r.2.2 ++ [((k : Int), m)]) := by
  refine ⟨h.st, by rw [List.length_set]; exact h.len, fun j hj => ?_, ?_, fun x hx => ?_, fun e' => absurd (show p.1 = 1 from e') (by rw [c]; decide)⟩
  · show ∃ s, (p.2.set k (true, m))[j]? = some s ∧ PL (r.2.2 ++ [((k : Int), m)]) s j
    by_cases cj : k = j
    · subst cj
      refine ⟨(true, m), List.getElem?_set_self (by rw [h.len]; exact hk), ?_⟩
      have : DI (r.2.2 ++ [((k : Int), m)]) (k : Int) = some m := by rw [Im, hq]; exact if_pos rfl
      unfold PL
      rw [this]
    · obtain ⟨s', e', hR'⟩ := h.sl j hj
      refine ⟨s', by rw [List.getElem?_set_ne cj]; exact e', ?_⟩
      have : DI (r.2.2 ++ [((k : Int), m)]) (j : Int) = DI r.2.2 j := by
        rw [Im]
        cases DI r.2.2 j with
        | none => exact if_neg (by omega)
        | some m' => rfl
      unfold PL at hR' ⊢
      rw [this]; exact hR'
  · show ((r.2.2 ++ [((k : Int), m)]).map (·.1)).Nodup
    rw [List.map_append]
    refine List.nodup_append.2 ⟨h.nd, by simp, fun a ha b hb e' => ?_⟩
    obtain ⟨x, hx, rfl⟩ := List.mem_map.1 ha
    have hb : b = (k : Int) := by simpa using hb
    exact Hb.1 hq x hx (e'.trans hb)
  · rcases List.mem_append.1 hx with hx | hx
    · exact h.rg x hx
    · have : x = ((k : Int), m) := by simpa using hx
      subst this; exact ⟨by show (0 : Int) ≤ (k : Int); omega, by show (k : Int) < 16; omega, hm⟩
theorem Rn {p : Bd} {r : DU} (h : Inv12 p r) (i : Int) {m : Md} (hm : Gm m) : ∃ e p' r', AS p i m = some (e, p') ∧ BW r i m = some (e, r') ∧ Inv12 p' r' ∧ p'.1 = p.1 := by
  have hle := h.le
  have hst := h.st
  by_cases c : p.1 = 0
  · have cr : r.1 = 0 := hst ▸ c
    by_cases c2 : i < 0 ∨ 16 ≤ i
    · exact ⟨2, p, r, QW c c2 m, Pj cr c2 m, h, rfl⟩
    · obtain ⟨k, rfl⟩ : ∃ k : Nat, i = (k : Int) := ⟨i.toNat, by omega⟩
      have hk : k < 16 := by omega
      obtain ⟨s, e, hR⟩ := h.sl k hk
      cases hq : DI r.2.2 k with
      | none => exact ⟨0, _, _, Pe c h.len hk e (Jr hR hq) hm.1, NM cr (by omega) hk hq m, PU h c hk hq hm, rfl⟩
      | some m0 =>
        have hs := HG hR hq
        subst hs
        have hg := (h.rg _ (HZ hq)).2.2
        exact ⟨_, p, r, Pi c h.len hk e hg.1 m, N8 cr (by omega) hk hq hg.1 m, h, rfl⟩
  · exact ⟨16, p, r, Qs c i m, Pr (fun e => c (hst.trans e)) i m, h, rfl⟩
theorem QG {l : List P2} (hl : l.length ≤ 1000) : AH l = some (decide (∃ s ∈ l, s.1 = true)) := by
  unfold AH AV
  rw [GO l (by omega) (fun s => s.1) (AG l) (fun k hk => by
    rw [AG, if_pos (by omega), Cd (List.getElem?_eq_getElem hk), Option.bind_some]; rfl) (by rw [AG, if_neg (by omega)]), Option.bind_some]
  congr 1
  exact Ks (fun s : P2 => s.1) l
theorem NU {r : DU} (hl : r.2.2.length ≤ 1000) (n : Int) [Decidable (∃ x ∈ r.2.2, n ≤ x.1)] : AX (Cv r n) 0 = some (if ∃ x ∈ r.2.2, n ≤ x.1 then .inr (8, r) else .inl ()) := by
  have := J5 r.2.2 (by omega) (Cv r n) (fun x => n ≤ x.1) (8, r) (fun k hk => by
    rw [Cv, if_pos (by omega), Cd (List.getElem?_eq_getElem hk), Option.bind_some]
    by_cases c : n ≤ (r.2.2[k]).1
    · rw [if_pos c, if_pos c]
    · rw [if_neg c, if_neg c]) (by rw [Cv, if_neg (by omega)])
  rw [this]
  congr 1
  by_cases c : ∃ x ∈ r.2.2, n ≤ x.1
  · rw [if_pos c, if_pos c]
  · rw [if_neg c, if_neg c]
theorem NV {p : Bd} {r : DU} (h : Inv12 p r) {n : Nat} : (∃ s ∈ p.2.drop n, s.1 = true) ↔ ∃ x ∈ r.2.2, (n : Int) ≤ x.1 := by
  constructor
  · rintro ⟨s, hs, hu⟩
    obtain ⟨j, hj⟩ := List.mem_iff_getElem?.1 hs
    rw [List.getElem?_drop] at hj
    have hlt := (List.getElem?_eq_some_iff.1 hj).1
    rw [h.len] at hlt
    obtain ⟨s', e, hR⟩ := h.sl (n + j) hlt
    rw [hj] at e
    cases e
    cases hq : DI r.2.2 ((n + j : Nat) : Int) with
    | none => rw [Jr hR hq] at hu; cases hu
    | some m => exact ⟨_, HZ hq, by show (n : Int) ≤ ((n + j : Nat) : Int); omega⟩
  · rintro ⟨x, hx, hn⟩
    obtain ⟨h0, h1, _⟩ := h.rg x hx
    obtain ⟨k, hk⟩ : ∃ k : Nat, x.1 = (k : Int) := ⟨x.1.toNat, by omega⟩
    obtain ⟨s, e, hR⟩ := h.sl k (by omega)
    refine ⟨s, List.mem_iff_getElem?.2 ⟨k - n, by rw [List.getElem?_drop, show n + (k - n) = k by omega]; exact e⟩, ?_⟩
    cases hq : DI r.2.2 (k : Int) with
    | none => exact absurd hk (Hb.1 hq x hx)
    | some m => rw [HG hR hq]
theorem QP {p : Bd} (hl : p.2.length = 16) {n : Nat} (hn : n ≤ 16) : GA 16 p.2 (n : Int) 16 = some (p.2.drop n) := by
  unfold GA
  rw [if_pos hl, FT ⟨by omega, by omega, by rw [hl]; omega⟩]
  show some (List.drop (n : Int).toNat (List.take 16 p.2)) = _
  rw [List.take_of_length_le (by rw [hl]; exact Nat.le_refl _), Int.toNat_natCast]
theorem Inv12.cnt {p : Bd} {r : DU} (h : Inv12 p r) : BD p = some (r.2.2.length : Int) := KE h.len h.sl h.nd fun x hx => ⟨(h.rg x hx).1, (h.rg x hx).2.1⟩
theorem Pb {p : Bd} (c : p.1 = 2) (n : Int) : AQ p n = some (16, p) := by unfold AQ Ao; rw [if_pos c]
theorem N6 {r : DU} (c : r.1 = 2) (n : Int) : BG r n = some (16, r) := by unfold BG; rw [if_pos c]
theorem Pw {p : Bd} {r : DU} (h : Inv12 p r) (c : p.1 = 1) (n : Int) : AQ p n = some (if n = (r.2.2.length : Int) then 0 else 2, p) := by
  unfold AQ Ao
  rw [if_neg (show ¬ p.1 = 2 by omega), if_pos c, h.cnt, Option.bind_some, Option.bind_some]
  by_cases d : n = (r.2.2.length : Int)
  · rw [decide_eq_true d, if_pos (show true = true from rfl), if_pos d]
  · rw [decide_eq_false d, if_neg (show ¬ false = true by decide), if_pos c, Option.bind_some, if_pos (show true = true from rfl), if_neg d]
theorem OU {r : DU} (c : r.1 = 1) (hN : r.2.1 = (r.2.2.length : Int)) (n : Int) : BG r n = some (if n = (r.2.2.length : Int) then 0 else 2, r) := by
  unfold BG
  rw [if_neg (show ¬ r.1 = 2 by omega), hN]
  by_cases d : n = (r.2.2.length : Int)
  · rw [if_pos (by rw [decide_eq_true c, decide_eq_true d]; rfl), if_pos d]
  · rw [if_neg (by rw [decide_eq_false d, Bool.and_false]; decide), if_pos (by rw [decide_eq_true c]; rfl), if_neg d]
theorem Oo {p : Bd} (c2 : p.1 ≠ 2) (c1 : p.1 ≠ 1) {n : Int} (h : n < 0 ∨ 16 < n) : AQ p n = some (2, p) := by
  have e : (if n < 0 then some true else some (decide (16 < n))) = some true := by
    rcases h with c | c
    · rw [if_pos c]
    · rw [if_neg (by omega), decide_eq_true c]
  unfold AQ Ao
  rw [if_neg c2, if_neg c1, Option.bind_some, if_neg (show ¬ false = true by decide), if_neg c1, e, Option.bind_some, if_pos (show true = true from rfl)]
theorem Nd {r : DU} (c2 : r.1 ≠ 2) (c1 : r.1 ≠ 1) {n : Int} (h : n < 0 ∨ 16 < n) : BG r n = some (2, r) := by
  unfold BG
  rw [if_neg c2, if_neg (by rw [decide_eq_false c1, Bool.false_and]; decide), if_pos (by rcases h with h | h <;> simp [h])]
theorem OV {p : Bd} {r : DU} (h : Inv12 p r) (c2 : p.1 ≠ 2) (c1 : p.1 ≠ 1) {k : Nat} (hk : k ≤ 16) [Decidable (∃ x ∈ r.2.2, (k : Int) ≤ x.1)] : AQ p (k : Int) = some (if ∃ x ∈ r.2.2, (k : Int) ≤ x.1 then (8, p) else if (r.2.2.length : Int) < (k : Int) then (7, p) else (0, (1, p.2))) := by
  have e : (if (k : Int) < 0 then some true else some (decide (16 < (k : Int)))) = some false := by rw [if_neg (by omega), decide_eq_false (by omega)]
  unfold AQ Ao
  rw [if_neg c2, if_neg c1, Option.bind_some, if_neg (show ¬ false = true by decide), if_neg c1, e, Option.bind_some, if_neg (show ¬ false = true by decide), QP h.len hk, Option.bind_some, QG (by rw [List.length_drop, h.len]; omega), Option.bind_some]
  by_cases cx : ∃ x ∈ r.2.2, (k : Int) ≤ x.1
  · rw [decide_eq_true ((NV h).2 cx), if_pos (show true = true from rfl), if_pos cx]
  · rw [decide_eq_false (fun q => cx ((NV h).1 q)), if_neg (show ¬ false = true by decide), if_neg cx, h.cnt, Option.bind_some]
    by_cases cl : (r.2.2.length : Int) < (k : Int)
    · rw [if_pos cl, if_pos cl]
    · rw [if_neg cl, if_neg cl]
theorem NG {r : DU} (hl : r.2.2.length ≤ 1000) (c2 : r.1 ≠ 2) (c1 : r.1 ≠ 1) {k : Nat} (hk : k ≤ 16) [Decidable (∃ x ∈ r.2.2, (k : Int) ≤ x.1)] : BG r (k : Int) = some (if ∃ x ∈ r.2.2, (k : Int) ≤ x.1 then (8, r) else if (r.2.2.length : Int) < (k : Int) then (7, r) else (0, (1, (k : Int), r.2.2))) := by
  unfold BG
  rw [if_neg c2, if_neg (by rw [decide_eq_false c1, Bool.false_and]; decide), if_neg (by rw [decide_eq_false c1, decide_eq_false (show ¬ (k : Int) < 0 by omega), decide_eq_false (show ¬ 16 < (k : Int) by omega)]; decide), NU hl]
  by_cases cx : ∃ x ∈ r.2.2, (k : Int) ≤ x.1
  · rw [if_pos cx, if_pos cx]; rfl
  · rw [if_neg cx, if_neg cx, G9]
    by_cases cl : (r.2.2.length : Int) < (k : Int)
    · rw [if_pos cl, if_pos cl]
    · rw [if_neg cl, if_neg cl]
theorem Nj {p : Bd} {r : DU} (h : Inv12 p r) {n : Nat} (ha : ∀ x ∈ r.2.2, x.1 < (n : Int)) (hc : r.2.2.length = n) : Inv12 (1, p.2) (1, (n : Int), r.2.2) :=
  ⟨rfl, h.len, h.sl, h.nd, h.rg, fun _ => ⟨by show (n : Int) = _; rw [hc], ha⟩⟩
theorem O7 {p : Bd} {r : DU} (h : Inv12 p r) (n : Int) : ∃ e p' r', AQ p n = some (e, p') ∧ BG r n = some (e, r') ∧ Inv12 p' r' ∧ (p.1 = 2 ↔ p'.1 = 2) := by
  have hle := h.le
  have hst := h.st
  by_cases c2 : p.1 = 2
  · exact ⟨16, p, r, Pb c2 n, N6 (hst ▸ c2) n, h, Iff.rfl⟩
  · have d2 : r.1 ≠ 2 := fun e => c2 (hst.trans e)
    by_cases c1 : p.1 = 1
    · exact ⟨_, p, r, Pw h c1 n, OU (hst ▸ c1) (h.cl c1).1 n, h, Iff.rfl⟩
    · have d1 : r.1 ≠ 1 := fun e => c1 (hst.trans e)
      by_cases cr : n < 0 ∨ 16 < n
      · exact ⟨2, p, r, Oo c2 c1 cr, Nd d2 d1 cr, h, Iff.rfl⟩
      · obtain ⟨k, rfl⟩ : ∃ k : Nat, n = (k : Int) := ⟨n.toNat, by omega⟩
        have hk : k ≤ 16 := by omega
        have : Decidable (∃ x ∈ r.2.2, (k : Int) ≤ x.1) := Classical.propDecidable _
        rw [OV h c2 c1 hk, NG (by omega) d2 d1 hk]
        by_cases cx : ∃ x ∈ r.2.2, (k : Int) ≤ x.1
        · rw [if_pos cx, if_pos cx]; exact ⟨8, p, r, rfl, rfl, h, Iff.rfl⟩
        · rw [if_neg cx, if_neg cx]
          by_cases cl : (r.2.2.length : Int) < (k : Int)
          · rw [if_pos cl, if_pos cl]; exact ⟨7, p, r, rfl, rfl, h, Iff.rfl⟩
          · rw [if_neg cl, if_neg cl]
            have ha : ∀ x ∈ r.2.2, x.1 < (k : Int) := fun x hx => by
              have : ¬ (k : Int) ≤ x.1 := fun hh => cx ⟨x, hx, hh⟩
              omega
            have hc : r.2.2.length = k := by
              have := (HL h.nd (fun x hx => (h.rg x hx).1) k).1
              rw [HA ha] at this
              omega
            exact ⟨0, (1, p.2), (1, (k : Int), r.2.2), rfl, rfl, Nj h ha hc, ⟨fun e => absurd e c2, fun e => absurd (show (1 : Int) = 2 from e) (by decide)⟩⟩
theorem Qw {p : Bd} {r : DU} (h : Inv12 p r) (h1 : p.1 = 1) : ∃ l : List Md, AY p = some l ∧ Bz r = some l ∧ l = (p.2.take r.2.2.length).map (·.2) ∧ l.length ≤ 16 ∧ ∀ m ∈ l, Gm m := by
  have hle := h.le
  have hN := h.cl h1
  have hcnt := KE h.len h.sl h.nd (fun x hx => ⟨(h.rg x hx).1, (h.rg x hx).2.1⟩)
  have hall := (HL h.nd (fun x hx => (h.rg x hx).1) r.2.2.length).2 (HA (fun x hx => by rw [← hN.1]; exact hN.2 x hx))
  have htl : (p.2.take r.2.2.length).length = r.2.2.length := by rw [List.length_take, h.len]; omega
  have hslot : ∀ k (hk : k < (p.2.take r.2.2.length).length), ∃ m, (p.2.take r.2.2.length)[k] = (true, m) ∧ DI r.2.2 k = some m ∧ Gm m := fun k hk => by
    have hk' : k < r.2.2.length := by omega
    obtain ⟨m, hm⟩ := hall k hk'
    obtain ⟨s, e, hR⟩ := h.sl k (by omega)
    rw [HG hR hm] at e
    have e2 : (p.2.take r.2.2.length)[k]? = some (true, m) := by rw [List.getElem?_take_of_lt hk']; exact e
    rw [List.getElem?_eq_getElem hk] at e2
    exact ⟨m, Option.some.inj e2, hm, (h.rg _ (HZ hm)).2.2⟩
  refine ⟨(p.2.take r.2.2.length).map (·.2), ?_, ?_, rfl, by rw [List.length_map, htl]; exact hle, fun m hm => ?_⟩
  · unfold AY Ao
    rw [if_neg (by rw [h1]; decide), hcnt, Option.bind_some]
    have e1 : GA 16 p.2 0 (r.2.2.length : Int) = some (p.2.take r.2.2.length) := by
      unfold GA
      rw [if_pos h.len, FT ⟨by omega, by omega, by rw [h.len]; omega⟩]
      simp
    rw [e1, Option.bind_some, Ka (p.2.take r.2.2.length) (by omega) (·.2) (B0 (p.2.take r.2.2.length)) (fun k hk out ho => by
      obtain ⟨m, e2, _, hg⟩ := hslot k hk
      rw [B0, if_pos (by omega), Cd (List.getElem?_eq_getElem hk), Option.bind_some, e2, Lw hg.1, Option.bind_some]) (fun out => by rw [B0, if_neg (by omega)]), Option.bind_some]
  · unfold Bz
    rw [Ka (p.2.take r.2.2.length) (by omega) (·.2) (CE r) (fun k hk out ho => by
      obtain ⟨m, e2, hm, hg⟩ := hslot k hk
      rw [CE, if_pos (by rw [← h.st, h1, hN.1]; simp; omega), I0 (by omega) hm, Option.bind_some, e2]) (fun out => by rw [CE, if_neg (by rw [hN.1, htl]; simp)]), Option.bind_some]
  · obtain ⟨s, hs, rfl⟩ := List.mem_map.1 hm
    obtain ⟨k, hk, e⟩ := List.mem_iff_getElem.1 hs
    obtain ⟨m, e2, _, hg⟩ := hslot k hk
    rw [← e, e2]; exact hg
theorem Po {p : Bd} {r : DU} (h : Inv12 p r) (h1 : p.1 ≠ 1) : AY p = some [] ∧ Bz r = some [] := by
  constructor
  · unfold AY Ao
    rw [if_pos h1]
  · unfold Bz
    rw [BP (e := []) (by rw [CE, if_neg (by rw [← h.st]; simp [h1])])]; rfl
theorem Qg {p : Bd} {r : DU} (h : Inv12 p r) : ∃ l : List Md, AY p = some l ∧ Bz r = some l ∧ l.length ≤ 16 ∧ (∀ m ∈ l, Gm m) ∧ (p.1 ≠ 1 → l = []) := by
  by_cases c : p.1 = 1
  · obtain ⟨l, a1, a2, _, a3, a4⟩ := Qw h c
    exact ⟨l, a1, a2, a3, a4, fun e => absurd c e⟩
  · obtain ⟨a1, a2⟩ := Po h c
    exact ⟨[], a1, a2, by simp, (fun m hm => nomatch hm), fun _ => rfl⟩
abbrev Nb : P2 := (false, (0, (0, (0, (0, 0, 0, 0), (0, 0, 0, 0)), []), false))
theorem OY (n : Int) : Inv12 (2, List.replicate 16 Nb) (2, n, []) :=
  ⟨rfl, by simp, fun i hi => ⟨Nb, by rw [List.getElem?_replicate, if_pos hi], rfl⟩, List.nodup_nil, (fun x hx => nomatch hx), fun e => absurd (show (2 : Int) = 1 from e) (by decide)⟩
section
variable {p : Bd} {r : DU} {t : List Rl} {ports room : Int}
theorem Lp (h : Inv12 p r) (ht : IQ ports room t) (hl : t.length ≤ 100) : ∃ l : List Md, AY p = some l ∧ Bz r = some l ∧ l.length ≤ 16 ∧ (p.1 ≠ 1 → l = []) ∧ Cm p t ports room = some ((Dk t ports room l 0 t).1, if p.1 = 1 then (Dk t ports room l 0 t).2.2 else 16) ∧ E3 t l ports room = some (Dk t ports room l 0 t) := by
  obtain ⟨l, a1, a2, a3, a4, a5⟩ := Qg h
  refine ⟨l, a1, a2, a3, a5, ?_, NW (by omega) ht hl fun m hm => (a4 m hm).1⟩
  unfold Cm Ao
  rw [a1, Option.bind_some, Ps (by omega) ht hl (fun m hm => (a4 m hm).2), Option.bind_some]
  by_cases c : p.1 = 1
  · rw [if_neg (by rw [c]; decide), if_pos c]
  · rw [if_pos c, if_neg c]
theorem KJ (h : Inv12 p r) {l : List Md} (a2 : Bz r = some l) (a7 : E3 t l ports room = some (Dk t ports room l 0 t)) : CC r t ports room = some (if p.1 = 1 then (Dk t ports room l 0 t).2.2 else 16) := by
  unfold CC
  by_cases c : p.1 = 1
  · rw [if_neg (show ¬ r.1 ≠ 1 from fun hh => hh (h.st ▸ c)), a2, Option.bind_some, a7, Option.bind_some, if_pos c]
  · rw [if_pos (show r.1 ≠ 1 from fun e => c (h.st.trans e)), if_neg c]
theorem PS (h : Inv12 p r) (ht : IQ ports room t) (hl : t.length ≤ 100) : ∃ e, CP p t ports room = some e ∧ CC r t ports room = some e := by
  obtain ⟨l, a1, a2, a3, a5, a6, a7⟩ := Lp h ht hl
  refine ⟨_, ?_, KJ h a2 a7⟩
  unfold CP
  rw [a6, Option.bind_some]
theorem Ox (h : Inv12 p r) (ht : IQ ports room t) (hl : t.length ≤ 100) : ∃ t' e p' r', B6 p t ports room = some (t', e, p') ∧ Ct r t ports room = some (t', e, r') ∧ Inv12 p' r' ∧ IQ ports room t' ∧ ((p'.1 = p.1 ∧ t' = t) ∨ (p.1 = 1 ∧ p'.1 = 2 ∧ t'.length ≤ t.length + 16)) := by
  obtain ⟨l, a1, a2, a3, a5, a6, a7⟩ := Lp h ht hl
  have hc := KJ (ports := ports) (room := room) h a2 a7
  by_cases c : p.1 = 1
  · rw [if_pos c] at hc a6
    have hok := Mw ht l 0 t ht
    by_cases c0 : (Dk t ports room l 0 t).2.2 = 0
    · refine ⟨(Dk t ports room l 0 t).1, 0, (2, List.replicate 16 Nb), (2, r.2.1, []), ?_, ?_, OY _, hok.1, .inr ⟨c, rfl, ?_⟩⟩
      · unfold B6
        rw [a6, Option.bind_some]
        show (if (Dk t ports room l 0 t).2.2 = 0 then some (Bb p) else some p).bind (fun x2 => some ((Dk t ports room l 0 t).1, (Dk t ports room l 0 t).2.2, x2)) = _
        rw [if_pos c0, Option.bind_some, c0]; rfl
      · unfold Ct
        rw [hc, Option.bind_some, if_neg (fun hh => hh c0), a2, Option.bind_some, a7, Option.bind_some]
      · have := hok.2; omega
    · have he := (K9 t ports room l 0 t c0).1
      refine ⟨t, (Dk t ports room l 0 t).2.2, p, r, ?_, ?_, h, ht, .inl ⟨rfl, rfl⟩⟩
      · unfold B6
        rw [a6, Option.bind_some]
        show (if (Dk t ports room l 0 t).2.2 = 0 then some (Bb p) else some p).bind (fun x2 => some ((Dk t ports room l 0 t).1, (Dk t ports room l 0 t).2.2, x2)) = _
        rw [if_neg c0, Option.bind_some, he]
      · unfold Ct
        rw [hc, Option.bind_some, if_pos c0]
  · have hl0 := a5 c
    subst hl0
    rw [if_neg c] at hc a6
    refine ⟨t, 16, p, r, ?_, ?_, h, ht, .inl ⟨rfl, rfl⟩⟩
    · unfold B6
      rw [a6]; rfl
    · unfold Ct
      rw [hc]; rfl
end
theorem LG {l : List Md} (hl : l.length ≤ 1000) (hA : ∀ m ∈ l, m.2.1.2.2.length ≤ 1000) : FF l l = some true := by
  unfold FF
  rw [if_neg (by simp), Ha l (by omega) (E6 l l) (fun _ => False) false (fun k hk => by
    have hm := hA _ (List.getElem_mem hk)
    rw [E6, if_pos (by omega), Cd (List.getElem?_eq_getElem hk), Option.bind_some, Option.bind_some, (Mh hm).2, decide_eq_true (show L7 l[k] l[k] from ⟨rfl, rfl, Mr.2 rfl⟩), Option.bind_some, if_neg (by decide), if_neg (by simp)]) (by rw [E6, if_neg (by omega)]), if_neg (by simp), G9]
theorem RJ : Inv12 Ci (0, 0, []) :=
  ⟨rfl, rfl, fun i hi => ⟨Nb, by show (List.replicate 16 Nb)[i]? = _; rw [List.getElem?_replicate, if_pos hi], rfl⟩, List.nodup_nil, (fun x hx => nomatch hx), fun e => absurd (show (0 : Int) = 1 from e) (by decide)⟩
abbrev Dd := Int × Int × Md
abbrev RZ := (List Rl × Int × Int × Int × List (Int × Md) × Bd) ⊕ ((Int × Int × List (Int × Md) × Bd) ⊕ Bool)
noncomputable def LH (x9 : Int) : List Rl × Int × Int × Int × Int × List (Int × Md) × Bd → Option RZ :=
  fun (x16, x17, x18, x19, x20, x21, x22) => (if x17 ≠ x18 then some (true, x19, x20, x21) else (if (Ao x22) ≠ x19 then some (true, x19, x20, x21) else (AY x22).bind fun x44 => (Bz (x19, x20, x21)).bind fun x45 => (FF x44 x45).bind fun x46 => some (!x46, (x19, x20, x21).1, (x19, x20, x21).2.1, (x19, x20, x21).2.2))).bind fun (x40, x41, x42, x43) => (if x40 = true then some (.inr (.inr false)) else some (.inl (x16, Cc (x9 + 1), x41, x42, x43, x22)))
theorem Pa {p : Bd} {r : DU} (h : Inv12 p r) (t : List Rl) (e : Int) {k : Nat} (hk : k < 1000) : LH k (t, e, e, r.1, r.2.1, r.2.2, p) = some (.inl (t, ((k + 1 : Nat) : Int), r.1, r.2.1, r.2.2, p)) := by
  obtain ⟨l, a1, a2, a3, a4, a5⟩ := Qg h
  unfold LH
  show Option.bind (if e ≠ e then _ else if Ao p ≠ r.1 then _ else (AY p).bind fun x44 => (Bz r).bind fun x45 => (FF x44 x45).bind fun x46 => some (!x46, r.1, r.2.1, r.2.2)) _ = _
  rw [if_neg (by simp), if_neg (by unfold Ao; rw [h.st]; simp), a1, Option.bind_some, a2, Option.bind_some, LG (by omega) (fun m hm => (a4 m hm).1), Option.bind_some, Option.bind_some]
  show (if (!true) = true then _ else (some (.inl (t, Cc ((k : Int) + 1), r.1, r.2.1, r.2.2, p)) : Option RZ)) = _
  rw [if_neg (by decide), BC (by omega)]; rfl
structure J12 (ports room : Int) (t : List Rl) (r : DU) (p : Bd) : Prop where
  inv : Inv12 p r
  ok : IQ ports room t
  l36 : t.length ≤ 36
  l20 : p.1 ≠ 2 → t.length ≤ 20
theorem Qk {l : List Dd} (hI : ∀ d ∈ l, I4 d.2.2.2.1.2.1.2.1) {ports room : Int} {k : Nat} (hk : k < l.length) (hk2 : k < 40) {t : List Rl} {r : DU} {p : Bd} (j : J12 ports room t r p) :
    (∃ t' r' p', Cj l ports room (t, (k : Int), r.1, r.2.1, r.2.2, p) = some (.inl (t', ((k + 1 : Nat) : Int), r'.1, r'.2.1, r'.2.2, p')) ∧ J12 ports room t' r' p') ∨ Cj l ports room (t, (k : Int), r.1, r.2.1, r.2.2, p) = some (.inr (.inr true)) := by
  have hd : l[k]? = some l[k] := List.getElem?_eq_getElem hk
  have hg := hI _ (List.getElem_mem hk)
  generalize l[k] = d at hd hg
  rw [Cj, if_pos (by simp; omega)]
  simp only [Cd hd, Option.bind_some]
  by_cases c : 10 < (d.2.2.2.1.2.2.length : Int)
  · rw [if_pos c, IP]; exact .inr rfl
  · rw [if_neg c]
    left
    have hm : Gm d.2.2 := ⟨by omega, hg⟩
    have fin : ∀ {X : Option ((List Rl × Int × Int × Int × Int × List (Int × Md) × Bd) ⊕ RZ)} (t' : List Rl) (e : Int) (r' : DU) (p' : Bd), X = some (.inl (t', e, e, r'.1, r'.2.1, r'.2.2, p')) → J12 ports room t' r' p' → ∃ t' r' p', FR X (LH (k : Int)) = some (.inl (t', ((k + 1 : Nat) : Int), r'.1, r'.2.1, r'.2.2, p')) ∧ J12 ports room t' r' p' := fun t' e r' p' hX hJ =>
      ⟨t', r', p', by rw [hX, G9, Pa hJ.inv t' e (by omega)], hJ⟩
    have h100 : t.length ≤ 100 := by have := j.l36; omega
    by_cases c3 : d.1 = 0 ∨ d.1 = 1 ∨ d.1 = 2 ∨ d.1 = 3
    · have e3 : (if d.1 = 0 then some true else if d.1 = 1 then some true else if d.1 = 2 then some true else some (decide (d.1 = 3))) = some true := by
        rcases c3 with h | h | h | h <;> simp [h]
      obtain ⟨e, p', r', b1, b2, b3, b4⟩ := Rn j.inv d.2.1 hm
      refine fin t e r' p' ?_ ⟨b3, j.ok, j.l36, fun h => j.l20 (b4 ▸ h)⟩
      rw [e3, Option.bind_some, if_pos rfl, b1, Option.bind_some, show ((r.1, r.2.1, r.2.2) : DU) = r from rfl, b2]; rfl
    · have e3 : (if d.1 = 0 then some true else if d.1 = 1 then some true else if d.1 = 2 then some true else some (decide (d.1 = 3))) = some false := by
        have h0 : d.1 ≠ 0 := fun h => c3 (.inl h)
        have h1 : d.1 ≠ 1 := fun h => c3 (.inr (.inl h))
        have h2 : d.1 ≠ 2 := fun h => c3 (.inr (.inr (.inl h)))
        have h3 : d.1 ≠ 3 := fun h => c3 (.inr (.inr (.inr h)))
        simp [h0, h1, h2, h3]
      rw [e3, Option.bind_some, if_neg (by decide)]
      by_cases c4 : d.1 = 4
      · obtain ⟨e, p', r', b1, b2, b3, b4⟩ := O7 j.inv d.2.1
        refine fin t e r' p' ?_ ⟨b3, j.ok, j.l36, fun h => j.l20 (fun q => h (b4.1 q))⟩
        rw [if_pos c4, b1, Option.bind_some, show ((r.1, r.2.1, r.2.2) : DU) = r from rfl, b2]; rfl
      · rw [if_neg c4]
        by_cases c5 : d.1 = 5
        · obtain ⟨e, b1, b2⟩ := PS j.inv j.ok h100
          refine fin t e r p ?_ j
          rw [if_pos c5, b1, Option.bind_some, show ((r.1, r.2.1, r.2.2) : DU) = r from rfl, b2]; rfl
        · rw [if_neg c5]
          by_cases c6 : d.1 = 6
          · obtain ⟨t', e, p', r', b1, b2, b3, b4, b5⟩ := Ox j.inv j.ok h100
            have hl : t'.length ≤ 36 ∧ (p'.1 ≠ 2 → t'.length ≤ 20) := by
              rcases b5 with ⟨q1, q2⟩ | ⟨q1, q2, q3⟩
              · rw [q1, q2]; exact ⟨j.l36, j.l20⟩
              · have := j.l20 (by rw [q1]; decide)
                exact ⟨by omega, fun q => absurd q2 q⟩
            refine fin t' e r' p' ?_ ⟨b3, b4, hl.1, hl.2⟩
            rw [if_pos c6, b1, Option.bind_some, show ((r.1, r.2.1, r.2.2) : DU) = r from rfl, b2, Option.bind_some, Mf (by have := hl.1; show t'.length ≤ 1000; omega) (PH b4), Option.bind_some, if_neg (by decide)]
          · rw [if_neg c6]
            by_cases c7 : d.1 = 7
            · refine fin t 0 (2, r.2.1, []) (2, List.replicate 16 Nb) ?_ ⟨OY _, j.ok, j.l36, fun q => absurd rfl q⟩
              rw [if_pos c7]; rfl
            · refine fin t 0 r p ?_ j
              rw [if_neg c7]
theorem MF {l : List Dd} (hI : ∀ d ∈ l, I4 d.2.2.2.1.2.1.2.1) (ports room : Int) : ∀ (d k : Nat) (t : List Rl) (r : DU) (p : Bd), k + d = min l.length 40 → J12 ports room t r p →
    FR (AX (Cj l ports room) (t, (k : Int), r.1, r.2.1, r.2.2, p)) (fun (x4, x5, x6, x7) => (DV).bind fun x47 => some x47) = some true
  | 0, k, t, r, p, hk, j => by
    rw [BP (e := .inl (r.1, r.2.1, r.2.2, p)) (by rw [Cj, if_neg (by simp; omega)]), G9, IP]; rfl
  | d + 1, k, t, r, p, hk, j => by
    rcases Qk hI (k := k) (by omega) (by omega) j with ⟨t', r', p', h1, h2⟩ | h1
    · rw [Cg h1]; exact MF hI ports room d (k + 1) t' r' p' (by omega) h2
    · rw [BP h1]; rfl
theorem Id {l : List Dd} (hI : ∀ d ∈ l, I4 d.2.2.2.1.2.1.2.1) {t : List Rl} (ht : t.length ≤ 9223372036854775807) (hA : ∀ x ∈ t, x.2.2.length ≤ 9223372036854775807) (ports room : Int) : Du l t ports room = some true := by
  unfold Du
  by_cases c : 20 < (t.length : Int)
  · rw [if_pos c, Option.bind_some, if_pos rfl, IP]; rfl
  · rw [if_neg c, Qy (by omega) hA, Option.bind_some, Option.bind_some]
    by_cases h : IQ ports room t
    · rw [decide_eq_true h, if_neg (by decide)]
      exact MF hI ports room (min l.length 40) 0 t (0, 0, []) Ci (by omega) ⟨RJ, h, by omega, fun _ => by omega⟩
    · rw [decide_eq_false h, if_pos (by decide), IP]; rfl
theorem Ig (p0 : List Dd) {K : Bool → Prop} (ok0 : NH (CM LD (CM LD (CM LD (CM Pt K)))) p0) (p1 : List Rl) (ok1 : NH Pt p1) (p2 : Int) {A : Prop} (_ : A) (p3 : Int) {B : Prop} (_ : B) : Du p0 p1 p2 p3 = some true :=
  Id (fun d hd => Rm (ok0.2 d hd).2.2.2.1) ok1.1 (fun x hx => QC (ok1.2 x hx)) p2 p3
end Go.Proofs.Ytfnmlmglmegamaa
