/- Layer 25: on the way. Conditions: none. -/
import Derived.Test.YthhoflfhegfmcaacM25
namespace Go.Proofs.Ythhoflfhegfmcaa
set_option linter.unusedVariables false
set_option linter.unusedSimpArgs false
open Go Go.RowKit
abbrev Wi := List (Nat × List Int)
abbrev UG := List (Nat × List (Nat × List Int))
def Kk (n H : Nat) (R : Nat → Nat → Int) : List (List Int) := (List.range n).map fun s => (List.range H).map (R s)
def Jm (n H : Nat) (R : Nat → Nat → Int) : Wi := (List.range n).map fun s => (2, (List.range H).map (R s))
def Rh (n H : Nat) (M : Nat → Nat → List Int) : List (List (List Int)) := (List.range n).map fun s => (List.range H).map (M s)
def Mo (n H : Nat) (M : Nat → Nat → List Int) : UG := (List.range n).map fun s => (2, (List.range H).map fun h => (2, M s h))
theorem IK {α β γ : Type} {g : β → Option γ} {f : α → β} {k : α → γ} : ∀ {l : List α}, (∀ x ∈ l, g (f x) = some (k x)) → Gs g (l.map f) = some (l.map k)
  | [], _ => rfl
  | x :: l, h => by
    have ih := IK (g := g) (f := f) (k := k) (l := l) fun y hy => h y (List.mem_cons_of_mem _ hy)
    show (g (f x)).bind (fun a => (Gs g (l.map f)).bind fun b => some (a :: b)) = _
    rw [h x (List.mem_cons_self ..), ih]; rfl
theorem R6 (n H : Nat) (R : Nat → Nat → Int) : Gs PO (Jm n H R) = some (Kk n H R) := IK fun s _ => by show S9 _ = _; unfold S9; rw [if_pos (.inr rfl)]
theorem R8 (n H : Nat) (M : Nat → Nat → List Int) : Gs RP (Mo n H M) = some (Rh n H M) := IK fun s _ => by
  show Ux PO _ = _
  unfold Ux
  rw [if_pos rfl]
  exact IK fun h _ => by show S9 _ = _; unfold S9; rw [if_pos (.inr rfl)]
theorem Sy {t : Tp} {r : Rt} (ho : GG t r) : r = Kk t.1.toNat t.2.2.length (fun s h => Fm r s h) := by
  have hl := ho.2.1
  unfold Kk
  refine List.ext_getElem? fun s => ?_
  by_cases c : s < t.1.toNat
  · obtain ⟨row, e1, e2, e3, _, e5⟩ := ho.row (sw := s) ⟨by omega, by omega⟩
    rw [Int.toNat_natCast] at e2 e5
    rw [ER c, e2]
    congr 1
    refine List.ext_getElem? fun h => ?_
    by_cases d : h < t.2.2.length
    · rw [ER d]
      show row[h]? = some ((List.getD r ((s : Int)).toNat []).getD ((h : Int)).toNat 0)
      rw [Int.toNat_natCast, Int.toNat_natCast, e5, List.getD_eq_getElem?_getD]
      rw [List.getElem?_eq_getElem (by omega)]; rfl
    · rw [List.getElem?_eq_none (by omega), List.getElem?_eq_none (by simp; omega)]
  · rw [List.getElem?_eq_none (by omega), List.getElem?_eq_none (by simp; omega)]
theorem RA {l : List Int} (h : l.length ≤ 1000) : B8 l = some l := by
  unfold B8
  rw [Du (by simp; omega)]; rfl
theorem QM {n H : Nat} (hn : n ≤ 8) (hH : H ≤ 8) (R : Nat → Nat → Int) : CZ (Kk n H R) = some (Jm n H R) := by
  have hl : (Kk n H R).length = n := by unfold Kk; simp
  unfold CZ
  rw [Mj (Kk n H R) (by omega) (fun row => ((2 : Nat), row)) (CT (Kk n H R)) (fun k hk out ho => by
    have h1 : (Kk n H R)[k].length ≤ 1000 := by
      obtain ⟨s, _, e⟩ := List.mem_map.1 (show (Kk n H R)[k] ∈ (List.range n).map fun s => (List.range H).map (R s) from List.getElem_mem hk)
      rw [← e, List.length_map, List.length_range]; omega
    rw [CT, if_pos (by omega), AV (List.getElem?_eq_getElem hk), Option.bind_some, RA h1, Option.bind_some]) (fun out => by rw [CT, if_neg (by omega)]), Option.bind_some]
  unfold Kk Jm
  rw [List.map_map]; rfl
theorem IL {α : Type} (l : List α) (i : Nat) (x : α) : Ag l (i : Int) x = l.set i x := by unfold Ag; rw [Int.toNat_natCast]
def KJ (n H : Nat) (R : Nat → Nat → Int) (a b : Nat) : UG := (List.range n).map fun s => if s = a then (2, (List.range b).map fun h => (2, [R s h])) else if s < a then (2, (List.range H).map fun h => (2, [R s h])) else (2, [])
theorem QJ {n H : Nat} (hn : n ≤ 8) (hH : H ≤ 8) (R : Nat → Nat → Int) : DO (Kk n H R) = some (Mo n H (fun s h => [R s h])) := by
  have hl : (Kk n H R).length = n := by unfold Kk; simp
  unfold DO
  rw [hl, SC ⟨by omega, by omega⟩, Option.bind_some]
  have h0 : List.replicate (n : Int).toNat ((2, []) : Nat × List (Nat × List Int)) = KJ n H R 0 0 := by
    unfold KJ
    rw [Int.toNat_natCast, List.map_congr_left (g := fun _ => ((2, []) : Nat × List (Nat × List Int))) (fun s hs => by
      by_cases c : s = 0
      · rw [if_pos c]; rfl
      · rw [if_neg c, if_neg (by omega)])]
    rw [List.map_const', List.length_range]
  have hin : ∀ a, a < n → An (Cz (a : Int) ((List.range H).map (R a))) (KJ n H R a 0, 0) = some (KJ n H R a H) := fun a ha => by
    obtain ⟨s, h1, h2⟩ := Cl H (fun (x : UG) (k : Nat) => (x, (k : Int))) (Cz (a : Int) ((List.range H).map (R a))) id (fun x k => x = KJ n H R a k) (fun x k hk hI => by
      refine ⟨KJ n H R a (k + 1), ?_, rfl⟩
      subst hI
      have g1 : (KJ n H R a k)[a]? = some (2, (List.range k).map fun h => ((2 : Nat), [R a h])) := by unfold KJ; rw [ER ha, if_pos rfl]
      have g2 : ((KJ n H R a k).set a (0, []))[a]? = some (0, []) := List.getElem?_set_self (by unfold KJ; simp [ha])
      have e : ((KJ n H R a k).set a (0, [])).set a (2, (List.range k).map (fun h => ((2 : Nat), [R a h])) ++ [(2, [R a k])]) = KJ n H R a (k + 1) := by
        rw [List.set_set]
        unfold KJ
        rw [Lc]
        refine EO fun s hs => ?_
        by_cases c : s = a
        · subst c
          rw [if_pos rfl, if_pos rfl, List.range_succ, List.map_append]; rfl
        · rw [if_neg c, if_neg c, if_neg c]
      rw [Cz, if_pos (by simp; omega), AV (ER hk), Option.bind_some, AV g1, Option.bind_some]
      show (Il 2).bind _ = _
      unfold Il
      rw [if_pos rfl, Option.bind_some, Du (by simp; omega), Option.bind_some, IL, AV g2, Option.bind_some, IL, AL (by omega), e]; rfl)
      (fun x _ => by rw [Cz, if_neg (by simp)]; rfl) (KJ n H R a 0) rfl
    rw [show (KJ n H R a 0, (0 : Int)) = (KJ n H R a 0, ((0 : Nat) : Int)) from rfl, h2, h1]; rfl
  obtain ⟨s, h1, h2⟩ := Cl n (fun (x : UG) (k : Nat) => (x, (k : Int))) (CS (Kk n H R)) id (fun x k => x = KJ n H R k 0) (fun x k hk hI => by
    refine ⟨KJ n H R (k + 1) 0, ?_, rfl⟩
    subst hI
    have e : KJ n H R k H = KJ n H R (k + 1) 0 := by
      unfold KJ
      refine EO fun s hs => ?_
      by_cases c : s = k
      · subst c
        rw [if_pos rfl, if_neg (by omega), if_pos (by omega)]
      · rw [if_neg c]
        by_cases d : s = k + 1
        · subst d
          rw [if_neg (by omega), if_pos rfl]; rfl
        · rw [if_neg d]
          by_cases f : s < k
          · rw [if_pos f, if_pos (by omega)]
          · rw [if_neg f, if_neg (by omega)]
    rw [CS, if_pos (by omega), show ix (Kk n H R) (k : Int) = some ((List.range H).map (R k)) from AV (by unfold Kk; rw [ER hk]), Option.bind_some, hin k hk, Option.bind_some, AL (by omega), e]; rfl)
    (fun x _ => by rw [CS, if_neg (by omega)]; rfl) (KJ n H R 0 0) rfl
  rw [h0, show (KJ n H R 0 0, (0 : Int)) = (KJ n H R 0 0, ((0 : Nat) : Int)) from rfl, h2, Option.bind_some, h1]
  congr 1
  unfold KJ Mo
  exact EO fun s hs => by rw [if_neg (by omega), if_pos hs]
def J3 {α : Type} (f : Nat → Nat → α) (a b : Nat) (v : α) : Nat → Nat → α := fun s h => if s = a then (if h = b then v else f s h) else f s h
abbrev QP := (Nat → Nat → Int) × (Nat → Nat → List Int)
def Ji (t : Tp) (r : M8) (s : QP) (m : MS) : QP := if (EQ t m && Oi r m) = true then (J3 s.1 m.1.toNat m.2.1.toNat m.2.2.1, J3 s.2 m.1.toNat m.2.1.toNat (s.2 m.1.toNat m.2.1.toNat ++ [m.2.2.1])) else s
theorem SG {n H : Nat} {R : Nat → Nat → Int} {a b : Nat} (ha : a < n) (v : Int) : (Jm n H R).set a (2, ((List.range H).map (R a)).set b v) = Jm n H (J3 R a b v) := by
  unfold Jm
  rw [Lc]
  refine EO fun s hs => ?_
  by_cases c : s = a
  · subst c
    rw [if_pos rfl, Lc]
    congr 1
    exact EO fun h _ => by unfold J3; rw [if_pos rfl]
  · rw [if_neg c]
    congr 1
    exact EO fun h _ => by unfold J3; rw [if_neg c]
theorem SU {n H : Nat} {M : Nat → Nat → List Int} {a b : Nat} (ha : a < n) (v : List Int) : (Mo n H M).set a (2, ((List.range H).map fun h => ((2 : Nat), M a h)).set b (2, v)) = Mo n H (J3 M a b v) := by
  unfold Mo
  rw [Lc]
  refine EO fun s hs => ?_
  by_cases c : s = a
  · subst c
    rw [if_pos rfl, Lc]
    congr 1
    exact EO fun h _ => by
      unfold J3
      rw [if_pos rfl]
      by_cases d : h = b
      · rw [if_pos d, if_pos d]
      · rw [if_neg d, if_neg d]
  · rw [if_neg c]
    congr 1
    exact EO fun h _ => by unfold J3; rw [if_neg c]
theorem Qv : Il 2 = some () := by unfold Il; rw [if_pos rfl]
theorem Td : Ol 2 = some () := by unfold Ol; rw [if_pos (.inr rfl)]
section
variable {t : Tp} {old now : Rt} {P : Pn}
theorem R9 (ht : La t) (ok : Np P) {r : M8} (hr : r.2.2.length ≤ 20) (s0 : QP) (hs0 : ∀ a b, (s0.2 a b).length ≤ 1) :
    An (A1 (t, old, now, P) r) (Jm t.1.toNat t.2.2.length s0.1, Mo t.1.toNat t.2.2.length s0.2, 0) = some (Jm t.1.toNat t.2.2.length (P.1.foldl (Ji t r) s0).1, Mo t.1.toNat t.2.2.length (P.1.foldl (Ji t r) s0).2) := by
  have h40 := ok.1
  have h := Fv P.1 (fun (s : QP) (k : Nat) => (Jm t.1.toNat t.2.2.length s.1, Mo t.1.toNat t.2.2.length s.2, (k : Int))) (Ji t r) (A1 (t, old, now, P) r) (fun s => (Jm t.1.toNat t.2.2.length s.1, Mo t.1.toNat t.2.2.length s.2)) (fun s k => ∀ a b, (s.2 a b).length ≤ 1 + k) s0 hs0
    (fun s k hk hG => by
      have hm := List.getElem?_eq_getElem hk
      generalize P.1[k] = m at hm
      refine ⟨?_, ?_⟩
      · rw [A1, if_pos (by show (k : Int) < (P.1.length : Int); omega)]
        show Option.bind (Option.bind (ix P.1 (k : Int)) _) _ = _
        rw [AV hm, Option.bind_some]
        have hst : (if (AU (t, old, now, P) m) = true then (Cu r m).bind fun x22 => some (Jm t.1.toNat t.2.2.length s.1, Mo t.1.toNat t.2.2.length s.2, x22) else some (Jm t.1.toNat t.2.2.length s.1, Mo t.1.toNat t.2.2.length s.2, false)) = some (Jm t.1.toNat t.2.2.length s.1, Mo t.1.toNat t.2.2.length s.2, EQ t m && Oi r m) := by
          show (if EQ t m = true then _ else _) = _
          by_cases c : EQ t m = true
          · rw [if_pos c, LA (by omega), c]; rfl
          · rw [if_neg c]
            rw [Bool.not_eq_true] at c
            rw [c]; rfl
        rw [hst, Option.bind_some]
        show Option.bind (if (EQ t m && Oi r m) = true then _ else _) _ = _
        unfold Ji
        by_cases c : (EQ t m && Oi r m) = true
        · rw [if_pos c, if_pos c]
          obtain ⟨⟨a0, a1⟩, b0, b1⟩ := Ki.1 (Bool.and_eq_true_iff.1 c).1
          obtain ⟨a, ha⟩ : ∃ a : Nat, m.1 = (a : Int) := ⟨m.1.toNat, by omega⟩
          obtain ⟨b, hb⟩ : ∃ b : Nat, m.2.1 = (b : Int) := ⟨m.2.1.toNat, by omega⟩
          rw [ha] at a1
          rw [hb] at b1
          have hA : a < t.1.toNat := by omega
          have hB : b < t.2.2.length := by omega
          have e1 : (Mo t.1.toNat t.2.2.length s.2)[a]? = some (2, (List.range t.2.2.length).map fun h => ((2 : Nat), s.2 a h)) := by unfold Mo; rw [ER hA]
          have e2 : ((List.range t.2.2.length).map fun h => ((2 : Nat), s.2 a h))[b]? = some (2, s.2 a b) := ER hB
          have e3 : (((List.range t.2.2.length).map fun h => ((2 : Nat), s.2 a h)).set b (0, []))[b]? = some (0, []) := List.getElem?_set_self (by simp [hB])
          have e4 : (Jm t.1.toNat t.2.2.length s.1)[a]? = some (2, (List.range t.2.2.length).map (s.1 a)) := by unfold Jm; rw [ER hA]
          have e5 : ((List.range t.2.2.length).map (s.1 a))[b]? = some (s.1 a b) := ER hB
          have hlen := hG a b
          rw [ha, hb, AV e1, Option.bind_some]
          show Option.bind (Option.bind (ix ((List.range t.2.2.length).map fun h => ((2 : Nat), s.2 a h)) (b : Int)) _) _ = _
          rw [AV e2, Option.bind_some]
          show Option.bind (Option.bind (Il 2) fun _ => (Il 2).bind fun _ => (FD (s.2 a b) [m.2.2.1]).bind _) _ = _
          rw [Qv, Option.bind_some, Option.bind_some, Du (by simp; omega), Option.bind_some]
          show Option.bind (Option.bind (ix (Ag ((List.range t.2.2.length).map fun h => ((2 : Nat), s.2 a h)) (b : Int) (0, [])) (b : Int)) _) _ = _
          rw [IL, AV e3, Option.bind_some, AV e4, Option.bind_some]
          show Option.bind (Option.bind (ix ((List.range t.2.2.length).map (s.1 a)) (b : Int)) _) _ = _
          rw [AV e5, Option.bind_some]
          show Option.bind (Option.bind (Ol 2) fun _ => (Il 2).bind fun _ => some (Ag (Jm t.1.toNat t.2.2.length s.1) (a : Int) (2, Ag ((List.range t.2.2.length).map (s.1 a)) (b : Int) m.2.2.1), Ag (Ag (Mo t.1.toNat t.2.2.length s.2) (a : Int) (2, ((List.range t.2.2.length).map fun h => ((2 : Nat), s.2 a h)).set b (0, []))) (a : Int) (2, Ag (((List.range t.2.2.length).map fun h => ((2 : Nat), s.2 a h)).set b (0, [])) (b : Int) (2, s.2 a b ++ [m.2.2.1])))) _ = _
          rw [Td, Option.bind_some, Qv, Option.bind_some, Option.bind_some]
          simp only [IL, List.set_set, Int.toNat_natCast]
          rw [SG hA, SU hA, AL (by omega)]; rfl
        · rw [if_neg c, if_neg c, Option.bind_some, AL (by omega)]; rfl
      · intro a b
        unfold Ji
        by_cases c : (EQ t m && Oi r m) = true
        · rw [if_pos c]
          show (J3 s.2 _ _ _ a b).length ≤ _
          unfold J3
          have := hG m.1.toNat m.2.1.toNat
          have := hG a b
          split
          · split
            · rw [List.length_append, List.length_singleton]; omega
            · omega
          · omega
        · rw [if_neg c]
          have := hG a b
          omega)
    (fun s => by rw [A1, if_neg (by show ¬ (P.1.length : Int) < (P.1.length : Int); omega)])
  exact h.1
def EW (r : M8) (s h : Int) (m : MS) : Bool := decide (m.1 = s) && (decide (m.2.1 = h) && Oi r m)
def Sg (r : M8) (L : List MS) (s h : Int) (x : Int) : Int := L.foldl (fun x m => if EW r s h m = true then m.2.2.1 else x) x
def VO (r : M8) (L : List MS) (s h : Int) (x : Int) : List Int := x :: (L.filter (EW r s h)).map (·.2.2.1)
def HB (P : Pn) (old : Rt) (k : Nat) (s h : Int) : Int := (P.2.1.take k).foldl (fun x r => Sg r P.1 s h x) (Fm old s h)
theorem Tn {r : M8} {m : MS} {s h : Nat} (hs : s < t.1.toNat) (hh : h < t.2.2.length) : EW r s h m = ((EQ t m && Oi r m) && (decide (m.1.toNat = s) && decide (m.2.1.toNat = h))) := by
  rw [Bool.eq_iff_iff]
  unfold EW
  simp only [Bool.and_eq_true, decide_eq_true_eq, Ki]
  constructor
  · rintro ⟨h1, h2, h3⟩
    exact ⟨⟨⟨⟨by omega, by omega⟩, by omega, by omega⟩, h3⟩, by omega, by omega⟩
  · rintro ⟨⟨⟨⟨a, b⟩, c, d⟩, e⟩, f, g⟩
    exact ⟨by omega, by omega, e⟩
theorem Oq {r : M8} {s h : Nat} (hs : s < t.1.toNat) (hh : h < t.2.2.length) : ∀ (L : List MS) (q : QP), (L.foldl (Ji t r) q).1 s h = Sg r L s h (q.1 s h) ∧ (L.foldl (Ji t r) q).2 s h = q.2 s h ++ (L.filter (EW r s h)).map (·.2.2.1)
  | [], q => ⟨rfl, by simp⟩
  | m :: L, q => by
    have ih := Oq (r := r) hs hh L (Ji t r q m)
    have hhit := Tn (t := t) (r := r) (m := m) hs hh
    show (L.foldl (Ji t r) (Ji t r q m)).1 s h = Sg r L s h (if EW r s h m = true then m.2.2.1 else q.1 s h) ∧ _
    rw [List.foldl_cons, ih.1, ih.2, List.filter_cons]
    unfold Ji
    by_cases c : (EQ t m && Oi r m) = true
    · rw [if_pos c]
      rw [c, Bool.true_and] at hhit
      show Sg r L s h (J3 q.1 _ _ _ s h) = _ ∧ J3 q.2 _ _ _ s h ++ _ = _
      unfold J3
      by_cases d : s = m.1.toNat
      · by_cases e : h = m.2.1.toNat
        · rw [if_pos d, if_pos e, if_pos d, if_pos e, hhit, decide_eq_true d.symm, decide_eq_true e.symm]
          refine ⟨rfl, ?_⟩
          rw [← d, ← e]
          simp
        · rw [if_pos d, if_neg e, if_pos d, if_neg e, hhit, decide_eq_false (show ¬ m.2.1.toNat = h from fun q => e q.symm), Bool.and_false]
          exact ⟨rfl, rfl⟩
      · rw [if_neg d, if_neg d, hhit, decide_eq_false (show ¬ m.1.toNat = s from fun q => d q.symm), Bool.false_and]
        exact ⟨rfl, rfl⟩
    · rw [if_neg c]
      rw [Bool.not_eq_true] at c
      rw [hhit, c, Bool.false_and]
      exact ⟨rfl, rfl⟩
theorem RN (ok : Np P) {j : Nat} {r : M8} (hj : P.2.1[j]? = some r) (hr : r.2.2.length ≤ 20) (s h x : Int) : An (Gf P s h (j : Int)) (x, 0) = some (Sg r P.1 s h x) := by
  have h40 := ok.1
  have hh := Fv P.1 (fun (y : Int) (k : Nat) => (y, (k : Int))) (fun x m => if EW r s h m = true then m.2.2.1 else x) (Gf P s h (j : Int)) id (fun _ _ => True) x trivial (fun y k hk _ => ⟨by
    have hm := AV (List.getElem?_eq_getElem hk)
    generalize P.1[k] = m at hm
    rw [Gf, if_pos (by omega), hm, Option.bind_some]
    have e : (if m.1 = s then (some m).bind fun x12 => (if x12.2.1 = h then (some m).bind fun x13 => (Ht P (j : Int) x13).bind fun x14 => some x14 else some false) else some false) = some (EW r s h m) := by
      unfold EW
      by_cases c1 : m.1 = s
      · rw [if_pos c1, Option.bind_some]
        by_cases c2 : m.2.1 = h
        · rw [if_pos c2, Option.bind_some, Tu hj (by omega), decide_eq_true c1, decide_eq_true c2]; rfl
        · rw [if_neg c2, decide_eq_false c2]; simp
      · rw [if_neg c1, decide_eq_false c1]; simp
    rw [e, Option.bind_some, AL (by omega)]
    by_cases c : EW r s h m = true
    · rw [if_pos c, if_pos c]; rfl
    · rw [if_neg c, if_neg c]; rfl, trivial⟩) (fun y => by rw [Gf, if_neg (by omega)]; rfl)
  exact hh.1
theorem Ub (ho : GG t old) (ok : Np P) {k : Nat} (hk : k ≤ P.2.1.length) {s h : Nat} (hs : (s : Int) < t.1) (hh : h < t.2.2.length) : Kh old P (k : Int) s h = some (HB P old k s h) := by
  have h12 := ok.2.1
  obtain ⟨ro, f1, _, f2, _⟩ := ho.port (sw := s) (h := h) ⟨by omega, hs⟩ ⟨by omega, by omega⟩
  unfold Kh
  rw [f1, Option.bind_some, f2, Option.bind_some]
  have hl : (P.2.1.take k).length = k := by rw [List.length_take]; omega
  have h1 := Fv (P.2.1.take k) (fun (y : Int) (j : Nat) => (y, (j : Int))) (fun x r => Sg r P.1 s h x) (Ho P (k : Int) s h) id (fun _ _ => True) (Fm old s h) trivial (fun y j hj _ => ⟨by
    have hj' : j < k := by omega
    have hr : P.2.1[j]? = some (P.2.1.take k)[j] := by rw [← List.getElem?_eq_getElem hj, List.getElem?_take_of_lt hj']
    have hr2 := ok.2.2 _ (List.mem_of_getElem? hr)
    rw [Ho, if_pos (by omega), RN ok hr hr2, Option.bind_some, AL (by omega)]; rfl, trivial⟩) (fun y => by rw [Ho, if_neg (by rw [hl]; omega)]; rfl)
  rw [show (Fm old s h, (0 : Int)) = (Fm old s h, ((0 : Nat) : Int)) from rfl, h1.1, Option.bind_some]; rfl
end
end Go.Proofs.Ythhoflfhegfmcaa
