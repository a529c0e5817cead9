/- Layer 25: on the way. Conditions: none. -/
import Derived.Test.YthhoflfhegfmcaabM25
namespace Go.Proofs.Ythhoflfhegfmcaa
set_option linter.unusedVariables false
set_option linter.unusedSimpArgs false
open Go Go.RowKit
abbrev Xf := List (Nat × List Int)
abbrev V3 := List (Nat × List (Nat × List Int))
def Pf (n H : Nat) (R : Nat → Nat → Int) : List (List Int) := (List.range n).map fun s => (List.range H).map (R s)
def Kd (n H : Nat) (R : Nat → Nat → Int) : Xf := (List.range n).map fun s => (2, (List.range H).map (R s))
def SN (n H : Nat) (M : Nat → Nat → List Int) : List (List (List Int)) := (List.range n).map fun s => (List.range H).map (M s)
def NU (n H : Nat) (M : Nat → Nat → List Int) : V3 := (List.range n).map fun s => (2, (List.range H).map fun h => (2, M s h))
theorem JM {α β γ : Type} {g : β → Option γ} {f : α → β} {k : α → γ} : ∀ {l : List α}, (∀ x ∈ l, g (f x) = some (k x)) → Hg g (l.map f) = some (l.map k)
  | [], _ => rfl
  | x :: l, h => by
    have ih := JM (g := g) (f := f) (k := k) (l := l) fun y hy => h y (List.mem_cons_of_mem _ hy)
    show (g (f x)).bind (fun a => (Hg g (l.map f)).bind fun b => some (a :: b)) = _
    rw [h x (List.mem_cons_self ..), ih]; rfl
theorem Tj (n H : Nat) (R : Nat → Nat → Int) : Hg Rj (Kd n H R) = some (Pf n H R) := JM fun s _ => by show Uq _ = _; unfold Uq; rw [if_pos (.inr rfl)]
theorem TR (n H : Nat) (M : Nat → Nat → List Int) : Hg Tn (NU n H M) = some (SN n H M) := JM fun s _ => by
  show Vc Rj _ = _
  unfold Vc
  rw [if_pos rfl]
  exact JM fun h _ => by show Uq _ = _; unfold Uq; rw [if_pos (.inr rfl)]
theorem Vj {t : Tp} {r : Rt} (ho : EY t r) : r = Pf t.1.toNat t.2.2.length (fun s h => FQ r s h) := by
  have hl := ho.2.1
  unfold Pf
  refine List.ext_getElem? fun s => ?_
  by_cases c : s < t.1.toNat
  · obtain ⟨row, e1, e2, e3, _, e5⟩ := ho.row (sw := s) ⟨by omega, by omega⟩
    rw [Int.toNat_natCast] at e2 e5
    rw [F8 c, e2]
    congr 1
    refine List.ext_getElem? fun h => ?_
    by_cases d : h < t.2.2.length
    · rw [F8 d]
      show row[h]? = some ((List.getD r ((s : Int)).toNat []).getD ((h : Int)).toNat 0)
      rw [Int.toNat_natCast, Int.toNat_natCast, e5, List.getD_eq_getElem?_getD]
      rw [List.getElem?_eq_getElem (by omega)]; rfl
    · rw [List.getElem?_eq_none (by omega), List.getElem?_eq_none (by simp; omega)]
  · rw [List.getElem?_eq_none (by omega), List.getElem?_eq_none (by simp; omega)]
theorem S7 {l : List Int} (h : l.length ≤ 1000) : Cn l = some l := by
  unfold Cn
  rw [Dc (by simp; omega)]; rfl
theorem Rq {n H : Nat} (hn : n ≤ 8) (hH : H ≤ 8) (R : Nat → Nat → Int) : Dg (Pf n H R) = some (Kd n H R) := by
  have hl : (Pf n H R).length = n := by unfold Pf; simp
  unfold Dg
  rw [M9 (Pf n H R) (by omega) (fun row => ((2 : Nat), row)) (Db (Pf n H R)) (fun k hk out ho => by
    have h1 : (Pf n H R)[k].length ≤ 1000 := by
      obtain ⟨s, _, e⟩ := List.mem_map.1 (show (Pf n H R)[k] ∈ (List.range n).map fun s => (List.range H).map (R s) from List.getElem_mem hk)
      rw [← e, List.length_map, List.length_range]; omega
    rw [Db, if_pos (by omega), AV (List.getElem?_eq_getElem hk), Option.bind_some, S7 h1, Option.bind_some]) (fun out => by rw [Db, if_neg (by omega)]), Option.bind_some]
  unfold Pf Kd
  rw [List.map_map]; rfl
theorem JJ {α : Type} (l : List α) (i : Nat) (x : α) : Am l (i : Int) x = l.set i x := by unfold Am; rw [Int.toNat_natCast]
def LB (n H : Nat) (R : Nat → Nat → Int) (a b : Nat) : V3 := (List.range n).map fun s => if s = a then (2, (List.range b).map fun h => (2, [R s h])) else if s < a then (2, (List.range H).map fun h => (2, [R s h])) else (2, [])
theorem R1 {n H : Nat} (hn : n ≤ 8) (hH : H ≤ 8) (R : Nat → Nat → Int) : D7 (Pf n H R) = some (NU n H (fun s h => [R s h])) := by
  have hl : (Pf n H R).length = n := by unfold Pf; simp
  unfold D7
  rw [hl, TW ⟨by omega, by omega⟩, Option.bind_some]
  have h0 : List.replicate (n : Int).toNat ((2, []) : Nat × List (Nat × List Int)) = LB n H R 0 0 := by
    unfold LB
    rw [Int.toNat_natCast, List.map_congr_left (g := fun _ => ((2, []) : Nat × List (Nat × List Int))) (fun s hs => by
      by_cases c : s = 0
      · rw [if_pos c]; rfl
      · rw [if_neg c, if_neg (by omega)])]
    rw [List.map_const', List.length_range]
  have hin : ∀ a, a < n → Au (CQ (a : Int) ((List.range H).map (R a))) (LB n H R a 0, 0) = some (LB n H R a H) := fun a ha => by
    obtain ⟨s, h1, h2⟩ := CE H (fun (x : V3) (k : Nat) => (x, (k : Int))) (CQ (a : Int) ((List.range H).map (R a))) id (fun x k => x = LB n H R a k) (fun x k hk hI => by
      refine ⟨LB n H R a (k + 1), ?_, rfl⟩
      subst hI
      have g1 : (LB n H R a k)[a]? = some (2, (List.range k).map fun h => ((2 : Nat), [R a h])) := by unfold LB; rw [F8 ha, if_pos rfl]
      have g2 : ((LB n H R a k).set a (0, []))[a]? = some (0, []) := List.getElem?_set_self (by unfold LB; simp [ha])
      have e : ((LB n H R a k).set a (0, [])).set a (2, (List.range k).map (fun h => ((2 : Nat), [R a h])) ++ [(2, [R a k])]) = LB n H R a (k + 1) := by
        rw [List.set_set]
        unfold LB
        rw [LW]
        refine F1 fun s hs => ?_
        by_cases c : s = a
        · subst c
          rw [if_pos rfl, if_pos rfl, List.range_succ, List.map_append]; rfl
        · rw [if_neg c, if_neg c, if_neg c]
      rw [CQ, if_pos (by simp; omega), AV (F8 hk), Option.bind_some, AV g1, Option.bind_some]
      show (JB 2).bind _ = _
      unfold JB
      rw [if_pos rfl, Option.bind_some, Dc (by simp; omega), Option.bind_some, JJ, AV g2, Option.bind_some, JJ, AJ (by omega), e]; rfl)
      (fun x _ => by rw [CQ, if_neg (by simp)]; rfl) (LB n H R a 0) rfl
    rw [show (LB n H R a 0, (0 : Int)) = (LB n H R a 0, ((0 : Nat) : Int)) from rfl, h2, h1]; rfl
  obtain ⟨s, h1, h2⟩ := CE n (fun (x : V3) (k : Nat) => (x, (k : Int))) (Da (Pf n H R)) id (fun x k => x = LB n H R k 0) (fun x k hk hI => by
    refine ⟨LB n H R (k + 1) 0, ?_, rfl⟩
    subst hI
    have e : LB n H R k H = LB n H R (k + 1) 0 := by
      unfold LB
      refine F1 fun s hs => ?_
      by_cases c : s = k
      · subst c
        rw [if_pos rfl, if_neg (by omega), if_pos (by omega)]
      · rw [if_neg c]
        by_cases d : s = k + 1
        · subst d
          rw [if_neg (by omega), if_pos rfl]; rfl
        · rw [if_neg d]
          by_cases f : s < k
          · rw [if_pos f, if_pos (by omega)]
          · rw [if_neg f, if_neg (by omega)]
    rw [Da, if_pos (by omega), show ix (Pf n H R) (k : Int) = some ((List.range H).map (R k)) from AV (by unfold Pf; rw [F8 hk]), Option.bind_some, hin k hk, Option.bind_some, AJ (by omega), e]; rfl)
    (fun x _ => by rw [Da, if_neg (by omega)]; rfl) (LB n H R 0 0) rfl
  rw [h0, show (LB n H R 0 0, (0 : Int)) = (LB n H R 0 0, ((0 : Nat) : Int)) from rfl, h2, Option.bind_some, h1]
  congr 1
  unfold LB NU
  exact F1 fun s hs => by rw [if_neg (by omega), if_pos hs]
def KL {α : Type} (f : Nat → Nat → α) (a b : Nat) (v : α) : Nat → Nat → α := fun s h => if s = a then (if h = b then v else f s h) else f s h
abbrev R9 := (Nat → Nat → Int) × (Nat → Nat → List Int)
def Kc (t : Tp) (r : O3) (s : R9) (m : N9) : R9 := if (DM t m && OX r m) = true then (KL s.1 m.1.toNat m.2.1.toNat m.2.2.1, KL s.2 m.1.toNat m.2.1.toNat (s.2 m.1.toNat m.2.1.toNat ++ [m.2.2.1])) else s
theorem UG {n H : Nat} {R : Nat → Nat → Int} {a b : Nat} (ha : a < n) (v : Int) : (Kd n H R).set a (2, ((List.range H).map (R a)).set b v) = Kd n H (KL R a b v) := by
  unfold Kd
  rw [LW]
  refine F1 fun s hs => ?_
  by_cases c : s = a
  · subst c
    rw [if_pos rfl, LW]
    congr 1
    exact F1 fun h _ => by unfold KL; rw [if_pos rfl]
  · rw [if_neg c]
    congr 1
    exact F1 fun h _ => by unfold KL; rw [if_neg c]
theorem UR {n H : Nat} {M : Nat → Nat → List Int} {a b : Nat} (ha : a < n) (v : List Int) : (NU n H M).set a (2, ((List.range H).map fun h => ((2 : Nat), M a h)).set b (2, v)) = NU n H (KL M a b v) := by
  unfold NU
  rw [LW]
  refine F1 fun s hs => ?_
  by_cases c : s = a
  · subst c
    rw [if_pos rfl, LW]
    congr 1
    exact F1 fun h _ => by
      unfold KL
      rw [if_pos rfl]
      by_cases d : h = b
      · rw [if_pos d, if_pos d]
      · rw [if_neg d, if_neg d]
  · rw [if_neg c]
    congr 1
    exact F1 fun h _ => by unfold KL; rw [if_neg c]
theorem R4 : JB 2 = some () := by unfold JB; rw [if_pos rfl]
theorem Us : PQ 2 = some () := by unfold PQ; rw [if_pos (.inr rfl)]
section
variable {t : Tp} {old now : Rt} {P : Pn}
theorem ST (ht : KX t) (ok : LN P) {r : O3} (hr : r.2.2.length ≤ 20) (s0 : R9) (hs0 : ∀ a b, (s0.2 a b).length ≤ 1) :
    Au (Bc (t, old, now, P) r) (Kd t.1.toNat t.2.2.length s0.1, NU t.1.toNat t.2.2.length s0.2, 0) = some (Kd t.1.toNat t.2.2.length (P.1.foldl (Kc t r) s0).1, NU t.1.toNat t.2.2.length (P.1.foldl (Kc t r) s0).2) := by
  have h40 := ok.1
  have h := EM P.1 (fun (s : R9) (k : Nat) => (Kd t.1.toNat t.2.2.length s.1, NU t.1.toNat t.2.2.length s.2, (k : Int))) (Kc t r) (Bc (t, old, now, P) r) (fun s => (Kd t.1.toNat t.2.2.length s.1, NU t.1.toNat t.2.2.length s.2)) (fun s k => ∀ a b, (s.2 a b).length ≤ 1 + k) s0 hs0
    (fun s k hk hG => by
      have hm := List.getElem?_eq_getElem hk
      generalize P.1[k] = m at hm
      refine ⟨?_, ?_⟩
      · rw [Bc, if_pos (by show (k : Int) < (P.1.length : Int); omega)]
        show Option.bind (Option.bind (ix P.1 (k : Int)) _) _ = _
        rw [AV hm, Option.bind_some]
        have hst : (if (A6 (t, old, now, P) m) = true then (CK r m).bind fun x22 => some (Kd t.1.toNat t.2.2.length s.1, NU t.1.toNat t.2.2.length s.2, x22) else some (Kd t.1.toNat t.2.2.length s.1, NU t.1.toNat t.2.2.length s.2, false)) = some (Kd t.1.toNat t.2.2.length s.1, NU t.1.toNat t.2.2.length s.2, DM t m && OX r m) := by
          show (if DM t m = true then _ else _) = _
          by_cases c : DM t m = true
          · rw [if_pos c, Mg (by omega), c]; rfl
          · rw [if_neg c]
            rw [Bool.not_eq_true] at c
            rw [c]; rfl
        rw [hst, Option.bind_some]
        show Option.bind (if (DM t m && OX r m) = true then _ else _) _ = _
        unfold Kc
        by_cases c : (DM t m && OX r m) = true
        · rw [if_pos c, if_pos c]
          obtain ⟨⟨a0, a1⟩, b0, b1⟩ := HK.1 (Bool.and_eq_true_iff.1 c).1
          obtain ⟨a, ha⟩ : ∃ a : Nat, m.1 = (a : Int) := ⟨m.1.toNat, by omega⟩
          obtain ⟨b, hb⟩ : ∃ b : Nat, m.2.1 = (b : Int) := ⟨m.2.1.toNat, by omega⟩
          rw [ha] at a1
          rw [hb] at b1
          have hA : a < t.1.toNat := by omega
          have hB : b < t.2.2.length := by omega
          have e1 : (NU t.1.toNat t.2.2.length s.2)[a]? = some (2, (List.range t.2.2.length).map fun h => ((2 : Nat), s.2 a h)) := by unfold NU; rw [F8 hA]
          have e2 : ((List.range t.2.2.length).map fun h => ((2 : Nat), s.2 a h))[b]? = some (2, s.2 a b) := F8 hB
          have e3 : (((List.range t.2.2.length).map fun h => ((2 : Nat), s.2 a h)).set b (0, []))[b]? = some (0, []) := List.getElem?_set_self (by simp [hB])
          have e4 : (Kd t.1.toNat t.2.2.length s.1)[a]? = some (2, (List.range t.2.2.length).map (s.1 a)) := by unfold Kd; rw [F8 hA]
          have e5 : ((List.range t.2.2.length).map (s.1 a))[b]? = some (s.1 a b) := F8 hB
          have hlen := hG a b
          rw [ha, hb, AV e1, Option.bind_some]
          show Option.bind (Option.bind (ix ((List.range t.2.2.length).map fun h => ((2 : Nat), s.2 a h)) (b : Int)) _) _ = _
          rw [AV e2, Option.bind_some]
          show Option.bind (Option.bind (JB 2) fun _ => (JB 2).bind fun _ => (Fo (s.2 a b) [m.2.2.1]).bind _) _ = _
          rw [R4, Option.bind_some, Option.bind_some, Dc (by simp; omega), Option.bind_some]
          show Option.bind (Option.bind (ix (Am ((List.range t.2.2.length).map fun h => ((2 : Nat), s.2 a h)) (b : Int) (0, [])) (b : Int)) _) _ = _
          rw [JJ, AV e3, Option.bind_some, AV e4, Option.bind_some]
          show Option.bind (Option.bind (ix ((List.range t.2.2.length).map (s.1 a)) (b : Int)) _) _ = _
          rw [AV e5, Option.bind_some]
          show Option.bind (Option.bind (PQ 2) fun _ => (JB 2).bind fun _ => some (Am (Kd t.1.toNat t.2.2.length s.1) (a : Int) (2, Am ((List.range t.2.2.length).map (s.1 a)) (b : Int) m.2.2.1), Am (Am (NU t.1.toNat t.2.2.length s.2) (a : Int) (2, ((List.range t.2.2.length).map fun h => ((2 : Nat), s.2 a h)).set b (0, []))) (a : Int) (2, Am (((List.range t.2.2.length).map fun h => ((2 : Nat), s.2 a h)).set b (0, [])) (b : Int) (2, s.2 a b ++ [m.2.2.1])))) _ = _
          rw [Us, Option.bind_some, R4, Option.bind_some, Option.bind_some]
          simp only [JJ, List.set_set, Int.toNat_natCast]
          rw [UG hA, UR hA, AJ (by omega)]; rfl
        · rw [if_neg c, if_neg c, Option.bind_some, AJ (by omega)]; rfl
      · intro a b
        unfold Kc
        by_cases c : (DM t m && OX r m) = true
        · rw [if_pos c]
          show (KL s.2 _ _ _ a b).length ≤ _
          unfold KL
          have := hG m.1.toNat m.2.1.toNat
          have := hG a b
          split
          · split
            · rw [List.length_append, List.length_singleton]; omega
            · omega
          · omega
        · rw [if_neg c]
          have := hG a b
          omega)
    (fun s => by rw [Bc, if_neg (by show ¬ (P.1.length : Int) < (P.1.length : Int); omega)])
  exact h.1
def FV (r : O3) (s h : Int) (m : N9) : Bool := decide (m.1 = s) && (decide (m.2.1 = h) && OX r m)
def U5 (r : O3) (L : List N9) (s h : Int) (x : Int) : Int := L.foldl (fun x m => if FV r s h m = true then m.2.2.1 else x) x
def WQ (r : O3) (L : List N9) (s h : Int) (x : Int) : List Int := x :: (L.filter (FV r s h)).map (·.2.2.1)
def KJ (P : Pn) (old : Rt) (k : Nat) (s h : Int) : Int := (P.2.1.take k).foldl (fun x r => U5 r P.1 s h x) (FQ old s h)
theorem UF {r : O3} {m : N9} {s h : Nat} (hs : s < t.1.toNat) (hh : h < t.2.2.length) : FV r s h m = ((DM t m && OX r m) && (decide (m.1.toNat = s) && decide (m.2.1.toNat = h))) := by
  rw [Bool.eq_iff_iff]
  unfold FV
  simp only [Bool.and_eq_true, decide_eq_true_eq, HK]
  constructor
  · rintro ⟨h1, h2, h3⟩
    exact ⟨⟨⟨⟨by omega, by omega⟩, by omega, by omega⟩, h3⟩, by omega, by omega⟩
  · rintro ⟨⟨⟨⟨a, b⟩, c, d⟩, e⟩, f, g⟩
    exact ⟨by omega, by omega, e⟩
theorem PL {r : O3} {s h : Nat} (hs : s < t.1.toNat) (hh : h < t.2.2.length) : ∀ (L : List N9) (q : R9), (L.foldl (Kc t r) q).1 s h = U5 r L s h (q.1 s h) ∧ (L.foldl (Kc t r) q).2 s h = q.2 s h ++ (L.filter (FV r s h)).map (·.2.2.1)
  | [], q => ⟨rfl, by simp⟩
  | m :: L, q => by
    have ih := PL (r := r) hs hh L (Kc t r q m)
    have hhit := UF (t := t) (r := r) (m := m) hs hh
    show (L.foldl (Kc t r) (Kc t r q m)).1 s h = U5 r L s h (if FV r s h m = true then m.2.2.1 else q.1 s h) ∧ _
    rw [List.foldl_cons, ih.1, ih.2, List.filter_cons]
    unfold Kc
    by_cases c : (DM t m && OX r m) = true
    · rw [if_pos c]
      rw [c, Bool.true_and] at hhit
      show U5 r L s h (KL q.1 _ _ _ s h) = _ ∧ KL q.2 _ _ _ s h ++ _ = _
      unfold KL
      by_cases d : s = m.1.toNat
      · by_cases e : h = m.2.1.toNat
        · rw [if_pos d, if_pos e, if_pos d, if_pos e, hhit, decide_eq_true d.symm, decide_eq_true e.symm]
          refine ⟨rfl, ?_⟩
          rw [← d, ← e]
          simp
        · rw [if_pos d, if_neg e, if_pos d, if_neg e, hhit, decide_eq_false (show ¬ m.2.1.toNat = h from fun q => e q.symm), Bool.and_false]
          exact ⟨rfl, rfl⟩
      · rw [if_neg d, if_neg d, hhit, decide_eq_false (show ¬ m.1.toNat = s from fun q => d q.symm), Bool.false_and]
        exact ⟨rfl, rfl⟩
    · rw [if_neg c]
      rw [Bool.not_eq_true] at c
      rw [hhit, c, Bool.false_and]
      exact ⟨rfl, rfl⟩
theorem S0 (ok : LN P) {j : Nat} {r : O3} (hj : P.2.1[j]? = some r) (hr : r.2.2.length ≤ 20) (s h x : Int) : Au (GX P s h (j : Int)) (x, 0) = some (U5 r P.1 s h x) := by
  have h40 := ok.1
  have hh := EM P.1 (fun (y : Int) (k : Nat) => (y, (k : Int))) (fun x m => if FV r s h m = true then m.2.2.1 else x) (GX P s h (j : Int)) id (fun _ _ => True) x trivial (fun y k hk _ => ⟨by
    have hm := AV (List.getElem?_eq_getElem hk)
    generalize P.1[k] = m at hm
    rw [GX, if_pos (by omega), hm, Option.bind_some]
    have e : (if m.1 = s then (some m).bind fun x12 => (if x12.2.1 = h then (some m).bind fun x13 => (FM P (j : Int) x13).bind fun x14 => some x14 else some false) else some false) = some (FV r s h m) := by
      unfold FV
      by_cases c1 : m.1 = s
      · rw [if_pos c1, Option.bind_some]
        by_cases c2 : m.2.1 = h
        · rw [if_pos c2, Option.bind_some, PG hj (by omega), decide_eq_true c1, decide_eq_true c2]; rfl
        · rw [if_neg c2, decide_eq_false c2]; simp
      · rw [if_neg c1, decide_eq_false c1]; simp
    rw [e, Option.bind_some, AJ (by omega)]
    by_cases c : FV r s h m = true
    · rw [if_pos c, if_pos c]; rfl
    · rw [if_neg c, if_neg c]; rfl, trivial⟩) (fun y => by rw [GX, if_neg (by omega)]; rfl)
  exact hh.1
theorem Wu (ho : EY t old) (ok : LN P) {k : Nat} (hk : k ≤ P.2.1.length) {s h : Nat} (hs : (s : Int) < t.1) (hh : h < t.2.2.length) : MI old P (k : Int) s h = some (KJ P old k s h) := by
  have h12 := ok.2.1
  obtain ⟨ro, f1, _, f2, _⟩ := ho.port (sw := s) (h := h) ⟨by omega, hs⟩ ⟨by omega, by omega⟩
  unfold MI
  rw [f1, Option.bind_some, f2, Option.bind_some]
  have hl : (P.2.1.take k).length = k := by rw [List.length_take]; omega
  have h1 := EM (P.2.1.take k) (fun (y : Int) (j : Nat) => (y, (j : Int))) (fun x r => U5 r P.1 s h x) (Im P (k : Int) s h) id (fun _ _ => True) (FQ old s h) trivial (fun y j hj _ => ⟨by
    have hj' : j < k := by omega
    have hr : P.2.1[j]? = some (P.2.1.take k)[j] := by rw [← List.getElem?_eq_getElem hj, List.getElem?_take_of_lt hj']
    have hr2 := ok.2.2 _ (List.mem_of_getElem? hr)
    rw [Im, if_pos (by omega), S0 ok hr hr2, Option.bind_some, AJ (by omega)]; rfl, trivial⟩) (fun y => by rw [Im, if_neg (by rw [hl]; omega)]; rfl)
  rw [show (FQ old s h, (0 : Int)) = (FQ old s h, ((0 : Nat) : Int)) from rfl, h1.1, Option.bind_some]; rfl
theorem Tv (ho : EY t old) (ok : LN P) {k : Nat} {r : O3} (hk : P.2.1[k]? = some r) {s h : Nat} (hs : (s : Int) < t.1) (hh : h < t.2.2.length) : GZ old P (k : Int) s h = some (WQ r P.1 s h (KJ P old k s h)) := by
  have h40 := ok.1
  have hkl := (List.getElem?_eq_some_iff.1 hk).1
  have hr := ok.2.2 _ (List.mem_of_getElem? hk)
  unfold GZ
  rw [Wu ho ok (by omega) hs hh, Option.bind_some]
  have hh := EM P.1 (fun (y : List Int) (j : Nat) => (y, (j : Int))) (fun y m => y ++ (if FV r s h m = true then [m.2.2.1] else [])) (FD P (k : Int) s h) id (fun y j => y.length ≤ 1 + j) [KJ P old k s h] (by simp) (fun y j hj hG => by
    have hm := AV (List.getElem?_eq_getElem hj)
    generalize P.1[j] = m at hm
    refine ⟨?_, ?_⟩
    · rw [FD, if_pos (by omega), hm, Option.bind_some]
      have e : (if m.1 = (s : Int) then (some m).bind fun x8 => (if x8.2.1 = (h : Int) then (some m).bind fun x9 => (FM P (k : Int) x9).bind fun x10 => some x10 else some false) else some false) = some (FV r s h m) := by
        unfold FV
        by_cases c1 : m.1 = (s : Int)
        · rw [if_pos c1, Option.bind_some]
          by_cases c2 : m.2.1 = (h : Int)
          · rw [if_pos c2, Option.bind_some, PG hk (by omega), decide_eq_true c1, decide_eq_true c2]; rfl
          · rw [if_neg c2, decide_eq_false c2]; simp
        · rw [if_neg c1, decide_eq_false c1]; simp
      rw [e, Option.bind_some, AJ (by omega)]
      by_cases c : FV r s h m = true
      · rw [if_pos c, if_pos c, Option.bind_some, Dc (by simp; omega)]; rfl
      · rw [if_neg c, if_neg c, List.append_nil]; rfl
    · rw [List.length_append]
      split
      · simp; omega
      · simp; omega) (fun y => by rw [FD, if_neg (by omega)]; rfl)
  rw [show ([KJ P old k s h], (0 : Int)) = ([KJ P old k s h], ((0 : Nat) : Int)) from rfl, hh.1, Option.bind_some]
  show some (List.foldl _ _ _) = some (_ :: _)
  congr 1
  have key : ∀ (L : List N9) (y : List Int), L.foldl (fun y m => y ++ (if FV r s h m = true then [m.2.2.1] else [])) y = y ++ (L.filter (FV r s h)).map (·.2.2.1) := by
    intro L
    induction L with
    | nil => simp
    | cons m L ih =>
      intro y
      rw [List.foldl_cons, ih, List.filter_cons]
      by_cases c : FV r s h m = true
      · rw [if_pos c, if_pos c]; simp
      · rw [if_neg c, if_neg c]; simp
  rw [key]; rfl
end
end Go.Proofs.Ythhoflfhegfmcaa
