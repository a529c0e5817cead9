/- Layer 29: the texts of tokens. Conditions: none. -/
import Derived.Test.YtlgjpoapclifbaaDoordM28
import Derived.Test.YtlgjpoapclifbaaDoordLD
import Derived.Lib.Join
namespace Go.Proofs.YtlgjpoapclifbaaDoor
set_option linter.unusedVariables false
set_option linter.unusedSimpArgs false
open Go Go.RowKit
def Nf (l : List UInt8) : Nat := l.foldl (fun x b => 10 * x + (b.toNat - 48)) 0
theorem NK : ∀ n : Fin 1000, Nf (d3 n.val) = n.val ∧ (d3 n.val).length ≤ 3 ∧ 1 ≤ (d3 n.val).length ∧ (1 < (d3 n.val).length → (d3 n.val).head? ≠ some 48) := by decide +kernel
theorem HW {b : UInt8} {n : Nat} (h : n = b.toNat) : UInt8.ofNat n = b := by subst h; simp
theorem Tm {d : List UInt8} (hd : ∀ b ∈ d, 48 ≤ b.toNat ∧ b.toNat ≤ 57) (h1 : 1 ≤ d.length) (h3 : d.length ≤ 3) (hz : 1 < d.length → d.head? ≠ some 48) : d3 (Nf d) = d ∧ Nf d < 1000 := by
  have nz : ∀ a : UInt8, a ≠ 48 → a.toNat ≠ 48 := fun a h e => h (by
    have : a.toNat = (48 : UInt8).toNat := e
    exact UInt8.toNat_inj.1 this)
  match d, hd, h1, h3, hz with
  | [a], hd, _, _, _ =>
    have ha := hd a (by simp)
    have e : Nf [a] = a.toNat - 48 := by simp [Nf]
    rw [e]
    refine ⟨?_, by omega⟩
    unfold d3
    rw [if_pos (by omega), HW (b := a) (by omega)]
  | [a, b], hd, _, _, hz =>
    have ha := hd a (by simp)
    have hb := hd b (by simp)
    have hza := nz a (by have := hz (by simp); simpa using this)
    have e : Nf [a, b] = 10 * (a.toNat - 48) + (b.toNat - 48) := by simp [Nf]
    rw [e]
    refine ⟨?_, by omega⟩
    unfold d3
    rw [if_neg (by omega), if_pos (by omega), HW (b := a) (by omega), HW (b := b) (by omega)]
  | [a, b, c], hd, _, _, hz =>
    have ha := hd a (by simp)
    have hb := hd b (by simp)
    have hc := hd c (by simp)
    have hza := nz a (by have := hz (by simp); simpa using this)
    have e : Nf [a, b, c] = 10 * (10 * (a.toNat - 48) + (b.toNat - 48)) + (c.toNat - 48) := by simp [Nf]
    rw [e]
    refine ⟨?_, by omega⟩
    unfold d3
    rw [if_neg (by omega), if_neg (by omega), HW (b := a) (by omega), HW (b := b) (by omega), HW (b := c) (by omega)]
theorem Ov (p : UInt8 → Bool) {c : UInt8} (hp : p c = false) (w r : List UInt8) : Cc p (w ++ c :: r) = Cc p w := by
  have hl := EO p w
  have h0 : Cc p (c :: r) = 0 := by rw [DH, if_neg (by rw [hp]; decide)]
  by_cases hc : Cc p w < w.length
  · rw [GZ, if_pos hc]
  · rw [GZ, if_neg hc, h0]; omega
theorem MW {d : List UInt8} (hd : ∀ b ∈ d, 48 ≤ b.toNat ∧ b.toNat ≤ 57) (h1 : 1 ≤ d.length) {k n : Int} {w : List UInt8} {z : Nat} (h : Cw d = some ((k, n, w, 0), (z : Int))) (hz : 0 < z) : k = 2 ∧ n = (Nf d : Int) ∧ w = [] ∧ z = d.length ∧ d3 (Nf d) = d ∧ Nf d < 1000 := by
  unfold Cw at h
  by_cases c1 : 3 < (d.length : Int)
  · rw [if_pos c1, Option.bind_some, if_pos rfl] at h
    have := congrArg Prod.snd (Option.some.inj h)
    simp only at this; omega
  · rw [if_neg c1] at h
    have hb : (if 1 < (d.length : Int) then (ix d 0).bind fun x2 => some (decide ((x2.toNat : Int) = 48)) else some false) = some (decide (1 < d.length ∧ d.head? = some 48)) := by
      by_cases c2 : 1 < (d.length : Int)
      · obtain ⟨a, t, rfl⟩ : ∃ a t, d = a :: t := by
          cases d with
          | nil => simp at h1
          | cons a t => exact ⟨a, t, rfl⟩
        rw [if_pos c2, show ix (a :: t) 0 = some a from rfl, Option.bind_some]
        congr 1
        refine decide_eq_decide.2 ⟨fun h => ⟨by omega, ?_⟩, fun h => ?_⟩
        · have : a = 48 := UInt8.toNat_inj.1 (show a.toNat = (48 : UInt8).toNat by show a.toNat = 48; omega)
          rw [this]; rfl
        · have := h.2
          simp only [List.head?_cons, Option.some.injEq] at this
          rw [this]; rfl
      · rw [if_neg c2, decide_eq_false (fun h => by have := h.1; omega)]
    rw [hb, Option.bind_some] at h
    by_cases c3 : 1 < d.length ∧ d.head? = some 48
    · rw [decide_eq_true c3, if_pos rfl] at h
      have := congrArg Prod.snd (Option.some.inj h)
      simp only at this; omega
    · rw [decide_eq_false c3, if_neg (by decide)] at h
      obtain ⟨e1, e2⟩ := Tm hd h1 (by omega) (fun hh he => c3 ⟨hh, he⟩)
      have hloop : Bo (Ct d) (0, 0) = some ((Nf d : Nat) : Int) := by
        obtain ⟨x, g1, g2⟩ := HI d.length (fun (x : Nat) (k : Nat) => ((x : Int), (k : Int))) (Ct d) (fun x => (x : Int)) (fun x k => x = Nf (d.take k) ∧ x < 10 ^ k)
          (fun x k hk hI => by
            have hb := hd _ (List.getElem_mem hk)
            have hx : x < 1000 := Nat.lt_of_lt_of_le hI.2 (Nat.le_trans (Nat.pow_le_pow_right (n := 10) (by decide) (show k ≤ 3 by omega)) (by decide))
            refine ⟨10 * x + (d[k].toNat - 48), ?_, ?_, ?_⟩
            · rw [Ct, if_pos (by omega), Dx (List.getElem?_eq_getElem hk), Option.bind_some, U2, B3 (x := 10 * (x : Int)) (by omega), B3 (x := ((d[k].toNat : Int) - 48) % 256) (by omega), B3 (by omega), B3 (x := (k : Int) + 1) (by omega)]
              congr 3; omega
            · rw [hI.1, List.take_succ_eq_append_getElem hk]
              unfold Nf
              rw [List.foldl_append]; rfl
            · rw [Nat.pow_succ]; omega)
          (fun x hI => by rw [Ct, if_neg (by omega)]) 0 ⟨rfl, by decide⟩
        have g2' : Bo (Ct d) (0, 0) = some ((x : Nat) : Int) := g2
        rw [g2', g1.1, List.take_length]
      rw [hloop, Option.bind_some] at h
      have hh := Option.some.inj h
      have q1 := congrArg (fun t => t.1.1) hh
      have q2 := congrArg (fun t => t.1.2.1) hh
      have q3 := congrArg (fun t => t.1.2.2.1) hh
      have q4 := congrArg Prod.snd hh
      simp only at q1 q2 q3 q4
      exact ⟨q1.symm, q2.symm, q3.symm, by omega, e1, e2⟩
theorem Ot (p : UInt8 → Bool) : ∀ (l : List UInt8), ∀ b ∈ l.take (Cc p l), p b = true
  | [], b, h => by simp [Cc] at h
  | a :: t, b, h => by
    rw [DH] at h
    by_cases c : p a = true
    · rw [if_pos c, Nat.add_comm, List.take_succ_cons] at h
      rcases List.mem_cons.1 h with rfl | h
      · exact c
      · exact Ot p t b h
    · rw [if_neg c] at h; simp at h
theorem Km {c : UInt8} (hL : Jt c = false) (hD : IA c = false) (h61 : c ≠ 61) {T r : List UInt8} (h0 : 0 < T.length) (hl : (T ++ c :: r).length ≤ 5000) : Cl (T ++ c :: r) = Cl T := by
  have hT : T.length ≤ 5000 := by simp at hl; omega
  have a1 := EO Jt T
  have a2 := EO IA T
  have a3 := L6 T
  have es : ES (T ++ c :: r) = ES T := by
    cases T with
    | nil => cases h0
    | cons a t =>
      simp only [List.cons_append, Fg]
      by_cases d1 : a.toNat = 40 ∨ a.toNat = 41 ∨ a.toNat = 59 ∨ a.toNat = 124 ∨ a.toNat = 61
      · rw [if_pos d1, if_pos d1]
      · rw [if_neg d1, if_neg d1]
        cases t with
        | nil =>
          rw [if_neg (by simp [h61]), if_neg (by simp)]
        | cons b t => simp
  rw [DQ (by simp; omega) hl, DQ h0 hT, Ov Jt hL, Ov IA hD, es, List.take_append_of_le_length a1, List.take_append_of_le_length a2, List.take_append_of_le_length a3]
def tx (t : C2) : List UInt8 := if t.1 = 2 then d3 t.2.1.toNat else t.2.2.1
structure Good (t : C2) : Prop where
  pos : 0 < (tx t).length
  fst : Cl (tx t) = some ((t.1, t.2.1, t.2.2.1, 0), ((tx t).length : Int))
  num : t.1 = 2 → 0 ≤ t.2.1 ∧ t.2.1 < 1000
  kind : t.1 = 1 ∨ t.1 = 2 ∨ t.1 = 3
theorem RV {u : List UInt8} (hu : u.length ≤ 4900) {k n : Int} {w : List UInt8} {z : Nat} (h : Cl u = some ((k, n, w, 0), (z : Int))) (hz : 0 < z) (hzu : z ≤ u.length) (a : Int) : Good (k, n, w, a) ∧ tx (k, n, w, a) = u.take z := by
  have hu0 : 0 < u.length := by omega
  have htx : tx (k, n, w, a) = u.take z ∧ (k = 2 → 0 ≤ n ∧ n < 1000) ∧ (k = 1 ∨ k = 2 ∨ k = 3) := by
    have h' := h
    rw [DQ hu0 (by omega)] at h'
    by_cases c1 : 0 < Cc Jt u
    · rw [if_pos c1] at h'
      have e := Option.some.inj h'
      have e1 := congrArg (fun t => t.1.1) e
      have e3 := congrArg (fun t => t.1.2.2.1) e
      have e4 := congrArg Prod.snd e
      simp only at e1 e3 e4
      have ez : Cc Jt u = z := by omega
      subst e1 e3
      exact ⟨by rw [← ez]; rfl, fun h => absurd h (by decide), .inl rfl⟩
    · rw [if_neg c1] at h'
      by_cases c2 : 0 < Cc IA u
      · rw [if_pos c2] at h'
        have a2 := EO IA u
        obtain ⟨e1, e2, e3, e4, e5, e6⟩ := MW (d := u.take (Cc IA u)) (fun b hb => of_decide_eq_true (Ot IA u b hb)) (by rw [List.length_take]; omega) h' hz
        have ez : z = Cc IA u := by rw [e4, List.length_take]; omega
        subst e1
        refine ⟨?_, fun _ => by omega, .inr (.inl rfl)⟩
        rw [ez]
        unfold tx
        rw [if_pos rfl]
        show d3 n.toNat = _
        rw [e2, Int.toNat_natCast]; exact e5
      · rw [if_neg c2] at h'
        by_cases c3 : ES u = 0
        · rw [if_pos c3] at h'
          have := congrArg Prod.snd (Option.some.inj h')
          simp only at this; omega
        · rw [if_neg c3] at h'
          have e := Option.some.inj h'
          have e1 := congrArg (fun t => t.1.1) e
          have e3 := congrArg (fun t => t.1.2.2.1) e
          have e4 := congrArg Prod.snd e
          simp only at e1 e3 e4
          have ez : ES u = z := by omega
          subst e1 e3
          exact ⟨by rw [← ez]; rfl, fun h => absurd h (by decide), .inr (.inr rfl)⟩
  obtain ⟨h1, h2, h3⟩ := htx
  have hlen : (u.take z).length = z := by rw [List.length_take]; omega
  refine ⟨⟨by rw [h1, hlen]; exact hz, ?_, h2, h3⟩, h1⟩
  rw [h1, hlen]
  have f1 := OH (w := u.take z) (r := u.drop z) (r' := []) (by rw [List.take_append_drop]; omega) (by simp; omega) (by rw [List.take_append_drop]; exact h) hz (by omega)
  rw [Km (by decide) (by decide) (by decide) (by omega) (by simp; omega)] at f1
  exact f1
theorem PU {t : C2} (h : Good t) (hl : (tx t).length ≤ 4900) (r : List UInt8) : BP false (tx t ++ r) = 0 := by
  have h0 := h.pos
  have h1 := h.fst
  generalize htt : tx t = T at h0 h1 hl
  cases T with
  | nil => cases h0
  | cons b u =>
    rw [DQ h0 (by omega)] at h1
    rw [List.cons_append, DW]
    have key : ∀ n, b.toNat = n → n = 10 ∨ n = 35 ∨ n = 32 ∨ n = 9 → False := by
      intro n hn hh
      have cL : ¬ 0 < Cc Jt (b :: u) := by rw [DH, if_neg (by unfold Jt; simp; omega)]; omega
      have cD : ¬ 0 < Cc IA (b :: u) := by rw [DH, if_neg (by unfold IA; simp; omega)]; omega
      have cS : ES (b :: u) = 0 := by
        rw [Fg, if_neg (by omega), if_neg]
        intro h
        have hb : b = 58 := by
          cases u with
          | nil => simp at h
          | cons x y => simp at h; exact h.1
        rw [hb] at hn
        have : (58 : UInt8).toNat = 58 := rfl
        omega
      rw [if_neg cL, if_neg cD, if_pos cS] at h1
      have := congrArg Prod.snd (Option.some.inj h1)
      simp only [List.length_cons] at this; omega
    rw [if_neg (fun h => key _ h (by omega)), if_neg (fun h => key _ h (by omega)), if_pos ⟨rfl, fun h => key _ h (by omega), fun h => key _ h (by omega)⟩]
theorem NT {s : List UInt8} (hs : s.length ≤ 4000) {a : Nat} {ts : List C2} (h : Run s a ts) : (∀ t ∈ ts, Good t) ∧ Lib.lens (ts.map tx) + a ≤ max a s.length ∧ ts.length + a ≤ max a s.length := by
  induction h with
  | nil ha => exact ⟨fun t ht => (by cases ht), (by simp [Lib.lens]; omega), (by simp; omega)⟩
  | cons h0 h1 hz hle hr ih =>
    rename_i a k n w z ts
    obtain ⟨g1, g2⟩ := RV (u := s.drop a) (by rw [List.length_drop]; omega) h1 hz (by rw [List.length_drop]; omega) (a : Int)
    obtain ⟨i1, i2, i3⟩ := ih
    have hzl : (tx (k, n, w, (a : Int))).length = z := by rw [g2, List.length_take, List.length_drop]; omega
    refine ⟨fun t ht => ?_, ?_, ?_⟩
    · rcases List.mem_cons.1 ht with rfl | ht
      · exact g1
      · exact i1 t ht
    · have e : Lib.lens ((((k, n, w, (a : Int)) :: ts : List C2)).map tx) = z + Lib.lens (ts.map tx) := by
        simp only [List.map_cons, Lib.lens, List.sum_cons, hzl]
      rw [e]; omega
    · simp only [List.length_cons]; omega
end Go.Proofs.YtlgjpoapclifbaaDoor
