/- Layer 7: what is told is read. Conditions: none. -/
import Derived.Test.YtcnpjmmeandglaaDoorM07
namespace Go.Proofs.YtcnpjmmeandglaaDoor
set_option linter.unusedVariables false
set_option linter.unusedSimpArgs false
open Go Go.RowKit
theorem num_byte (b : UInt8) (t : List UInt8) (ht : t.length ≤ 900000) : octet_Reader_Num (b :: t, 0) 1 = some ((b.toNat : Int), (t, 0)) := by
  rw [rnumR_eq _ _ (by simp; omega), preN_ok (by decide), show ((b :: t, 0) : List UInt8 × Int) = ([b] ++ t, 0) from rfl, takeR_app [b] t 1 rfl, val_one, w64_id (by have := b.toNat_lt; omega)]
theorem read_step {k : Nat} (hk : k < 4) (a b c d : Int) (x : UInt8) (t : List UInt8) (ht : t.length ≤ 900000) (hf : Fit (k : Int) (x.toNat : Int)) :
    packet_Read_l1 ((k : Int), a, b, c, d, x :: t, 0) = some (.inl (((k + 1 : Nat) : Int), (if (k : Int) = 0 then (x.toNat : Int) else a), (if (k : Int) = 1 then (x.toNat : Int) else b), (if (k : Int) = 2 then (x.toNat : Int) else c), (if (k : Int) = 3 then (x.toNat : Int) else d), t, 0)) := by
  rw [packet_Read_l1, if_pos (by omega), num_byte x t ht]
  simp only [Option.bind_some]
  rw [ix4 (a, b, c, d) hk, Option.bind_some, ix4 ((if (k : Int) = 0 then (x.toNat : Int) else a), (if (k : Int) = 1 then (x.toNat : Int) else b), (if (k : Int) = 2 then (x.toNat : Int) else c), (if (k : Int) = 3 then (x.toNat : Int) else d)) hk, Option.bind_some]
  have hv : p4 ((if (k : Int) = 0 then (x.toNat : Int) else a), (if (k : Int) = 1 then (x.toNat : Int) else b), (if (k : Int) = 2 then (x.toNat : Int) else c), (if (k : Int) = 3 then (x.toNat : Int) else d)) k = (x.toNat : Int) := by
    have : k = 0 ∨ k = 1 ∨ k = 2 ∨ k = 3 := by omega
    rcases this with rfl | rfl | rfl | rfl <;> rfl
  rw [hv, fits_eq, decide_eq_true hf, w64_id (by omega)]; rfl
theorem be1_byte {v : Int} (h : 0 ≤ v ∧ v ≤ 255) : ∃ x : UInt8, be 1 v = [x] ∧ (x.toNat : Int) = v := by
  refine ⟨UInt8.ofNat (v % 256).toNat, rfl, ?_⟩
  rw [UInt8.toNat_ofNat_of_lt' (by show (v % 256).toNat < 256; omega)]; omega
/-- What is coded is read. -/
theorem read_code {p : P4} (h : Ok4 p) : packet_Read (octet_Open (codeV p)) = some (p, ([], 0)) := by
  have hh := h
  obtain ⟨h0, h1, h2, h3⟩ := h
  obtain ⟨a, b, c, d⟩ := p
  simp only at h0 h1 h2 h3
  obtain ⟨x0, e0, v0⟩ := be1_byte h0
  obtain ⟨x1, e1, v1⟩ := be1_byte h1
  obtain ⟨x2, e2, v2⟩ := be1_byte (v := c) (by omega)
  obtain ⟨x3, e3, v3⟩ := be1_byte h3
  have hc : codeV (a, b, c, d) = [x0, x1, x2, x3] := by unfold codeV; rw [if_pos hh, e0, e1, e2, e3]; rfl
  unfold packet_Read octet_Open
  rw [hc]
  have s0 := read_step (k := 0) (by decide) 0 0 0 0 x0 [x1, x2, x3] (by simp) (by rw [v0]; exact h0)
  have s1 := read_step (k := 1) (by decide) (x0.toNat : Int) 0 0 0 x1 [x2, x3] (by simp) (by rw [v1]; exact h1)
  have s2 := read_step (k := 2) (by decide) (x0.toNat : Int) (x1.toNat : Int) 0 0 x2 [x3] (by simp) (by rw [v2]; exact h2)
  have s3 := read_step (k := 3) (by decide) (x0.toNat : Int) (x1.toNat : Int) (x2.toNat : Int) 0 x3 [] (by simp) (by rw [v3]; exact h3)
  have s4 : packet_Read_l1 (4, (x0.toNat : Int), (x1.toNat : Int), (x2.toNat : Int), (x3.toNat : Int), [], 0) = some (.inr ((x0.toNat : Int), (x1.toNat : Int), (x2.toNat : Int), (x3.toNat : Int), [], 0)) := by rw [packet_Read_l1, if_neg (by decide)]
  have e : loopW packet_Read_l1 (0, 0, 0, 0, 0, [x0, x1, x2, x3], 0) = some ((x0.toNat : Int), (x1.toNat : Int), (x2.toNat : Int), (x3.toNat : Int), [], 0) :=
    (loopW_go s0).trans ((loopW_go s1).trans ((loopW_go s2).trans ((loopW_go s3).trans (loopW_end s4))))
  show (loopW packet_Read_l1 (0, 0, 0, 0, 0, [x0, x1, x2, x3], 0)).bind _ = _
  rw [e, v0, v1, v2, v3]; rfl
theorem put_get {p : P4} {f v : Int} (hf : 0 ≤ f ∧ f < 4) : p4 (put4 p f v) f.toNat = v ∧ put4 (put4 p f v) f (p4 p f.toNat) = p := by
  have : f = 0 ∨ f = 1 ∨ f = 2 ∨ f = 3 := by omega
  rcases this with rfl | rfl | rfl | rfl <;> exact ⟨rfl, rfl⟩
theorem put_ok {p : P4} {f v : Int} (h : Ok4 p) (hf : 0 ≤ f ∧ f < 4 ∧ Fit f v) : Ok4 (put4 p f v) := by
  obtain ⟨h0, h1, h2, h3⟩ := h
  obtain ⟨f0, f1, f2⟩ := hf
  have : f = 0 ∨ f = 1 ∨ f = 2 ∨ f = 3 := by omega
  rcases this with rfl | rfl | rfl | rfl
  · exact ⟨f2, h1, h2, h3⟩
  · exact ⟨h0, f2, h2, h3⟩
  · exact ⟨h0, h1, f2, h3⟩
  · exact ⟨h0, h1, h2, f2⟩
theorem put_other {p : P4} {f v g : Int} (hg : g ≠ f) : getV (put4 p f v) g = getV p g := by
  unfold getV
  by_cases h : 0 ≤ g ∧ g < 4
  · rw [if_pos h, if_pos h]
    have : g = 0 ∨ g = 1 ∨ g = 2 ∨ g = 3 := by omega
    rcases this with rfl | rfl | rfl | rfl
    · exact if_neg (Ne.symm hg)
    · exact if_neg (Ne.symm hg)
    · exact if_neg (Ne.symm hg)
    · exact if_neg (Ne.symm hg)
  · rw [if_neg h, if_neg h]
theorem fit_get {p : P4} (h : Ok4 p) {f : Int} (hf : 0 ≤ f ∧ f < 4) : Fit f (p4 p f.toNat) := by
  obtain ⟨h0, h1, h2, h3⟩ := h
  have : f = 0 ∨ f = 1 ∨ f = 2 ∨ f = 3 := by omega
  rcases this with rfl | rfl | rfl | rfl
  · exact h0
  · exact h1
  · exact h2
  · exact h3
theorem PacketBack_true (p0 : Int × Int × Int × Int) (ok0 : okP (fun n => (Lit.int .i64 n).wf = true) (okP (fun n => (Lit.int .i64 n).wf = true) (okP (fun n => (Lit.int .i64 n).wf = true) (fun n => (Lit.int .i64 n).wf = true))) p0) (p1 : Int) (ok1 : (Lit.int .i64 p1).wf = true) (p2 : Int) (ok2 : (Lit.int .i64 p2).wf = true) (p3 : Int) (ok3 : (Lit.int .i64 p3).wf = true) : L07_PacketBack p0 p1 p2 p3 = some true := by
  unfold L07_PacketBack
  rw [right_eq, Option.bind_some, awake07]
  by_cases h : Ok4 p0
  · rw [decide_eq_true h, if_neg (by decide), (text_eq (ok_i4 h)).1]
    simp only [Option.bind_some]
    rw [parse_text h, code_eq]
    simp only [Option.bind_some]
    rw [if_neg (by decide), decide_eq_true (by simp), if_neg (by decide), read_code h]
    simp only [Option.bind_some]
    rw [decide_eq_true (by simp), if_neg (by decide), endR_eq]
    simp only [Option.bind_some]
    rw [if_neg (by simp)]
    try rw [decide_eq_false (by simp), if_neg (by decide)]
    rw [with_eq]
    simp only [Option.bind_some]
    rw [right_eq]
    simp only [Option.bind_some]
    by_cases hc : 0 ≤ p1 ∧ p1 < 4 ∧ Fit p1 p2
    · have hw : withV p0 p1 p2 = put4 p0 p1 p2 := if_pos hc
      rw [hw, decide_eq_true (put_ok h hc), if_neg (by decide)]
      have hg : (if p3 ≠ p1 then (packet_Get (put4 p0 p1 p2) p3).bind fun x16 => (packet_Get p0 p3).bind fun x17 => some (decide (x16 ≠ x17)) else some false) = some false := by
        by_cases hn : p3 ≠ p1
        · rw [if_pos hn, get_eq, get_eq, put_other hn]
          simp
        · rw [if_neg hn]
      rw [hg]
      simp only [Option.bind_some]
      rw [if_neg (by decide), if_neg (by omega), if_neg (by omega), if_neg (by have := hc.2.2.1; omega), top_eq]
      simp only [Option.bind_some]
      rw [decide_eq_false (by have := hc.2.2.2; omega), if_neg (by decide), get_eq]
      simp only [Option.bind_some]
      have hgv : getV (put4 p0 p1 p2) p1 = p2 := by unfold getV; rw [if_pos ⟨hc.1, hc.2.1⟩]; exact (put_get ⟨hc.1, hc.2.1⟩).1
      obtain ⟨x, hx, he⟩ := ix4' p0 ⟨hc.1, hc.2.1⟩
      rw [if_pos hgv, hx, Option.bind_some, he, with_eq]
      have hw2 : withV (put4 p0 p1 p2) p1 (p4 p0 p1.toNat) = p0 := by
        unfold withV
        rw [if_pos ⟨hc.1, hc.2.1, fit_get h ⟨hc.1, hc.2.1⟩⟩]
        exact (put_get ⟨hc.1, hc.2.1⟩).2
      rw [hw2]
      simp
    · have hw : withV p0 p1 p2 = p0 := if_neg hc
      rw [hw, decide_eq_true h, if_neg (by decide)]
      have hg : (if p3 ≠ p1 then (packet_Get p0 p3).bind fun x16 => (packet_Get p0 p3).bind fun x17 => some (decide (x16 ≠ x17)) else some false) = some false := by
        by_cases hn : p3 ≠ p1
        · rw [if_pos hn, get_eq]; simp
        · rw [if_neg hn]
      rw [hg]
      simp only [Option.bind_some]
      have hb : (if p1 < 0 then some true else (if 4 ≤ p1 then some true else (if p2 < 0 then some true else (packet_Top p1).bind fun x19 => some (decide (x19 < p2))))) = some true := by
        by_cases c1 : p1 < 0
        · rw [if_pos c1]
        · rw [if_neg c1]
          by_cases c2 : 4 ≤ p1
          · rw [if_pos c2]
          · rw [if_neg c2]
            by_cases c3 : p2 < 0
            · rw [if_pos c3]
            · rw [if_neg c3, top_eq, Option.bind_some]
              have : r07_Top p1 < p2 := Classical.byContradiction fun hn => hc ⟨by omega, by omega, by omega, by omega⟩
              rw [decide_eq_true this]
      rw [if_neg (by decide), hb]
      simp
  · rw [decide_eq_false h, if_pos (by decide), code_eq]
    have : codeV p0 = [] := if_neg h
    rw [this]; rfl

/-! ### Reading any bytes -/
theorem reads_loop : ∀ (d k : Nat), k + d = 4 → ∀ (a b c e : Int) (p : List UInt8 × Int) (q : List UInt8 × Int × Int), Rel p q →
    ∃ (P : P4) (p' : List UInt8 × Int) (q' : List UInt8 × Int × Int), loopW packet_Read_l1 ((k : Int), a, b, c, e, p.1, p.2) = some (P.1, P.2.1, P.2.2.1, P.2.2.2, p'.1, p'.2) ∧ loopW r07_Read_l1 ((k : Int), a, b, c, e, q.1, q.2.1, q.2.2) = some (P.1, P.2.1, P.2.2.1, P.2.2.2, q'.1, q'.2.1, q'.2.2) ∧ Rel p' q' := by
  intro d
  induction d with
  | zero =>
    intro k hk a b c e p q h
    obtain rfl : k = 4 := by omega
    refine ⟨(a, b, c, e), p, q, ?_, ?_, h⟩
    · exact loopW_end (by rw [packet_Read_l1, if_neg (by decide)])
    · exact loopW_end (by rw [r07_Read_l1, if_neg (by decide)])
  | succ d ih =>
    intro k hk a b c e p q h
    have hpl := h.plen
    have h1 := rnumR_eq p 1 (by omega)
    obtain ⟨q1, h2, h3⟩ := rel_num h 1
    have hval : 0 ≤ w64 (val (takeR (preN p 1) 1).1) := by
      have hl : (takeR (preN p 1) 1).1.length ≤ 7 := by
        unfold takeR
        split
        · simp
        · split
          · simp
          · split
            · simp
            · (simp; omega)
      have := val_lt7 hl
      rw [w64_id (by omega)]; omega
    generalize hvv : w64 (val (takeR (preN p 1) 1).1) = v at h1 h2 hval
    generalize (takeR (preN p 1) 1).2 = p1 at h1 h3
    have hv4 : p4 ((if (k : Int) = 0 then v else a), (if (k : Int) = 1 then v else b), (if (k : Int) = 2 then v else c), (if (k : Int) = 3 then v else e)) k = v := by
      have : k = 0 ∨ k = 1 ∨ k = 2 ∨ k = 3 := by omega
      rcases this with rfl | rfl | rfl | rfl <;> rfl
    have g1 : (packet_Read_l1 ((k : Int), a, b, c, e, p.1, p.2)) = some (.inl (((k + 1 : Nat) : Int), (if (k : Int) = 0 then v else a), (if (k : Int) = 1 then v else b), (if (k : Int) = 2 then v else c), (if (k : Int) = 3 then v else e), (if Fit (k : Int) v then p1 else octet_Reader_Wrong p1 2).1, (if Fit (k : Int) v then p1 else octet_Reader_Wrong p1 2).2)) := by
      rw [packet_Read_l1, if_pos (by omega), show ((p.1, p.2) : List UInt8 × Int) = p from rfl, h1]
      simp only [Option.bind_some]
      rw [ix4 (a, b, c, e) (by omega), Option.bind_some, ix4 ((if (k : Int) = 0 then v else a), (if (k : Int) = 1 then v else b), (if (k : Int) = 2 then v else c), (if (k : Int) = 3 then v else e)) (by omega), Option.bind_some, hv4, fits_eq, Option.bind_some, w64_id (by omega)]
      by_cases hf : Fit (k : Int) v
      · rw [decide_eq_true hf, if_neg (by decide), if_pos hf]; rfl
      · rw [decide_eq_false hf, if_pos (by decide), if_neg hf]; rfl
    have g2 : (r07_Read_l1 ((k : Int), a, b, c, e, q.1, q.2.1, q.2.2)) = some (.inl (((k + 1 : Nat) : Int), (if (k : Int) = 0 then v else a), (if (k : Int) = 1 then v else b), (if (k : Int) = 2 then v else c), (if (k : Int) = 3 then v else e), (if Fit (k : Int) v then q1 else r04_Reader_Wrong q1 2).1, (if Fit (k : Int) v then q1 else r04_Reader_Wrong q1 2).2.1, (if Fit (k : Int) v then q1 else r04_Reader_Wrong q1 2).2.2)) := by
      rw [r07_Read_l1, if_pos (by omega), show ((q.1, q.2.1, q.2.2) : List UInt8 × Int × Int) = q from rfl, h2]
      simp only [Option.bind_some]
      rw [ix4 (a, b, c, e) (by omega), Option.bind_some, ix4 ((if (k : Int) = 0 then v else a), (if (k : Int) = 1 then v else b), (if (k : Int) = 2 then v else c), (if (k : Int) = 3 then v else e)) (by omega), Option.bind_some, hv4, w64_id (by omega)]
      by_cases hf : Fit (k : Int) v
      · rw [if_neg (by have := hf.2; omega), if_pos hf]; rfl
      · rw [if_pos (Classical.byContradiction fun hn => hf ⟨hval, by omega⟩), if_neg hf]; rfl
    rw [loopW_go g1, loopW_go g2]
    have hrel : Rel (if Fit (k : Int) v then p1 else octet_Reader_Wrong p1 2) (if Fit (k : Int) v then q1 else r04_Reader_Wrong q1 2) := by
      by_cases hf : Fit (k : Int) v
      · rw [if_pos hf, if_pos hf]; exact h3
      · rw [if_neg hf, if_neg hf]; exact rel_wrong h3 2
    exact ih (k + 1) (by omega) _ _ _ _ _ _ hrel
end Go.Proofs.YtcnpjmmeandglaaDoor
