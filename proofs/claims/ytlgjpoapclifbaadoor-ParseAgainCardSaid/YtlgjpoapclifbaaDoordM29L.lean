/- Layer 29: the document's tokens. Conditions: none. -/
import Derived.Test.YtlgjpoapclifbaaDoordM28B
namespace Go.Proofs.YtlgjpoapclifbaaDoor
set_option linter.unusedVariables false
set_option linter.unusedSimpArgs false
open Go Go.RowKit
theorem Q6 {n : Nat} (h : n < 1000) : JG (n : Int) = some (d3 n) := by
  have h1 : JG (n : Int) = some (Lib.itoa (n : Int)) := P1 (st := Jz) (run := Iq) (fun _ => rfl) (fun _ _ => rfl) (fun _ _ => rfl) (n : Int) (by unfold i64; omega)
  rw [h1, Lib.itoa_nonneg, QZ h]
theorem Lx {α β : Type} {f : α → Option β} : ∀ {l : List α}, (∀ x ∈ l, f x = none) → l.findSome? f = none
  | [], _ => rfl
  | x :: l, h => by rw [List.findSome?_cons, h x (List.mem_cons_self ..)]; exact Lx fun y hy => h y (List.mem_cons_of_mem _ hy)
theorem JN {α β : Type} {f : α → Option β} {v : β} : ∀ {l : List α} {x : α}, x ∈ l → f x = some v → (∀ y ∈ l, ∀ u, f y = some u → u = v) → l.findSome? f = some v
  | y :: l, x, hx, h1, h2 => by
    rw [List.findSome?_cons]
    cases e : f y with
    | some u => rw [h2 y (List.mem_cons_self ..) u e]
    | none =>
      rcases List.mem_cons.1 hx with rfl | hx
      · rw [e] at h1; cases h1
      · exact JN hx h1 fun z hz => h2 z (List.mem_cons_of_mem _ hz)
theorem JD (d : List UInt8) : Il d = some (match (List.range 1000).findSome? (fun k => if d3 k = d then some (k : Int) else none) with | none => -1 | some e => e) := by
  unfold Il
  have h := O3 1000 (F8 d) (fun k => if d3 k = d then some (k : Int) else none) (fun k hk => by
    rw [F8, if_pos (by omega), Q6 hk, Option.bind_some]
    by_cases c : d3 k = d
    · rw [if_pos c, if_pos c]
    · rw [if_neg c, if_neg c, B3 (by omega)]; rfl) (by rw [F8, if_neg (by omega)])
  rw [h]
  cases (List.range 1000).findSome? (fun k => if d3 k = d then some (k : Int) else none) <;> rfl
theorem Qk {k : Nat} (hk : k < 1000) {d : List UInt8} (h : d3 k = d) : Nf d = k := by
  have := (NK ⟨k, hk⟩).1
  rw [← h]; exact this
theorem Qu {d : List UInt8} (hd : ∀ b ∈ d, 48 ≤ b.toNat ∧ b.toNat ≤ 57) (h1 : 1 ≤ d.length) (h5 : d.length ≤ 5000) :
    (Cw d = some ((2, (Nf d : Int), [], 0), (d.length : Int)) ∧ Il d = some (Nf d : Int)) ∨ (∃ k n, Cw d = some ((k, n, [], 0), 0)) ∧ Il d = some (-1) := by
  obtain ⟨k, n, z, e1, e2⟩ := Kl d h5
  by_cases hz : 0 < z
  · obtain ⟨rfl, rfl, _, rfl, e3, e4⟩ := MW hd h1 e1 hz
    refine .inl ⟨e1, ?_⟩
    rw [JD, JN (v := (Nf d : Int)) (x := Nf d) (List.mem_range.2 e4) (by rw [if_pos e3]) (fun y hy u hu => ?_)]
    by_cases c : d3 y = d
    · rw [if_pos c] at hu
      rw [← Option.some.inj hu, Qk (List.mem_range.1 hy) c]
    · rw [if_neg c] at hu; cases hu
  · obtain rfl : z = 0 := by omega
    refine .inr ⟨⟨k, n, e1⟩, ?_⟩
    rw [JD, Lx (fun y hy => ?_)]
    rw [if_neg (fun c => ?_)]
    obtain ⟨_, f2, f3, f4⟩ := NK ⟨y, List.mem_range.1 hy⟩
    simp only at f2 f3 f4
    rw [c] at f2 f3 f4
    unfold Cw at e1
    have hb : (if 3 < (d.length : Int) then some true else (if 1 < (d.length : Int) then (ix d 0).bind fun x2 => some (decide ((x2.toNat : Int) = 48)) else some false)) = some false := by
      rw [if_neg (by omega)]
      by_cases c2 : 1 < (d.length : Int)
      · rw [if_pos c2, show ix d 0 = some d[0] from Dx (k := 0) (List.getElem?_eq_getElem (by omega)), Option.bind_some]
        have := f4 (by omega)
        rw [List.head?_eq_getElem?, List.getElem?_eq_getElem (by omega)] at this
        congr 1
        refine decide_eq_false fun h => this ?_
        have h' : d[0].toNat = 48 := by omega
        rw [show d[0] = 48 from UInt8.toNat_inj.1 h']
      · rw [if_neg c2]
    rw [hb, Option.bind_some, if_neg (by decide)] at e1
    obtain ⟨x, _, e5⟩ := Aq e1
    have e6 := congrArg (fun q => q.2) (Option.some.inj e5)
    simp only at e6
    omega
end Go.Proofs.YtlgjpoapclifbaaDoor
