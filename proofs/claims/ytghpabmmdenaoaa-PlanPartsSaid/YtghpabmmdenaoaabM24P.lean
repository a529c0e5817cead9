/- Layer 24: parts. Conditions: none. -/
import Derived.Test.YtghpabmmdenaoaabM24
import Derived.Test.YtghpabmmdenaoaabDR
import Derived.Test.YtghpabmmdenaoaabP2
import Derived.Test.YtghpabmmdenaoaabEV
namespace Go.Proofs.Ytghpabmmdenaoaa
set_option linter.unusedVariables false
set_option linter.unusedSimpArgs false
open Go Go.RowKit
theorem PU (t : Tp) (r : Rt) (hl : r.length ≤ 9223372036854775807) : HU t r = some (decide ((∀ row ∈ r, row.length ≤ 12) ∧ t.2.1.length ≤ 30 ∧ t.2.2.length ≤ 12 ∧ r.length ≤ 12)) := by
  unfold HU
  rw [GO r hl (GG r) (fun row => ¬ row.length ≤ 12) false (fun k hk => by
    rw [GG, if_pos (by omega), Cq (List.getElem?_eq_getElem hk), Option.bind_some]
    by_cases c : r[k].length ≤ 12
    · rw [if_neg (by omega), if_neg (fun h => h c)]
    · rw [if_pos (by omega), if_pos c]) (by rw [GG, if_neg (by omega)])]
  by_cases c : ∃ row ∈ r, ¬ row.length ≤ 12
  · rw [if_pos c]
    show some false = _
    rw [decide_eq_false (fun h => by obtain ⟨row, hm, hn⟩ := c; exact hn (h.1 row hm))]
  · rw [if_neg c]
    show some _ = some _
    congr 1
    rw [Bool.eq_iff_iff]
    simp only [Bool.and_eq_true, decide_eq_true_eq]
    constructor
    · intro h
      exact ⟨fun row hm => Decidable.not_not.1 fun hn => c ⟨row, hm, hn⟩, by omega⟩
    · intro h; omega
theorem Oe {P : Int → Prop} : (NJ P).length ≤ 64 := by
  have hn := (JG (P := P)).imp (fun {a b} (h : a < b) => (Int.ne_of_lt h))
  exact Hd 64 _ hn (fun x hx => by have := (Ih.1 hx).1; omega)
theorem R5 {L : List Mv} {first gap : Int} {k : Nat} (h : k < (CY L).length) : ix (IJ L first gap) (k : Int) = some ((CY L).getD k 0, first + (k : Int) * gap, JM L ((CY L).getD k 0)) := by
  refine Cq ?_
  unfold IJ
  rw [List.getElem?_map, List.getElem?_range h]; rfl
abbrev LI (l : List Int) : Nat × List Int := (2, l)
theorem Ni : ∀ R : Rt, JT R4 (R.map LI) = some R
  | [] => rfl
  | r :: R => by
    show (TP (2, r)).bind (fun a => (JT R4 (R.map LI)).bind fun m => some (a :: m)) = _
    rw [Ni R]; rfl
theorem R6 {l : List Int} (h : l.length ≤ 1000000000) : DV l = some l := by
  unfold DV
  rw [HL (by simpa using h)]; rfl
theorem Po (l : List Int) (hl : l.length ≤ 1000000000) (x : Int) : CU l x = some (decide (x ∈ l)) := by
  unfold CU EA
  rw [Nw l.length (Dh l x) (fun k => if x = l.getD k 0 then some (k : Int) else none) (fun k hk => by
    have hg : l[k]? = some l[k] := List.getElem?_eq_getElem hk
    rw [Dh, if_pos (by omega), Cq hg, Option.bind_some, List.getD_eq_getElem?_getD, hg]
    simp only [Option.getD_some]
    by_cases c : x = l[k]
    · rw [if_pos c, if_pos c]
    · rw [if_neg c, if_neg c, AA (by omega)]; rfl) (by rw [Dh, if_neg (by omega)])]
  cases e : (List.range l.length).findSome? (fun k => if x = l.getD k 0 then some (k : Int) else none) with
  | none =>
    rw [List.findSome?_eq_none_iff] at e
    have hx : x ∉ l := fun hm => by
      obtain ⟨k, hk, rfl⟩ := List.getElem_of_mem hm
      have := e k (List.mem_range.2 hk)
      rw [if_pos (by rw [List.getD_eq_getElem?_getD, List.getElem?_eq_getElem hk]; rfl)] at this
      cases this
    rw [decide_eq_false hx]; rfl
  | some r =>
    obtain ⟨k, hk, h2⟩ := List.exists_of_findSome?_eq_some e
    by_cases c : x = l.getD k 0
    · rw [if_pos c] at h2
      cases h2
      have hkl := List.mem_range.1 hk
      have hx : x ∈ l := by rw [c, List.getD_eq_getElem?_getD, List.getElem?_eq_getElem hkl]; exact List.getElem_mem hkl
      rw [decide_eq_true hx]
      show (some (k : Int)).bind _ = _
      rw [Option.bind_some, decide_eq_true (by omega)]
    · rw [if_neg c] at h2; cases h2
def Sh (n m : Nat) (R : Rt) : Prop := R.length = n ∧ ∀ row ∈ R, row.length = m
theorem Sh.row {n m : Nat} {R : Rt} (h : Sh n m R) {s : Nat} (hs : s < n) : ∃ row, R[s]? = some row ∧ row.length = m ∧ R.getD s [] = row := by
  have hl : s < R.length := by rw [h.1]; exact hs
  exact ⟨R[s], List.getElem?_eq_getElem hl, h.2 _ (List.getElem_mem hl), by rw [List.getD_eq_getElem?_getD, List.getElem?_eq_getElem hl]; rfl⟩
theorem Sh.port {n m : Nat} {R : Rt} (h : Sh n m R) {s k : Nat} (hs : s < n) (hk : k < m) : ∃ row, R[s]? = some row ∧ row.length = m ∧ row[k]? = some (Iz R s k) := by
  obtain ⟨row, e1, e2, e3⟩ := h.row hs
  refine ⟨row, e1, e2, ?_⟩
  unfold Iz
  rw [Int.toNat_natCast, Int.toNat_natCast, e3, List.getD_eq_getElem?_getD, List.getElem?_eq_getElem (by omega)]; rfl
theorem Sw {n m : Nat} {R Q : Rt} (hR : Sh n m R) (hQ : Sh n m Q) (h : ∀ s k : Nat, s < n → k < m → Iz R s k = Iz Q s k) : R = Q := by
  refine List.ext_getElem? fun s => ?_
  by_cases hs : s < n
  · obtain ⟨r, e1, e2, _⟩ := hR.row hs
    obtain ⟨q, f1, f2, _⟩ := hQ.row hs
    rw [e1, f1]
    congr 1
    refine List.ext_getElem? fun k => ?_
    by_cases hk : k < m
    · obtain ⟨r', g1, _, g3⟩ := hR.port hs hk
      obtain ⟨q', i1, _, i3⟩ := hQ.port hs hk
      rw [e1] at g1; cases g1
      rw [f1] at i1; cases i1
      rw [g3, i3, h s k hs hk]
    · rw [List.getElem?_eq_none (by omega), List.getElem?_eq_none (by omega)]
  · rw [List.getElem?_eq_none (by rw [hR.1]; omega), List.getElem?_eq_none (by rw [hQ.1]; omega)]
theorem J4.sh {t : Tp} {r : Rt} (h : J4 t r) : Sh t.1.toNat t.2.2.length r := ⟨by have := h.2.1; omega, fun row hr => (h.2.2 row hr).1⟩
def OO (R : Rt) (s k : Nat) (p : Int) : Rt := R.set s ((R.getD s []).set k p)
theorem RK {n m : Nat} {R : Rt} (h : Sh n m R) {s : Nat} (hs : s < n) (k : Nat) (p : Int) : Sh n m (OO R s k p) := by
  obtain ⟨row, e1, e2, e3⟩ := h.row hs
  refine ⟨by unfold OO; simpa using h.1, fun r hr => ?_⟩
  unfold OO at hr
  rcases List.mem_or_eq_of_mem_set hr with hr | rfl
  · exact h.2 r hr
  · rw [e3]; simpa using e2
theorem QK {n m : Nat} {R : Rt} (h : Sh n m R) {s k : Nat} (hs : s < n) (hk : k < m) (p : Int) {s' k' : Nat} (hs' : s' < n) (hk' : k' < m) : Iz (OO R s k p) s' k' = if s' = s ∧ k' = k then p else Iz R s' k' := by
  obtain ⟨row, e1, e2, e3⟩ := h.row hs
  have hl : s < R.length := by rw [h.1]; exact hs
  unfold Iz OO
  simp only [Int.toNat_natCast, List.getD_eq_getElem?_getD]
  by_cases c : s' = s
  · subst c
    rw [List.getElem?_set_self hl, e1]
    simp only [Option.getD_some, true_and]
    by_cases ck : k' = k
    · subst ck
      rw [List.getElem?_set_self (by omega), if_pos rfl]; rfl
    · rw [List.getElem?_set_ne (fun h => ck h.symm), if_neg ck]
  · rw [List.getElem?_set_ne (fun h => c h.symm), if_neg (fun h => c h.1)]
theorem P8 {R : Rt} (hl : R.length ≤ 1000000) (hw : ∀ row ∈ R, row.length ≤ 1000000000) : GF R = some (R.map LI) := by
  unfold GF
  rw [R7 (by omega), Option.bind_some, Int.toNat_natCast]
  have hc : MC (List.replicate R.length ((2, []) : Nat × List Int)) 0 (min R.length (List.replicate R.length ((2, []) : Nat × List Int)).length) (R.map fun q => ((1, q) : Nat × List Int)) = R.map fun q => (1, q) := by
    unfold MC
    simp only [Int.toNat_zero, List.take_zero, List.nil_append, Nat.zero_add, List.length_replicate, Nat.min_self]
    rw [List.take_of_length_le (by simp), List.drop_eq_nil_of_le (by simp), List.append_nil]
  rw [hc]
  have hlp : AH (D1 R (List.replicate R.length ((2, []) : Nat × List Int))) ((R.map fun q => ((1, q) : Nat × List Int)), 0) = some (R.map LI) := by
    obtain ⟨x, h1, h2⟩ := E5 R.length (fun (x : List (Nat × List Int)) (k : Nat) => (x, (k : Int))) (D1 R (List.replicate R.length ((2, []) : Nat × List Int))) id (fun x k => x = (R.take k).map LI ++ (R.drop k).map fun q => (1, q)) (fun x k hk hx => by
      have hlen : ((R.take k).map LI).length = k := by simp; omega
      have hg : x[k]? = some ((1, R[k]) : Nat × List Int) := by
        rw [hx, List.getElem?_append_right (by omega), hlen, Nat.sub_self, List.getElem?_map, List.getElem?_drop, Nat.add_zero, List.getElem?_eq_getElem hk]; rfl
      refine ⟨(R.take (k + 1)).map LI ++ (R.drop (k + 1)).map fun q => (1, q), ?_, rfl⟩
      rw [D1, hc, if_pos (by simp; omega), Cq hg, Option.bind_some, R6 (hw _ (List.getElem_mem hk)), Option.bind_some]
      show ((Oz 1).bind fun _ => _) = _
      rw [show Oz 1 = some () from rfl, Option.bind_some, Option.bind_some, Option.bind_some, AA (by omega)]
      have e1 : AE x (k : Int) (2, R[k]) = (R.take (k + 1)).map LI ++ (R.drop (k + 1)).map fun q => (1, q) := by
        rw [hx]
        unfold AE
        rw [Int.toNat_natCast, List.set_append_right _ _ (by omega), hlen, Nat.sub_self, List.drop_eq_getElem_cons hk, List.map_cons, List.set_cons_zero, List.take_succ_eq_append_getElem hk, List.map_append, List.append_assoc]
        rfl
      rw [e1]; rfl) (fun x hx => by
      rw [D1, hc, if_neg (by simp)]; rfl) (R.map fun q => (1, q)) (by simp)
    have h3 : AH (D1 R (List.replicate R.length ((2, []) : Nat × List Int))) ((R.map fun q => ((1, q) : Nat × List Int)), 0) = some (id x) := h2
    rw [h3, h1, List.take_length, List.drop_length]
    simp
  rw [hlp]; rfl
theorem SG {n m : Nat} {R : Rt} (hn : n ≤ 1000000) (h : Sh n m R) (hm : m ≤ 1000000000) {x : Mv} (h1 : 0 ≤ x.1 ∧ x.1 < (n : Int)) (h2 : 0 ≤ x.2.1 ∧ x.2.1 < (m : Int)) : IF (R.map LI) x = some ((OO R x.1.toNat x.2.1.toNat x.2.2.1).map LI) := by
  obtain ⟨row, e1, e2, e3⟩ := h.row (s := x.1.toNat) (by omega)
  have hi : ix (R.map LI) x.1 = some (LI row) := by
    unfold ix
    rw [if_pos h1.1, List.getElem?_map, e1]; rfl
  obtain ⟨p, f1, f2⟩ := Ny (l := row) h2.1 (by omega)
  unfold IF
  rw [if_pos h1.1, if_pos (by rw [List.length_map, h.1]; exact h1.2), if_pos h2.1, hi]
  simp only [Option.bind_some]
  rw [show Oz (LI row).1 = some () from rfl, show RR (LI row).1 = some () from rfl]
  simp only [Option.bind_some]
  rw [decide_eq_true (by show x.2.1 < (row.length : Int); omega), if_pos rfl]
  rw [show ix (LI row).2 x.2.1 = some p from f1]
  simp only [Option.bind_some]
  unfold OO AE
  rw [e3, List.map_set]
abbrev Dn (L : List Mv) (round : Int) (some_ : List Int) (s k : Int) : Prop := ∃ m ∈ L, m.1 = s ∧ m.2.1 = k ∧ (m.2.2.2 < round ∨ m.2.2.2 = round ∧ m.1 ∈ some_)
open Classical in
theorem RH {t : Tp} {old now : Rt} (ho : J4 t old) (hn : J4 t now) {L : List Mv} (hL : L.length ≤ 1000000) (hm : ∀ m ∈ L, LA t old now m) (round : Int) (some_ : List Int) (hs : some_.length ≤ 1000000000) :
    ∃ R, GS old L round some_ = some R ∧ Sh t.1.toNat t.2.2.length R ∧ ∀ s k : Nat, s < t.1.toNat → k < t.2.2.length → Iz R s k = if Dn L round some_ s k then Iz now s k else Iz old s k := by
  have h8 := ho.1.1
  have hsh := ho.sh
  unfold GS
  rw [P8 (by have := ho.2.1; omega) (fun row hr => by have := (ho.2.2 row hr).1; omega), Option.bind_some]
  obtain ⟨x, ⟨R, rfl, hR, hp⟩, h2⟩ := E5 L.length (fun (x : List (Nat × List Int)) (k : Nat) => (x, (k : Int))) (EI L round some_) id
    (fun x j => ∃ R : Rt, x = R.map LI ∧ Sh t.1.toNat t.2.2.length R ∧ ∀ s k : Nat, s < t.1.toNat → k < t.2.2.length → Iz R s k = if Dn (L.take j) round some_ s k then Iz now s k else Iz old s k) (fun x j hj => by
      rintro ⟨R, rfl, hR, hp⟩
      have hg : L[j]? = some L[j] := List.getElem?_eq_getElem hj
      obtain ⟨m, hmj⟩ : ∃ m, m = L[j] := ⟨_, rfl⟩
      rw [← hmj] at hg
      have hmv := hm m (by rw [hmj]; exact List.getElem_mem hj)
      have hdn : ∀ s k : Int, Dn (L.take (j + 1)) round some_ s k ↔ Dn (L.take j) round some_ s k ∨ (m.1 = s ∧ m.2.1 = k ∧ (m.2.2.2 < round ∨ m.2.2.2 = round ∧ m.1 ∈ some_)) := fun s k => by
        rw [List.take_succ_eq_append_getElem hj, ← hmj]
        constructor
        · rintro ⟨q, hq, h⟩
          rcases List.mem_append.1 hq with hq | hq
          · exact .inl ⟨q, hq, h⟩
          · rw [List.mem_singleton.1 hq] at h; exact .inr h
        · rintro (⟨q, hq, h⟩ | h)
          · exact ⟨q, List.mem_append_left _ hq, h⟩
          · exact ⟨m, List.mem_append_right _ (List.mem_singleton.2 rfl), h⟩
      have hcond : (if m.2.2.2 < round then some (R.map LI, true) else (if m.2.2.2 = round then (CU some_ m.1).bind fun x9 => some (R.map LI, x9) else some (R.map LI, false))) = some (R.map LI, decide (m.2.2.2 < round ∨ m.2.2.2 = round ∧ m.1 ∈ some_)) := by
        by_cases c1 : m.2.2.2 < round
        · rw [if_pos c1, decide_eq_true (.inl c1)]
        · rw [if_neg c1]
          by_cases c2 : m.2.2.2 = round
          · rw [if_pos c2, Po _ hs, Option.bind_some]
            congr 2
            exact decide_eq_decide.2 ⟨fun h => .inr ⟨c2, h⟩, fun h => h.elim (fun h => absurd h c1) fun h => h.2⟩
          · rw [if_neg c2, decide_eq_false (fun h => h.elim c1 fun h => c2 h.1)]
      by_cases c : m.2.2.2 < round ∨ m.2.2.2 = round ∧ m.1 ∈ some_
      · refine ⟨(OO R m.1.toNat m.2.1.toNat m.2.2.1).map LI, ?_, _, rfl, RK hR (by have := hmv.1; omega) _ _, fun s k hs' hk' => ?_⟩
        · rw [EI, if_pos (by omega), Cq hg, Option.bind_some, hcond, decide_eq_true c]
          simp only [Option.bind_some, if_true]
          rw [SG (n := t.1.toNat) (m := t.2.2.length) (by omega) hR (by omega) (by have := hmv.1; omega) hmv.2.1]
          simp only [Option.bind_some]
          rw [AA (by omega)]; rfl
        · rw [QK hR (by have := hmv.1; omega) (by have := hmv.2.1; omega) _ hs' hk', hp s k hs' hk']
          have hq := hdn (s : Int) (k : Int)
          by_cases e : s = m.1.toNat ∧ k = m.2.1.toNat
          · rw [if_pos e, if_pos (hq.2 (.inr ⟨by have := hmv.1; omega, by have := hmv.2.1; omega, c⟩)), hmv.2.2.1]
            congr 1
            · have := hmv.1; omega
            · have := hmv.2.1; omega
          · rw [if_neg e]
            by_cases d : Dn (L.take j) round some_ s k
            · rw [if_pos d, if_pos (hq.2 (.inl d))]
            · rw [if_neg d, if_neg (fun h => (hq.1 h).elim d fun h => e ⟨by omega, by omega⟩)]
      · refine ⟨R.map LI, ?_, R, rfl, hR, fun s k hs' hk' => ?_⟩
        · rw [EI, if_pos (by omega), Cq hg, Option.bind_some, hcond, decide_eq_false c]
          simp only [Option.bind_some]
          rw [if_neg (by decide), Option.bind_some, AA (by omega)]; rfl
        · rw [hp s k hs' hk']
          have hq := hdn (s : Int) (k : Int)
          by_cases d : Dn (L.take j) round some_ s k
          · rw [if_pos d, if_pos (hq.2 (.inl d))]
          · rw [if_neg d, if_neg (fun h => (hq.1 h).elim d fun h => c h.2.2)]) (fun x _ => by rw [EI, if_neg (by omega)]; rfl) (old.map LI) ⟨old, rfl, hsh, fun s k _ _ => by
      rw [if_neg (by rintro ⟨m, hm, _⟩; simp at hm)]⟩
  have h3 : AH (EI L round some_) (old.map LI, 0) = some (id (R.map LI)) := h2
  rw [h3]
  simp only [id, Option.bind_some]
  rw [Ni, Option.bind_some]
  rw [List.take_length] at hp
  exact ⟨R, rfl, hR, hp⟩
theorem SK {a : List Int} (ha : a.length ≤ 1000000000) : Jj a a = some true := by
  unfold Jj
  rw [if_neg (fun h => h rfl), GO a (by omega) (Hl a a) (fun _ => False) false (fun k hk => by
    rw [Hl, if_pos (by omega), Cq (List.getElem?_eq_getElem hk), Option.bind_some, Option.bind_some, if_neg (fun h => h rfl), if_neg (fun h => h)]) (by rw [Hl, if_neg (by omega)]), if_neg (fun ⟨_, _, h⟩ => h)]
  rfl
theorem SI {R : Rt} (hl : R.length ≤ 1000000000) (hw : ∀ row ∈ R, row.length ≤ 1000000000) : Jn R R = some true := by
  unfold Jn
  rw [if_neg (fun h => h rfl), GO R (by omega) (Hg R R) (fun _ => False) false (fun k hk => by
    rw [Hg, if_pos (by omega), Cq (List.getElem?_eq_getElem hk), Option.bind_some, Option.bind_some, SK (hw _ (List.getElem_mem hk)), Option.bind_some, if_neg (by decide), if_neg (fun h => h)]) (by rw [Hg, if_neg (by omega)]), if_neg (fun ⟨_, _, h⟩ => h)]
  rfl
abbrev S0 := Int × (Int × (Int × (Int × Int × Int × Int) × (Int × Int × Int × Int)) × (List (Int × Int × Int))) × Bool
def Qn (m : Mv) : S0 := (3, (10, (-1, (0, m.2.1, 0, 0), (0, 255, 0, 0)), [(2, 0, m.2.2.1)]), false)
theorem Rr {h p : Int} (hh : 0 ≤ h ∧ h ≤ 255) : Ge 1 h 10 p = some (10, (-1, (0, h, 0, 0), (0, 255, 0, 0)), [(2, 0, p)]) := by
  have ht : Gj 1 = some 255 := by kernel_rfl
  unfold Ge IL
  rw [ht, if_neg (by decide), if_neg (by decide), if_neg (by omega), Option.bind_some, decide_eq_false (by omega), Option.bind_some, if_neg (by decide)]
  rfl
theorem Re {L : List Mv} (hL : L.length ≤ 1000000) (hb : ∀ m ∈ L, 0 ≤ m.2.1 ∧ m.2.1 ≤ 255) (round sw : Int) : FA L round sw = some ((L.filter fun m => decide (m.2.2.2 = round) && decide (m.1 = sw)).map Qn) := by
  unfold FA
  obtain ⟨x, h1, h2⟩ := E5 L.length (fun (x : List S0) (k : Nat) => (x, (k : Int))) (Ed L round sw) id (fun x k => x = ((L.take k).filter fun m => decide (m.2.2.2 = round) && decide (m.1 = sw)).map Qn) (fun x k hk hx => by
    have hg : L[k]? = some L[k] := List.getElem?_eq_getElem hk
    have hm := hb _ (List.getElem_mem hk)
    have hlen : x.length ≤ k := by
      rw [hx, List.length_map]
      have := List.length_filter_le (fun m : Mv => decide (m.2.2.2 = round) && decide (m.1 = sw)) (L.take k)
      rw [List.length_take] at this; omega
    have htk : ((L.take (k + 1)).filter fun m => decide (m.2.2.2 = round) && decide (m.1 = sw)).map Qn = x ++ (if (decide (L[k].2.2.2 = round) && decide (L[k].1 = sw)) = true then [Qn L[k]] else []) := by
      rw [List.take_succ_eq_append_getElem hk, List.filter_append, List.map_append, ← hx]
      congr 1
      by_cases c : (decide (L[k].2.2.2 = round) && decide (L[k].1 = sw)) = true
      · rw [if_pos c, List.filter_cons, if_pos c]; rfl
      · rw [if_neg c, List.filter_cons, if_neg c]; rfl
    refine ⟨_, ?_, htk.symm⟩
    rw [Ed, if_pos (by omega), Cq hg, Option.bind_some]
    by_cases c : (decide (L[k].2.2.2 = round) && decide (L[k].1 = sw)) = true
    · rw [if_pos c, if_pos c, Rr hm, Option.bind_some, HL (by simp; omega)]
      simp only [Option.bind_some]
      rw [AA (by omega)]; rfl
    · rw [if_neg c, if_neg c, List.append_nil]
      simp only [Option.bind_some]
      rw [AA (by omega)]; rfl) (fun x _ => by rw [Ed, if_neg (by omega)]; rfl) [] (by simp)
  have h3 : AH (Ed L round sw) ([], 0) = some (id x) := h2
  rw [h3, h1, List.take_length]; rfl
theorem SS (a : S0) (ha : a.2.1.2.2.length ≤ 1000000) : Jw a a = some true := by
  have h9 : Jk a.2.1.2.2 a.2.1.2.2 = some true := by
    unfold Jk
    rw [if_neg (fun h => h rfl), GO a.2.1.2.2 (by omega) (Hk a.2.1.2.2 a.2.1.2.2) (fun _ => False) false (fun k hk => by
      rw [Hk, if_pos (by omega), Cq (List.getElem?_eq_getElem hk), Option.bind_some, Option.bind_some]; simp) (by rw [Hk, if_neg (by omega)]), if_neg (fun ⟨_, _, h⟩ => h)]; rfl
  unfold Jw KE
  rw [h9]; simp
theorem TD (l : List S0) (hl : l.length ≤ 1000000) (ha : ∀ a ∈ l, a.2.1.2.2.length ≤ 1000000) : Ie l l = some true := by
  unfold Ie
  rw [if_neg (fun h => h rfl), GO l (by omega) (Hj l l) (fun _ => False) false (fun k hk => by
    rw [Hj, if_pos (by omega), Cq (List.getElem?_eq_getElem hk), Option.bind_some, Option.bind_some, SS _ (ha _ (List.getElem_mem hk)), Option.bind_some, if_neg (by decide), if_neg (fun h => h)]) (by rw [Hj, if_neg (by omega)]), if_neg (fun ⟨_, _, h⟩ => h)]; rfl
theorem PE {α : Type} (f g : α → Nat) : ∀ I : List α, (I.map fun i => f i + g i).sum = (I.map f).sum + (I.map g).sum
  | [] => rfl
  | i :: I => by simp only [List.map_cons, List.sum_cons]; rw [PE f g I]; omega
theorem PG (a : Int) : ∀ I : List Int, I.Nodup → a ∈ I → (I.map fun i => if a = i then 1 else 0).sum = 1
  | [], _, h => by cases h
  | i :: I, hn, h => by
    rw [List.nodup_cons] at hn
    simp only [List.map_cons, List.sum_cons]
    by_cases c : a = i
    · rw [if_pos c]
      have : (I.map fun j => if a = j then 1 else 0) = I.map fun _ => 0 := List.map_congr_left fun j hj => if_neg (fun e => hn.1 (by rw [← c, e]; exact hj))
      rw [this]
      have z : ∀ J : List Int, (J.map fun _ => 0).sum = 0 := fun J => by induction J with | nil => rfl | cons x J ih => simpa using ih
      rw [z]
    · rw [if_neg c, PG a I hn.2 ((List.mem_cons.1 h).resolve_left c)]
theorem NG {β : Type} (f : β → Int) (I : List Int) (hI : I.Nodup) : ∀ X : List β, (∀ x ∈ X, f x ∈ I) → (I.map fun i => (X.filter fun x => decide (f x = i)).length).sum = X.length
  | [], _ => by
    have z : ∀ J : List Int, (J.map fun _ => 0).sum = 0 := fun J => by induction J with | nil => rfl | cons x J ih => simpa using ih
    simpa using z I
  | x :: X, h => by
    have ih := NG f I hI X fun y hy => h y (List.mem_cons_of_mem _ hy)
    have e : (fun i => ((x :: X).filter fun x => decide (f x = i)).length) = fun i => (if f x = i then 1 else 0) + (X.filter fun x => decide (f x = i)).length := funext fun i => by
      rw [List.filter_cons]
      by_cases c : f x = i
      · rw [if_pos (decide_eq_true c), if_pos c, List.length_cons]; omega
      · rw [if_neg (by rw [decide_eq_true_eq]; exact c), if_neg c]; omega
    rw [e, PE, PG _ I hI (h x (List.mem_cons_self ..)), ih, List.length_cons]; omega
def Q2 (L : List Mv) (n i : Int) : List Mv := L.filter fun m => decide (m.2.2.2 = n) && decide (m.1 = i)
def Ow (L : List Mv) (n i : Int) : List S0 := (Q2 L n i).map Qn
theorem RC (L : List Mv) (n i : Int) : (Ow L n i).length ≤ L.length := by
  unfold Ow Q2; rw [List.length_map]; exact List.length_filter_le _ _
theorem OV {L : List Mv} (hL : L.length ≤ 64) (hb : ∀ m ∈ L, 0 ≤ m.2.1 ∧ m.2.1 ≤ 255) (pl : (List (Int × Int × Int × Int)) × (List (Int × Int × List Int)) × Int × Int × Int × Int) (h1 : pl.1 = L) (n at_ : Int) (S : List Int) (hS : S.length ≤ 64) : AH (DE pl (n, at_, S)) ([], 0) = some (S.map fun i => (i, Ow L n i)) := by
  obtain ⟨x, e1, e2⟩ := E5 S.length (fun (x : List (Int × List S0)) (k : Nat) => (x, (k : Int))) (DE pl (n, at_, S)) id (fun x k => x = (S.take k).map fun i => (i, Ow L n i)) (fun x k hk hx => by
    have hg : S[k]? = some S[k] := List.getElem?_eq_getElem hk
    refine ⟨(S.take (k + 1)).map fun i => (i, Ow L n i), ?_, rfl⟩
    rw [DE, if_pos (show (k : Int) < (S.length : Int) by omega), show ix (n, at_, S).2.2 (k : Int) = some S[k] from Cq hg, Option.bind_some, h1, Re (by omega) hb, Option.bind_some, HL (by rw [hx, List.length_map, List.length_take, List.length_singleton]; omega), Option.bind_some, AA (by omega), hx, List.take_succ_eq_append_getElem hk, List.map_append]; rfl) (fun x _ => by rw [DE, if_neg (show ¬ ((S.length : Int) < (S.length : Int)) by omega)]; rfl) [] rfl
  have e3 : AH (DE pl (n, at_, S)) ([], 0) = some (id x) := e2
  rw [e3, e1, List.take_length]; rfl
theorem KS (pl : (List (Int × Int × Int × Int)) × (List (Int × Int × List Int)) × Int × Int × Int × Int) {k : Int} (h : k < 0 ∨ (pl.2.1.length : Int) ≤ k) : CP pl k = some [] := by
  unfold CP
  rw [if_pos (by simpa using h)]
theorem LY {P : Int → Prop} : (NJ P).Nodup := (JG (P := P)).imp fun h => by omega
theorem Tc {L : List Mv} (hL : L.length ≤ 64) (hb : ∀ m ∈ L, 0 ≤ m.2.1 ∧ m.2.1 ≤ 255) (x5 : ((List (Int × Int × Int × Int)) × (List (Int × Int × List Int)) × Int × Int × Int × Int) × Int) (h1 : x5.1.1 = L) {k : Nat} {n at_ : Int} {S : List Int} (hk : ix x5.1.2.1 (k : Int) = some (n, at_, S)) (hS : S.length ≤ 64) (hne : ∀ i ∈ S, ∃ m ∈ L, m.2.2.2 = n ∧ m.1 = i) :
    ∀ (X : List Int) (j : Nat) (a : Nat), S.drop j = X → j ≤ S.length → a + 64 * X.length ≤ 1000000 → AH (Ef x5 (k : Int) (S.map fun i => (i, Ow L n i))) ((a : Int), (j : Int)) = some (.inl (((a + (X.map fun i => (Q2 L n i).length).sum : Nat) : Int)))
  | [], j, a, hX, hj, ha => by
    have : S.length ≤ j := List.drop_eq_nil_iff.1 hX
    rw [AJ (by rw [Ef, if_neg (by rw [List.length_map]; omega)])]; simp
  | i :: X, j, a, hX, hj, ha => by
    have hg : S[j]? = some i := by rw [← List.head?_drop, hX]; rfl
    have hlt := (List.getElem?_eq_some_iff.1 hg).1
    have hd : S.drop (j + 1) = X := by rw [← List.tail_drop, hX]; rfl
    have hgp : (S.map fun i => (i, Ow L n i))[j]? = some (i, Ow L n i) := by rw [List.getElem?_map, hg]; rfl
    have hml := RC L n i
    have hfl : (Ow L n i).length = (Q2 L n i).length := by unfold Ow; rw [List.length_map]
    obtain ⟨m, hm, hm1, hm2⟩ := hne i (List.mem_of_getElem? hg)
    have hpos : 0 < (Q2 L n i).length := List.length_pos_iff.2 fun e => by
      have : m ∈ Q2 L n i := by unfold Q2; rw [List.mem_filter, Bool.and_eq_true, decide_eq_true_eq, decide_eq_true_eq]; exact ⟨hm, hm1, hm2⟩
      rw [e] at this; cases this
    rw [List.length_cons] at ha
    have hsm : Ie (Ow L n i) (Ow L n i) = some true := TD _ (by omega) fun b hb => by
      unfold Ow at hb
      obtain ⟨q, _, rfl⟩ := List.mem_map.1 hb
      exact Nat.le_trans (show (Qn q).2.1.2.2.length ≤ 1 from Nat.le_refl _) (by omega)
    rw [BA (s' := (((a + (Q2 L n i).length : Nat) : Int), ((j + 1 : Nat) : Int))) (by
      rw [Ef, if_pos (by rw [List.length_map]; omega), Cq hgp, hk]
      simp only [Option.bind_some]
      rw [show ix S (j : Int) = some i from Cq hg, Option.bind_some, if_neg (fun h => h rfl), if_neg (by omega), h1, Re (by omega) hb, Option.bind_some]
      show ((Ie (Ow L n i) (Ow L n i)).bind _).bind _ = _
      rw [hsm, Option.bind_some, Option.bind_some, if_neg (by decide), hfl, AA (by omega), AA (by omega)]; rfl), Tc hL hb x5 h1 hk hS hne X (j + 1) _ hd (by omega) (by omega), List.map_cons, List.sum_cons]
    congr 3; omega
theorem Ur {L : List Mv} (hL : L.length ≤ 64) (hb : ∀ m ∈ L, 0 ≤ m.2.1 ∧ m.2.1 ≤ 255) (hr : ∀ m ∈ L, (0 ≤ m.1 ∧ m.1 < 64) ∧ 0 ≤ m.2.2.2 ∧ m.2.2.2 < 64) (x5 : ((List (Int × Int × Int × Int)) × (List (Int × Int × List Int)) × Int × Int × Int × Int) × Int) (h1 : x5.1.1 = L) {first gap : Int} (h2 : x5.1.2.1 = IJ L first gap) :
    AH (DC x5) (0, 0) = some (.inl (L.length : Int)) := by
  have hlen : (CY L).length ≤ 64 := Oe
  have hx : x5.1.2.1.length = (CY L).length := by rw [h2]; unfold IJ; simp
  have key : ∀ (X : List Int) (k a : Nat), (CY L).drop k = X → k ≤ (CY L).length → a + 4096 * X.length ≤ 500000 → AH (DC x5) ((a : Int), (k : Int)) = some (.inl (((a + (X.map fun n => (L.filter fun m => decide (m.2.2.2 = n)).length).sum : Nat) : Int))) := by
    intro X
    induction X with
    | nil =>
      intro k a hX hk ha
      have : (CY L).length ≤ k := List.drop_eq_nil_iff.1 hX
      rw [AJ (by rw [DC, if_neg (by omega)])]; simp
    | cons n X ih =>
      intro k a hX hk ha
      have hg : (CY L)[k]? = some n := by rw [← List.head?_drop, hX]; rfl
      have hlt := (List.getElem?_eq_some_iff.1 hg).1
      have hd : (CY L).drop (k + 1) = X := by rw [← List.tail_drop, hX]; rfl
      have hgd : (CY L).getD k 0 = n := by rw [List.getD_eq_getElem?_getD, hg]; rfl
      have hix : ix x5.1.2.1 (k : Int) = some (n, first + (k : Int) * gap, JM L n) := by rw [h2, R5 hlt, hgd]
      have hS : (JM L n).length ≤ 64 := Oe
      have hne : ∀ i ∈ JM L n, ∃ m ∈ L, m.2.2.2 = n ∧ m.1 = i := fun i hi => (Ih.1 hi).2
      have hpart : CP x5.1 (k : Int) = some ((JM L n).map fun i => (i, Ow L n i)) := by
        unfold CP
        rw [if_neg (by rw [Bool.or_eq_true, decide_eq_true_eq, decide_eq_true_eq]; omega), hix, Option.bind_some, OV hL hb x5.1 h1 n _ _ hS]; rfl
      rw [List.length_cons] at ha
      have hl2 := Tc hL hb x5 h1 hix hS hne (JM L n) 0 a rfl (Nat.zero_le _) (by omega)
      have hl2 : AH (Ef x5 (k : Int) ((JM L n).map fun i => (i, Ow L n i))) ((a : Int), 0) = _ := hl2
      have hcs : ((JM L n).map fun i => (Q2 L n i).length).sum = (L.filter fun m => decide (m.2.2.2 = n)).length := by
        have e : ∀ i, Q2 L n i = (L.filter fun m => decide (m.2.2.2 = n)).filter fun m => decide (m.1 = i) := fun i => by unfold Q2; rw [List.filter_filter]; congr 1; funext m; rw [Bool.and_comm]
        rw [List.map_congr_left (fun i _ => congrArg List.length (e i))]
        exact NG (fun m : Mv => m.1) (JM L n) LY _ fun m hm => by
          obtain ⟨h3, h4⟩ := List.mem_filter.1 hm
          exact Ih.2 ⟨(hr m h3).1, m, h3, of_decide_eq_true h4, rfl⟩
      have hfl : (L.filter fun m => decide (m.2.2.2 = n)).length ≤ 64 := Nat.le_trans (List.length_filter_le _ _) hL
      rw [BA (s' := (((a + (L.filter fun m => decide (m.2.2.2 = n)).length : Nat) : Int), ((k + 1 : Nat) : Int))) (by
        rw [DC, if_pos (by omega), hpart, Option.bind_some, hix, Option.bind_some, if_neg (by simp), hl2, hcs]
        simp only [FO, Option.bind_some]
        rw [AA (by omega)]; rfl), ih (k + 1) _ hd (by omega) (by omega), List.map_cons, List.sum_cons]
      congr 3; omega
  have h := key (CY L) 0 0 rfl (Nat.zero_le _) (by omega)
  have hc := NG (fun m : Mv => m.2.2.2) (CY L) LY L fun m hm => Ih.2 ⟨(hr m hm).2, m, hm, rfl⟩
  have h : AH (DC x5) (0, 0) = _ := h
  rw [h, hc, Nat.zero_add]
theorem Rm {t : Tp} {old now : Rt} (go : FS t old) (gn : FS t now) {L : List Mv} (hL : Sj t old now L) : GS old L t.1 [] = some now := by
  obtain ⟨h64, _, _, hm⟩ := hL
  obtain ⟨R, e, hsh, hp⟩ := RH go.1 gn.1 (L := L) (by omega) (fun m h => (hm m).1 h) t.1 [] (by simp)
  rw [e]
  congr 1
  refine Sw hsh gn.1.sh fun s k hs hk => ?_
  rw [hp s k hs hk]
  by_cases c : Dn L t.1 [] s k
  · rw [if_pos c]
  · rw [if_neg c]
    refine Classical.byContradiction fun hne => c ?_
    have h8 := gn.1.1.1
    obtain ⟨l, hl⟩ := gn.2 (s : Int) (k : Int) ⟨by omega, by omega⟩ ⟨by omega, by omega⟩
    have hmv : LA t old now ((s : Int), (k : Int), Iz now s k, (l.length : Int)) := ⟨⟨by show (0 : Int) ≤ (s : Int); omega, by show (s : Int) < t.1; omega⟩, ⟨by show (0 : Int) ≤ (k : Int); omega, by show (k : Int) < _; omega⟩, rfl, fun h => hne h.symm, l, hl, rfl⟩
    have hbd := (hmv.bd go gn).2.2.1
    exact ⟨_, (hm _).2 hmv, rfl, rfl, .inl hbd⟩
theorem LX (p0 : Tp) {A : Prop} (_ : A) (p1 : Rt) (ok1 : Qu (Qu (fun n => (Lit.int .i64 n).wf = true)) p1) (p2 : Rt) (ok2 : Qu (Qu (fun n => (Lit.int .i64 n).wf = true)) p2) (p3 : Int) {B : Prop} (_ : B) (p4 : Int) {C : Prop} (_ : C) (p5 : Int) {D : Prop} (_ : D) (p6 : Int) {E : Prop} (_ : E) : Hb p0 p1 p2 p3 p4 p5 p6 = some true := by
  have hl1 : p1.length ≤ 9223372036854775807 := ok1.1
  have hl2 : p2.length ≤ 9223372036854775807 := ok2.1
  unfold Hb
  rw [PU p0 p1 hl1, PU p0 p2 hl2, RW, Option.bind_some]
  by_cases c1 : (∀ row ∈ p1, row.length ≤ 12) ∧ p0.2.1.length ≤ 30 ∧ p0.2.2.length ≤ 12 ∧ p1.length ≤ 12
  · rw [decide_eq_true c1, if_neg (by decide), Option.bind_some]
    by_cases c2 : (∀ row ∈ p2, row.length ≤ 12) ∧ p0.2.1.length ≤ 30 ∧ p0.2.2.length ≤ 12 ∧ p2.length ≤ 12
    · rw [decide_eq_true c2]
      simp only [Option.bind_some]
      rw [if_neg (by decide)]
      have s1 : TK p1 := ⟨c1.2.2.2, fun row hm => by have := c1.1 row hm; omega⟩
      have s2 : TK p2 := ⟨c2.2.2.2, fun row hm => by have := c2.1 row hm; omega⟩
      have hnop : CP MS p6 = some [] := KS MS (by show p6 < 0 ∨ ((0 : Nat) : Int) ≤ p6; omega)
      rcases RD s1 s2 p3 p4 p5 with ⟨_, e⟩ | ⟨_, _, e⟩ | ⟨_, g1, g2, L, hL, _, h⟩
      · rw [e, Option.bind_some, if_pos (show (2 : Int) ≠ 0 by decide)]
        show ((CP MS p6).bind _).bind _ = _
        rw [hnop]; rfl
      · rw [e, Option.bind_some, if_pos (show (2 : Int) ≠ 0 by decide)]
        show ((CP MS p6).bind _).bind _ = _
        rw [hnop]; rfl
      · rcases h with ⟨_, e⟩ | ⟨_, _, _, e⟩
        · rw [e, Option.bind_some, if_pos (show (7 : Int) ≠ 0 by decide)]
          show ((CP MS p6).bind _).bind _ = _
          rw [hnop]; rfl
        · have h64 := hL.1
          have hm := hL.2.2.2
          have hb : ∀ m ∈ L, 0 ≤ m.2.1 ∧ m.2.1 ≤ 255 := fun m hq => by
            have h1 := ((hm m).1 hq).2.1
            have h2 := c1.2.2.1
            omega
          have hr : ∀ m ∈ L, (0 ≤ m.1 ∧ m.1 < 64) ∧ 0 ≤ m.2.2.2 ∧ m.2.2.2 < 64 := fun m hq => by
            have h1 := ((hm m).1 hq).bd g1 g2
            omega
          rw [e]
          generalize hF : p3 + p5 + p4 + CV p0 + 1 = F
          generalize hQ : 2 * p4 + CV p0 + 1 = Q
          generalize hT : F + (((CY L).length - 1 : Nat) : Int) * Q + p4 = TT
          by_cases cT : 1099511627776 < TT
          · rw [if_pos cT, Option.bind_some, if_pos (show (11 : Int) ≠ 0 by decide)]
            show ((CP MS p6).bind _).bind _ = _
            rw [hnop]; rfl
          · rw [if_neg cT, Option.bind_some, if_neg (fun h => h rfl), Ur h64 hb hr ((L, IJ L F Q, p4, CV p0, p3 + p5 + 1, TT), 0) rfl rfl]
            simp only [FO, Option.bind_some]
            rw [if_pos trivial, Rm g1 g2 hL, Option.bind_some, SI (by have := s2.1; omega) s2.2, Option.bind_some, if_pos rfl]
            by_cases d0 : 0 ≤ p6
            · rw [if_pos d0]
              by_cases d1 : p6 < ((IJ L F Q).length : Int)
              · rw [if_pos d1]; rfl
              · rw [if_neg d1, KS _ (.inr (by show ((IJ L F Q).length : Int) ≤ p6; omega))]; rfl
            · rw [if_neg d0, KS _ (.inl (by omega))]; rfl
    · rw [decide_eq_false c2]; rfl
  · rw [decide_eq_false c1]; rfl
end Go.Proofs.Ytghpabmmdenaoaa
