/- Layer 23: what is done: routes that are mixed. Conditions: none. -/
import Derived.Test.YthiejmoddfenlaahM23
import Derived.Test.YthiejmoddfenlaahEV
import Derived.Test.YthiejmoddfenlaahOT
namespace Go.Proofs.Ythiejmoddfenlaa
set_option linter.unusedVariables false
set_option linter.unusedSimpArgs false
open Go Go.RowKit
abbrev Hp (l : List Int) : Nat × List Int := (2, l)
theorem Kx : ∀ R : Rt, Jw PY (R.map Hp) = some R
  | [] => rfl
  | r :: R => by
    show (Sx (2, r)).bind (fun a => (Jw PY (R.map Hp)).bind fun m => some (a :: m)) = _
    rw [Kx R]; rfl
theorem QL {l : List Int} (h : l.length ≤ 1000000000) : DT l = some l := by
  unfold DT
  rw [HF (by simpa using h)]; rfl
theorem Ot (l : List Int) (hl : l.length ≤ 1000000000) (x : Int) : CZ l x = some (decide (x ∈ l)) := by
  unfold CZ EG
  rw [JV l.length (Dr l x) (fun k => if x = l.getD k 0 then some (k : Int) else none) (fun k hk => by
    have hg : l[k]? = some l[k] := List.getElem?_eq_getElem hk
    rw [Dr, if_pos (by omega), Cb hg, Option.bind_some, List.getD_eq_getElem?_getD, hg]
    simp only [Option.getD_some]
    by_cases c : x = l[k]
    · rw [if_pos c, if_pos c]
    · rw [if_neg c, if_neg c, AE (by omega)]; rfl) (by rw [Dr, if_neg (by omega)])]
  cases e : (List.range l.length).findSome? (fun k => if x = l.getD k 0 then some (k : Int) else none) with
  | none =>
    rw [List.findSome?_eq_none_iff] at e
    have hx : x ∉ l := fun hm => by
      obtain ⟨k, hk, rfl⟩ := List.getElem_of_mem hm
      have := e k (List.mem_range.2 hk)
      rw [if_pos (by rw [List.getD_eq_getElem?_getD, List.getElem?_eq_getElem hk]; rfl)] at this
      cases this
    rw [decide_eq_false hx]; rfl
  | some r =>
    obtain ⟨k, hk, h2⟩ := List.exists_of_findSome?_eq_some e
    by_cases c : x = l.getD k 0
    · rw [if_pos c] at h2
      cases h2
      have hkl := List.mem_range.1 hk
      have hx : x ∈ l := by rw [c, List.getD_eq_getElem?_getD, List.getElem?_eq_getElem hkl]; exact List.getElem_mem hkl
      rw [decide_eq_true hx]
      show (some (k : Int)).bind _ = _
      rw [Option.bind_some, decide_eq_true (by omega)]
    · rw [if_neg c] at h2; cases h2
def Sh (n m : Nat) (R : Rt) : Prop := R.length = n ∧ ∀ row ∈ R, row.length = m
theorem Sh.row {n m : Nat} {R : Rt} (h : Sh n m R) {s : Nat} (hs : s < n) : ∃ row, R[s]? = some row ∧ row.length = m ∧ R.getD s [] = row := by
  have hl : s < R.length := by rw [h.1]; exact hs
  exact ⟨R[s], List.getElem?_eq_getElem hl, h.2 _ (List.getElem_mem hl), by rw [List.getD_eq_getElem?_getD, List.getElem?_eq_getElem hl]; rfl⟩
theorem Sh.port {n m : Nat} {R : Rt} (h : Sh n m R) {s k : Nat} (hs : s < n) (hk : k < m) : ∃ row, R[s]? = some row ∧ row.length = m ∧ row[k]? = some (E1 R s k) := by
  obtain ⟨row, e1, e2, e3⟩ := h.row hs
  refine ⟨row, e1, e2, ?_⟩
  unfold E1
  rw [Int.toNat_natCast, Int.toNat_natCast, e3, List.getD_eq_getElem?_getD, List.getElem?_eq_getElem (by omega)]; rfl
theorem PJ {n m : Nat} {R Q : Rt} (hR : Sh n m R) (hQ : Sh n m Q) (h : ∀ s k : Nat, s < n → k < m → E1 R s k = E1 Q s k) : R = Q := by
  refine List.ext_getElem? fun s => ?_
  by_cases hs : s < n
  · obtain ⟨r, e1, e2, _⟩ := hR.row hs
    obtain ⟨q, f1, f2, _⟩ := hQ.row hs
    rw [e1, f1]
    congr 1
    refine List.ext_getElem? fun k => ?_
    by_cases hk : k < m
    · obtain ⟨r', g1, _, g3⟩ := hR.port hs hk
      obtain ⟨q', i1, _, i3⟩ := hQ.port hs hk
      rw [e1] at g1; cases g1
      rw [f1] at i1; cases i1
      rw [g3, i3, h s k hs hk]
    · rw [List.getElem?_eq_none (by omega), List.getElem?_eq_none (by omega)]
  · rw [List.getElem?_eq_none (by rw [hR.1]; omega), List.getElem?_eq_none (by rw [hQ.1]; omega)]
theorem Hx.sh {t : Tp} {r : Rt} (h : Hx t r) : Sh t.1.toNat t.2.2.length r := ⟨by have := h.2.1; omega, fun row hr => (h.2.2 row hr).1⟩
theorem Hx.of {t : Tp} {r : Rt} (hok : NU t) (h : Sh t.1.toNat t.2.2.length r) (hp : ∀ s k : Nat, s < t.1.toNat → k < t.2.2.length → 0 ≤ E1 r s k ∧ E1 r s k ≤ 7) : Hx t r := by
  have h1 := hok.1
  refine ⟨hok, by rw [h.1]; omega, fun row hrow => ⟨h.2 row hrow, fun p hpm => ?_⟩⟩
  obtain ⟨s, hs, rfl⟩ := List.getElem_of_mem hrow
  obtain ⟨k, hk, rfl⟩ := List.getElem_of_mem hpm
  have hs' : s < t.1.toNat := by rw [← h.1]; exact hs
  have hk' : k < t.2.2.length := by rw [← h.2 _ hrow]; exact hk
  obtain ⟨row, e1, _, e3⟩ := h.port hs' hk'
  rw [List.getElem?_eq_getElem hs] at e1
  cases e1
  rw [List.getElem?_eq_getElem hk] at e3
  rw [Option.some.inj e3]
  exact hp s k hs' hk'
def NF (R : Rt) (s k : Nat) (p : Int) : Rt := R.set s ((R.getD s []).set k p)
theorem QK {n m : Nat} {R : Rt} (h : Sh n m R) {s : Nat} (hs : s < n) (k : Nat) (p : Int) : Sh n m (NF R s k p) := by
  obtain ⟨row, e1, e2, e3⟩ := h.row hs
  refine ⟨by unfold NF; simpa using h.1, fun r hr => ?_⟩
  unfold NF at hr
  rcases List.mem_or_eq_of_mem_set hr with hr | rfl
  · exact h.2 r hr
  · rw [e3]; simpa using e2
theorem PX {n m : Nat} {R : Rt} (h : Sh n m R) {s k : Nat} (hs : s < n) (hk : k < m) (p : Int) {s' k' : Nat} (hs' : s' < n) (hk' : k' < m) : E1 (NF R s k p) s' k' = if s' = s ∧ k' = k then p else E1 R s' k' := by
  obtain ⟨row, e1, e2, e3⟩ := h.row hs
  have hl : s < R.length := by rw [h.1]; exact hs
  unfold E1 NF
  simp only [Int.toNat_natCast, List.getD_eq_getElem?_getD]
  by_cases c : s' = s
  · subst c
    rw [List.getElem?_set_self hl, e1]
    simp only [Option.getD_some, true_and]
    by_cases ck : k' = k
    · subst ck
      rw [List.getElem?_set_self (by omega), if_pos rfl]; rfl
    · rw [List.getElem?_set_ne (fun h => ck h.symm), if_neg ck]
  · rw [List.getElem?_set_ne (fun h => c h.symm), if_neg (fun h => c h.1)]
theorem Pj {R : Rt} (hl : R.length ≤ 1000000) (hw : ∀ row ∈ R, row.length ≤ 1000000000) : GG R = some (R.map Hp) := by
  unfold GG
  rw [Rq (by omega), Option.bind_some, Int.toNat_natCast]
  have hc : Mc (List.replicate R.length ((2, []) : Nat × List Int)) 0 (min R.length (List.replicate R.length ((2, []) : Nat × List Int)).length) (R.map fun q => ((1, q) : Nat × List Int)) = R.map fun q => (1, q) := by
    unfold Mc
    simp only [Int.toNat_zero, List.take_zero, List.nil_append, Nat.zero_add, List.length_replicate, Nat.min_self]
    rw [List.take_of_length_le (by simp), List.drop_eq_nil_of_le (by simp), List.append_nil]
  rw [hc]
  have hlp : AG (D0 R (List.replicate R.length ((2, []) : Nat × List Int))) ((R.map fun q => ((1, q) : Nat × List Int)), 0) = some (R.map Hp) := by
    obtain ⟨x, h1, h2⟩ := FO R.length (fun (x : List (Nat × List Int)) (k : Nat) => (x, (k : Int))) (D0 R (List.replicate R.length ((2, []) : Nat × List Int))) id (fun x k => x = (R.take k).map Hp ++ (R.drop k).map fun q => (1, q)) (fun x k hk hx => by
      have hlen : ((R.take k).map Hp).length = k := by simp; omega
      have hg : x[k]? = some ((1, R[k]) : Nat × List Int) := by
        rw [hx, List.getElem?_append_right (by omega), hlen, Nat.sub_self, List.getElem?_map, List.getElem?_drop, Nat.add_zero, List.getElem?_eq_getElem hk]; rfl
      refine ⟨(R.take (k + 1)).map Hp ++ (R.drop (k + 1)).map fun q => (1, q), ?_, rfl⟩
      rw [D0, hc, if_pos (by simp; omega), Cb hg, Option.bind_some, QL (hw _ (List.getElem_mem hk)), Option.bind_some]
      show ((Nx 1).bind fun _ => _) = _
      rw [show Nx 1 = some () from rfl, Option.bind_some, Option.bind_some, Option.bind_some, AE (by omega)]
      have e1 : Ap x (k : Int) (2, R[k]) = (R.take (k + 1)).map Hp ++ (R.drop (k + 1)).map fun q => (1, q) := by
        rw [hx]
        unfold Ap
        rw [Int.toNat_natCast, List.set_append_right _ _ (by omega), hlen, Nat.sub_self, List.drop_eq_getElem_cons hk, List.map_cons, List.set_cons_zero, List.take_succ_eq_append_getElem hk, List.map_append, List.append_assoc]
        rfl
      rw [e1]; rfl) (fun x hx => by
      rw [D0, hc, if_neg (by simp)]; rfl) (R.map fun q => (1, q)) (by simp)
    have h3 : AG (D0 R (List.replicate R.length ((2, []) : Nat × List Int))) ((R.map fun q => ((1, q) : Nat × List Int)), 0) = some (id x) := h2
    rw [h3, h1, List.take_length, List.drop_length]
    simp
  rw [hlp]; rfl
theorem RR {n m : Nat} {R : Rt} (hn : n ≤ 1000000) (h : Sh n m R) (hm : m ≤ 1000000000) {x : Mv} (h1 : 0 ≤ x.1 ∧ x.1 < (n : Int)) (h2 : 0 ≤ x.2.1 ∧ x.2.1 < (m : Int)) : IG (R.map Hp) x = some ((NF R x.1.toNat x.2.1.toNat x.2.2.1).map Hp) := by
  obtain ⟨row, e1, e2, e3⟩ := h.row (s := x.1.toNat) (by omega)
  have hi : ix (R.map Hp) x.1 = some (Hp row) := by
    unfold ix
    rw [if_pos h1.1, List.getElem?_map, e1]; rfl
  obtain ⟨p, f1, f2⟩ := J6 (l := row) h2.1 (by omega)
  unfold IG
  rw [if_pos h1.1, if_pos (by rw [List.length_map, h.1]; exact h1.2), if_pos h2.1, hi]
  simp only [Option.bind_some]
  rw [show Nx (Hp row).1 = some () from rfl, show LL (Hp row).1 = some () from rfl]
  simp only [Option.bind_some]
  rw [decide_eq_true (by show x.2.1 < (row.length : Int); omega), if_pos rfl]
  rw [show ix (Hp row).2 x.2.1 = some p from f1]
  simp only [Option.bind_some]
  unfold NF Ap
  rw [e3, List.map_set]
abbrev Dn (L : List Mv) (round : Int) (some_ : List Int) (s k : Int) : Prop := ∃ m ∈ L, m.1 = s ∧ m.2.1 = k ∧ (m.2.2.2 < round ∨ m.2.2.2 = round ∧ m.1 ∈ some_)
open Classical in
theorem QI {t : Tp} {old now : Rt} (ho : Hx t old) (hn : Hx t now) {L : List Mv} (hL : L.length ≤ 1000000) (hm : ∀ m ∈ L, MX t old now m) (round : Int) (some_ : List Int) (hs : some_.length ≤ 1000000000) :
    ∃ R, Gq old L round some_ = some R ∧ Sh t.1.toNat t.2.2.length R ∧ ∀ s k : Nat, s < t.1.toNat → k < t.2.2.length → E1 R s k = if Dn L round some_ s k then E1 now s k else E1 old s k := by
  have h8 := ho.1.1
  have hsh := ho.sh
  unfold Gq
  rw [Pj (by have := ho.2.1; omega) (fun row hr => by have := (ho.2.2 row hr).1; omega), Option.bind_some]
  obtain ⟨x, ⟨R, rfl, hR, hp⟩, h2⟩ := FO L.length (fun (x : List (Nat × List Int)) (k : Nat) => (x, (k : Int))) (EJ L round some_) id
    (fun x j => ∃ R : Rt, x = R.map Hp ∧ Sh t.1.toNat t.2.2.length R ∧ ∀ s k : Nat, s < t.1.toNat → k < t.2.2.length → E1 R s k = if Dn (L.take j) round some_ s k then E1 now s k else E1 old s k) (fun x j hj => by
      rintro ⟨R, rfl, hR, hp⟩
      have hg : L[j]? = some L[j] := List.getElem?_eq_getElem hj
      obtain ⟨m, hmj⟩ : ∃ m, m = L[j] := ⟨_, rfl⟩
      rw [← hmj] at hg
      have hmv := hm m (by rw [hmj]; exact List.getElem_mem hj)
      have hdn : ∀ s k : Int, Dn (L.take (j + 1)) round some_ s k ↔ Dn (L.take j) round some_ s k ∨ (m.1 = s ∧ m.2.1 = k ∧ (m.2.2.2 < round ∨ m.2.2.2 = round ∧ m.1 ∈ some_)) := fun s k => by
        rw [List.take_succ_eq_append_getElem hj, ← hmj]
        constructor
        · rintro ⟨q, hq, h⟩
          rcases List.mem_append.1 hq with hq | hq
          · exact .inl ⟨q, hq, h⟩
          · rw [List.mem_singleton.1 hq] at h; exact .inr h
        · rintro (⟨q, hq, h⟩ | h)
          · exact ⟨q, List.mem_append_left _ hq, h⟩
          · exact ⟨m, List.mem_append_right _ (List.mem_singleton.2 rfl), h⟩
      have hcond : (if m.2.2.2 < round then some (R.map Hp, true) else (if m.2.2.2 = round then (CZ some_ m.1).bind fun x9 => some (R.map Hp, x9) else some (R.map Hp, false))) = some (R.map Hp, decide (m.2.2.2 < round ∨ m.2.2.2 = round ∧ m.1 ∈ some_)) := by
        by_cases c1 : m.2.2.2 < round
        · rw [if_pos c1, decide_eq_true (.inl c1)]
        · rw [if_neg c1]
          by_cases c2 : m.2.2.2 = round
          · rw [if_pos c2, Ot _ hs, Option.bind_some]
            congr 2
            exact decide_eq_decide.2 ⟨fun h => .inr ⟨c2, h⟩, fun h => h.elim (fun h => absurd h c1) fun h => h.2⟩
          · rw [if_neg c2, decide_eq_false (fun h => h.elim c1 fun h => c2 h.1)]
      by_cases c : m.2.2.2 < round ∨ m.2.2.2 = round ∧ m.1 ∈ some_
      · refine ⟨(NF R m.1.toNat m.2.1.toNat m.2.2.1).map Hp, ?_, _, rfl, QK hR (by have := hmv.1; omega) _ _, fun s k hs' hk' => ?_⟩
        · rw [EJ, if_pos (by omega), Cb hg, Option.bind_some, hcond, decide_eq_true c]
          simp only [Option.bind_some, if_true]
          rw [RR (n := t.1.toNat) (m := t.2.2.length) (by omega) hR (by omega) (by have := hmv.1; omega) hmv.2.1]
          simp only [Option.bind_some]
          rw [AE (by omega)]; rfl
        · rw [PX hR (by have := hmv.1; omega) (by have := hmv.2.1; omega) _ hs' hk', hp s k hs' hk']
          have hq := hdn (s : Int) (k : Int)
          by_cases e : s = m.1.toNat ∧ k = m.2.1.toNat
          · rw [if_pos e, if_pos (hq.2 (.inr ⟨by have := hmv.1; omega, by have := hmv.2.1; omega, c⟩)), hmv.2.2.1]
            congr 1
            · have := hmv.1; omega
            · have := hmv.2.1; omega
          · rw [if_neg e]
            by_cases d : Dn (L.take j) round some_ s k
            · rw [if_pos d, if_pos (hq.2 (.inl d))]
            · rw [if_neg d, if_neg (fun h => (hq.1 h).elim d fun h => e ⟨by omega, by omega⟩)]
      · refine ⟨R.map Hp, ?_, R, rfl, hR, fun s k hs' hk' => ?_⟩
        · rw [EJ, if_pos (by omega), Cb hg, Option.bind_some, hcond, decide_eq_false c]
          simp only [Option.bind_some]
          rw [if_neg (by decide), Option.bind_some, AE (by omega)]; rfl
        · rw [hp s k hs' hk']
          have hq := hdn (s : Int) (k : Int)
          by_cases d : Dn (L.take j) round some_ s k
          · rw [if_pos d, if_pos (hq.2 (.inl d))]
          · rw [if_neg d, if_neg (fun h => (hq.1 h).elim d fun h => c h.2.2)]) (fun x _ => by rw [EJ, if_neg (by omega)]; rfl) (old.map Hp) ⟨old, rfl, hsh, fun s k _ _ => by
      rw [if_neg (by rintro ⟨m, hm, _⟩; simp at hm)]⟩
  have h3 : AG (EJ L round some_) (old.map Hp, 0) = some (id (R.map Hp)) := h2
  rw [h3]
  simp only [id, Option.bind_some]
  rw [Kx, Option.bind_some]
  rw [List.take_length] at hp
  exact ⟨R, rfl, hR, hp⟩
section
variable {t : Tp} {old now R : Rt} {L : List Mv} {round : Int} {some_ : List Int}
structure Mix (t : Tp) (old now : Rt) (L : List Mv) (round : Int) (some_ : List Int) (R : Rt) : Prop where
  ho : F4 t old
  hn : F4 t now
  hm : ∀ m, m ∈ L ↔ MX t old now m
  sh : Sh t.1.toNat t.2.2.length R
  yes : ∀ s k : Int, 0 ≤ s ∧ s < t.1 → 0 ≤ k ∧ k < (t.2.2.length : Int) → Dn L round some_ s k → E1 R s k = E1 now s k
  no : ∀ s k : Int, 0 ≤ s ∧ s < t.1 → 0 ≤ k ∧ k < (t.2.2.length : Int) → ¬ Dn L round some_ s k → E1 R s k = E1 old s k
theorem Qm (ho : F4 t old) (hn : F4 t now) (hL : L.length ≤ 1000000) (hm : ∀ m, m ∈ L ↔ MX t old now m) (round : Int) (some_ : List Int) (hs : some_.length ≤ 1000000000) : ∃ R, Gq old L round some_ = some R ∧ Mix t old now L round some_ R := by
  obtain ⟨R, h1, h2, h3⟩ := QI ho.1 hn.1 hL (fun m h => (hm m).1 h) round some_ hs
  refine ⟨R, h1, ho, hn, hm, h2, fun s k h4 h5 hd => ?_, fun s k h4 h5 hd => ?_⟩
  · have := h3 s.toNat k.toNat (by omega) (by omega)
    rw [Int.toNat_of_nonneg h4.1, Int.toNat_of_nonneg h5.1, if_pos hd] at this; exact this
  · have := h3 s.toNat k.toNat (by omega) (by omega)
    rw [Int.toNat_of_nonneg h4.1, Int.toNat_of_nonneg h5.1, if_neg hd] at this; exact this
theorem Mix.below (M : Mix t old now L round some_ R) {s k : Int} (hs : 0 ≤ s ∧ s < t.1) (hk : 0 ≤ k ∧ k < (t.2.2.length : Int)) {l : List Int} (hw : Wy t now k (s :: l)) (hl : (l.length : Int) < round) : E1 R s k = E1 now s k := by
  by_cases hd : Dn L round some_ s k
  · exact M.yes s k hs hk hd
  · rw [M.no s k hs hk hd]
    refine Classical.byContradiction fun hne => hd ⟨(s, k, E1 now s k, (l.length : Int)), (M.hm _).2 ⟨hs, hk, rfl, fun h => hne h.symm, l, hw, rfl⟩, rfl, rfl, .inl hl⟩
theorem Mix.ok (M : Mix t old now L round some_ R) : Hx t R := by
  have h1 := M.ho.1.1.1
  refine Hx.of M.ho.1.1 M.sh fun s k hs hk => ?_
  have hs' : 0 ≤ (s : Int) ∧ (s : Int) < t.1 := by omega
  have hk' : 0 ≤ (k : Int) ∧ (k : Int) < (t.2.2.length : Int) := by omega
  obtain ⟨_, _, _, _, a1, a2⟩ := M.ho.1.port hs' hk'
  obtain ⟨_, _, _, _, b1, b2⟩ := M.hn.1.port hs' hk'
  by_cases hd : Dn L round some_ s k
  · rw [M.yes _ _ hs' hk' hd]; exact ⟨b1, b2⟩
  · rw [M.no _ _ hs' hk' hd]; exact ⟨a1, a2⟩
theorem JA {r q : Rt} {h s : Int} (e : E1 r s h = E1 q s h) : JH t r h s ↔ JH t q h s := by unfold JH; rw [e]
theorem PL {r q : Rt} {h s : Int} (e : E1 r s h = E1 q s h) : nx t r h s = nx t q h s := by unfold nx; rw [e]
theorem Mix.walkN (M : Mix t old now L round some_ R) {k : Int} (hk : 0 ≤ k ∧ k < (t.2.2.length : Int)) : ∀ {l : List Int} {s : Int}, 0 ≤ s ∧ s < t.1 → Wy t now k (s :: l) → (l.length : Int) < round → Wy t R k (s :: l)
  | [], s, hs, hw, hl => by
    have e := M.below hs hk hw hl
    cases hw with
    | last h => exact .last ((JA e).2 h)
  | v :: l, s, hs, hw, hl => by
    have e := M.below hs hk hw hl
    cases hw with
    | go h1 h2 h3 =>
      have hv := (LZ M.hn.1.1 h2).2
      rw [List.length_cons] at hl
      exact .go (fun h => h1 ((JA e).1 h)) ((PL e).trans h2) (M.walkN hk hv h3 (by omega))
theorem Mix.walkO (M : Mix t old now L round some_ R) {k : Int} (hk : 0 ≤ k ∧ k < (t.2.2.length : Int)) : ∀ {l : List Int} {s : Int}, 0 ≤ s ∧ s < t.1 → Wy t old k (s :: l) → ∃ l', Wy t R k (s :: l')
  | l, s, hs, hw => by
    by_cases hd : Dn L round some_ s k
    · have e := M.yes s k hs hk hd
      obtain ⟨m, hm, m1, m2, m3⟩ := hd
      obtain ⟨_, _, _, _, l', hw', hl'⟩ := (M.hm m).1 hm
      rw [m1, m2] at hw'
      cases hw' with
      | last h => exact ⟨[], .last ((JA e).2 h)⟩
      | go h1 h2 h3 =>
        have hv := (LZ M.hn.1.1 h2).2
        rw [List.length_cons] at hl'
        exact ⟨_, .go (fun h => h1 ((JA e).1 h)) ((PL e).trans h2) (M.walkN hk hv h3 (by omega))⟩
    · have e := M.no s k hs hk hd
      cases hw with
      | last h => exact ⟨[], .last ((JA e).2 h)⟩
      | go h1 h2 h3 =>
        have hv := (LZ M.ho.1.1 h2).2
        obtain ⟨l', hl'⟩ := M.walkO hk hv h3
        exact ⟨_, .go (fun h => h1 ((JA e).1 h)) ((PL e).trans h2) hl'⟩
theorem Mix.good (M : Mix t old now L round some_ R) : F4 t R := ⟨M.ok, fun s k hs hk => by
  obtain ⟨l, hl⟩ := M.ho.2 s k hs hk
  exact M.walkO hk hs hl⟩
theorem Ql {r : Rt} (hr : F4 t r) {s k : Int} (hs : 0 ≤ s ∧ s < t.1) {l : List Int} (hw : Wy t r k (s :: l)) : (l.length : Int) < t.1 := by
  have hin := hw.in_ hr.1.1 (fun q e => by rw [← Option.some.inj e]; exact hs)
  have hnd := Ho t.1.toNat (s :: l) hw.nodup (fun x hx => by have := hin x hx; omega)
  rw [List.length_cons] at hnd
  omega
theorem Mix.all (M : Mix t old now L t.1 some_ R) : R = now := PJ M.sh M.hn.1.sh fun s k hs hk => by
  have hs' : 0 ≤ (s : Int) ∧ (s : Int) < t.1 := by omega
  have hk' : 0 ≤ (k : Int) ∧ (k : Int) < (t.2.2.length : Int) := by omega
  obtain ⟨l, hl⟩ := M.hn.2 s k hs' hk'
  exact M.below hs' hk' hl (Ql M.hn hs' hl)
theorem Mix.none (M : Mix t old now L 0 [] R) : R = old := PJ M.sh M.ho.1.sh fun s k hs hk => by
  refine M.no _ _ (by omega) (by omega) ?_
  rintro ⟨m, hm, _, _, h | ⟨_, h⟩⟩
  · obtain ⟨_, _, _, _, l, _, e⟩ := (M.hm m).1 hm
    omega
  · cases h
end
end Go.Proofs.Ythiejmoddfenlaa
