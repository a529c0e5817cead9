/- Layer 17: what may be, as the program says; near. Conditions: none. -/
import Derived.Test.YtnkleniifdkpmaaM17P
namespace Go.Proofs.Ytnkleniifdkpmaa
set_option linter.unusedVariables false
set_option linter.unusedSimpArgs false
open Go Go.RowKit
/-! ### Sorting by insertion -/
section sorting
variable {α : Type} (key : α → Int)
/-- Two neighbours change places. -/
def swp (L : List α) (j : Nat) (h : j < L.length) : List α := (L.set j (L[j - 1]'(by omega))).set (j - 1) L[j]
theorem swp_len (L : List α) (j : Nat) (h : j < L.length) : (swp L j h).length = L.length := by simp [swp]
theorem swp_get {L : List α} {j : Nat} (h : j < L.length) (h0 : 0 < j) {u : Nat} (hu : u < L.length) : (swp L j h)[u]'(by rw [swp_len]; exact hu) = if u = j - 1 then L[j] else if u = j then L[j - 1]'(by omega) else L[u] := by
  unfold swp
  rw [List.getElem_set]
  by_cases c1 : j - 1 = u
  · rw [if_pos c1, if_pos c1.symm]
  · rw [if_neg c1, if_neg (fun e => c1 e.symm), List.getElem_set]
    by_cases c2 : j = u
    · rw [if_pos c2, if_pos c2.symm]
    · rw [if_neg c2, if_neg (fun e => c2 e.symm)]
theorem swp_perm {L : List α} {j : Nat} (h : j < L.length) (h0 : 0 < j) : (swp L j h).Perm L := by
  obtain ⟨i, rfl⟩ : ∃ i, j = i + 1 := ⟨j - 1, by omega⟩
  have hi : i < L.length := by omega
  have e : L = L.take i ++ L[i] :: L[i + 1] :: L.drop (i + 2) := by
    rw [← List.drop_eq_getElem_cons h, ← List.drop_eq_getElem_cons hi, List.take_append_drop]
  have e2 : swp L (i + 1) h = L.take i ++ L[i + 1] :: L[i] :: L.drop (i + 2) := by
    apply List.ext_getElem
    · rw [swp_len]; simp; omega
    · intro u h1 h2
      rw [swp_len] at h1
      rw [swp_get h h0 h1]
      have hlen0 : (L.take i).length = i := by simp; omega
      by_cases c1 : u = i
      · subst c1
        rw [if_pos (by omega), List.getElem_append_right (by omega)]
        simp only [hlen0, Nat.sub_self, List.getElem_cons_zero]
      · by_cases c2 : u = i + 1
        · subst c2
          rw [if_neg (by omega), if_pos rfl, List.getElem_append_right (by omega)]
          simp only [hlen0, Nat.add_sub_cancel_left, List.getElem_cons_succ, List.getElem_cons_zero]
          rfl
        · rw [if_neg (by omega), if_neg c2]
          by_cases c3 : u < i
          · rw [List.getElem_append_left (by simp; omega), List.getElem_take]
          · rw [List.getElem_append_right (by simp; omega)]
            have hlen : (L.take i).length = i := by simp; omega
            obtain ⟨v, hv⟩ : ∃ v, u - (L.take i).length = v + 2 := ⟨u - i - 2, by rw [hlen]; omega⟩
            simp only [hv, List.getElem_cons_succ, List.getElem_drop]
            congr 1; rw [hlen] at hv; omega
  rw [e2]
  conv => rhs; rw [e]
  exact List.Perm.append_left _ (List.Perm.swap _ _ _)
/-- The first n stand in order. -/
def Ord (L : List α) (n : Nat) : Prop := ∀ u v (hv : v < L.length) (huv : u < v), v < n → key (L[u]'(by omega)) ≤ key L[v]
/-- .. but for the one at j, which may have to go further down. -/
def OrdJ (L : List α) (n j : Nat) : Prop := ∀ u v (hv : v < L.length) (huv : u < v), v < n → v ≠ j → key (L[u]'(by omega)) ≤ key L[v]
variable {key}
theorem ord_done {L : List α} {n j : Nat} (h : OrdJ key L n j) (hj : j < L.length) (hn : ¬ (0 < j ∧ key L[j] < key (L[j - 1]'(by omega)))) : Ord key L n := fun u v hv huv hvn => by
  by_cases c : v = j
  · subst c
    have h1 : key (L[v - 1]'(by omega)) ≤ key L[v] := by
      have := fun hh => hn ⟨by omega, hh⟩
      omega
    by_cases c2 : u = v - 1
    · subst c2; exact h1
    · exact Int.le_trans (h u (v - 1) (by omega) (by omega) (by omega) (by omega)) h1
  · exact h u v hv huv hvn c
theorem ord_step {L : List α} {n j : Nat} (h : OrdJ key L n j) (hj : j < L.length) (h0 : 0 < j) (hjn : j < n) (hlt : key L[j] < key (L[j - 1]'(by omega))) : OrdJ key (swp L j hj) n (j - 1) := fun u v hv huv hvn hne => by
  rw [swp_len] at hv
  rw [swp_get hj h0 hv, swp_get hj h0 (by omega : u < L.length), if_neg hne]
  by_cases c1 : v = j
  · subst c1
    rw [if_pos rfl, if_neg (by omega : ¬ u = v)]
    by_cases c2 : u = v - 1
    · rw [if_pos c2]; omega
    · rw [if_neg c2]; exact h u (v - 1) (by omega) (by omega) (by omega) (by omega)
  · rw [if_neg c1]
    by_cases c2 : u = j - 1
    · rw [if_pos c2]
      exact h j v hv (by omega) hvn c1
    · rw [if_neg c2]
      by_cases c3 : u = j
      · rw [if_pos c3]; exact h (j - 1) v hv (by omega) hvn c1
      · rw [if_neg c3]; exact h u v hv huv hvn c1
theorem sort_inner {N : Nat} {S : List α × Int → Option ((List α × Int) ⊕ List α)} (hS : ∀ L (j : Nat) (h : j < L.length), L.length = N → S (L, (j : Int)) = if 0 < j ∧ key L[j] < key (L[j - 1]'(by omega)) then some (.inl (swp L j h, ((j - 1 : Nat) : Int))) else some (.inr L)) {n : Nat} :
    ∀ (j : Nat) (L : List α), L.length = N → j < L.length → j < n → OrdJ key L n j → ∃ L', loopW S (L, (j : Int)) = some L' ∧ L'.Perm L ∧ Ord key L' n := by
  intro j
  induction j with
  | zero =>
    intro L hN hj hjn h
    exact ⟨L, loopW_end (by rw [hS L 0 hj hN, if_neg (fun hh => Nat.lt_irrefl _ hh.1)]), List.Perm.refl _, ord_done h hj (fun hh => Nat.lt_irrefl _ hh.1)⟩
  | succ j ih =>
    intro L hN hj hjn h
    by_cases c : 0 < j + 1 ∧ key L[j + 1] < key (L[j + 1 - 1]'(by omega))
    · have h1 := ord_step h hj c.1 hjn c.2
      obtain ⟨L', e, p, o⟩ := ih (swp L (j + 1) hj) (by rw [swp_len]; exact hN) (by rw [swp_len]; omega) (by omega) h1
      exact ⟨L', by rw [loopW_go (by rw [hS L (j + 1) hj hN, if_pos c])]; exact e, p.trans (swp_perm hj c.1), o⟩
    · exact ⟨L, loopW_end (by rw [hS L (j + 1) hj hN, if_neg c]), List.Perm.refl _, ord_done h hj c⟩
/-- All of a row, sorted. -/
theorem sort_outer {L0 : List α} {S : List α × Int → Option ((List α × Int) ⊕ List α)} {T : List α × Int → Option ((List α × Int) ⊕ List α)} (hS : ∀ L (j : Nat) (h : j < L.length), L.length = L0.length → S (L, (j : Int)) = if 0 < j ∧ key L[j] < key (L[j - 1]'(by omega)) then some (.inl (swp L j h, ((j - 1 : Nat) : Int))) else some (.inr L))
    (hT : ∀ L (i : Nat), L.length = L0.length → i < L0.length → T (L, (i : Int)) = (loopW S (L, (i : Int))).bind fun x => some (.inl (x, ((i + 1 : Nat) : Int)))) (hTe : ∀ L (i : Nat), L0.length ≤ i → T (L, (i : Int)) = some (.inr L)) :
    ∃ L', loopW T (L0, 1) = some L' ∧ L'.Perm L0 ∧ Ord key L' L0.length := by
  have keyl : ∀ (d i : Nat) (L : List α), i + d = L0.length → 1 ≤ i → L.Perm L0 → Ord key L i → ∃ L', loopW T (L, (i : Int)) = some L' ∧ L'.Perm L0 ∧ Ord key L' L0.length := by
    intro d
    induction d with
    | zero =>
      intro i L hi h1 hp ho
      exact ⟨L, loopW_end (hTe L i (by omega)), hp, by rw [← hi]; exact ho⟩
    | succ d ih =>
      intro i L hi h1 hp ho
      have hlen := hp.length_eq
      obtain ⟨L', e, p, o⟩ := sort_inner (key := key) hS (n := i + 1) i L hlen (by omega) (by omega) (fun u v hv huv hvn hne => ho u v hv huv (by omega))
      have hst : T (L, (i : Int)) = some (.inl (L', ((i + 1 : Nat) : Int))) := by rw [hT L i hlen (by omega), e]; rfl
      rw [loopW_go hst]
      exact ih (i + 1) L' (by omega) (by omega) (p.trans hp) o
  by_cases c : L0.length = 0
  · exact ⟨L0, loopW_end (hTe L0 1 (by omega)), List.Perm.refl _, fun u v hv huv hvn => by omega⟩
  · exact keyl (L0.length - 1) 1 L0 (by omega) (Nat.le_refl _) (List.Perm.refl _) (fun u v hv huv hvn => by omega)
end sorting
/-! ### Topologies that may be, as the program says -/
theorem nodup_count {α : Type} [BEq α] [LawfulBEq α] : ∀ {l : List α}, l.Nodup ↔ ∀ q ∈ l, l.count q = 1
  | [] => by simp
  | x :: l => by
    rw [List.nodup_cons, nodup_count]
    constructor
    · rintro ⟨h1, h2⟩ q hq
      rw [List.count_cons]
      by_cases c : x = q
      · subst c
        rw [List.count_eq_zero_of_not_mem h1]; simp
      · rcases List.mem_cons.1 hq with h | h
        · exact absurd h.symm c
        · rw [h2 q h, if_neg (by simpa using c)]
    · intro h
      have hx := h x (List.mem_cons_self ..)
      rw [List.count_cons, if_pos (by simp)] at hx
      have h1 : x ∉ l := fun hm => by have := List.count_pos_iff.2 hm; omega
      refine ⟨h1, fun q hq => ?_⟩
      have := h q (List.mem_cons_of_mem _ hq)
      rw [List.count_cons, if_neg (by simp; intro e; subst e; exact h1 hq)] at this
      exact this
abbrev setL (l : List (Int × Int)) : List ((Int × Int) × Unit) := l.map fun q => (q, ())
theorem setL_get : ∀ (l : List (Int × Int)) (q : Int × Int), (mget (setL l) q).isSome = decide (q ∈ l)
  | [], q => by simp [setL, mget]
  | x :: l, q => by
    show (if q = x then some () else mget (setL l) q).isSome = _
    by_cases c : q = x
    · rw [if_pos c, decide_eq_true (by rw [c]; exact List.mem_cons_self ..)]; rfl
    · rw [if_neg c, setL_get l q]
      exact decide_eq_decide.2 ⟨fun h => List.mem_cons_of_mem _ h, fun h => (List.mem_cons.1 h).resolve_left c⟩
theorem setL_put : ∀ (l : List (Int × Int)) (q : Int × Int), q ∉ l → mput (setL l) q () = setL (l ++ [q])
  | [], q, _ => rfl
  | x :: l, q, h => by
    show (if q = x then (q, ()) :: setL l else (x, ()) :: mput (setL l) q ()) = _
    rw [if_neg (fun e => h (by rw [e]; exact List.mem_cons_self ..)), setL_put l q (fun e => h (List.mem_cons_of_mem _ e))]; rfl
abbrev InR (t : Tp) (q : Int × Int) : Prop := 0 ≤ q.1 ∧ q.1 < t.1 ∧ 0 ≤ q.2 ∧ q.2 ≤ 7
theorem places_eq {t : Tp} (hl : t.2.1.length ≤ 24) (hh : t.2.2.length ≤ 8) : topo_places t = some (pl t) := by
  have fl : ∀ l : List Lk, (l.flatMap ends2).length = 2 * l.length := fun l => by
    induction l with
    | nil => rfl
    | cons x l ih => rw [List.flatMap_cons, List.length_append, ih, List.length_cons]; simp; omega
  obtain ⟨s, h1, h2⟩ := loop_cnt t.2.1.length (fun (s : List (Int × Int)) (k : Nat) => (s, (k : Int))) (topo_places_l1 t) id (fun s k => s = (t.2.1.take k).flatMap ends2)
    (fun s k hk hI => by
      have hb : s.length ≤ 100 := by rw [hI, fl, List.length_take]; omega
      refine ⟨s ++ ends2 t.2.1[k], ?_, ?_⟩
      · rw [topo_places_l1, if_pos (by omega), ix_nat (List.getElem?_eq_getElem hk), Option.bind_some, app_is (by simp; omega), Option.bind_some, w64_id (by omega)]; rfl
      · rw [hI, List.take_succ_eq_append_getElem hk, List.flatMap_append, List.flatMap_cons, List.flatMap_nil, List.append_nil])
    (fun s _ => by rw [topo_places_l1, if_neg (by omega)]; rfl) [] (by simp)
  have e1 : loopW (topo_places_l1 t) ([], 0) = some s := h2
  rw [List.take_length] at h1
  have hb1 : s.length ≤ 100 := by rw [h1, fl]; omega
  obtain ⟨s2, g1, g2⟩ := loop_cnt t.2.2.length (fun (s : List (Int × Int)) (k : Nat) => (s, (k : Int))) (topo_places_l2 t) id (fun s2 k => s2 = s ++ t.2.2.take k)
    (fun s2 k hk hI => by
      have hb : s2.length ≤ 200 := by rw [hI, List.length_append, List.length_take]; omega
      refine ⟨s2 ++ [t.2.2[k]], ?_, ?_⟩
      · rw [topo_places_l2, if_pos (by omega), ix_nat (List.getElem?_eq_getElem hk), Option.bind_some, app_is (by simp; omega), Option.bind_some, w64_id (by omega)]; rfl
      · rw [hI, List.take_succ_eq_append_getElem hk, List.append_assoc])
    (fun s _ => by rw [topo_places_l2, if_neg (by omega)]; rfl) s (by simp)
  have e2 : loopW (topo_places_l2 t) (s, 0) = some s2 := g2
  rw [List.take_length, h1] at g1
  unfold topo_places
  rw [e1, Option.bind_some, e2, g1]; rfl
theorem right_loop {t : Tp} {L : List (Int × Int)} (hL : L.length ≤ 1000) : loopW (topo_Right_l1 t L) (0, []) = some (if (∀ q ∈ L, InR t q) ∧ L.Nodup then .inl (setL L) else .inr false) := by
  have key : ∀ (d k : Nat), k + d = L.length → (∀ q ∈ L.take k, InR t q) → (L.take k).Nodup → loopW (topo_Right_l1 t L) ((k : Int), setL (L.take k)) = some (if (∀ q ∈ L, InR t q) ∧ L.Nodup then .inl (setL L) else .inr false) := by
    intro d
    induction d with
    | zero =>
      intro k hk h1 h2
      rw [List.take_of_length_le (by omega)] at h1 h2 ⊢
      rw [if_pos ⟨h1, h2⟩]
      exact loopW_end (by rw [topo_Right_l1, if_neg (by omega)])
    | succ d ih =>
      intro k hk h1 h2
      have hkl : k < L.length := by omega
      have hm := List.getElem_mem hkl
      have hg := List.getElem?_eq_getElem hkl
      by_cases c1 : InR t L[k]
      · by_cases c2 : L[k] ∈ L.take k
        · rw [if_neg (fun hh => by
            have h3 := hh.2
            rw [← List.take_append_drop (k + 1) L, List.take_succ_eq_append_getElem hkl] at h3
            have h4 := (List.nodup_append.1 (List.nodup_append.1 h3).1).2.2
            exact h4 _ c2 _ (List.mem_singleton.2 rfl) rfl)]
          exact loopW_end (by
            rw [topo_Right_l1, if_pos (by omega), ix_nat hg, Option.bind_some, if_neg (by simp; omega), setL_get, decide_eq_true c2, if_pos rfl])
        · have hst : topo_Right_l1 t L ((k : Int), setL (L.take k)) = some (.inl (((k + 1 : Nat) : Int), setL (L.take (k + 1)))) := by
            rw [topo_Right_l1, if_pos (by omega), ix_nat hg, Option.bind_some, if_neg (by simp; omega), setL_get, decide_eq_false c2, if_neg (by decide), setL_put _ _ c2, w64_id (by omega), List.take_succ_eq_append_getElem hkl]; rfl
          rw [loopW_go hst]
          refine ih (k + 1) (by omega) (fun q hq => ?_) ?_
          · rw [List.take_succ_eq_append_getElem hkl] at hq
            rcases List.mem_append.1 hq with h | h
            · exact h1 q h
            · rw [List.mem_singleton.1 h]; exact c1
          · rw [List.take_succ_eq_append_getElem hkl, List.nodup_append]
            exact ⟨h2, by simp, fun a ha b hb => by rw [List.mem_singleton.1 hb]; intro e; subst e; exact c2 ha⟩
      · rw [if_neg (fun hh => c1 (hh.1 _ hm))]
        exact loopW_end (by
          rw [topo_Right_l1, if_pos (by omega), ix_nat hg, Option.bind_some, if_pos (by simp; omega)])
  exact key L.length 0 (by omega) (by simp) (by simp)
theorem wrong_loop {l : List Lk} (hl : l.length ≤ 1000) : slices_ContainsFunc_api_Link_api_Link l = some (decide (∃ x ∈ l, topo_wrongLink x = true)) := by
  have key : ∀ (d k : Nat), k + d = l.length → (∀ x ∈ l.take k, ¬ topo_wrongLink x = true) → ∃ i : Int, orR (loopW (slices_IndexFunc_api_Link_api_Link_l1 l) (k : Int)) (fun _ => some (-1)) = some i ∧ (0 ≤ i ↔ ∃ x ∈ l, topo_wrongLink x = true) := by
    intro d
    induction d with
    | zero =>
      intro k hk hn
      rw [List.take_of_length_le (by omega)] at hn
      exact ⟨-1, by rw [loopW_end (by rw [slices_IndexFunc_api_Link_api_Link_l1, if_neg (by omega)])]; rfl, ⟨fun h => by omega, fun ⟨x, hx, h⟩ => absurd h (hn x hx)⟩⟩
    | succ d ih =>
      intro k hk hn
      have hkl : k < l.length := by omega
      have hg := List.getElem?_eq_getElem hkl
      by_cases c : topo_wrongLink l[k] = true
      · exact ⟨(k : Int), by rw [loopW_end (by rw [slices_IndexFunc_api_Link_api_Link_l1, if_pos (by omega), ix_nat hg, Option.bind_some, if_pos c])]; rfl, ⟨fun _ => ⟨_, List.getElem_mem hkl, c⟩, fun _ => by omega⟩⟩
      · have hst : slices_IndexFunc_api_Link_api_Link_l1 l (k : Int) = some (.inl ((k + 1 : Nat) : Int)) := by
          rw [slices_IndexFunc_api_Link_api_Link_l1, if_pos (by omega), ix_nat hg, Option.bind_some, if_neg c, w64_id (by omega)]; rfl
        rw [loopW_go hst]
        refine ih (k + 1) (by omega) (fun x hx => ?_)
        rw [List.take_succ_eq_append_getElem hkl] at hx
        rcases List.mem_append.1 hx with h | h
        · exact hn x h
        · rw [List.mem_singleton.1 h]; exact c
  obtain ⟨i, h1, h2⟩ := key l.length 0 (by omega) (by simp)
  have h1' : orR (loopW (slices_IndexFunc_api_Link_api_Link_l1 l) 0) (fun _ => some (-1)) = some i := h1
  unfold slices_ContainsFunc_api_Link_api_Link slices_IndexFunc_api_Link_api_Link
  rw [h1', Option.bind_some]
  congr 1
  exact decide_eq_decide.2 h2
theorem right17 {t : Tp} : topo_Right t = some (decide (OkT t)) := by
  unfold topo_Right
  by_cases c : t.1 < 1 ∨ 8 < t.1 ∨ 24 < (t.2.1.length : Int) ∨ 8 < (t.2.2.length : Int)
  · rw [if_pos (by simpa using c), decide_eq_false (fun h => by have := h.1; omega)]
  · rw [if_neg (by simpa using c)]
    have hl : t.2.1.length ≤ 24 := by omega
    have hh : t.2.2.length ≤ 8 := by omega
    have hpl : (pl t).length ≤ 1000 := by
      have fl : ∀ l : List Lk, (l.flatMap ends2).length = 2 * l.length := fun l => by
        induction l with
        | nil => rfl
        | cons x l ih => rw [List.flatMap_cons, List.length_append, ih, List.length_cons]; simp; omega
      unfold pl
      rw [List.length_append, fl]; omega
    have hmem : ∀ q, q ∈ pl t ↔ (∃ x ∈ t.2.1, q ∈ ends2 x) ∨ q ∈ t.2.2 := fun q => by
      unfold pl
      rw [List.mem_append, List.mem_flatMap]
    rw [places_eq hl hh, Option.bind_some, right_loop hpl, wrong_loop (by omega)]
    have hok : OkT t ↔ ((∀ q ∈ pl t, InR t q) ∧ (pl t).Nodup) ∧ ¬ ∃ x ∈ t.2.1, topo_wrongLink x = true := by
      have hw : ∀ x : Lk, ¬ topo_wrongLink x = true ↔ (x.1 ≠ x.2.2.1 ∧ 1 ≤ x.2.2.2.2.1 ∧ x.2.2.2.2.1 ≤ x.2.2.2.2.2 ∧ x.2.2.2.2.2 ≤ 1000) := fun x => by
        unfold topo_wrongLink
        simp only [Bool.or_eq_true, decide_eq_true_eq]
        omega
      constructor
      · rintro ⟨h0, h1, h2⟩
        have hp : ∀ q ∈ pl t, PortOk t q := fun q hq => by
          rcases (hmem q).1 hq with ⟨x, hx, hq⟩ | hq
          · obtain ⟨_, _, _, _, k5, k6⟩ := h1 x hx
            rcases List.mem_cons.1 hq with h | h
            · rw [h]; exact k5
            · rw [List.mem_singleton.1 h]; exact k6
          · exact h2 q hq
        refine ⟨⟨fun q hq => ?_, nodup_count.2 fun q hq => (hp q hq).2.2.2.2⟩, fun ⟨x, hx, hwx⟩ => ?_⟩
        · obtain ⟨a1, a2, a3, a4, _⟩ := hp q hq
          exact ⟨a1, a2, a3, a4⟩
        · obtain ⟨k1, k2, k3, k4, _⟩ := h1 x hx
          exact (hw x).2 ⟨k1, k2, k3, k4⟩ hwx
      · rintro ⟨⟨h1, h2⟩, h3⟩
        have hp : ∀ q ∈ pl t, PortOk t q := fun q hq => by
          obtain ⟨a1, a2, a3, a4⟩ := h1 q hq
          exact ⟨a1, a2, a3, a4, nodup_count.1 h2 q hq⟩
        refine ⟨by omega, fun x hx => ?_, fun q hq => hp q ((hmem q).2 (.inr hq))⟩
        obtain ⟨k1, k2, k3, k4⟩ := (hw x).1 (fun h => h3 ⟨x, hx, h⟩)
        exact ⟨k1, k2, k3, k4, hp _ ((hmem _).2 (.inl ⟨x, hx, by simp⟩)), hp _ ((hmem _).2 (.inl ⟨x, hx, by simp⟩))⟩
    by_cases c1 : (∀ q ∈ pl t, InR t q) ∧ (pl t).Nodup
    · rw [if_pos c1]
      show some (!decide (∃ x ∈ t.2.1, topo_wrongLink x = true)) = _
      by_cases c2 : ∃ x ∈ t.2.1, topo_wrongLink x = true
      · rw [decide_eq_true c2, decide_eq_false (fun h => (hok.1 h).2 c2)]; rfl
      · rw [decide_eq_false c2, decide_eq_true (hok.2 ⟨c1, c2⟩)]; rfl
    · rw [if_neg c1, decide_eq_false (fun h => c1 (hok.1 h).1)]; rfl
/-! ### Near -/
abbrev Sd := Int × Int × Int
def nr1 (sw : Int) (i : Nat) (x : Lk) : List Sd := if sw = x.1 then [(x.2.1, x.2.2.1, (i : Int))] else if sw = x.2.2.1 then [(x.2.2.2.1, x.1, (i : Int))] else []
def SdAt (t : Tp) (sw : Int) (s : Sd) : Prop := ∃ i x, t.2.1[i]? = some x ∧ s ∈ nr1 sw i x
theorem nr1_ix {sw : Int} {i : Nat} {x : Lk} {s : Sd} (h : s ∈ nr1 sw i x) : s.2.2 = (i : Int) ∧ (sw, s.1) ∈ ends2 x := by
  unfold nr1 at h
  by_cases c1 : sw = x.1
  · rw [if_pos c1, List.mem_singleton] at h; subst h; simp [c1]
  · rw [if_neg c1] at h
    by_cases c2 : sw = x.2.2.1
    · rw [if_pos c2, List.mem_singleton] at h; subst h; simp [c2]
    · rw [if_neg c2] at h; cases h
theorem near0_spec {t : Tp} (hl : t.2.1.length ≤ 24) (sw : Int) : ∃ out, loopW (topo_Near_l1 t sw) ([], 0) = some out ∧ (∀ s, s ∈ out ↔ SdAt t sw s) ∧ out.Pairwise fun a b => a.2.2 < b.2.2 := by
  obtain ⟨out, ⟨h1, h3, _⟩, h2⟩ := loop_cnt t.2.1.length (fun (s : List Sd) (k : Nat) => (s, (k : Int))) (topo_Near_l1 t sw) id
    (fun out k => (∀ s, s ∈ out ↔ ∃ i x, i < k ∧ t.2.1[i]? = some x ∧ s ∈ nr1 sw i x) ∧ out.Pairwise (fun a b => a.2.2 < b.2.2) ∧ out.length ≤ k)
    (fun out k hk ⟨i1, i2, i3⟩ => by
      have hg := List.getElem?_eq_getElem hk
      refine ⟨out ++ nr1 sw k t.2.1[k], ?_, fun s => ?_, ?_, ?_⟩
      · rw [topo_Near_l1, if_pos (by omega), ix_nat hg, Option.bind_some]
        unfold nr1
        by_cases c1 : sw = t.2.1[k].1
        · rw [if_pos c1, if_pos c1, app_is (by simp; omega), Option.bind_some, Option.bind_some, w64_id (by omega)]; rfl
        · rw [if_neg c1, if_neg c1]
          by_cases c2 : sw = t.2.1[k].2.2.1
          · rw [if_pos c2, if_pos c2, app_is (by simp; omega), Option.bind_some, Option.bind_some, w64_id (by omega)]; rfl
          · rw [if_neg c2, if_neg c2, Option.bind_some, w64_id (by omega), List.append_nil]; rfl
      · rw [List.mem_append, i1]
        constructor
        · rintro (⟨i, x, a, b, c⟩ | h)
          · exact ⟨i, x, by omega, b, c⟩
          · exact ⟨k, _, by omega, hg, h⟩
        · rintro ⟨i, x, a, b, c⟩
          by_cases e : i = k
          · subst e
            rw [hg] at b
            cases b
            exact .inr c
          · exact .inl ⟨i, x, by omega, b, c⟩
      · rw [List.pairwise_append]
        refine ⟨i2, ?_, fun a ha b hb => ?_⟩
        · unfold nr1
          split
          · simp
          · split <;> simp
        · obtain ⟨i, x, a1, a2, a3⟩ := (i1 a).1 ha
          rw [(nr1_ix a3).1, (nr1_ix hb).1]; omega
      · have : (nr1 sw k t.2.1[k]).length ≤ 1 := by
          unfold nr1
          split
          · simp
          · split <;> simp
        rw [List.length_append]; omega)
    (fun s _ => by rw [topo_Near_l1, if_neg (by omega)]; rfl) [] ⟨fun s => by simp, List.Pairwise.nil, by simp⟩
  refine ⟨out, h2, fun s => ?_, h3⟩
  rw [h1]
  exact ⟨fun ⟨i, x, _, b, c⟩ => ⟨i, x, b, c⟩, fun ⟨i, x, b, c⟩ => ⟨i, x, (List.getElem?_eq_some_iff.1 b).1, b, c⟩⟩
theorem at_ports {t : Tp} (hok : OkT t) {sw : Int} {a b : Sd} (ha : SdAt t sw a) (hb : SdAt t sw b) (hne : a.2.2 ≠ b.2.2) : a.1 ≠ b.1 := fun e => by
  obtain ⟨i, x, a1, a2⟩ := ha
  obtain ⟨j, y, b1, b2⟩ := hb
  obtain ⟨a3, a4⟩ := nr1_ix a2
  obtain ⟨b3, b4⟩ := nr1_ix b2
  have hxm := List.mem_of_getElem? a1
  have q1 : (pl t).count (sw, a.1) = 1 := by
    obtain ⟨_, _, _, _, k5, k6⟩ := hok.2.1 x hxm
    rcases List.mem_cons.1 a4 with h | h
    · rw [h]; exact k5.2.2.2.2
    · rw [List.mem_singleton.1 h]; exact k6.2.2.2.2
  have := same_link a1 b1 a4 (by rw [e]; exact b4) q1
  rw [a3, b3, this] at hne
  exact hne rfl
theorem at_range {t : Tp} (hok : OkT t) {sw : Int} {a : Sd} (ha : SdAt t sw a) : 0 ≤ a.1 ∧ a.1 ≤ 7 := by
  obtain ⟨i, x, a1, a2⟩ := ha
  obtain ⟨_, a4⟩ := nr1_ix a2
  obtain ⟨_, _, _, _, k5, k6⟩ := hok.2.1 x (List.mem_of_getElem? a1)
  rcases List.mem_cons.1 a4 with h | h
  · have h2 : a.1 = x.2.1 := congrArg Prod.snd h
    have := k5.2.2.1
    have := k5.2.2.2.1
    simp only at *; omega
  · have h2 : a.1 = x.2.2.2.1 := congrArg Prod.snd (List.mem_singleton.1 h)
    have := k6.2.2.1
    have := k6.2.2.2.1
    simp only at *; omega
theorem cmp_lt (a b : Int) : cmp_Compare_int a b < 0 ↔ a < b := by
  unfold cmp_Compare_int cmp_isNaN_int
  rw [if_neg (by simp), if_neg (by simp)]
  by_cases c : a < b
  · rw [if_pos c]; simp [c]
  · rw [if_neg c]
    split <;> simp [c]
theorem near_lt (a b : Sd) : topo_Near_1 a b < 0 ↔ a.1 < b.1 := cmp_lt a.1 b.1
theorem sort_step (L : List Sd) (j : Nat) (h : j < L.length) (hL : L.length ≤ 1000) : slices_insertionSortCmpFunc_topo_Side_l2 0 (L, (j : Int)) = if 0 < j ∧ L[j].1 < (L[j - 1]'(by omega)).1 then some (.inl (swp L j h, ((j - 1 : Nat) : Int))) else some (.inr L) := by
  rw [slices_insertionSortCmpFunc_topo_Side_l2]
  by_cases c : 0 < j
  · have hw : w64 ((j : Int) - 1) = ((j - 1 : Nat) : Int) := by rw [w64_id (by omega)]; omega
    have g1 := ix_nat (List.getElem?_eq_getElem h)
    have g2 := ix_nat (List.getElem?_eq_getElem (show j - 1 < L.length by omega))
    rw [if_pos (by omega), hw, g1, Option.bind_some, g2, Option.bind_some, Option.bind_some]
    by_cases c2 : L[j].1 < (L[j - 1]'(by omega)).1
    · have hlen : j - 1 < (setAt L (j : Int) (L[j - 1]'(by omega))).length := by unfold setAt; simp; omega
      rw [decide_eq_true ((near_lt _ _).2 c2), if_pos rfl, if_pos ⟨c, c2⟩, Option.bind_some, Option.bind_some, Option.bind_some, ix_nat (List.getElem?_eq_getElem hlen), Option.bind_some]
      unfold setAt swp
      rw [Int.toNat_natCast, Int.toNat_natCast]
    · rw [decide_eq_false (fun hh => c2 ((near_lt _ _).1 hh)), if_neg (by decide), if_neg (fun hh => c2 hh.2)]
  · rw [if_neg (by omega), Option.bind_some, if_neg (by decide), if_neg (fun hh => c hh.1)]
theorem sort17 {L : List Sd} (hL : L.length ≤ 12) : ∃ L', slices_SortFunc_topo_Side_topo_Side L = some L' ∧ L'.Perm L ∧ Ord (fun s : Sd => s.1) L' L.length := by
  have hlen : ∀ n : Nat, n ≤ 12 → ∃ v, math_bits_Len (IntKind.u64.wrap (n : Int)) = some v := fun n hn => by
    have : n = 0 ∨ n = 1 ∨ n = 2 ∨ n = 3 ∨ n = 4 ∨ n = 5 ∨ n = 6 ∨ n = 7 ∨ n = 8 ∨ n = 9 ∨ n = 10 ∨ n = 11 ∨ n = 12 := by omega
    apply Option.isSome_iff_exists.1
    rcases this with rfl | rfl | rfl | rfl | rfl | rfl | rfl | rfl | rfl | rfl | rfl | rfl | rfl <;> kernel_rfl
  obtain ⟨v, hv⟩ := hlen L.length hL
  have hn : (L.length : Int) = ((L.length : Nat) : Int) := rfl
  obtain ⟨L', e, p, o⟩ := sort_outer (key := fun s : Sd => s.1) (L0 := L) (S := slices_insertionSortCmpFunc_topo_Side_l2 0) (T := slices_insertionSortCmpFunc_topo_Side_l1 0 (L.length : Int)) (fun M j h hM => sort_step M j h (by omega))
    (fun M i hM hi => by rw [slices_insertionSortCmpFunc_topo_Side_l1, if_pos (by omega), w64_id (by omega)]; rfl) (fun M i hi => by rw [slices_insertionSortCmpFunc_topo_Side_l1, if_neg (by omega)])
  refine ⟨L', ?_, p, o⟩
  have hp : slices_pdqsortCmpFunc_topo_Side L 0 (L.length : Int) v = some L' := by
    unfold slices_pdqsortCmpFunc_topo_Side
    refine loopW_end ?_
    rw [slices_pdqsortCmpFunc_topo_Side_l1, if_pos (by rw [w64_id (by omega)]; omega)]
    unfold slices_insertionSortCmpFunc_topo_Side
    show (loopW (slices_insertionSortCmpFunc_topo_Side_l1 0 (L.length : Int)) (L, 1)).bind _ = _
    rw [e]; rfl
  unfold slices_SortFunc_topo_Side_topo_Side
  rw [hv, Option.bind_some, hp]; rfl
theorem nodup_short : ∀ (m : Nat) (got : List Int), got.Nodup → (∀ x ∈ got, 0 ≤ x ∧ x < (m : Int)) → got.length ≤ m
  | 0, got, _, h => by
    cases got with
    | nil => simp
    | cons x l => have := h x (List.mem_cons_self ..); omega
  | m + 1, got, hn, h => by
    have h2 := nodup_short m (got.erase (m : Int)) (hn.erase _) (fun x hx => by
      have h3 := h x (List.mem_of_mem_erase hx)
      have h4 : x ≠ (m : Int) := fun e => by
        subst e
        exact (List.Nodup.not_mem_erase hn) hx
      omega)
    have h5 : got.length ≤ (got.erase (m : Int)).length + 1 := by
      rw [List.length_erase]; split <;> omega
    omega
/-- The program's Near: the sides at a switch, port by port. -/
theorem near_spec {t : Tp} (hok : OkT t) (sw : Int) : ∃ N, topo_Near t sw = some N ∧ (∀ s, s ∈ N ↔ SdAt t sw s) ∧ N.Pairwise (fun a b => a.1 < b.1) ∧ N.length ≤ 8 := by
  obtain ⟨out, e, hm, hp⟩ := near0_spec hok.1.2.2.1 sw
  have hd : out.Pairwise fun a b => a.1 ≠ b.1 := hp.imp_of_mem fun {a b} ha hb hab => at_ports hok ((hm a).1 ha) ((hm b).1 hb) (by omega)
  have hlen : out.length ≤ 8 := by
    have := nodup_short 8 (out.map (·.1)) (List.pairwise_map.2 hd) (fun x hx => by
      obtain ⟨s, hs, rfl⟩ := List.mem_map.1 hx
      have := at_range hok ((hm s).1 hs)
      omega)
    rwa [List.length_map] at this
  obtain ⟨N, e2, p, o⟩ := sort17 (L := out) (by omega)
  have hN := p.length_eq
  refine ⟨N, ?_, fun s => by rw [p.mem_iff, hm], ?_, by omega⟩
  · unfold topo_Near
    rw [e, Option.bind_some, e2]; rfl
  · have hd2 : N.Pairwise fun a b => a.1 ≠ b.1 := (p.pairwise_iff (fun {a b} h => Ne.symm h)).2 hd
    rw [List.pairwise_iff_getElem] at hd2 ⊢
    intro i j hi hj hij
    have h1 := hd2 i j hi hj hij
    have h2 : N[i].1 ≤ N[j].1 := o i j hj hij (by omega)
    omega
end Go.Proofs.Ytnkleniifdkpmaa
