/- Layer 17: the document's answers. Conditions: none. -/
import Derived.Test.YtnkleniifdkpmaaM17K
import Derived.Test.YtnkleniifdkpmaaB1
namespace Go.Proofs.Ytnkleniifdkpmaa
set_option linter.unusedVariables false
set_option linter.unusedSimpArgs false
open Go Go.RowKit
/-! ### The document's answers -/
theorem peer_same (t : Tp) (a p : Int) : r17_Peer t a p = topo_Peer t a p := by
  have : r17_Peer_l1 t a p = topo_Peer_l1 t a p := by
    funext i
    rw [r17_Peer_l1, topo_Peer_l1]
    congr 2
    funext x
    by_cases c1 : a = x.1 ∧ p = x.2.1
    · rw [if_pos c1, if_pos (by simp [c1.1, c1.2])]
    · rw [if_neg c1, if_neg (by simp only [Bool.and_eq_true, decide_eq_true_eq]; exact fun h => c1 ⟨h.1.symm, h.2.symm⟩)]
      by_cases c2 : a = x.2.2.1 ∧ p = x.2.2.2.1
      · rw [if_pos c2, if_pos (by simp [c2.1, c2.2])]
      · rw [if_neg c2, if_neg (by simp only [Bool.and_eq_true, decide_eq_true_eq]; exact fun h => c2 ⟨h.1.symm, h.2.symm⟩)]
  unfold r17_Peer topo_Peer
  rw [this]
theorem hostat_same (t : Tp) (a p : Int) : topo_HostAt t a p = r17_HostAt t a p := by
  have : slices_Index_api_Host_api_Host_l1 t.2.2 (a, p) = r17_HostAt_l1 t a p := by
    funext i
    rw [r17_HostAt_l1, slices_Index_api_Host_api_Host_l1]
    by_cases h : i < (t.2.2.length : Int)
    · rw [if_pos h, if_pos h]
      cases hx : ix t.2.2 i with
      | none => rfl
      | some x =>
        simp only [Option.bind_some]
        by_cases c1 : x.1 = a
        · rw [if_pos c1, Option.bind_some]
          by_cases c2 : x.2 = p
          · rw [decide_eq_true c2, if_pos rfl, if_pos ⟨c1.symm, c2.symm⟩]
          · rw [decide_eq_false c2, if_neg (show ¬ (a = x.1 ∧ p = x.2) from fun hh => c2 hh.2.symm), if_neg (show ¬ (false = true) by decide)]
        · rw [if_neg c1, Option.bind_some, if_neg (show ¬ (a = x.1 ∧ p = x.2) from fun hh => c1 hh.1.symm), if_neg (show ¬ (false = true) by decide)]
    · rw [if_neg h, if_neg h]
  unfold topo_HostAt r17_HostAt slices_Index_api_Host_api_Host
  rw [this]
  cases orR (loopW (r17_HostAt_l1 t a p) 0) (fun _ => some (-1)) <;> rfl
theorem hostat_some {t : Tp} (hh : t.2.2.length ≤ 8) (a p : Int) : ∃ r, r17_HostAt t a p = some r := by
  have key : ∀ (d k : Nat), k + d = t.2.2.length → ∃ r, orR (loopW (r17_HostAt_l1 t a p) (k : Int)) (fun _ => some (-1)) = some r := by
    intro d
    induction d with
    | zero => intro k hk; exact ⟨-1, by rw [loopW_end (by rw [r17_HostAt_l1, if_neg (by omega)])]; rfl⟩
    | succ d ih =>
      intro k hk
      have hkl : k < t.2.2.length := by omega
      by_cases c : t.2.2[k].1 = a ∧ t.2.2[k].2 = p
      · exact ⟨(k : Int), by rw [loopW_end (by rw [r17_HostAt_l1, if_pos (by omega), ix_nat (List.getElem?_eq_getElem hkl), Option.bind_some, if_pos c.1, Option.bind_some, Option.bind_some, decide_eq_true c.2, if_pos rfl])]; rfl⟩
      · have hst : r17_HostAt_l1 t a p (k : Int) = some (.inl ((k + 1 : Nat) : Int)) := by
          rw [r17_HostAt_l1, if_pos (by omega), ix_nat (List.getElem?_eq_getElem hkl), Option.bind_some]
          have : (if t.2.2[k].1 = a then (some t.2.2[k]).bind fun x4 => some (decide (x4.2 = p)) else some false) = some false := by
            by_cases c1 : t.2.2[k].1 = a
            · rw [if_pos c1, Option.bind_some, decide_eq_false (fun e => c ⟨c1, e⟩)]
            · rw [if_neg c1]
          rw [this, Option.bind_some, if_neg (by decide), w64_id (by omega)]; rfl
        rw [loopW_go hst]
        exact ih (k + 1) (by omega)
  exact key t.2.2.length 0 (by omega)
theorem slow_same {t : Tp} (hl : t.2.1.length ≤ 24) : ∃ r, topo_Slowest t = some r ∧ r17_Slowest t = some r := by
  have key : ∀ (d k : Nat), k + d = t.2.1.length → ∀ s : Int, ∃ r, loopW (topo_Slowest_l1 t) (s, (k : Int)) = some r ∧ loopW (r17_Slowest_l1 t) (s, (k : Int)) = some r := by
    intro d
    induction d with
    | zero =>
      intro k hk s
      exact ⟨s, loopW_end (by rw [topo_Slowest_l1, if_neg (by omega)]), loopW_end (by rw [r17_Slowest_l1, if_neg (by omega)])⟩
    | succ d ih =>
      intro k hk s
      have hkl : k < t.2.1.length := by omega
      have hg := ix_nat (List.getElem?_eq_getElem hkl)
      obtain ⟨r, h1, h2⟩ := ih (k + 1) (by omega) (max s t.2.1[k].2.2.2.2.2)
      refine ⟨r, ?_, ?_⟩
      · rw [loopW_go (show topo_Slowest_l1 t (s, (k : Int)) = some (.inl (max s t.2.1[k].2.2.2.2.2, ((k + 1 : Nat) : Int))) by rw [topo_Slowest_l1, if_pos (by omega), hg, Option.bind_some, w64_id (by omega)]; rfl)]; exact h1
      · rw [loopW_go (show r17_Slowest_l1 t (s, (k : Int)) = some (.inl (max s t.2.1[k].2.2.2.2.2, ((k + 1 : Nat) : Int))) by
          rw [r17_Slowest_l1, if_pos (by omega), hg, Option.bind_some, Option.bind_some]
          by_cases c : s < t.2.1[k].2.2.2.2.2
          · rw [if_pos c, Option.bind_some, w64_id (by omega), Int.max_eq_right (by omega)]; rfl
          · rw [if_neg c, Option.bind_some, w64_id (by omega), Int.max_eq_left (by omega)]; rfl)]; exact h2
  obtain ⟨r, h1, h2⟩ := key t.2.1.length 0 (by omega) 0
  have h1' : loopW (topo_Slowest_l1 t) (0, 0) = some r := h1
  have h2' : loopW (r17_Slowest_l1 t) (0, 0) = some r := h2
  refine ⟨r, ?_, ?_⟩
  · unfold topo_Slowest; rw [h1']; rfl
  · unfold r17_Slowest; rw [h2']; rfl
theorem lt_ext : ∀ {A B : List Sd}, A.Pairwise (fun a b => a.1 < b.1) → B.Pairwise (fun a b => a.1 < b.1) → (∀ s, s ∈ A ↔ s ∈ B) → A = B
  | [], [], _, _, _ => rfl
  | [], b :: B, _, _, h => by have := (h b).2 (List.mem_cons_self ..); cases this
  | a :: A, [], _, _, h => by have := (h a).1 (List.mem_cons_self ..); cases this
  | a :: A, b :: B, hA, hB, h => by
    obtain ⟨a1, a2⟩ := List.pairwise_cons.1 hA
    obtain ⟨b1, b2⟩ := List.pairwise_cons.1 hB
    have hab : a = b := by
      rcases List.mem_cons.1 ((h a).1 (List.mem_cons_self ..)) with e | e
      · exact e
      · rcases List.mem_cons.1 ((h b).2 (List.mem_cons_self ..)) with e2 | e2
        · exact e2.symm
        · have := b1 a e
          have := a1 b e2
          omega
    subst hab
    rw [lt_ext a2 b2 (fun s => ?_)]
    constructor
    · intro hs
      rcases List.mem_cons.1 ((h s).1 (List.mem_cons_of_mem _ hs)) with e | e
      · subst e; have := a1 s hs; omega
      · exact e
    · intro hs
      rcases List.mem_cons.1 ((h s).2 (List.mem_cons_of_mem _ hs)) with e | e
      · subst e; have := b1 s hs; omega
      · exact e
theorem peer_at {t : Tp} (hok : OkT t) (sw p : Int) : ∃ R : Pr, topo_Peer t sw p = some R ∧ ((R.2.2.2 = true ∧ SdAt t sw (p, R.1, R.2.2.1)) ∨ (R.2.2.2 = false ∧ ∀ s : Sd, SdAt t sw s → s.1 ≠ p)) ∧ ∀ s : Sd, SdAt t sw s → s.1 = p → R.2.2.2 = true ∧ s = (p, R.1, R.2.2.1) := by
  obtain ⟨R, e, h⟩ := peer_spec hok.1.2.2.1 sw p
  refine ⟨R, e, ?_, ?_⟩
  · rcases h with ⟨rfl, hn⟩ | ⟨i, x, hi, hs⟩
    · refine .inr ⟨rfl, fun s ⟨j, y, hj, hy⟩ e => ?_⟩
      have := (nr1_ix hy).2
      rw [e] at this
      exact hn y (List.mem_of_getElem? hj) this
    · refine .inl ?_
      have hne := (hok.2.1 x (List.mem_of_getElem? hi)).1
      rcases hs with ⟨a1, a2, rfl⟩ | ⟨_, a1, a2, rfl⟩
      · exact ⟨rfl, i, x, hi, by unfold nr1; rw [if_pos a1, a2]; simp⟩
      · exact ⟨rfl, i, x, hi, by unfold nr1; rw [if_neg (fun e => hne (e.symm.trans a1)), if_pos a1, a2]; simp⟩
  · rintro s ⟨j, y, hj, hy⟩ hsp
    obtain ⟨s1, s2⟩ := nr1_ix hy
    rcases h with ⟨rfl, hn⟩ | ⟨i, x, hi, hs⟩
    · rw [hsp] at s2
      exact absurd s2 (hn y (List.mem_of_getElem? hj))
    · have m1 := (side_mem hs).1
      have hxm := List.mem_of_getElem? hi
      obtain ⟨hne, _, _, _, k5, k6⟩ := hok.2.1 x hxm
      have q1 : (pl t).count (sw, p) = 1 := by
        rcases List.mem_cons.1 m1 with h | h
        · rw [h]; exact k5.2.2.2.2
        · rw [List.mem_singleton.1 h]; exact k6.2.2.2.2
      have hij := same_link hi hj m1 (by rw [← hsp]; exact s2) q1
      subst hij
      have hxy : x = y := Option.some.inj (hi.symm.trans hj)
      subst hxy
      unfold nr1 at hy
      rcases hs with ⟨a1, a2, rfl⟩ | ⟨_, a1, a2, rfl⟩
      · rw [if_pos a1, List.mem_singleton] at hy
        subst hy
        exact ⟨rfl, by rw [← hsp]⟩
      · rw [if_neg (fun e => hne (e.symm.trans a1)), if_pos a1, List.mem_singleton] at hy
        subst hy
        exact ⟨rfl, by rw [← hsp]⟩
theorem rnear_spec {t : Tp} (hok : OkT t) (sw : Int) : ∃ N, r17_Near t sw = some N ∧ (∀ s, s ∈ N ↔ SdAt t sw s) ∧ N.Pairwise (fun a b => a.1 < b.1) := by
  obtain ⟨out, ⟨h1, h3, _⟩, h2⟩ := loop_cnt 8 (fun (s : List Sd) (k : Nat) => (s, (k : Int))) (r17_Near_l1 t sw) id
    (fun out k => (∀ s, s ∈ out ↔ SdAt t sw s ∧ s.1 < (k : Int)) ∧ out.Pairwise (fun a b => a.1 < b.1) ∧ out.length ≤ k)
    (fun out k hk ⟨i1, i2, i3⟩ => by
      obtain ⟨R, e, hR, hu⟩ := peer_at hok sw (k : Int)
      rcases hR with ⟨hR, hat⟩ | ⟨hR, hno⟩
      · refine ⟨out ++ [((k : Int), R.1, R.2.2.1)], ?_, fun s => ?_, ?_, by simp; omega⟩
        · rw [r17_Near_l1, if_pos (by omega), peer_same, e, Option.bind_some, if_pos hR, app_is (by simp; omega), Option.bind_some, Option.bind_some, w64_id (by omega)]; rfl
        · rw [List.mem_append, i1, List.mem_singleton]
          constructor
          · rintro (⟨a, b⟩ | rfl)
            · exact ⟨a, by omega⟩
            · exact ⟨hat, by show (k : Int) < _; omega⟩
          · rintro ⟨a, b⟩
            by_cases c : s.1 = (k : Int)
            · exact .inr (hu s a c).2
            · exact .inl ⟨a, by omega⟩
        · rw [List.pairwise_append]
          exact ⟨i2, by simp, fun a ha b hb => by rw [List.mem_singleton.1 hb]; exact ((i1 a).1 ha).2⟩
      · refine ⟨out, ?_, fun s => ?_, i2, by omega⟩
        · rw [r17_Near_l1, if_pos (by omega), peer_same, e, Option.bind_some, if_neg (by rw [hR]; decide), Option.bind_some, w64_id (by omega)]; rfl
        · rw [i1]
          exact ⟨fun ⟨a, b⟩ => ⟨a, by omega⟩, fun ⟨a, b⟩ => ⟨a, by have := hno s a; omega⟩⟩)
    (fun s _ => by rw [r17_Near_l1, if_neg (by omega)]; rfl) [] ⟨fun s => ⟨fun h => (by cases h), fun ⟨a, b⟩ => (by have := (at_range hok a).1; omega)⟩, List.Pairwise.nil, by simp⟩
  have e1 : loopW (r17_Near_l1 t sw) ([], 0) = some out := h2
  refine ⟨out, ?_, fun s => ?_, h3⟩
  · unfold r17_Near; rw [e1]; rfl
  · rw [h1]
    exact ⟨fun h => h.1, fun h => ⟨h, by have := (at_range hok h).2; omega⟩⟩
/-! The document's hops: round by round. -/
structure R17 (t : Tp) (s k : Int) (h : List Int) : Prop extends Bs17 t s h where
  top : ∀ v, VV t v → hv h v ≤ k
  up : ∀ u v, Adj t u v → 0 ≤ hv h u → hv h u < k → 0 ≤ hv h v ∧ hv h v ≤ hv h u + 1
structure I17 (t : Tp) (s k : Int) (done : List (Int × Int)) (h : List Int) : Prop extends Bs17 t s h where
  top : ∀ v, VV t v → hv h v ≤ k + 1
  nn : 0 ≤ k
  up : ∀ u v, Adj t u v → 0 ≤ hv h u → hv h u < k → 0 ≤ hv h v ∧ hv h v ≤ hv h u + 1
  dd : ∀ q ∈ done, Adj t q.1 q.2 ∧ (hv h q.1 = k → 0 ≤ hv h q.2)
theorem I17.put {t : Tp} (hok : OkT t) {s k : Int} {done : List (Int × Int)} {h : List Int} (H : I17 t s k done h) {u v : Int} (ha : Adj t u v) (hu : hv h u = k) (hv0 : hv h v < 0) : I17 t s k done (setAt h v (k + 1)) := by
  obtain ⟨Vu, Vv⟩ := ha.V hok
  have hl := H.len
  have hnn := H.nn
  have g : ∀ w, VV t w → hv (setAt h v (k + 1)) w = if w = v then k + 1 else hv h w := fun w hw => hv_set Vv.1 (by omega) hw.1
  have hB : Bs17 t s (setAt h v (k + 1)) := by
    have := H.toBs17.set hok ha (by omega) hv0
    rwa [hu] at this
  have hd2 : ∀ a b, VV t a → VV t b → (hv h a = k → 0 ≤ hv h b) → hv (setAt h v (k + 1)) a = k → 0 ≤ hv (setAt h v (k + 1)) b := fun a b Va Vb hab he => by
    rw [g a Va] at he
    rw [g b Vb]
    by_cases c : a = v
    · rw [if_pos c] at he; omega
    · rw [if_neg c] at he
      have := hab he
      split <;> omega
  refine { toBs17 := hB, top := fun w hw => ?_, nn := hnn, up := fun a b hab h0 hlt => ?_, dd := fun x hx => ?_ }
  · rw [g w hw]
    have := H.top w hw
    split <;> omega
  · obtain ⟨Va, Vb⟩ := hab.V hok
    rw [g a Va] at h0 hlt ⊢
    by_cases c : a = v
    · rw [if_pos c] at hlt; omega
    · rw [if_neg c] at h0 hlt ⊢
      have := H.up a b hab h0 hlt
      rw [g b Vb, if_neg (fun e => by subst e; omega)]
      exact this
  · obtain ⟨hadj, hx2⟩ := H.dd x hx
    obtain ⟨Va, Vb⟩ := hadj.V hok
    exact ⟨hadj, hd2 _ _ Va Vb hx2⟩
noncomputable def hf (h : List Int) (a b k : Int) : List Int := if hv h a = k ∧ hv h b = -1 then setAt h b (k + 1) else h
theorem half {h : List Int} {a b k : Int} (ha : 0 ≤ a ∧ a < (h.length : Int)) (hb : 0 ≤ b ∧ b < (h.length : Int)) (hk : 0 ≤ k ∧ k ≤ 100) :
    (((ix h a).bind fun x18 => (if x18 = k then (ix h b).bind fun x19 => some (decide (x19 = (-1))) else some false)).bind fun x17 => (if x17 = true then (ix h b).bind fun x20 => some (setAt h b (w64 (k + 1))) else some h)) = some (hf h a b k) := by
  unfold hf
  rw [ix_hv ha.1 ha.2, ix_hv hb.1 hb.2, Option.bind_some]
  by_cases c1 : hv h a = k
  · rw [if_pos c1, Option.bind_some, Option.bind_some]
    by_cases c2 : hv h b = -1
    · rw [decide_eq_true c2, if_pos rfl, if_pos ⟨c1, c2⟩, Option.bind_some, w64_id (by omega)]
    · rw [decide_eq_false c2, if_neg (by decide), if_neg (fun hh => c2 hh.2)]
  · rw [if_neg c1, Option.bind_some, if_neg (by decide), if_neg (fun hh => c1 hh.1)]
theorem hf_len {h : List Int} {a b k : Int} : (hf h a b k).length = h.length := by
  unfold hf
  split
  · exact setAt_len
  · rfl
theorem I17.half {t : Tp} (hok : OkT t) {s k : Int} {done : List (Int × Int)} {h : List Int} (H : I17 t s k done h) {a b : Int} (ha : Adj t a b) : I17 t s k (done ++ [(a, b)]) (hf h a b k) := by
  obtain ⟨Va, Vb⟩ := ha.V hok
  have hl := H.len
  have hnn := H.nn
  unfold hf
  by_cases c : hv h a = k ∧ hv h b = -1
  · rw [if_pos c]
    have H1 := H.put hok ha c.1 (by omega)
    refine { H1 with dd := fun q hq => ?_ }
    rcases List.mem_append.1 hq with hq | hq
    · exact H1.dd q hq
    · rw [List.mem_singleton.1 hq]
      exact ⟨ha, fun _ => by
        show 0 ≤ hv (setAt h b (k + 1)) b
        rw [hv_set Vb.1 (by omega) Vb.1, if_pos rfl]; omega⟩
  · rw [if_neg c]
    refine { H with dd := fun q hq => ?_ }
    rcases List.mem_append.1 hq with hq | hq
    · exact H.dd q hq
    · rw [List.mem_singleton.1 hq]
      exact ⟨ha, fun e => by
        show 0 ≤ hv h b
        have e' : hv h a = k := e
        have := H.lo b Vb
        have : hv h b ≠ -1 := fun e2 => c ⟨e', e2⟩
        omega⟩
abbrev dirs (x : Lk) : List (Int × Int) := [(x.1, x.2.2.1), (x.2.2.1, x.1)]
theorem round_in {t : Tp} (hok : OkT t) {s k : Int} (hk : 0 ≤ k ∧ k ≤ 100) {h : List Int} (H : R17 t s k h) : ∃ h', loopW (r17_Hops_l3 t k) (h, 0) = some h' ∧ R17 t s (k + 1) h' := by
  have h24 := hok.1.2.2.1
  obtain ⟨h', h1, h2⟩ := loop_cnt t.2.1.length (fun (h : List Int) (i : Nat) => (h, (i : Int))) (r17_Hops_l3 t k) id
    (fun h i => I17 t s k ((t.2.1.take i).flatMap dirs) h)
    (fun h i hi HI => by
      have hg := ix_nat (List.getElem?_eq_getElem hi)
      have hadj : Adj t t.2.1[i].1 t.2.1[i].2.2.1 := ⟨_, List.getElem_mem hi, .inl ⟨rfl, rfl⟩⟩
      obtain ⟨Va, Vb⟩ := hadj.V hok
      have hl := HI.len
      have I1 := HI.half hok hadj
      have I2 := I1.half hok hadj.symm
      refine ⟨hf (hf h t.2.1[i].1 t.2.1[i].2.2.1 k) t.2.1[i].2.2.1 t.2.1[i].1 k, ?_, ?_⟩
      · rw [r17_Hops_l3, if_pos (by omega), hg, Option.bind_some, Option.bind_some, half ⟨Va.1, by omega⟩ ⟨Vb.1, by omega⟩ hk, Option.bind_some, half ⟨Vb.1, by rw [hf_len]; omega⟩ ⟨Va.1, by rw [hf_len]; omega⟩ hk, Option.bind_some, w64_id (by omega)]; rfl
      · rw [List.take_succ_eq_append_getElem hi, List.flatMap_append, List.flatMap_cons, List.flatMap_nil, List.append_nil]
        have e : ((t.2.1.take i).flatMap dirs) ++ dirs t.2.1[i] = ((t.2.1.take i).flatMap dirs ++ [(t.2.1[i].1, t.2.1[i].2.2.1)]) ++ [(t.2.1[i].2.2.1, t.2.1[i].1)] := by simp
        rw [e]; exact I2)
    (fun h _ => by rw [r17_Hops_l3, if_neg (by omega)]; rfl) h { toBs17 := H.toBs17, top := fun v hV => (by have := H.top v hV; omega), nn := hk.1, up := H.up, dd := fun q hq => by simp at hq }
  rw [List.take_length] at h1
  refine ⟨h', h2, { toBs17 := h1.toBs17, top := h1.top, up := fun u v hu h0 hlt => ?_ }⟩
  by_cases c : hv h' u < k
  · exact h1.up u v hu h0 c
  · have e : hv h' u = k := by omega
    obtain ⟨x, hx, hd⟩ := hu
    have hq : (u, v) ∈ t.2.1.flatMap dirs := List.mem_flatMap.2 ⟨x, hx, by
      rcases hd with ⟨rfl, rfl⟩ | ⟨rfl, rfl⟩ <;> simp⟩
    have h3 := (h1.dd _ hq).2 e
    have hV := ((h1.dd _ hq).1.V hok).2
    exact ⟨h3, by rw [e]; exact h1.top v hV⟩
theorem hv_app {l : List Int} {y v : Int} (h0 : 0 ≤ v) : hv (l ++ [y]) v = if v = (l.length : Int) then y else hv l v := by
  unfold hv
  rw [List.getD_eq_getElem?_getD, List.getD_eq_getElem?_getD]
  by_cases c : v = (l.length : Int)
  · rw [if_pos c, c, Int.toNat_natCast, List.getElem?_append_right (Nat.le_refl _)]; simp
  · rw [if_neg c]
    by_cases c2 : v.toNat < l.length
    · rw [List.getElem?_append_left c2]
    · rw [List.getElem?_eq_none (by simp; omega), List.getElem?_eq_none (by omega)]
theorem rhops_spec {t : Tp} (hok : OkT t) (s : Int) : ∃ h, r17_Hops t s = some h ∧ Sp t s h := by
  have h1t := hok.1.1
  have h8 := hok.1.2.1
  obtain ⟨n, hn⟩ : ∃ n : Nat, t.1 = n := ⟨t.1.toNat, by omega⟩
  obtain ⟨h0, ⟨i1, i2⟩, e0⟩ := loop_cnt n (fun (h : List Int) (i : Nat) => (h, (i : Int))) (r17_Hops_l1 t s) id
    (fun h i => h.length = i ∧ ∀ v : Int, 0 ≤ v → v < (i : Int) → hv h v = if v = s then 0 else -1)
    (fun h i hi ⟨a1, a2⟩ => by
      refine ⟨h ++ [if (i : Int) = s then 0 else -1], ?_, by simp [a1], fun v v0 v1 => ?_⟩
      · rw [r17_Hops_l1, if_pos (by omega)]
        by_cases c : (i : Int) = s
        · rw [if_pos c, if_pos c, app_is (by simp; omega), Option.bind_some, Option.bind_some, w64_id (by omega)]; rfl
        · rw [if_neg c, if_neg c, app_is (by simp; omega), Option.bind_some, Option.bind_some, w64_id (by omega)]; rfl
      · rw [hv_app v0, a1]
        by_cases c : v = (i : Int)
        · rw [if_pos c, c]
        · rw [if_neg c]; exact a2 v v0 (by omega))
    (fun h _ => by rw [r17_Hops_l1, if_neg (by omega)]; rfl) [] ⟨rfl, fun v v0 v1 => by omega⟩
  have e0' : loopW (r17_Hops_l1 t s) ([], 0) = some h0 := e0
  have g : ∀ w, VV t w → hv h0 w = if w = s then 0 else -1 := fun w hw => i2 w hw.1 (by have := hw.2; omega)
  have H0 : R17 t s 0 h0 := {
    len := by omega
    src := fun h => by rw [g s h, if_pos rfl]
    lo := fun v h => by rw [g v h]; split <;> omega
    zero := fun v h e => by
      rw [g v h] at e
      by_cases cc : v = s
      · exact cc
      · rw [if_neg cc] at e; omega
    dn := fun v h e => by
      rw [g v h] at e
      split at e <;> omega
    top := fun v h => by rw [g v h]; split <;> omega
    up := fun u v hu a b => by omega }
  obtain ⟨h', H', e'⟩ := loop_cnt n (fun (h : List Int) (i : Nat) => (h, (i : Int))) (r17_Hops_l2 t) id (fun h i => R17 t s (i : Int) h)
    (fun h i hi HI => by
      obtain ⟨g1, g2, g3⟩ := round_in hok (k := (i : Int)) (by omega) HI
      exact ⟨g1, by rw [r17_Hops_l2, if_pos (by omega), g2, Option.bind_some, w64_id (by omega)]; rfl, g3⟩)
    (fun h _ => by rw [r17_Hops_l2, if_neg (by omega)]; rfl) h0 H0
  have e2 : loopW (r17_Hops_l2 t) (h0, 0) = some h' := e'
  refine ⟨h', ?_, { toBs17 := H'.toBs17, up := fun u v hu a => H'.up u v hu a (by have := H'.toBs17.lt hok (hu.V hok).1; omega) }⟩
  unfold r17_Hops
  rw [e0', Option.bind_some, e2]; rfl
theorem same_refl {l : List Int} (hl : l.length ≤ 1000) : r13_Same l l = some true := by
  have key : ∀ (d k : Nat), k + d = l.length → loopW (r13_Same_l1 l l) (k : Int) = some (.inl ()) := by
    intro d
    induction d with
    | zero => intro k hk; exact loopW_end (by rw [r13_Same_l1, if_neg (by omega)])
    | succ d ih =>
      intro k hk
      have hkl : k < l.length := by omega
      rw [loopW_go (show r13_Same_l1 l l (k : Int) = some (.inl ((k + 1 : Nat) : Int)) by
        rw [r13_Same_l1, if_pos (by omega), ix_nat (List.getElem?_eq_getElem hkl), Option.bind_some, Option.bind_some, if_neg (fun h => h rfl), w64_id (by omega)]; rfl)]
      exact ih (k + 1) (by omega)
  have h0 : loopW (r13_Same_l1 l l) 0 = some (.inl ()) := key l.length 0 (by omega)
  unfold r13_Same
  rw [if_neg (fun h => h rfl), h0]; rfl
theorem sides_refl {l : List Sd} (hl : l.length ≤ 1000) : loopW (L17_TopoTells_l1 l l) 0 = some (.inl ()) := by
  have key : ∀ (d k : Nat), k + d = l.length → loopW (L17_TopoTells_l1 l l) (k : Int) = some (.inl ()) := by
    intro d
    induction d with
    | zero => intro k hk; exact loopW_end (by rw [L17_TopoTells_l1, if_neg (by omega)])
    | succ d ih =>
      intro k hk
      have hkl : k < l.length := by omega
      rw [loopW_go (show L17_TopoTells_l1 l l (k : Int) = some (.inl ((k + 1 : Nat) : Int)) by
        rw [L17_TopoTells_l1, if_pos (by omega), ix_nat (List.getElem?_eq_getElem hkl)]
        simp only [Option.bind_some]
        rw [if_neg (fun h => h rfl), if_neg (fun h => h rfl), decide_eq_false (fun h => h rfl), Option.bind_some, if_neg (by decide), w64_id (by omega)]; rfl)]
      exact ih (k + 1) (by omega)
  exact key l.length 0 (by omega)
/-- Whether all can be reached: both ways to say it. -/
theorem whole_ref {h : List Int} (hl : h.length ≤ 1000) : loopW (L17_TopoTells_l2 h) (true, 0) = some (decide (∀ x ∈ h, 0 ≤ x)) := by
  obtain ⟨b, h1, h2⟩ := loop_cnt h.length (fun (b : Bool) (i : Nat) => (b, (i : Int))) (L17_TopoTells_l2 h) id (fun b i => b = decide (∀ x ∈ h.take i, 0 ≤ x))
    (fun b i hi HI => by
      refine ⟨b && decide (0 ≤ h[i]), ?_, ?_⟩
      · rw [L17_TopoTells_l2, if_pos (by omega)]
        cases b
        · rw [if_neg (by decide), w64_id (by omega)]; rfl
        · rw [if_pos rfl, ix_nat (List.getElem?_eq_getElem hi), Option.bind_some, w64_id (by omega)]; rfl
      · rw [HI, List.take_succ_eq_append_getElem hi, Bool.eq_iff_iff]
        simp only [Bool.and_eq_true, decide_eq_true_eq, List.mem_append, List.mem_singleton]
        exact ⟨fun ⟨a, b⟩ x hx => hx.elim (a x) (fun e => by rw [e]; exact b), fun a => ⟨fun x hx => a x (.inl hx), a _ (.inr rfl)⟩⟩)
    (fun b _ => by rw [L17_TopoTells_l2, if_neg (by omega)]; rfl) true (by simp)
  have e : loopW (L17_TopoTells_l2 h) (true, 0) = some b := h2
  rw [e, h1, List.take_length]
theorem contains_eq17 {h : List Int} (hl : h.length ≤ 1000) : slices_Contains_int_int h (-1) = some (decide (-1 ∈ h)) := by
  have key : ∀ (d k : Nat), k + d = h.length → (-1 ∉ h.take k) → ∃ i : Int, orR (loopW (slices_Index_int_int_l1 h (-1)) (k : Int)) (fun _ => some (-1)) = some i ∧ (0 ≤ i ↔ -1 ∈ h) := by
    intro d
    induction d with
    | zero =>
      intro k hk hn
      rw [List.take_of_length_le (by omega)] at hn
      exact ⟨-1, by rw [loopW_end (by rw [slices_Index_int_int_l1, if_neg (by omega)])]; rfl, ⟨fun h => by omega, fun h => absurd h hn⟩⟩
    | succ d ih =>
      intro k hk hn
      have hkl : k < h.length := by omega
      have hg := ix_nat (List.getElem?_eq_getElem hkl)
      by_cases c : (-1 : Int) = h[k]
      · exact ⟨(k : Int), by rw [loopW_end (by rw [slices_Index_int_int_l1, if_pos (by omega), hg, Option.bind_some, if_pos c])]; rfl, ⟨fun _ => by rw [c]; exact List.getElem_mem hkl, fun _ => by omega⟩⟩
      · rw [loopW_go (show slices_Index_int_int_l1 h (-1) (k : Int) = some (.inl ((k + 1 : Nat) : Int)) by rw [slices_Index_int_int_l1, if_pos (by omega), hg, Option.bind_some, if_neg c, w64_id (by omega)]; rfl)]
        refine ih (k + 1) (by omega) (fun hm => ?_)
        rw [List.take_succ_eq_append_getElem hkl] at hm
        rcases List.mem_append.1 hm with hm | hm
        · exact hn hm
        · exact c (List.mem_singleton.1 hm)
  obtain ⟨i, h1, h2⟩ := key h.length 0 (by omega) (by simp)
  have h1' : orR (loopW (slices_Index_int_int_l1 h (-1)) 0) (fun _ => some (-1)) = some i := h1
  unfold slices_Contains_int_int slices_Index_int_int
  rw [h1', Option.bind_some]
  congr 1
  exact decide_eq_decide.2 h2
theorem TopoTells_core (p0 : Tp) (p1 p2 : Int) : L17_TopoTells p0 p1 p2 = some true := by
  unfold L17_TopoTells
  rw [awake17, rright17, right17]
  by_cases c0 : L17_small p0 = true
  · rw [c0, if_neg (by decide), Option.bind_some, Option.bind_some, if_neg (fun h => h rfl)]
    by_cases hok : OkT p0
    · rw [decide_eq_true hok, if_neg (by decide)]
      obtain ⟨R, eR, _⟩ := peer_spec hok.1.2.2.1 p1 p2
      obtain ⟨w, ew⟩ := hostat_some hok.1.2.2.2 p1 p2
      obtain ⟨sl, s1, s2⟩ := slow_same hok.1.2.2.1
      obtain ⟨N, n1, n2, n3, n4⟩ := near_spec hok p1
      obtain ⟨N', m1, m2, m3⟩ := rnear_spec hok p1
      have hNN : N' = N := lt_ext m3 n3 (fun s => by rw [m2, n2])
      subst hNN
      obtain ⟨A, a1, a2⟩ := hops_spec hok p1
      obtain ⟨A', b1, b2⟩ := rhops_spec hok p1
      have hAA : A' = A := Sp.uniq hok b2 a2
      subst hAA
      obtain ⟨W, w1, w2⟩ := hops_spec hok 0
      obtain ⟨W', v1, v2⟩ := rhops_spec hok 0
      have hWW : W' = W := Sp.uniq hok v2 w2
      subst hWW
      have h8 := hok.1.2.1
      have h1 := hok.1.1
      have lA := a2.len
      have lW := w2.len
      have hwh : topo_Whole p0 = some (decide (∀ x ∈ W', 0 ≤ x)) := by
        unfold topo_Whole
        rw [w1, Option.bind_some, if_pos (by omega), contains_eq17 (by omega), Option.bind_some, Option.bind_some]
        congr 1
        rw [Bool.eq_iff_iff]
        simp only [Bool.not_eq_true', decide_eq_false_iff_not, decide_eq_true_eq]
        constructor
        · intro hn x hx
          obtain ⟨i, hi, rfl⟩ := List.getElem_of_mem hx
          have hV : VV p0 (i : Int) := ⟨by omega, by omega⟩
          have := w2.lo _ hV
          have e : hv W' (i : Int) = W'[i] := by
            unfold hv
            rw [Int.toNat_natCast, List.getD_eq_getElem?_getD, List.getElem?_eq_getElem hi]; rfl
          rw [e] at this
          have : W'[i] ≠ -1 := fun e2 => hn (by rw [← e2]; exact hx)
          omega
        · intro hx hm
          have := hx _ hm
          omega
      rw [eR, Option.bind_some, peer_same, eR, Option.bind_some, if_neg (fun h => h rfl), if_neg (fun h => h rfl), if_neg (fun h => h rfl), if_neg (fun h => h rfl), hostat_same, ew, Option.bind_some, Option.bind_some, if_neg (fun h => h rfl), s1, Option.bind_some, s2, Option.bind_some, decide_eq_false (fun h => h rfl), Option.bind_some, if_neg (by decide), n1, Option.bind_some, m1, Option.bind_some, if_neg (fun h => h rfl), sides_refl (by omega)]
      show ((r17_Hops p0 0).bind _) = _
      rw [v1, Option.bind_some, whole_ref (by omega), Option.bind_some, a1, Option.bind_some, b1, Option.bind_some, same_refl (by omega), Option.bind_some, if_pos rfl, hwh, Option.bind_some, if_pos rfl]; rfl
    · rw [decide_eq_false hok]; rfl
  · rw [if_pos (by simpa using c0)]; rfl
theorem TopoTells_true (p0 : Tp) {A : Prop} (_ : A) (p1 : Int) {B : Prop} (_ : B) (p2 : Int) {C : Prop} (_ : C) : L17_TopoTells p0 p1 p2 = some true := TopoTells_core p0 p1 p2
end Go.Proofs.Ytnkleniifdkpmaa
