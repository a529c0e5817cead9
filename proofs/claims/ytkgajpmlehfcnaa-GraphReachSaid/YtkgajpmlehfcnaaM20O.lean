/- Layer 20: there is an order just if there is no loop. Conditions: none. -/
import Derived.Test.YtkgajpmlehfcnaaM20
namespace Go.Proofs.Ytkgajpmlehfcnaa
set_option linter.unusedVariables false
set_option linter.unusedSimpArgs false
open Go Go.RowKit

/-! ### There is an order just if there is no loop -/
theorem search_no {ε : Type} (n : Nat) (step : Int → Option (Int ⊕ (Unit ⊕ ε))) (hs : ∀ k : Nat, k < n → step (k : Int) = some (.inl ((k + 1 : Nat) : Int))) (he : step (n : Int) = some (.inr (.inl ()))) : loopW step 0 = some (.inl ()) := by
  rw [search n step (fun _ => none) (fun k hk => hs k hk) he, find_none (fun _ _ => rfl)]
theorem joined_eq (l : Es) (i k : Int) (hl : l.length ≤ 1000000000) : L20_joined l i k = some (decide ((i, k) ∈ l)) := redge_eq l i k hl
theorem place_eq (l : List Int) (x : Int) (hl : l.length ≤ 1000000000) : ∃ r, L20_place l x = some r ∧ ((r = -1 ∧ x ∉ l) ∨ ∃ j : Nat, r = (j : Int) ∧ l[j]? = some x) := by
  obtain ⟨r, h1, h2⟩ := loop_cnt l.length (fun (r : Int) (k : Nat) => (r, (k : Int))) (L20_place_l1 l x) id (fun r k => (r = -1 ∧ x ∉ l.take k) ∨ ∃ j : Nat, r = (j : Int) ∧ l[j]? = some x)
    (fun r k hk hI => by
      have hst : L20_place_l1 l x (r, (k : Int)) = some (.inl (if l[k] = x then (k : Int) else r, ((k + 1 : Nat) : Int))) := by
        rw [L20_place_l1, if_pos (by omega), ix_nat (List.getElem?_eq_getElem hk), Option.bind_some, w64_id (by omega)]
        by_cases h : l[k] = x
        · rw [if_pos h, if_pos h]; rfl
        · rw [if_neg h, if_neg h]; rfl
      refine ⟨_, hst, ?_⟩
      by_cases h : l[k] = x
      · rw [if_pos h]
        exact .inr ⟨k, rfl, by rw [List.getElem?_eq_getElem hk, h]⟩
      · rw [if_neg h]
        rcases hI with ⟨h3, h4⟩ | h3
        · refine .inl ⟨h3, fun hm => ?_⟩
          rw [List.take_add_one, List.getElem?_eq_getElem hk, List.mem_append] at hm
          rcases hm with hm | hm
          · exact h4 hm
          · exact h (by simpa using hm : x = l[k]).symm
        · exact .inr h3)
    (fun r _ => by rw [L20_place_l1, if_neg (by omega)]; rfl) (-1) (.inl ⟨rfl, by simp⟩)
  rw [List.take_length] at h1
  refine ⟨r, ?_, h1⟩
  unfold L20_place
  have e : loopW (L20_place_l1 l x) (-1, 0) = some r := h2
  rw [e]; rfl
theorem nodup_inj {l : List Int} (hn : l.Nodup) {i j : Nat} (hi : i < l.length) (hj : j < l.length) (h : l[i] = l[j]) : i = j := by
  rw [List.nodup_iff_pairwise_ne, List.pairwise_iff_getElem] at hn
  rcases Nat.lt_trichotomy i j with h1 | h1 | h1
  · exact absurd h (hn i j hi hj h1)
  · exact h1
  · exact absurd h.symm (hn j i hj hi h1)
theorem place_at {l : List Int} (hn : l.Nodup) (hl : l.length ≤ 1000000000) {j : Nat} {x : Int} (h : l[j]? = some x) : L20_place l x = some (j : Int) := by
  obtain ⟨r, h1, h2⟩ := place_eq l x hl
  rw [h1]
  rcases h2 with ⟨_, h3⟩ | ⟨j2, rfl, h3⟩
  · exact absurd (List.mem_of_getElem? h) h3
  · obtain ⟨a1, a2⟩ := List.getElem?_eq_some_iff.1 h
    obtain ⟨b1, b2⟩ := List.getElem?_eq_some_iff.1 h3
    have : j2 = j := nodup_inj hn b1 a1 (by rw [a2, b2])
    rw [this]
/-- Where all edges lead further no walk comes back. -/
theorem closed_walk {n : Nat} {l : Es} (ok : Ok (n : Int) l) {F : Nat → Nat} (hF : Closed l F) : ∀ (k a b : Nat), wk n l k a b = true → F a + k ≤ F b
  | 0, a, b, h => by rw [W_zero.1 h]; omega
  | k + 1, a, b, h => by
    obtain ⟨c, h1, h2⟩ := (W_succ ok).1 h
    have := closed_walk ok hF k c b h2
    have := hF a c h1
    omega
theorem cyc_short {n : Nat} {l : Es} (ok : Ok (n : Int) l) {s k : Nat} (h : wk n l (k + 1) s s = true) : s < n ∧ wy n l s s ≠ 0 := by
  obtain ⟨i, h1, h2⟩ := (W_succ ok).1 h
  have hs := (J_lt ok h1).1
  obtain ⟨e, _, he⟩ := dist_le h2
  have hlt := dist_lt ok hs he
  refine ⟨hs, fun h0 => ?_⟩
  rcases wy_cases n l s s with ⟨_, h3⟩ | ⟨k, h3, _, h4, _⟩
  · have := h3 (e + 1) (by omega) (by omega)
    rw [(W_succ ok).2 ⟨i, h1, he.1⟩] at this; cases this
  · omega
theorem stuck_cyc {n : Nat} {l : Es} (ok : Ok (n : Int) l) {Q : Nat → Prop} {q : Nat} (hq : Q q) (hQ : ∀ i, Q i → ∃ k, Q k ∧ J l k i) : ∃ s k, wk n l (k + 1) s s = true := by
  refine Classical.byContradiction fun hno => ?_
  have key : ∀ m : Nat, ∃ (a : Nat) (L : List Int), Q a ∧ L.length = m ∧ L.Nodup ∧ ∀ x ∈ L, ∃ c j : Nat, x = (c : Int) ∧ c < n ∧ wk n l (j + 1) a c = true := by
    intro m
    induction m with
    | zero => exact ⟨q, [], hq, rfl, by simp, by simp⟩
    | succ m ih =>
      obtain ⟨a, L, h1, h2, h3, h4⟩ := ih
      obtain ⟨k, h5, h6⟩ := hQ a h1
      refine ⟨k, (a : Int) :: L, h5, by rw [List.length_cons, h2], ?_, fun x hx => ?_⟩
      · rw [List.nodup_cons]
        refine ⟨fun hm => ?_, h3⟩
        obtain ⟨c, j, h7, _, h8⟩ := h4 _ hm
        obtain rfl : a = c := by omega
        exact hno ⟨a, j, h8⟩
      · rcases List.mem_cons.1 hx with rfl | hx
        · exact ⟨a, 0, rfl, (J_lt ok h6).2, (W_succ ok).2 ⟨a, h6, W_zero.2 rfl⟩⟩
        · obtain ⟨c, j, h7, h8, h9⟩ := h4 x hx
          exact ⟨c, j + 1, h7, h8, (W_succ ok).2 ⟨a, h6, h9⟩⟩
  obtain ⟨a, L, _, h2, h3, h4⟩ := key (n + 1)
  have := nodup_len (n := n) n L h3 (fun x hx => by obtain ⟨c, _, rfl, h, _⟩ := h4 x hx; omega)
  omega
theorem ord_stuck {n : Nat} {l : Es} : ∀ (d : Nat) (out : List Int), ord n l d out = none → out.length + d = n → Good n l out → ∃ out' : List Int, out'.length < n ∧ Good n l out' ∧ ∀ i, i < n → ¬ Free n l out' i
  | 0, out, h, _, _ => by cases h
  | d + 1, out, h, hl, g => by
    unfold ord at h
    rcases nextF_cases n l out with ⟨h1, h2⟩ | ⟨i, hi, h1, hf, _⟩
    · exact ⟨out, by omega, g, h2⟩
    · rw [if_neg (by omega), h1] at h
      refine ord_stuck d (out ++ [(i : Int)]) h (by rw [List.length_append, List.length_singleton]; omega) fun j x hx => ?_
      by_cases hj : j < out.length
      · rw [List.getElem?_append_left hj] at hx
        rw [List.take_append_of_le_length (by omega)]
        exact g j x hx
      · have hj2 := (List.getElem?_eq_some_iff.1 hx).1
        rw [List.length_append, List.length_singleton] at hj2
        obtain rfl : j = out.length := by omega
        rw [List.getElem?_append_right (Nat.le_refl _), Nat.sub_self] at hx
        have hx : (i : Int) = x := by simpa using hx
        rw [List.take_append_of_le_length (Nat.le_refl _), List.take_length]
        exact ⟨i, hi, hx.symm, hf⟩
theorem full_len : ∀ (n : Nat) (o : List Int), (∀ i : Nat, i < n → (i : Int) ∈ o) → n ≤ o.length
  | 0, _, _ => Nat.zero_le _
  | n + 1, o, h => by
    have hm := h n (by omega)
    have := full_len n (o.erase (n : Int)) (fun i hi => (List.mem_erase_of_ne (by omega)).2 (h i (by omega)))
    rw [List.length_erase_of_mem hm] at this
    have := List.length_pos_of_mem hm
    omega
theorem none_loop {n : Nat} {l : Es} (ok : Ok (n : Int) l) (h : ord n l n [] = none) : ∃ s, s < n ∧ wy n l s s ≠ 0 := by
  obtain ⟨out, h1, g, h2⟩ := ord_stuck n [] h (by simp) (fun j x hx => by simp at hx)
  obtain ⟨q, hq1, hq2⟩ : ∃ q, q < n ∧ (q : Int) ∉ out := by
    refine Classical.byContradiction fun hno => ?_
    have := full_len n out (fun i hi => Classical.byContradiction fun hi2 => hno ⟨i, hi, hi2⟩)
    omega
  obtain ⟨s, k, hk⟩ := stuck_cyc ok (Q := fun i => i < n ∧ (i : Int) ∉ out) ⟨hq1, hq2⟩ (fun i hi => by
    refine Classical.byContradiction fun hno => h2 i hi.1 ⟨hi.2, fun k hk hj => Classical.byContradiction fun hk2 => hno ⟨k, ⟨hk, hk2⟩, hj⟩⟩)
  exact ⟨s, cyc_short ok hk⟩
theorem some_noloop {n : Nat} {l : Es} (ok : Ok (n : Int) l) {F : Nat → Nat} (hF : Closed l F) : loopV n l = [] := by
  unfold loopV
  rw [find_none fun s hs => ?_]
  unfold loopP
  rcases wy_cases n l s s with ⟨h1, _⟩ | ⟨k, h1, _, _, h2, _⟩
  · rw [if_pos h1]
  · have := closed_walk ok hF k s s h2; omega
theorem path_len (n : Nat) (l : Es) (s : Nat) : ∀ d a, (path n l s d a).length = d
  | 0, _ => rfl
  | d + 1, a => by simp [path, path_len n l s d]
theorem path_spec {n : Nat} {l : Es} (ok : Ok (n : Int) l) {s : Nat} : ∀ (d a : Nat), Dist n l s a d → ∀ j, j < d → ∃ b b' : Nat, (path n l s d a)[j]? = some (b : Int) ∧ Dist n l s b (d - j) ∧ J l b b' ∧ ((path n l s d a)[j + 1]? = some (b' : Int) ∨ (j + 1 = d ∧ b' = s)) := by
  intro d
  induction d with
  | zero => intro a _ j hj; omega
  | succ d ih =>
    intro a hD j hj
    have hns := nxN_spec ok (dist_next ok hD)
    cases j with
    | zero =>
      refine ⟨a, nxN n l s a d, rfl, hD, hns.1, ?_⟩
      cases d with
      | zero => exact .inr ⟨rfl, W_zero.1 hns.2.1.1⟩
      | succ d => exact .inl rfl
    | succ j =>
      obtain ⟨b, b', h1, h2, h3, h4⟩ := ih _ hns.2.1 j (by omega)
      refine ⟨b, b', by simpa [path] using h1, by rw [show d + 1 - (j + 1) = d - j by omega]; exact h2, h3, ?_⟩
      rcases h4 with h4 | ⟨h4, h5⟩
      · exact .inl (by simpa [path] using h4)
      · exact .inr ⟨by omega, h5⟩
/-- A loop is one. -/
theorem loop_is {n : Nat} {l : Es} (ok : Ok (n : Int) l) {s : Nat} {o : List Int} (h : loopP n l s = some o) (hs : s < n) : o.length ≤ n ∧ o.Nodup ∧ o[0]? = some (s : Int) ∧ ∀ j, j < o.length → ∃ x y : Int, o[j]? = some x ∧ (x, y) ∈ l ∧ (o[j + 1]? = some y ∨ (j + 1 = o.length ∧ y = (s : Int))) := by
  unfold loopP at h
  rcases wy_cases n l s s with ⟨h1, _⟩ | ⟨k, h1, h2, h3, h4, h5⟩
  · rw [if_pos h1] at h; cases h
  · rw [if_neg (by omega), h3, Int.toNat_natCast] at h
    obtain ⟨d, rfl⟩ : ∃ d, k = d + 1 := ⟨k - 1, by omega⟩
    rw [Nat.add_sub_cancel] at h
    obtain ⟨c1, _⟩ := cyc_next ok h1 h4 h5
    rw [Nat.add_sub_cancel] at c1
    have hns := nxN_spec ok c1
    have hps := path_spec ok d _ hns.2.1
    have hpl := path_len n l s d (nxN n l s s d)
    cases h
    have hd0 : Dist n l s s 0 := ⟨W_zero.2 rfl, fun _ h => by omega⟩
    refine ⟨by rw [List.length_cons, hpl]; omega, ?_, rfl, fun j hj => ?_⟩
    · rw [List.nodup_cons]
      constructor
      · intro hm
        obtain ⟨j, hj, hx⟩ := List.getElem_of_mem hm
        obtain ⟨b, _, g1, g2, _⟩ := hps j (by omega)
        rw [List.getElem?_eq_getElem hj, hx] at g1
        have : s = b := by have := Option.some.inj g1; omega
        subst this
        have := dist_fun hd0 g2; omega
      · rw [List.nodup_iff_pairwise_ne, List.pairwise_iff_getElem]
        intro i j hi hj hij e
        obtain ⟨b, _, g1, g2, _⟩ := hps i (by omega)
        obtain ⟨c, _, g3, g4, _⟩ := hps j (by omega)
        rw [List.getElem?_eq_getElem hi] at g1
        rw [List.getElem?_eq_getElem hj] at g3
        have : b = c := by have := Option.some.inj g1; have := Option.some.inj g3; omega
        subst this
        have := dist_fun g2 g4; omega
    · rw [List.length_cons, hpl] at hj
      cases j with
      | zero =>
        refine ⟨(s : Int), (nxN n l s s d : Int), rfl, hns.1, ?_⟩
        cases d with
        | zero => exact .inr ⟨rfl, by rw [W_zero.1 hns.2.1.1]⟩
        | succ d => exact .inl rfl
      | succ j =>
        obtain ⟨b, b', g1, g2, g3, g4⟩ := hps j (by omega)
        refine ⟨(b : Int), (b' : Int), by simpa using g1, g3, ?_⟩
        rcases g4 with g4 | ⟨g4, g5⟩
        · exact .inl (by simpa using g4)
        · exact .inr ⟨by rw [List.length_cons, hpl]; omega, by rw [g5]⟩
theorem GraphOrder_true (p0 : Int) (ok0 : (Lit.int .i64 p0).wf = true) (p1 : List (Int × Int)) (ok1 : okL (okP (fun n => (Lit.int .i64 n).wf = true) (fun n => (Lit.int .i64 n).wf = true)) p1) : L20_GraphOrder p0 p1 = some true := by
  unfold L20_GraphOrder
  by_cases h : 60 < (p1.length : Int)
  · rw [if_pos h, Option.bind_some, if_pos rfl, awake20]; rfl
  · have hl : p1.length ≤ 60 := by omega
    rw [if_neg h, rright_eq _ _ (by omega), Option.bind_some]
    by_cases ok : Ok p0 p1
    · rw [decide_eq_true ok, Option.bind_some, if_neg (by decide), mine_eq (by omega), Option.bind_some]
      obtain ⟨n, rfl⟩ : ∃ n : Nat, p0 = (n : Int) := ⟨p0.toNat, by have := ok.1; omega⟩
      have hn := ok.2.1
      obtain ⟨f, f1, f2, f3⟩ := far_eq ok (by omega)
      rw [porder_eq ok (by omega), f1, ploop_eq ok (by omega), Option.bind_some, Option.bind_some, Option.bind_some]
      rcases f3 with ⟨o, F, ho, hF, rfl⟩ | ⟨ho, rfl⟩
      · obtain ⟨g, hlen⟩ := ord_good n [] o ho (fun j x hx => by simp at hx)
        have hlen : o.length = n := by simpa using hlen
        have hnd := good_nodup o g
        have hcl : Closed p1 F := fun a b hj => hF.cl a b (good_all g hlen (J_lt ok hj).2) hj
        have hov : orderV n p1 = (o, true) := by unfold orderV; rw [ho]
        rw [hov, some_noloop ok hcl]
        dsimp only
        rw [if_neg (by simp), if_neg (by simp)]
        unfold orR
        rw [Option.bind_some]
        dsimp only
        rw [search_no n _ (fun k hk => by
          unfold L20_GraphOrder_l2
          obtain ⟨j, hj1, hj2⟩ := List.getElem_of_mem (good_all g hlen hk)
          rw [if_pos (by omega), place_at hnd (by omega) (j := j) (by rw [List.getElem?_eq_getElem hj1, hj2]), Option.bind_some, if_neg (by omega), w64_id (by omega)]; rfl) (by unfold L20_GraphOrder_l2; rw [if_neg (by omega)]), Option.bind_some]
        dsimp only
        rw [if_neg (by simp [hlen, lst_len]), search_no p1.length _ (fun k hk => by
          unfold L20_GraphOrder_l3
          have hm : p1[k] ∈ p1 := List.getElem_mem hk
          have hr := ok.2.2 _ hm
          obtain ⟨a, ha⟩ : ∃ a : Nat, p1[k].1 = (a : Int) := ⟨p1[k].1.toNat, by omega⟩
          obtain ⟨b, hb⟩ : ∃ b : Nat, p1[k].2 = (b : Int) := ⟨p1[k].2.toNat, by omega⟩
          have hab : p1[k] = ((a : Int), (b : Int)) := by rw [← ha, ← hb]
          have hjj : J p1 a b := by unfold J; rw [← hab]; exact hm
          obtain ⟨j, hj1, hj2⟩ := List.getElem_of_mem (good_all g hlen (show b < n by omega))
          have hjo : o[j]? = some (b : Int) := by rw [List.getElem?_eq_getElem hj1, hj2]
          obtain ⟨b', _, hb', hfr⟩ := g j _ hjo
          have hbb : b = b' := by omega
          subst hbb
          obtain ⟨i, hi1, hi2⟩ := List.getElem_of_mem (hfr.2 a (by omega) hjj)
          rw [List.length_take] at hi1
          rw [List.getElem_take] at hi2
          have hio : o[i]? = some (a : Int) := by rw [List.getElem?_eq_getElem (by omega), hi2]
          have hF2 := hcl a b hjj
          rw [if_pos (by omega), ix_nat (List.getElem?_eq_getElem hk), hab]
          simp only [Option.bind_some]
          rw [place_at hnd (by omega) hio, place_at hnd (by omega) hjo, Option.bind_some, Option.bind_some, if_neg (by omega), lst_get (by omega), Option.bind_some, lst_get (by omega), Option.bind_some, decide_eq_false (by omega), Option.bind_some, if_neg (by decide), w64_id (by omega)]; rfl) (by unfold L20_GraphOrder_l3; rw [if_neg (by omega)]), Option.bind_some]
        dsimp only
        rw [awake20]; rfl
      · have hov : orderV n p1 = ([], false) := by unfold orderV; rw [ho]
        obtain ⟨s, hs, hw⟩ := none_loop ok ho
        obtain ⟨o, hlv, s, hs, hlp⟩ : ∃ o, loopV n p1 = o ∧ ∃ s, s < n ∧ loopP n p1 s = some o := by
          unfold loopV
          cases hf : (List.range n).findSome? (loopP n p1) with
          | none =>
            rw [List.findSome?_eq_none_iff] at hf
            have := hf s (List.mem_range.2 hs)
            unfold loopP at this
            rw [if_neg hw] at this; cases this
          | some o =>
            obtain ⟨s, h1, h2⟩ := List.exists_of_findSome?_eq_some hf
            exact ⟨o, rfl, s, List.mem_range.1 h1, h2⟩
        obtain ⟨g1, g2, g3, g4⟩ := loop_is ok hlp hs
        have hpos : 0 < o.length := (List.getElem?_eq_some_iff.1 g3).1
        rw [hov, hlv]
        dsimp only
        have hne : ¬ ((o.length : Int) = 0) := by omega
        rw [decide_eq_false hne, if_neg (by decide), if_pos (by rfl), search_no o.length _ (fun j hj => by
          unfold L20_GraphOrder_l1
          obtain ⟨x, y, h1, h2, h3⟩ := g4 j hj
          have hnext : (if w64 ((j : Int) + 1) < (o.length : Int) then (ix o (w64 ((j : Int) + 1))).bind fun x11 => some x11 else some (s : Int)) = some y := by
            rw [w64_id (by omega), show (j : Int) + 1 = ((j + 1 : Nat) : Int) by omega]
            rcases h3 with h3 | ⟨h3, rfl⟩
            · have := (List.getElem?_eq_some_iff.1 h3).1
              rw [if_pos (by omega), ix_nat h3]; rfl
            · rw [if_neg (by omega)]
          have hz : ix o 0 = some (s : Int) := ix_nat (k := 0) g3
          rw [if_pos (by omega), hz, Option.bind_some, hnext, Option.bind_some, ix_nat h1, Option.bind_some, joined_eq _ _ _ (by omega), decide_eq_true h2, Option.bind_some, if_neg (by decide), Option.bind_some, place_at g2 (by omega) h1, Option.bind_some, decide_eq_false (by simp), Option.bind_some, if_neg (by decide), w64_id (by omega)]; rfl) (by unfold L20_GraphOrder_l1; rw [if_neg (by omega)])]
        rw [awake20]; rfl
    · rw [decide_eq_false ok, Option.bind_some, if_pos (by decide), awake20]; rfl
end Go.Proofs.Ytkgajpmlehfcnaa
