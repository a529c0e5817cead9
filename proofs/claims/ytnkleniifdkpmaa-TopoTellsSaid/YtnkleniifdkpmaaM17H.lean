/- Layer 17: hops. Conditions: none. -/
import Derived.Test.YtnkleniifdkpmaaM17N
namespace Go.Proofs.Ytnkleniifdkpmaa
set_option linter.unusedVariables false
set_option linter.unusedSimpArgs false
open Go Go.RowKit
/-! ### Hops -/
def hv (h : List Int) (v : Int) : Int := h.getD v.toNat (-1)
theorem ix_hv {h : List Int} {v : Int} (h0 : 0 ≤ v) (h1 : v < (h.length : Int)) : ix h v = some (hv h v) := by
  obtain ⟨k, rfl⟩ : ∃ k : Nat, v = k := ⟨v.toNat, by omega⟩
  have hk : k < h.length := by omega
  rw [ix_nat (List.getElem?_eq_getElem hk)]
  unfold hv
  rw [Int.toNat_natCast, List.getD_eq_getElem?_getD, List.getElem?_eq_getElem hk]; rfl
theorem setAt_len {h : List Int} {v y : Int} : (setAt h v y).length = h.length := by unfold setAt; simp
theorem hv_set {h : List Int} {v u y : Int} (h0 : 0 ≤ v) (h1 : v < (h.length : Int)) (h2 : 0 ≤ u) : hv (setAt h v y) u = if u = v then y else hv h u := by
  unfold hv setAt
  rw [List.getD_eq_getElem?_getD, List.getElem?_set]
  by_cases c : u = v
  · subst c
    rw [if_pos rfl, if_pos rfl, if_pos (by omega)]; rfl
  · rw [if_neg (by omega), if_neg c, List.getD_eq_getElem?_getD]
theorem hv_ext {h g : List Int} (hl : h.length = g.length) (he : ∀ v : Int, 0 ≤ v → v < (h.length : Int) → hv h v = hv g v) : h = g := by
  apply List.ext_getElem hl
  intro i h1 h2
  have := he (i : Int) (by omega) (by omega)
  unfold hv at this
  rw [Int.toNat_natCast, List.getD_eq_getElem?_getD, List.getD_eq_getElem?_getD, List.getElem?_eq_getElem h1, List.getElem?_eq_getElem h2] at this
  exact this
abbrev VV (t : Tp) (v : Int) : Prop := 0 ≤ v ∧ v < t.1
def Adj (t : Tp) (u v : Int) : Prop := ∃ x ∈ t.2.1, (u = x.1 ∧ v = x.2.2.1) ∨ (u = x.2.2.1 ∧ v = x.1)
theorem Adj.symm {t : Tp} {u v : Int} (h : Adj t u v) : Adj t v u := by
  obtain ⟨x, hx, h | h⟩ := h
  · exact ⟨x, hx, .inr ⟨h.2, h.1⟩⟩
  · exact ⟨x, hx, .inl ⟨h.2, h.1⟩⟩
theorem Adj.V {t : Tp} (hok : OkT t) {u v : Int} (h : Adj t u v) : VV t u ∧ VV t v := by
  obtain ⟨x, hx, h⟩ := h
  obtain ⟨_, _, _, _, k5, k6⟩ := hok.2.1 x hx
  have a1 := k5.1
  have a2 := k5.2.1
  have a3 := k6.1
  have a4 := k6.2.1
  simp only at a1 a2 a3 a4
  rcases h with ⟨rfl, rfl⟩ | ⟨rfl, rfl⟩
  · exact ⟨⟨a1, a2⟩, ⟨a3, a4⟩⟩
  · exact ⟨⟨a3, a4⟩, ⟨a1, a2⟩⟩
/-- What holds all the while: values, and where they come from. -/
structure Bs17 (t : Tp) (s : Int) (h : List Int) : Prop where
  len : (h.length : Int) = t.1
  src : VV t s → hv h s = 0
  lo : ∀ v, VV t v → -1 ≤ hv h v
  zero : ∀ v, VV t v → hv h v = 0 → v = s
  dn : ∀ v, VV t v → 0 < hv h v → ∃ u, Adj t u v ∧ hv h u = hv h v - 1
/-- How far off all are. -/
structure Sp (t : Tp) (s : Int) (h : List Int) : Prop extends Bs17 t s h where
  up : ∀ u v, Adj t u v → 0 ≤ hv h u → 0 ≤ hv h v ∧ hv h v ≤ hv h u + 1
/-- A place behind one that is so far off is set. -/
theorem Bs17.set {t : Tp} (hok : OkT t) {s : Int} {h : List Int} (H : Bs17 t s h) {u v : Int} (ha : Adj t u v) (hu : 0 ≤ hv h u) (hv0 : hv h v < 0) : Bs17 t s (setAt h v (hv h u + 1)) := by
  obtain ⟨Vu, Vv⟩ := ha.V hok
  have hl := H.len
  have g : ∀ w, VV t w → hv (setAt h v (hv h u + 1)) w = if w = v then hv h u + 1 else hv h w := fun w hw => hv_set Vv.1 (by omega) hw.1
  refine ⟨by rw [setAt_len]; exact hl, fun hs => ?_, fun w hw => ?_, fun w hw hz => ?_, fun w hw hp => ?_⟩
  · have := H.src hs
    rw [g s hs, if_neg (fun e => by subst e; omega)]; exact this
  · rw [g w hw]
    have := H.lo w hw
    split <;> omega
  · rw [g w hw] at hz
    by_cases c : w = v
    · rw [if_pos c] at hz; omega
    · rw [if_neg c] at hz; exact H.zero w hw hz
  · rw [g w hw] at hp ⊢
    by_cases c : w = v
    · subst c
      rw [if_pos rfl]
      exact ⟨u, ha, by rw [g u Vu, if_neg (fun e => by subst e; omega)]; omega⟩
    · rw [if_neg c] at hp ⊢
      obtain ⟨z, hz, e⟩ := H.dn w hw hp
      exact ⟨z, hz, by rw [g z (hz.V hok).1, if_neg (fun e2 => by subst e2; omega)]; exact e⟩
theorem Sp.le {t : Tp} (hok : OkT t) {s : Int} {h g : List Int} (H : Bs17 t s h) (G : Sp t s g) : ∀ (m : Nat) (v : Int), VV t v → hv h v = m → 0 ≤ hv g v ∧ hv g v ≤ m
  | 0, v, hV, e => by
    have := H.zero v hV (by simpa using e)
    subst this
    have := G.src hV
    omega
  | m + 1, v, hV, e => by
    obtain ⟨u, hu, e2⟩ := H.dn v hV (by omega)
    have h1 := Sp.le hok H G m u (hu.V hok).1 (by omega)
    have := G.up u v hu h1.1
    omega
theorem Sp.uniq {t : Tp} (hok : OkT t) {s : Int} {h g : List Int} (H : Sp t s h) (G : Sp t s g) : h = g := by
  have hl := H.len
  have gl := G.len
  refine hv_ext (by omega) (fun v h0 h1 => ?_)
  have hV : VV t v := ⟨h0, by omega⟩
  have a := H.lo v hV
  have b := G.lo v hV
  by_cases c : 0 ≤ hv h v
  · have h2 := Sp.le hok H.toBs17 G (hv h v).toNat v hV (by omega)
    have h3 := Sp.le hok G.toBs17 H (hv g v).toNat v hV (by omega)
    omega
  · by_cases c2 : 0 ≤ hv g v
    · have h3 := Sp.le hok G.toBs17 H (hv g v).toNat v hV (by omega)
      omega
    · omega
theorem Bs17.chain {t : Tp} (hok : OkT t) {s : Int} {h : List Int} (H : Bs17 t s h) : ∀ (m : Nat) (v : Int), VV t v → hv h v = m → ∃ l : List Int, l.length = m + 1 ∧ l.Nodup ∧ ∀ x ∈ l, VV t x ∧ hv h x ≤ m
  | 0, v, hV, e => ⟨[v], rfl, by simp, fun x hx => by rw [List.mem_singleton.1 hx]; exact ⟨hV, by omega⟩⟩
  | m + 1, v, hV, e => by
    obtain ⟨u, hu, e2⟩ := H.dn v hV (by omega)
    obtain ⟨l, l1, l2, l3⟩ := H.chain hok m u (hu.V hok).1 (by omega)
    refine ⟨v :: l, by simp [l1], List.nodup_cons.2 ⟨fun hm => by have := (l3 v hm).2; omega, l2⟩, fun x hx => ?_⟩
    rcases List.mem_cons.1 hx with rfl | hx
    · exact ⟨hV, by omega⟩
    · have := l3 x hx
      exact ⟨this.1, by omega⟩
theorem Bs17.lt {t : Tp} (hok : OkT t) {s : Int} {h : List Int} (H : Bs17 t s h) {v : Int} (hV : VV t v) : hv h v < t.1 := by
  by_cases c : 0 ≤ hv h v
  · obtain ⟨l, l1, l2, l3⟩ := H.chain hok (hv h v).toNat v hV (by omega)
    have := nodup_short t.1.toNat l l2 (fun x hx => by have := (l3 x hx).1; omega)
    have := hok.1.1
    omega
  · have := hok.1.1
    omega
/-! The program's. -/
structure Q17 (t : Tp) (s a d : Int) (P : List Int) (h : List Int) (Q : List Int) : Prop extends Bs17 t s h where
  qV : ∀ q ∈ P ++ Q, VV t q ∧ 0 ≤ hv h q
  nd : (P ++ Q).Nodup
  mono : Q.Pairwise fun x y => hv h x ≤ hv h y
  hd : ∀ q ∈ Q, d ≤ hv h q
  top : ∀ v, VV t v → hv h v ≤ d + 1
  nn : 0 ≤ d
  up : ∀ u v, Adj t u v → 0 ≤ hv h u → u ∉ Q → u ≠ a → 0 ≤ hv h v ∧ hv h v ≤ hv h u + 1
theorem Q17.push {t : Tp} (hok : OkT t) {s a d : Int} {P h Q : List Int} (H : Q17 t s a d P h Q) {v : Int} (ha : Adj t a v) (hd : hv h a = d) (hv0 : hv h v < 0) : Q17 t s a d P (setAt h v (d + 1)) (Q ++ [v]) ∧ hv (setAt h v (d + 1)) a = d ∧ ∀ w, VV t w → 0 ≤ hv h w → 0 ≤ hv (setAt h v (d + 1)) w := by
  obtain ⟨Va, Vv⟩ := ha.V hok
  have hl := H.len
  have hnn := H.nn
  have g : ∀ w, VV t w → hv (setAt h v (d + 1)) w = if w = v then d + 1 else hv h w := fun w hw => hv_set Vv.1 (by omega) hw.1
  have hB : Bs17 t s (setAt h v (d + 1)) := by
    have := H.toBs17.set hok ha (by omega) hv0
    rwa [hd] at this
  have hq : ∀ q ∈ P ++ Q, hv (setAt h v (d + 1)) q = hv h q := fun q hq => by
    have := H.qV q hq
    rw [g q this.1, if_neg (fun e => by subst e; omega)]
  have hvn : v ∉ P ++ Q := fun hm => by have := H.qV v hm; omega
  refine ⟨{ toBs17 := hB, qV := fun q hm => ?_, nd := ?_, mono := ?_, hd := fun q hm => ?_, top := fun w hw => ?_, nn := hnn, up := fun u w hu h0 hn hne => ?_ }, by rw [g a Va, if_neg (fun e => by subst e; omega)]; exact hd, fun w hw h0 => ?_⟩
  · rw [← List.append_assoc] at hm
    rcases List.mem_append.1 hm with hm | hm
    · rw [hq q hm]; exact H.qV q hm
    · rw [List.mem_singleton.1 hm, g v Vv, if_pos rfl]; exact ⟨Vv, by omega⟩
  · rw [← List.append_assoc, List.nodup_append]
    exact ⟨H.nd, by simp, fun x hx y hy => by rw [List.mem_singleton.1 hy]; intro e; subst e; exact hvn hx⟩
  · rw [List.pairwise_append]
    refine ⟨H.mono.imp_of_mem fun {x y} hx hy hxy => by rw [hq x (List.mem_append_right _ hx), hq y (List.mem_append_right _ hy)]; exact hxy, by simp, fun x hx y hy => ?_⟩
    rw [List.mem_singleton.1 hy, hq x (List.mem_append_right _ hx), g v Vv, if_pos rfl]
    exact H.top x (H.qV x (List.mem_append_right _ hx)).1
  · rcases List.mem_append.1 hm with hm | hm
    · rw [hq q (List.mem_append_right _ hm)]; exact H.hd q hm
    · rw [List.mem_singleton.1 hm, g v Vv, if_pos rfl]; omega
  · rw [g w hw]
    have := H.top w hw
    split <;> omega
  · obtain ⟨Vu, Vw⟩ := hu.V hok
    have hnu : u ≠ v := fun e => hn (by rw [e]; simp)
    rw [g u Vu, if_neg hnu] at h0 ⊢
    have := H.up u w hu h0 (fun hm => hn (List.mem_append_left _ hm)) hne
    rw [g w Vw, if_neg (fun e => by subst e; omega)]
    exact this
  · rw [g w hw]
    split <;> omega
theorem hops_inner {t : Tp} (hok : OkT t) {s a d : Int} {P : List Int} {N : List Sd} (hN : N.length ≤ 8) (hA : ∀ x ∈ N, Adj t a x.2.1) : ∀ (dd k : Nat), k + dd = N.length → ∀ (h Q : List Int), Q17 t s a d P h Q → hv h a = d → (∀ x ∈ N.take k, 0 ≤ hv h x.2.1) → ∃ h' Q', loopW (topo_Hops_l2 a N) (h, Q, (k : Int)) = some (.inl (h', Q')) ∧ Q17 t s a d P h' Q' ∧ hv h' a = d ∧ ∀ x ∈ N, 0 ≤ hv h' x.2.1 := by
  intro dd
  induction dd with
  | zero =>
    intro k hk h Q H hd hx
    rw [List.take_of_length_le (by omega)] at hx
    exact ⟨h, Q, loopW_end (by rw [topo_Hops_l2, if_neg (by omega)]), H, hd, hx⟩
  | succ dd ih =>
    intro k hk h Q H hd hx
    have hkl : k < N.length := by omega
    have hg := List.getElem?_eq_getElem hkl
    have hadj := hA _ (List.getElem_mem hkl)
    obtain ⟨Va, Vv⟩ := hadj.V hok
    have hl := H.len
    have iv : ix h N[k].2.1 = some (hv h N[k].2.1) := ix_hv Vv.1 (by omega)
    have ia : ix h a = some (hv h a) := ix_hv Va.1 (by omega)
    have hQl : Q.length ≤ 8 := by
      have h1 := nodup_short t.1.toNat Q (List.nodup_append.1 H.nd).2.1 (fun x hx => by have := (H.qV x (List.mem_append_right _ hx)).1; omega)
      have := hok.1.2.1
      omega
    have htop := H.top a Va
    have hlt := H.toBs17.lt hok Va
    have ht8 := hok.1.2.1
    have hnn := H.nn
    by_cases c : hv h N[k].2.1 < 0
    · obtain ⟨H', hd', hk'⟩ := H.push hok hadj hd c
      have hst : topo_Hops_l2 a N (h, Q, (k : Int)) = some (.inl (setAt h N[k].2.1 (d + 1), Q ++ [N[k].2.1], ((k + 1 : Nat) : Int))) := by
        rw [topo_Hops_l2, if_pos (by omega), ix_nat hg, Option.bind_some, iv, Option.bind_some, if_pos c, ia, Option.bind_some, Option.bind_some, app_is (by simp; omega), Option.bind_some, hd, w64_id (by omega), Option.bind_some]
        show some (Sum.inl (_, _, w64 ((k : Int) + 1))) = _
        rw [w64_id (by omega)]; rfl
      rw [loopW_go hst]
      refine ih (k + 1) (by omega) _ _ H' hd' (fun x hm => ?_)
      rw [List.take_succ_eq_append_getElem hkl] at hm
      rcases List.mem_append.1 hm with hm | hm
      · exact hk' _ ((hA x (List.mem_of_mem_take hm)).V hok).2 (hx x hm)
      · rw [List.mem_singleton.1 hm, hv_set Vv.1 (by omega) Vv.1, if_pos rfl]; omega
    · have hst : topo_Hops_l2 a N (h, Q, (k : Int)) = some (.inl (h, Q, ((k + 1 : Nat) : Int))) := by
        rw [topo_Hops_l2, if_pos (by omega), ix_nat hg, Option.bind_some, iv, Option.bind_some, if_neg c, Option.bind_some]
        show some (Sum.inl (_, _, w64 ((k : Int) + 1))) = _
        rw [w64_id (by omega)]; rfl
      rw [loopW_go hst]
      refine ih (k + 1) (by omega) _ _ H hd (fun x hm => ?_)
      rw [List.take_succ_eq_append_getElem hkl] at hm
      rcases List.mem_append.1 hm with hm | hm
      · exact hx x hm
      · rw [List.mem_singleton.1 hm]; omega
theorem at_adj {t : Tp} (hok : OkT t) {a : Int} : (∀ {x : Sd}, SdAt t a x → Adj t a x.2.1) ∧ ∀ {v}, Adj t a v → ∃ x, SdAt t a x ∧ x.2.1 = v := by
  constructor
  · rintro x ⟨i, y, h1, h2⟩
    have hm := List.mem_of_getElem? h1
    unfold nr1 at h2
    by_cases c1 : a = y.1
    · rw [if_pos c1, List.mem_singleton] at h2; subst h2; exact ⟨y, hm, .inl ⟨c1, rfl⟩⟩
    · rw [if_neg c1] at h2
      by_cases c2 : a = y.2.2.1
      · rw [if_pos c2, List.mem_singleton] at h2; subst h2; exact ⟨y, hm, .inr ⟨c2, rfl⟩⟩
      · rw [if_neg c2] at h2; cases h2
  · rintro v ⟨y, hm, h⟩
    obtain ⟨i, hi, hy⟩ := List.getElem_of_mem hm
    have hg : t.2.1[i]? = some y := by rw [List.getElem?_eq_getElem hi, hy]
    have hne := (hok.2.1 y hm).1
    rcases h with ⟨h1, h2⟩ | ⟨h1, h2⟩
    · exact ⟨(y.2.1, y.2.2.1, (i : Int)), ⟨i, y, hg, by unfold nr1; rw [if_pos h1]; simp⟩, h2.symm⟩
    · exact ⟨(y.2.2.2.1, y.1, (i : Int)), ⟨i, y, hg, by unfold nr1; rw [if_neg (fun e => hne (e.symm.trans h1)), if_pos h1]; simp⟩, h2.symm⟩
theorem hops_outer {t : Tp} (hok : OkT t) {s : Int} : ∀ (f : Nat) (d : Int) (P h Q : List Int), P.length + f = 8 → Q17 t s (-1) d P h Q → ∃ h', loopW (topo_Hops_l1 t) (h, Q) = some h' ∧ Sp t s h' := by
  intro f
  induction f with
  | zero =>
    intro d P h Q hf H
    have h1 := nodup_short t.1.toNat (P ++ Q) H.nd (fun x hx => by have := (H.qV x hx).1; omega)
    have := hok.1.2.1
    rw [List.length_append] at h1
    have hQ : Q = [] := List.eq_nil_of_length_eq_zero (by omega)
    subst hQ
    exact ⟨h, loopW_end (by rw [topo_Hops_l1, if_neg (by simp)]), { toBs17 := H.toBs17, up := fun u v hu h0 => H.up u v hu h0 (by simp) (by have := (hu.V hok).1.1; omega) }⟩
  | succ f ih =>
    intro d P h Q hf H
    cases Q with
    | nil => exact ⟨h, loopW_end (by rw [topo_Hops_l1, if_neg (by simp)]), { toBs17 := H.toBs17, up := fun u v hu h0 => H.up u v hu h0 (by simp) (by have := (hu.V hok).1.1; omega) }⟩
    | cons a Q =>
      have hqa := H.qV a (by simp)
      have hda := H.hd a (by simp)
      have hmono := List.pairwise_cons.1 H.mono
      have e1 : P ++ a :: Q = (P ++ [a]) ++ Q := by simp
      have hnd := H.nd
      rw [e1] at hnd
      have haQ : a ∉ Q := fun hm => (List.nodup_append.1 hnd).2.2 a (by simp) a hm rfl
      have H1 : Q17 t s a (hv h a) (P ++ [a]) h Q := { toBs17 := H.toBs17, qV := fun q hq => H.qV q (by rw [e1]; exact hq), nd := hnd, mono := hmono.2, hd := fun q hq => hmono.1 q hq, top := fun v hV => (by have := H.top v hV; omega), nn := hqa.2, up := fun u v hu h0 hn hne => H.up u v hu h0 (fun hm => (List.mem_cons.1 hm).elim hne hn) (by have := (hu.V hok).1.1; omega) }
      obtain ⟨N, n1, n2, _, n4⟩ := near_spec hok a
      obtain ⟨h', Q', g1, g2, g3, g4⟩ := hops_inner hok n4 (fun x hx => (at_adj hok).1 ((n2 x).1 hx)) N.length 0 (by omega) h Q H1 rfl (by simp)
      have hup : ∀ u v, Adj t u v → 0 ≤ hv h' u → u ∉ Q' → u ≠ -1 → 0 ≤ hv h' v ∧ hv h' v ≤ hv h' u + 1 := fun u v hu h0 hn hne => by
        by_cases c : u = a
        · subst c
          obtain ⟨x, hx, rfl⟩ := (at_adj hok).2 hu
          exact ⟨g4 x ((n2 x).2 hx), by rw [g3]; exact g2.top _ (hu.V hok).2⟩
        · exact g2.up u v hu h0 hn c
      have H2 : Q17 t s (-1) (hv h a) (P ++ [a]) h' Q' := { g2 with up := hup }
      obtain ⟨hF, k1, k2⟩ := ih (hv h a) (P ++ [a]) h' Q' (by simp; omega) H2
      refine ⟨hF, ?_, k2⟩
      have hst : topo_Hops_l1 t (h, a :: Q) = some (.inl (h', Q')) := by
        rw [topo_Hops_l1, if_pos (by simp only [List.length_cons]; omega), show ix (a :: Q) 0 = some a from ix_nat (k := 0) rfl, Option.bind_some, subl_is (by simp; omega), Option.bind_some, n1, Option.bind_some]
        have : ((a :: Q).take (Int.toNat ((a :: Q).length : Int))).drop (Int.toNat 1) = Q := by simp
        rw [this]; exact g1
      rw [loopW_go hst]; exact k1
theorem rep1 : slices_Repeat_int_int [-1] 1 = some [-1] := by
  unfold slices_Repeat_int_int
  rw [if_neg (by decide), if_neg (by decide)]
  show (mk (w64 1) (0 : Int)).bind _ = _
  rw [mk_is (by decide), Option.bind_some]
  show (loopW slices_Repeat_int_int_l1 ([-1], 1)).bind _ = _
  rw [loopW_iff.2 (⟨6, by kernel_rfl⟩ : ∃ n, loopN slices_Repeat_int_int_l1 n ([-1], 1) = some [-1])]; rfl
theorem rep2 : slices_Repeat_int_int [-1] 2 = some [-1, -1] := by
  unfold slices_Repeat_int_int
  rw [if_neg (by decide), if_neg (by decide)]
  show (mk (w64 2) (0 : Int)).bind _ = _
  rw [mk_is (by decide), Option.bind_some]
  show (loopW slices_Repeat_int_int_l1 ([-1, 0], 1)).bind _ = _
  rw [loopW_iff.2 (⟨6, by kernel_rfl⟩ : ∃ n, loopN slices_Repeat_int_int_l1 n ([-1, 0], 1) = some [-1, -1])]; rfl
theorem rep3 : slices_Repeat_int_int [-1] 3 = some [-1, -1, -1] := by
  unfold slices_Repeat_int_int
  rw [if_neg (by decide), if_neg (by decide)]
  show (mk (w64 3) (0 : Int)).bind _ = _
  rw [mk_is (by decide), Option.bind_some]
  show (loopW slices_Repeat_int_int_l1 ([-1, 0, 0], 1)).bind _ = _
  rw [loopW_iff.2 (⟨6, by kernel_rfl⟩ : ∃ n, loopN slices_Repeat_int_int_l1 n ([-1, 0, 0], 1) = some [-1, -1, -1])]; rfl
theorem rep4 : slices_Repeat_int_int [-1] 4 = some [-1, -1, -1, -1] := by
  unfold slices_Repeat_int_int
  rw [if_neg (by decide), if_neg (by decide)]
  show (mk (w64 4) (0 : Int)).bind _ = _
  rw [mk_is (by decide), Option.bind_some]
  show (loopW slices_Repeat_int_int_l1 ([-1, 0, 0, 0], 1)).bind _ = _
  rw [loopW_iff.2 (⟨6, by kernel_rfl⟩ : ∃ n, loopN slices_Repeat_int_int_l1 n ([-1, 0, 0, 0], 1) = some [-1, -1, -1, -1])]; rfl
theorem rep5 : slices_Repeat_int_int [-1] 5 = some [-1, -1, -1, -1, -1] := by
  unfold slices_Repeat_int_int
  rw [if_neg (by decide), if_neg (by decide)]
  show (mk (w64 5) (0 : Int)).bind _ = _
  rw [mk_is (by decide), Option.bind_some]
  show (loopW slices_Repeat_int_int_l1 ([-1, 0, 0, 0, 0], 1)).bind _ = _
  rw [loopW_iff.2 (⟨6, by kernel_rfl⟩ : ∃ n, loopN slices_Repeat_int_int_l1 n ([-1, 0, 0, 0, 0], 1) = some [-1, -1, -1, -1, -1])]; rfl
theorem rep6 : slices_Repeat_int_int [-1] 6 = some [-1, -1, -1, -1, -1, -1] := by
  unfold slices_Repeat_int_int
  rw [if_neg (by decide), if_neg (by decide)]
  show (mk (w64 6) (0 : Int)).bind _ = _
  rw [mk_is (by decide), Option.bind_some]
  show (loopW slices_Repeat_int_int_l1 ([-1, 0, 0, 0, 0, 0], 1)).bind _ = _
  rw [loopW_iff.2 (⟨6, by kernel_rfl⟩ : ∃ n, loopN slices_Repeat_int_int_l1 n ([-1, 0, 0, 0, 0, 0], 1) = some [-1, -1, -1, -1, -1, -1])]; rfl
theorem rep7 : slices_Repeat_int_int [-1] 7 = some [-1, -1, -1, -1, -1, -1, -1] := by
  unfold slices_Repeat_int_int
  rw [if_neg (by decide), if_neg (by decide)]
  show (mk (w64 7) (0 : Int)).bind _ = _
  rw [mk_is (by decide), Option.bind_some]
  show (loopW slices_Repeat_int_int_l1 ([-1, 0, 0, 0, 0, 0, 0], 1)).bind _ = _
  rw [loopW_iff.2 (⟨6, by kernel_rfl⟩ : ∃ n, loopN slices_Repeat_int_int_l1 n ([-1, 0, 0, 0, 0, 0, 0], 1) = some [-1, -1, -1, -1, -1, -1, -1])]; rfl
theorem rep8 : slices_Repeat_int_int [-1] 8 = some [-1, -1, -1, -1, -1, -1, -1, -1] := by
  unfold slices_Repeat_int_int
  rw [if_neg (by decide), if_neg (by decide)]
  show (mk (w64 8) (0 : Int)).bind _ = _
  rw [mk_is (by decide), Option.bind_some]
  show (loopW slices_Repeat_int_int_l1 ([-1, 0, 0, 0, 0, 0, 0, 0], 1)).bind _ = _
  rw [loopW_iff.2 (⟨6, by kernel_rfl⟩ : ∃ n, loopN slices_Repeat_int_int_l1 n ([-1, 0, 0, 0, 0, 0, 0, 0], 1) = some [-1, -1, -1, -1, -1, -1, -1, -1])]; rfl
theorem rep_all {n : Int} (h : 1 ≤ n ∧ n ≤ 8) : slices_Repeat_int_int [-1] n = some (List.replicate n.toNat (-1)) := by
  have : n = 1 ∨ n = 2 ∨ n = 3 ∨ n = 4 ∨ n = 5 ∨ n = 6 ∨ n = 7 ∨ n = 8 := by omega
  rcases this with rfl | rfl | rfl | rfl | rfl | rfl | rfl | rfl
  · exact rep1
  · exact rep2
  · exact rep3
  · exact rep4
  · exact rep5
  · exact rep6
  · exact rep7
  · exact rep8
theorem hv_rep {n : Nat} {v : Int} : hv (List.replicate n (-1)) v = -1 := by
  unfold hv
  rw [List.getD_eq_getElem?_getD, List.getElem?_replicate]
  split <;> rfl
theorem hops_spec {t : Tp} (hok : OkT t) (s : Int) : ∃ h, topo_Hops t s = some h ∧ Sp t s h := by
  have h8 := hok.1
  unfold topo_Hops
  rw [right17, decide_eq_true hok, Option.bind_some, if_neg (by decide), rep_all ⟨h8.1, h8.2.1⟩, Option.bind_some]
  have hl : ((List.replicate t.1.toNat (-1 : Int)).length : Int) = t.1 := by simp; omega
  by_cases c : s < 0 ∨ t.1 ≤ s
  · rw [if_pos (by simpa using c)]
    refine ⟨_, rfl, { len := hl, src := fun h => by omega, lo := fun v _ => by rw [hv_rep]; omega, zero := fun v _ h => by rw [hv_rep] at h; omega, dn := fun v _ h => by rw [hv_rep] at h; omega, up := fun u v _ h => by rw [hv_rep] at h; omega }⟩
  · have hV : VV t s := ⟨by omega, by omega⟩
    have g : ∀ w, VV t w → hv (setAt (List.replicate t.1.toNat (-1)) s 0) w = if w = s then 0 else -1 := fun w hw => by rw [hv_set hV.1 (by omega) hw.1, hv_rep]
    rw [if_neg (by simpa using c), ix_hv hV.1 (by omega), Option.bind_some]
    have H : Q17 t s (-1) 0 [] (setAt (List.replicate t.1.toNat (-1)) s 0) [s] := {
      len := by rw [setAt_len]; exact hl
      src := fun h => by rw [g s h, if_pos rfl]
      lo := fun v h => by rw [g v h]; split <;> omega
      zero := fun v h e => by
        rw [g v h] at e
        by_cases cc : v = s
        · exact cc
        · rw [if_neg cc] at e; omega
      dn := fun v h e => by
        rw [g v h] at e
        split at e <;> omega
      qV := fun q hq => by
        rw [List.nil_append, List.mem_singleton] at hq
        subst hq
        exact ⟨hV, by rw [g q hV, if_pos rfl]; omega⟩
      nd := by simp
      mono := by simp
      hd := fun q hq => by
        rw [List.mem_singleton] at hq
        subst hq
        rw [g q hV, if_pos rfl]; omega
      top := fun v h => by rw [g v h]; split <;> omega
      nn := by omega
      up := fun u v hu h0 hn _ => by
        rw [g u (hu.V hok).1, if_neg (fun e => hn (by simp [e]))] at h0
        omega }
    obtain ⟨h', e1, e2⟩ := hops_outer hok 8 0 [] _ _ rfl H
    rw [e1]
    exact ⟨h', rfl, e2⟩
end Go.Proofs.Ytnkleniifdkpmaa
