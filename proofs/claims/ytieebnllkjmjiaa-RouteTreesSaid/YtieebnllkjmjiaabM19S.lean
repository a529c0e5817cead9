/- Layer 19: steps, trees, routes. Conditions: none. -/
import Derived.Test.YtieebnllkjmjiaabM19B
namespace Go.Proofs.Ytieebnllkjmjiaa
set_option linter.unusedVariables false
set_option linter.unusedSimpArgs false
open Go Go.RowKit
abbrev MZ (L c : List Nat) (u v k : Int) : Prop := Lo (wg L k) = true ∧ wg c u ≠ CW ∧ FR (wg L k) (wg c v) = wg c u
def Td (t : Tp) (L c : List Nat) (v u : Int) : Prop := ∃ k, E t u v k ∧ MZ L c u v k
theorem Td.V {t : Tp} (hok : C6 t) {L c : List Nat} {u v : Int} (h : Td t L c u v) : VV t u ∧ VV t v := by
  obtain ⟨k, he, _⟩ := h
  exact ⟨(he.V hok).2.1, (he.V hok).1⟩
theorem O5 {a b : Nat} (ha : a ≤ CW) (hb : b ≤ CW) : MT a b = decide (a = b) := by
  obtain ⟨k1, n1⟩ := Fx (Dt ha)
  obtain ⟨k2, n2⟩ := Fx (Dt hb)
  rw [I1, k1, k2, Is ha, Is hb]
  exact decide_eq_decide.2 ⟨fun h => by have := h.2.2; omega, fun h => ⟨n1, n2, by rw [h]⟩⟩
theorem Pn {a : Nat} (ha : a ≤ CW) : Lo a = decide (a ≠ CW) := by
  have := Oq (Dt ha)
  rw [Is ha] at this
  by_cases c : a = CW
  · rw [decide_eq_false (fun h => h c)]
    cases h : Lo a with
    | false => rfl
    | true => exact absurd c (this.1 h)
  · rw [decide_eq_true c]; exact this.2 c
section
variable {t : Tp} {L c : List Nat} {s : Int}
theorem JY (hok : C6 t) (hw : GT t L) (hc : (c.length : Int) = t.1) (hb : ∀ v, VV t v → wg c v ≤ CW) {u v k : Int} (he : E t u v k) : Dx L c u k v = some (decide (MZ L c u v k)) := by
  obtain ⟨hk, hcost⟩ := hw.cost hok he
  obtain ⟨hu, hv, _⟩ := he.V hok
  have iu : In c u := ⟨hu.1, by rw [hc]; exact hu.2⟩
  have iv : In c v := ⟨hv.1, by rw [hc]; exact hv.2⟩
  unfold Dx
  rw [PP, decide_eq_true hk, Bool.true_and, Option.bind_some]
  by_cases q : Lo (wg L k) = true
  · rw [if_pos q, GS iu, Option.bind_some, My.1, Option.bind_some, O8, Pn (hb u hu)]
    by_cases q2 : wg c u = CW
    · rw [decide_eq_false (fun h => h q2), if_neg (by decide), Option.bind_some, decide_eq_false (fun h => h.2.1 q2)]
    · rw [decide_eq_true q2, if_pos rfl, GS hk, Option.bind_some, GS iv, Option.bind_some, Option.bind_some, show MT (Bp (wg L k) (wg c v)) (wg c u) = _ from O5 (OB hcost (hb v hv)) (hb u hu), Option.bind_some]
      exact congrArg some (decide_eq_decide.2 ⟨fun h => ⟨q, q2, h⟩, fun h => h.2.2⟩)
  · rw [if_neg q, Option.bind_some, decide_eq_false (fun h => q h.1)]
theorem LD (hok : C6 t) (hw : GT t L) (hc : (c.length : Int) = t.1) (hb : ∀ v, VV t v → wg c v ≤ CW) {u : Int} {x : Sd} (hx : Fy t u x) : HK (nz L) (nz c) u x = some (decide (MZ L c u x.2.1 x.2.2)) := by
  have he : E t u x.2.1 x.2.2 := ⟨x.1, hx⟩
  obtain ⟨hk, hcost⟩ := hw.cost hok he
  obtain ⟨hu, hv, _⟩ := he.V hok
  have iu : In c u := ⟨hu.1, by rw [hc]; exact hu.2⟩
  have iv : In c x.2.1 := ⟨hv.1, by rw [hc]; exact hv.2⟩
  unfold HK
  rw [Im iu, Option.bind_some]
  by_cases q2 : wg c u = CW
  · have q3 : ¬ ((wg c u : Nat) : Int) ≠ 9218868437227405312 := fun h => h (by rw [q2]; rfl)
    rw [if_neg q3, Option.bind_some, decide_eq_false (fun h => h.2.1 q2)]
  · have q3 : ¬ ((wg c u : Nat) : Int) = 9218868437227405312 := fun h => q2 (show wg c u = 9218868437227405312 by omega)
    rw [if_pos q3, P6 (MJ hw.1), decide_eq_true hk, Bool.true_and, Option.bind_some]
    by_cases q : Lo (wg L x.2.2) = true
    · rw [if_pos q, Im hk, Option.bind_some, Im iv, Option.bind_some, Option.bind_some, Lp, Option.bind_some]
      exact congrArg some (decide_eq_decide.2 ⟨fun h => ⟨q, q2, by omega⟩, fun h => by have := h.2.2; omega⟩)
    · rw [if_neg q, Option.bind_some, decide_eq_false (fun h => q h.1)]
theorem LJ (hok : C6 t) (hw : GT t L) (hc : (c.length : Int) = t.1) (hb : ∀ v, VV t v → wg c v ≤ CW) {a d : Int} {P : List Int} {N : List Sd} (hN : N.length ≤ 8) (hS : ∀ x ∈ N, Fy t a x) : ∀ (dd k : Nat), k + dd = N.length → ∀ (h Q : List Int), Q17 t (Td t L c) s a d P h Q → hv h a = d → (∀ x ∈ N.take k, MZ L c x.2.1 a x.2.2 → 0 ≤ hv h x.2.1) → ∃ h' Q', AA (B5 L c a N) (h, Q, (k : Int)) = some (.inl (h', Q')) ∧ Q17 t (Td t L c) s a d P h' Q' ∧ hv h' a = d ∧ ∀ x ∈ N, MZ L c x.2.1 a x.2.2 → 0 ≤ hv h' x.2.1 := by
  intro dd
  induction dd with
  | zero =>
    intro k hk h Q H hd hx
    rw [List.take_of_length_le (by omega)] at hx
    exact ⟨h, Q, AZ (by rw [B5, if_neg (by omega)]), H, hd, hx⟩
  | succ dd ih =>
    intro k hk h Q H hd hx
    have hkl : k < N.length := by omega
    have hg := List.getElem?_eq_getElem hkl
    have he : E t a N[k].2.1 N[k].2.2 := ⟨N[k].1, hS _ (List.getElem_mem hkl)⟩
    obtain ⟨Va, Vv, _⟩ := he.V hok
    have hl := H.len
    have iv : ix h N[k].2.1 = some (hv h N[k].2.1) := Gt Vv.1 (by omega)
    have ia : ix h a = some (hv h a) := Gt Va.1 (by omega)
    have hQl : Q.length ≤ 8 := by
      have h1 := Cy t.1.toNat Q (List.nodup_append.1 H.nd).2.1 (fun x hx => by have := (H.qV x (List.mem_append_right _ hx)).1; omega)
      have := hok.1.2.1
      omega
    have htop := H.top a Va
    have hlt := H.toBs17.lt hok (fun h => h.V hok) Va
    have ht8 := hok.1.2.1
    have hnn := H.nn
    have his := JY hok hw hc hb (he.symm hok)
    by_cases q : hv h N[k].2.1 < 0 ∧ MZ L c N[k].2.1 a N[k].2.2
    · have hadj : Td t L c a N[k].2.1 := ⟨_, he.symm hok, q.2⟩
      obtain ⟨H', hd', hk'⟩ := H.push hok (fun h => h.V hok) hadj hd q.1
      have hst : B5 L c a N (h, Q, (k : Int)) = some (.inl (AE h N[k].2.1 (d + 1), Q ++ [N[k].2.1], ((k + 1 : Nat) : Int))) := by
        rw [B5, if_pos (by omega), Bd hg, Option.bind_some, iv, Option.bind_some, if_pos q.1, his, Option.bind_some, Option.bind_some, if_pos (decide_eq_true q.2), ia, Option.bind_some, Option.bind_some, Di (by simp; omega), Option.bind_some, hd, AY (by omega), Option.bind_some]
        show some (Sum.inl (_, _, BV ((k : Int) + 1))) = _
        rw [AY (by omega)]; rfl
      rw [Ch hst]
      refine ih (k + 1) (by omega) _ _ H' hd' (fun x hm hsx => ?_)
      rw [List.take_succ_eq_append_getElem hkl] at hm
      rcases List.mem_append.1 hm with hm | hm
      · have hex : E t a x.2.1 x.2.2 := ⟨x.1, hS x (List.mem_of_mem_take hm)⟩
        exact hk' _ (hex.V hok).2.1 (hx x hm hsx)
      · rw [List.mem_singleton.1 hm, Hc Vv.1 (by omega) Vv.1, if_pos rfl]; omega
    · have hst : B5 L c a N (h, Q, (k : Int)) = some (.inl (h, Q, ((k + 1 : Nat) : Int))) := by
        rw [B5, if_pos (by omega), Bd hg, Option.bind_some, iv, Option.bind_some]
        by_cases q1 : hv h N[k].2.1 < 0
        · rw [if_pos q1, his, Option.bind_some, Option.bind_some, decide_eq_false (fun hh => q ⟨q1, hh⟩), if_neg (by decide), Option.bind_some]
          show some (Sum.inl (_, _, BV ((k : Int) + 1))) = _
          rw [AY (by omega)]; rfl
        · rw [if_neg q1, Option.bind_some, if_neg (by decide), Option.bind_some]
          show some (Sum.inl (_, _, BV ((k : Int) + 1))) = _
          rw [AY (by omega)]; rfl
      rw [Ch hst]
      refine ih (k + 1) (by omega) _ _ H hd (fun x hm hsx => ?_)
      rw [List.take_succ_eq_append_getElem hkl] at hm
      rcases List.mem_append.1 hm with hm | hm
      · exact hx x hm hsx
      · rw [List.mem_singleton.1 hm] at hsx ⊢
        have : ¬ hv h N[k].2.1 < 0 := fun hh => q ⟨hh, hsx⟩
        omega
theorem LH (hok : C6 t) (hw : GT t L) (hc : (c.length : Int) = t.1) (hb : ∀ v, VV t v → wg c v ≤ CW) : ∀ (f : Nat) (d : Int) (P h Q : List Int), P.length + f = 8 → Q17 t (Td t L c) s (-1) d P h Q → ∃ h', AA (Cq t L c) (h, Q) = some h' ∧ Sp t (Td t L c) s h' := by
  intro f
  induction f with
  | zero =>
    intro d P h Q hf H
    have h1 := Cy t.1.toNat (P ++ Q) H.nd (fun x hx => by have := (H.qV x hx).1; omega)
    have := hok.1.2.1
    rw [List.length_append] at h1
    have hQ : Q = [] := List.eq_nil_of_length_eq_zero (by omega)
    subst hQ
    exact ⟨h, AZ (by rw [Cq, if_neg (by simp)]), { toBs17 := H.toBs17, up := fun u v hu h0 => H.up u v hu h0 (by simp) (by have := (hu.V hok).1.1; omega) }⟩
  | succ f ih =>
    intro d P h Q hf H
    cases Q with
    | nil => exact ⟨h, AZ (by rw [Cq, if_neg (by simp)]), { toBs17 := H.toBs17, up := fun u v hu h0 => H.up u v hu h0 (by simp) (by have := (hu.V hok).1.1; omega) }⟩
    | cons a Q =>
      have hqa := H.qV a (by simp)
      have hda := H.hd a (by simp)
      have hmono := List.pairwise_cons.1 H.mono
      have e1 : P ++ a :: Q = (P ++ [a]) ++ Q := by simp
      have hnd := H.nd
      rw [e1] at hnd
      have haQ : a ∉ Q := fun hm => (List.nodup_append.1 hnd).2.2 a (by simp) a hm rfl
      have H1 : Q17 t (Td t L c) s a (hv h a) (P ++ [a]) h Q := { toBs17 := H.toBs17, qV := fun q hq => H.qV q (by rw [e1]; exact hq), nd := hnd, mono := hmono.2, hd := fun q hq => hmono.1 q hq, top := fun v hV => (by have := H.top v hV; omega), nn := hqa.2, up := fun u v hu h0 hn hne => H.up u v hu h0 (fun hm => (List.mem_cons.1 hm).elim hne hn) (by have := (hu.V hok).1.1; omega) }
      obtain ⟨N, n1, n2, _, n4⟩ := Ie hok a
      obtain ⟨h', Q', g1, g2, g3, g4⟩ := LJ hok hw hc hb n4 (fun x hx => (n2 x).1 hx) N.length 0 (by omega) h Q H1 rfl (by simp)
      have hup : ∀ u v, Td t L c u v → 0 ≤ hv h' u → u ∉ Q' → u ≠ -1 → 0 ≤ hv h' v ∧ hv h' v ≤ hv h' u + 1 := fun u v hu h0 hn hne => by
        by_cases q : u = a
        · subst q
          have hV := (hu.V hok).2
          obtain ⟨k, he, hs⟩ := hu
          obtain ⟨p, hp⟩ := he.symm hok
          exact ⟨g4 (p, v, k) ((n2 _).2 hp) hs, by rw [g3]; exact g2.top _ hV⟩
        · exact g2.up u v hu h0 hn q
      have H2 : Q17 t (Td t L c) s (-1) (hv h a) (P ++ [a]) h' Q' := { g2 with up := hup }
      obtain ⟨hF, k1, k2⟩ := ih (hv h a) (P ++ [a]) h' Q' (by simp; omega) H2
      refine ⟨hF, ?_, k2⟩
      have hst : Cq t L c (h, a :: Q) = some (.inl (h', Q')) := by
        rw [Cq, if_pos (by simp only [List.length_cons]; omega), show ix (a :: Q) 0 = some a from Bd (k := 0) rfl, Option.bind_some, Kx (by simp; omega), Option.bind_some, n1, Option.bind_some]
        have : ((a :: Q).take (Int.toNat ((a :: Q).length : Int))).drop (Int.toNat 1) = Q := by simp
        rw [this]; exact g1
      rw [Ch hst]; exact k1
theorem Nw (hok : C6 t) (hw : GT t L) (hs : VV t s) (hcs : CL t L s = some c) (hc : (c.length : Int) = t.1) (hb : ∀ v, VV t v → wg c v ≤ CW) : ∃ h, DV t L s = some h ∧ Sp t (Td t L c) s h := by
  have h8 := hok.1.2.1
  have h1t := hok.1.1
  have hr0 : ((List.replicate t.1.toNat (-1) : List Int).length : Int) = t.1 := by simp; omega
  have g : ∀ w, VV t w → hv (AE (List.replicate t.1.toNat (-1)) s 0) w = if w = s then 0 else -1 := fun w hw2 => by
    rw [Hc hs.1 (by rw [hr0]; exact hs.2) hw2.1]
    split
    · rfl
    · exact OD
  have H0 : Q17 t (Td t L c) s (-1) 0 [] (AE (List.replicate t.1.toNat (-1)) s 0) [s] := {
    len := by rw [Ig]; exact hr0
    src := fun _ => by rw [g s hs, if_pos rfl]
    lo := fun v hV => by rw [g v hV]; split <;> omega
    zero := fun v hV e => by
      rw [g v hV] at e
      by_cases cc : v = s
      · exact cc
      · rw [if_neg cc] at e; omega
    dn := fun v hV e => by
      rw [g v hV] at e
      split at e <;> omega
    qV := fun q hq => by
      rw [List.nil_append, List.mem_singleton] at hq
      subst hq
      exact ⟨hs, by rw [g q hs, if_pos rfl]; omega⟩
    nd := by simp
    mono := by simp
    hd := fun q hq => by
      rw [List.mem_singleton] at hq
      subst hq
      rw [g q hs, if_pos rfl]; omega
    top := fun v hV => by rw [g v hV]; split <;> omega
    nn := by omega
    up := fun u v hu a b _ => by
      have hV := (hu.V hok).1
      rw [g u hV] at a
      by_cases cc : u = s
      · exact absurd (by rw [cc]; simp) b
      · rw [if_neg cc] at a; omega }
  obtain ⟨h', q1, q2⟩ := LH hok hw hc hb 8 0 [] _ [s] rfl H0
  refine ⟨h', ?_, q2⟩
  unfold DV
  rw [hcs, Option.bind_some, if_neg (by omega), PK ⟨h1t, h8⟩, Option.bind_some, Gt hs.1 (by rw [hr0]; exact hs.2), Option.bind_some, q1]; rfl
structure J19 (t : Tp) (A : Int → Int → Prop) (s k : Int) (Dn : Int → Int → Prop) (h : List Int) : Prop extends Bs17 t A s h where
  top : ∀ v, VV t v → hv h v ≤ k + 1
  nn : 0 ≤ k
  up : ∀ u v, A u v → 0 ≤ hv h u → hv h u < k → 0 ≤ hv h v ∧ hv h v ≤ hv h u + 1
  dd : ∀ u v, Dn u v → A u v → hv h u = k → 0 ≤ hv h v
theorem J19.put {A : Int → Int → Prop} (hok : C6 t) (hA : ∀ {u v : Int}, A u v → VV t u ∧ VV t v) {k : Int} {Dn : Int → Int → Prop} {h : List Int} (H : J19 t A s k Dn h) {u v : Int} (ha : A u v) (hu : hv h u = k) (hv0 : hv h v < 0) : J19 t A s k Dn (AE h v (k + 1)) ∧ 0 ≤ hv (AE h v (k + 1)) v := by
  obtain ⟨Vu, Vv⟩ := hA ha
  have hl := H.len
  have hnn := H.nn
  have g : ∀ w, VV t w → hv (AE h v (k + 1)) w = if w = v then k + 1 else hv h w := fun w hw => Hc Vv.1 (by omega) hw.1
  have hB : Bs17 t A s (AE h v (k + 1)) := by
    have := H.toBs17.set hok hA ha (by omega) hv0
    rwa [hu] at this
  refine ⟨{ toBs17 := hB, top := fun w hw => ?_, nn := hnn, up := fun a b hab h0 hlt => ?_, dd := fun a b hD hab he => ?_ }, by rw [g v Vv, if_pos rfl]; omega⟩
  · rw [g w hw]
    have := H.top w hw
    split <;> omega
  · obtain ⟨Va, Vb⟩ := hA hab
    rw [g a Va] at h0 hlt ⊢
    by_cases q : a = v
    · rw [if_pos q] at hlt; omega
    · rw [if_neg q] at h0 hlt ⊢
      have := H.up a b hab h0 hlt
      rw [g b Vb, if_neg (fun e => by subst e; omega)]
      exact this
  · obtain ⟨Va, Vb⟩ := hA hab
    rw [g a Va] at he
    rw [g b Vb]
    by_cases q : a = v
    · rw [if_pos q] at he; omega
    · rw [if_neg q] at he
      have := H.dd a b hD hab he
      split <;> omega
theorem Kn (hok : C6 t) (hw : GT t L) (hc : (c.length : Int) = t.1) (hb : ∀ v, VV t v → wg c v ≤ CW) {k : Int} (hk : 0 ≤ k ∧ k ≤ 100) {u : Int} (hu : VV t u) {N : List Sd} (hN : ∀ x, x ∈ N ↔ Fy t u x) (hl : N.length ≤ 8) {Dn : Int → Int → Prop} {h : List Int} (H : J19 t (Td t L c) s k Dn h) : ∃ h', AA (DD (nz L) (nz c) (k + 1) u N) (h, 0) = some h' ∧ J19 t (Td t L c) s k (fun a b => Dn a b ∨ b = u) h' := by
  obtain ⟨h', h1, h2⟩ := BP N.length (fun (h : List Int) (i : Nat) => (h, (i : Int))) (DD (nz L) (nz c) (k + 1) u N) id
    (fun h i => J19 t (Td t L c) s k Dn h ∧ ∀ x ∈ N.take i, MZ L c u x.2.1 x.2.2 → hv h x.2.1 = k → 0 ≤ hv h u)
    (fun h i hi ⟨HI, hx⟩ => by
      have hg := Bd (List.getElem?_eq_getElem hi)
      have hsd := (hN _).1 (List.getElem_mem hi)
      have he : E t u N[i].2.1 N[i].2.2 := ⟨N[i].1, hsd⟩
      obtain ⟨_, Vv, _⟩ := he.V hok
      have hlen := HI.len
      have iu : ix h u = some (hv h u) := Gt hu.1 (by have := hu.2; omega)
      have iv : ix h N[i].2.1 = some (hv h N[i].2.1) := Gt Vv.1 (by have := Vv.2; omega)
      have his := LD hok hw hc hb hsd
      by_cases q : hv h u = -1 ∧ hv h N[i].2.1 = k ∧ MZ L c u N[i].2.1 N[i].2.2
      · have hT : Td t L c N[i].2.1 u := ⟨_, he, q.2.2⟩
        obtain ⟨HP, hP⟩ := HI.put hok (fun h => h.V hok) hT q.2.1 (by omega)
        refine ⟨AE h u (k + 1), ?_, HP, fun x _ _ _ => hP⟩
        rw [DD, if_pos (by omega), iu, Option.bind_some, if_pos q.1, hg, Option.bind_some, iv, Option.bind_some, AY (by omega), if_pos (by omega), Option.bind_some, his, Option.bind_some, Option.bind_some, if_pos (decide_eq_true q.2.2), Option.bind_some, Option.bind_some, AY (by omega)]; rfl
      · refine ⟨h, ?_, HI, fun x hm hsx hxk => ?_⟩
        · rw [DD, if_pos (by omega), iu, Option.bind_some]
          by_cases q1 : hv h u = -1
          · rw [if_pos q1, hg, Option.bind_some, iv, Option.bind_some, AY (by omega)]
            by_cases q2 : hv h N[i].2.1 = k
            · rw [if_pos (by omega), Option.bind_some, his, Option.bind_some, Option.bind_some, decide_eq_false (fun hh => q ⟨q1, q2, hh⟩), if_neg (by decide), Option.bind_some, AY (by omega)]; rfl
            · rw [if_neg (by omega), Option.bind_some, if_neg (by decide), Option.bind_some, AY (by omega)]; rfl
          · rw [if_neg q1, Option.bind_some, if_neg (by decide), Option.bind_some, AY (by omega)]; rfl
        · rw [List.take_succ_eq_append_getElem hi] at hm
          rcases List.mem_append.1 hm with hm | hm
          · exact hx x hm hsx hxk
          · rw [List.mem_singleton.1 hm] at hsx hxk
            have := HI.lo u hu
            have : hv h u ≠ -1 := fun e => q ⟨e, hxk, hsx⟩
            omega)
    (fun h _ => by rw [DD, if_neg (by omega)]; rfl) h ⟨H, by simp⟩
  rw [List.take_length] at h1
  refine ⟨h', h2, { h1.1 with dd := fun a b hD hab he => ?_ }⟩
  rcases hD with hD | hD
  · exact h1.1.dd a b hD hab he
  · subst hD
    obtain ⟨k2, hE, hs2⟩ := hab
    obtain ⟨p, hp⟩ := hE
    exact h1.2 (p, a, k2) ((hN _).2 hp) hs2 he
theorem Km (hok : C6 t) (hw : GT t L) (hc : (c.length : Int) = t.1) (hb : ∀ v, VV t v → wg c v ≤ CW) {k : Int} (hk : 0 ≤ k ∧ k ≤ 100) {h : List Int} (H : R17 t (Td t L c) s k h) : ∃ h', AA (DC t (nz L) (nz c) (k + 1)) (h, 0) = some h' ∧ R17 t (Td t L c) s (k + 1) h' := by
  have h8 := hok.1.2.1
  obtain ⟨h', h1, h2⟩ := BP c.length (fun (h : List Int) (i : Nat) => (h, (i : Int))) (DC t (nz L) (nz c) (k + 1)) id
    (fun h i => J19 t (Td t L c) s k (fun _ b => 0 ≤ b ∧ b < (i : Int)) h)
    (fun h i hi HI => by
      obtain ⟨N, n1, n2, n3⟩ := G6 hok (i : Int)
      obtain ⟨h', q1, q2⟩ := Kn hok hw hc hb hk (u := (i : Int)) ⟨by omega, by omega⟩ n2 (Ln hok n2 n3) HI
      refine ⟨h', by rw [DC, if_pos (by rw [GR]; omega), n1, Option.bind_some, q1, Option.bind_some, AY (by omega)]; rfl, { q2 with dd := fun a b hD hab he => q2.dd a b ?_ hab he }⟩
      by_cases e : b = (i : Int)
      · exact .inr e
      · exact .inl ⟨hD.1, by have := hD.2; omega⟩)
    (fun h _ => by rw [DC, if_neg (by rw [GR]; omega)]; rfl) h { toBs17 := H.toBs17, top := fun v hV => (by have := H.top v hV; omega), nn := hk.1, up := H.up, dd := fun u v hD => by omega }
  refine ⟨h', h2, { toBs17 := h1.toBs17, top := h1.top, up := fun u v hu h0 hlt => ?_ }⟩
  by_cases q : hv h' u < k
  · exact h1.up u v hu h0 q
  · have hV := (hu.V hok).2
    have e : hv h' u = k := by omega
    exact ⟨h1.dd u v ⟨hV.1, by have := hV.2; omega⟩ hu e, by rw [e]; exact h1.top v hV⟩
theorem Bs17.chain2 {A : Int → Int → Prop} (hA : ∀ {u v : Int}, A u v → VV t u ∧ VV t v) {h : List Int} (H : Bs17 t A s h) : ∀ (m : Nat) (v : Int), VV t v → hv h v = m → ∃ l : List Int, l.length = m + 1 ∧ l.Nodup ∧ ∀ x ∈ l, VV t x ∧ hv h x ≤ m ∧ 0 ≤ hv h x
  | 0, v, hV, e => ⟨[v], rfl, by simp, fun x hx => by rw [List.mem_singleton.1 hx]; exact ⟨hV, by omega, by omega⟩⟩
  | m + 1, v, hV, e => by
    obtain ⟨u, hu, e2⟩ := H.dn v hV (by omega)
    obtain ⟨l, l1, l2, l3⟩ := H.chain2 hA m u (hA hu).1 (by omega)
    refine ⟨v :: l, by simp [l1], List.nodup_cons.2 ⟨fun hm => by have := (l3 v hm).2; omega, l2⟩, fun x hx => ?_⟩
    rcases List.mem_cons.1 hx with rfl | hx
    · exact ⟨hV, by omega, by omega⟩
    · have := l3 x hx
      exact ⟨this.1, by omega, this.2.2⟩
theorem R17.sp {A : Int → Int → Prop} (hok : C6 t) (hA : ∀ {u v : Int}, A u v → VV t u ∧ VV t v) {h : List Int} (H : R17 t A s (t.1 - 1) h) : Sp t A s h := by
  refine { toBs17 := H.toBs17, up := fun u v hu h0 => ?_ }
  obtain ⟨Vu, Vv⟩ := hA hu
  by_cases q : hv h u < t.1 - 1
  · exact H.up u v hu h0 q
  · have hlt := H.toBs17.lt hok hA Vu
    obtain ⟨l, l1, l2, l3⟩ := H.toBs17.chain2 hA (hv h u).toNat u Vu (by omega)
    have htop := H.top v Vv
    by_cases hm : v ∈ l
    · exact ⟨(l3 v hm).2.2, by omega⟩
    · have := Cy t.1.toNat (v :: l) (List.nodup_cons.2 ⟨hm, l2⟩) (fun x hx => by
        rcases List.mem_cons.1 hx with rfl | hx
        · have := Vv.1; have := Vv.2; omega
        · have q5 := (l3 x hx).1; have := q5.1; have := q5.2; omega)
      simp only [List.length_cons] at this
      omega
theorem Mq (hok : C6 t) (hw : GT t L) (hs : VV t s) (hcs : EZ t (nz L) s = some (nz c)) (hc : (c.length : Int) = t.1) (hb : ∀ v, VV t v → wg c v ≤ CW) : ∃ h, GB t (nz L) s = some h ∧ Sp t (Td t L c) s h := by
  have h8 := hok.1.2.1
  have h1t := hok.1.1
  obtain ⟨h0, i1, e0⟩ := BP c.length (fun (h : List Int) (i : Nat) => (h, (i : Int))) (D6 (nz c)) id (fun h i => h = List.replicate i (-1))
    (fun h i hi i1 => by
      refine ⟨List.replicate (i + 1) (-1), ?_, rfl⟩
      rw [D6, if_pos (by rw [GR]; omega), Di (by rw [i1]; simp; omega), Option.bind_some, AY (by omega), i1, List.replicate_succ']; rfl)
    (fun h _ => by rw [D6, if_neg (by rw [GR]; omega)]; rfl) [] rfl
  have e0' : AA (D6 (nz c)) ([], 0) = some h0 := e0
  have hr0 : (h0.length : Int) = t.1 := by rw [i1]; simp; omega
  have g : ∀ w, VV t w → hv (AE h0 s 0) w = if w = s then 0 else -1 := fun w hw2 => by
    rw [Hc hs.1 (by rw [hr0]; exact hs.2) hw2.1]
    split
    · rfl
    · rw [i1]; exact OD
  have H0 : R17 t (Td t L c) s 0 (AE h0 s 0) := {
    len := by rw [Ig]; exact hr0
    src := fun _ => by rw [g s hs, if_pos rfl]
    lo := fun v h => by rw [g v h]; split <;> omega
    zero := fun v h e => by
      rw [g v h] at e
      by_cases cc : v = s
      · exact cc
      · rw [if_neg cc] at e; omega
    dn := fun v h e => by
      rw [g v h] at e
      split at e <;> omega
    top := fun v h => by rw [g v h]; split <;> omega
    up := fun u v hu a b => by omega }
  obtain ⟨h', H', e'⟩ := BP (c.length - 1) (fun (h : List Int) (i : Nat) => (h, ((i + 1 : Nat) : Int))) (D3 t (nz L) (nz c)) id (fun h i => R17 t (Td t L c) s (i : Int) h)
    (fun h i hi HI => by
      obtain ⟨g1, g2, g3⟩ := Km hok hw hc hb (k := (i : Int)) (by omega) HI
      have g2' : AA (DC t (nz L) (nz c) ((i + 1 : Nat) : Int)) (h, 0) = some g1 := g2
      exact ⟨g1, by rw [D3, if_pos (by rw [GR]; omega), g2', Option.bind_some, AY (by omega)]; rfl, g3⟩)
    (fun h _ => by rw [D3, if_neg (by rw [GR]; omega)]; rfl) (AE h0 s 0) H0
  have e2 : AA (D3 t (nz L) (nz c)) (AE h0 s 0, 1) = some h' := e'
  have hF : ((c.length - 1 : Nat) : Int) = t.1 - 1 := by omega
  rw [hF] at H'
  refine ⟨h', ?_, H'.sp hok (fun h => h.V hok)⟩
  unfold GB
  rw [hcs, Option.bind_some, e0', Option.bind_some, if_pos (by rw [GR]; omega), Gt hs.1 (by rw [hr0]; exact hs.2), Option.bind_some, Option.bind_some, e2]; rfl
end
end Go.Proofs.Ytieebnllkjmjiaa
