/- Layer 19: trees. Conditions: none. -/
import Derived.Test.YtieebnllkjmjiaabM19S
namespace Go.Proofs.Ytieebnllkjmjiaa
set_option linter.unusedVariables false
set_option linter.unusedSimpArgs false
open Go Go.RowKit
noncomputable def A8 (t : Tp) (u : Int) : List Sd := (Dv t u).getD []
section
variable {t : Tp} {L c : List Nat} {s : Int}
theorem GC (hok : C6 t) (u : Int) : Dv t u = some (A8 t u) ∧ FB t u = some (A8 t u) ∧ (∀ x, x ∈ A8 t u ↔ Fy t u x) ∧ (A8 t u).length ≤ 8 := by
  obtain ⟨N, n1, n2, n3, n4⟩ := Ie hok u
  obtain ⟨M, m1, m2, m3⟩ := G6 hok u
  have e : A8 t u = N := by unfold A8; rw [n1]; rfl
  have e2 : M = N := OC m3 n3 fun x => (m2 x).trans (n2 x).symm
  rw [e]
  exact ⟨n1, by rw [m1, e2], n2, n4⟩
noncomputable def I7 (L c : List Nat) (h : List Int) (u : Int) (x : Sd) : Bool := decide (hv h x.2.1 = hv h u - 1 ∧ MZ L c u x.2.1 x.2.2)
def pick (N : List Sd) (P : Sd → Bool) (p : Int) : Int := match N.find? P with | some x => x.1 | none => p
theorem Lt (P : Sd → Bool) (p : Int) : pick [] P p = p := rfl
theorem GE (x : Sd) (N : List Sd) (P : Sd → Bool) (p : Int) : pick (x :: N) P p = if P x = true then x.1 else pick N P p := by
  unfold pick
  rw [List.find?_cons]
  cases P x <;> rfl
theorem JT (x : Sd) (P : Sd → Bool) (p : Int) : ∀ N : List Sd, pick (N ++ [x]) P p = if (N.find? P).isSome then pick N P p else if P x = true then x.1 else p
  | [] => by rw [List.nil_append, GE]; rfl
  | y :: N => by
    rw [List.cons_append, GE, GE, List.find?_cons]
    cases h : P y with
    | true => simp
    | false =>
      simp only [Bool.false_eq_true, if_false]
      exact JT x P p N
theorem MQ (hok : C6 t) (hw : GT t L) (hc : (c.length : Int) = t.1) (hb : ∀ v, VV t v → wg c v ≤ CW) {h : List Int} (hh : (h.length : Int) = t.1) (hbd : ∀ v, VV t v → -1 ≤ hv h v ∧ hv h v ≤ 100) {u : Int} (hu : VV t u) (p0 : Int) (hp0 : -1 ≤ p0) :
    AA (Cm L c h u (A8 t u)) (p0, 0) = some (if p0 < 0 then pick (A8 t u) (I7 L c h u) p0 else p0) := by
  obtain ⟨_, _, hN, hl⟩ := GC hok u
  obtain ⟨p, h1, h2⟩ := BP (A8 t u).length (fun (p : Int) (i : Nat) => (p, (i : Int))) (Cm L c h u (A8 t u)) id
    (fun p i => p = if p0 < 0 then pick ((A8 t u).take i) (I7 L c h u) p0 else p0)
    (fun p i hi hp => by
      have hg := Bd (List.getElem?_eq_getElem hi)
      have hsd := (hN _).1 (List.getElem_mem hi)
      have he : E t u (A8 t u)[i].2.1 (A8 t u)[i].2.2 := ⟨(A8 t u)[i].1, hsd⟩
      obtain ⟨_, Vv, _⟩ := he.V hok
      have iu : ix h u = some (hv h u) := Gt hu.1 (by have := hu.2; omega)
      have iv : ix h (A8 t u)[i].2.1 = some (hv h (A8 t u)[i].2.1) := Gt Vv.1 (by have := Vv.2; omega)
      have his := JY hok hw hc hb he
      have hbu := hbd u hu
      have hP : I7 L c h u (A8 t u)[i] = decide (hv h (A8 t u)[i].2.1 = hv h u - 1 ∧ MZ L c u (A8 t u)[i].2.1 (A8 t u)[i].2.2) := rfl
      have hstep : Cm L c h u (A8 t u) (p, (i : Int)) = some (.inl (if p < 0 ∧ I7 L c h u (A8 t u)[i] = true then (A8 t u)[i].1 else p, ((i + 1 : Nat) : Int))) := by
        rw [Cm, if_pos (by omega), hg, Option.bind_some]
        by_cases q : p < 0
        · rw [if_pos q, iv, Option.bind_some, iu, Option.bind_some, AY (by omega)]
          by_cases q2 : hv h (A8 t u)[i].2.1 = hv h u - 1
          · rw [if_pos q2, his, Option.bind_some, Option.bind_some]
            by_cases q3 : MZ L c u (A8 t u)[i].2.1 (A8 t u)[i].2.2
            · rw [decide_eq_true q3, if_pos rfl, Option.bind_some, AY (by omega), if_pos ⟨q, by rw [hP]; exact decide_eq_true ⟨q2, q3⟩⟩]; rfl
            · rw [decide_eq_false q3, if_neg (by decide), Option.bind_some, AY (by omega), if_neg (fun hh => by rw [hP] at hh; exact q3 (of_decide_eq_true hh.2).2)]; rfl
          · rw [if_neg q2, Option.bind_some, if_neg (by decide), Option.bind_some, AY (by omega), if_neg (fun hh => by rw [hP] at hh; exact q2 (of_decide_eq_true hh.2).1)]; rfl
        · rw [if_neg q, Option.bind_some, if_neg (by decide), Option.bind_some, AY (by omega), if_neg (fun hh => q hh.1)]; rfl
      refine ⟨_, hstep, ?_⟩
      rw [List.take_succ_eq_append_getElem hi, JT, hp]
      by_cases q : p0 < 0
      · rw [if_pos q, if_pos q]
        cases hf : ((A8 t u).take i).find? (I7 L c h u) with
        | some x =>
          have hx := List.mem_of_mem_take (List.mem_of_find?_eq_some hf)
          have := (Fb hok ((hN x).1 hx)).1
          have e : pick ((A8 t u).take i) (I7 L c h u) p0 = x.1 := by unfold pick; rw [hf]
          rw [e, if_neg (fun hh => by omega)]; rfl
        | none =>
          have e : pick ((A8 t u).take i) (I7 L c h u) p0 = p0 := by unfold pick; rw [hf]
          rw [e]
          by_cases q2 : I7 L c h u (A8 t u)[i] = true
          · rw [if_pos ⟨q, q2⟩, if_pos q2]; rfl
          · rw [if_neg (fun hh => q2 hh.2), if_neg q2]; rfl
      · rw [if_neg q, if_neg q, if_neg (fun hh => q hh.1)])
    (fun p _ => by rw [Cm, if_neg (by omega)]; rfl) p0 (by rw [List.take_zero, Lt]; simp)
  rw [List.take_length] at h1
  have h2' : AA (Cm L c h u (A8 t u)) (p0, 0) = some p := h2
  rw [h2', h1]
theorem OK (hok : C6 t) (hw : GT t L) (hc : (c.length : Int) = t.1) (hb : ∀ v, VV t v → wg c v ≤ CW) {h : List Int} (hh : (h.length : Int) = t.1) (hbd : ∀ v, VV t v → -1 ≤ hv h v ∧ hv h v ≤ 100) {u : Int} (hu : VV t u) :
    ∀ k : Nat, k ≤ (A8 t u).length → AA (Ez (nz L) (nz c) h u (A8 t u)) (pick ((A8 t u).drop k) (I7 L c h u) (-1), (k : Int) - 1) = some (pick (A8 t u) (I7 L c h u) (-1)) := by
  obtain ⟨_, _, hN, hl⟩ := GC hok u
  intro k
  induction k with
  | zero =>
    intro _
    rw [List.drop_zero]
    exact AZ (by rw [Ez, if_neg (by omega)])
  | succ k ih =>
    intro hk
    have hi : k < (A8 t u).length := by omega
    have hg := Bd (List.getElem?_eq_getElem hi)
    have hsd := (hN _).1 (List.getElem_mem hi)
    have he : E t u (A8 t u)[k].2.1 (A8 t u)[k].2.2 := ⟨(A8 t u)[k].1, hsd⟩
    obtain ⟨_, Vv, _⟩ := he.V hok
    have iu : ix h u = some (hv h u) := Gt hu.1 (by have := hu.2; omega)
    have iv : ix h (A8 t u)[k].2.1 = some (hv h (A8 t u)[k].2.1) := Gt Vv.1 (by have := Vv.2; omega)
    have his := LD hok hw hc hb hsd
    have hbv := hbd _ Vv
    have hP : I7 L c h u (A8 t u)[k] = decide (hv h (A8 t u)[k].2.1 = hv h u - 1 ∧ MZ L c u (A8 t u)[k].2.1 (A8 t u)[k].2.2) := rfl
    have hd : (A8 t u).drop k = (A8 t u)[k] :: (A8 t u).drop (k + 1) := List.drop_eq_getElem_cons hi
    have ei : (((k + 1 : Nat) : Int) - 1) = (k : Int) := by omega
    have hstep : Ez (nz L) (nz c) h u (A8 t u) (pick ((A8 t u).drop (k + 1)) (I7 L c h u) (-1), (k : Int)) = some (.inl (pick ((A8 t u).drop k) (I7 L c h u) (-1), (k : Int) - 1)) := by
      rw [hd, GE, Ez, if_pos (by omega), hg, Option.bind_some, his, Option.bind_some]
      by_cases q3 : MZ L c u (A8 t u)[k].2.1 (A8 t u)[k].2.2
      · rw [if_pos (decide_eq_true q3), Option.bind_some, iv, Option.bind_some, iu, Option.bind_some, AY (by omega), Option.bind_some]
        by_cases q2 : hv h (A8 t u)[k].2.1 = hv h u - 1
        · rw [if_pos (decide_eq_true (by omega)), Option.bind_some, Option.bind_some, AY (by omega), if_pos (by rw [hP]; exact decide_eq_true ⟨q2, q3⟩)]
        · rw [if_neg (by simp; omega), Option.bind_some, AY (by omega), if_neg (by rw [hP]; simp only [decide_eq_true_eq]; exact fun hh => q2 hh.1)]
      · rw [if_neg (by simp only [decide_eq_true_eq]; exact q3), Option.bind_some, if_neg (by decide), Option.bind_some, AY (by omega), if_neg (by rw [hP]; simp only [decide_eq_true_eq]; exact fun hh => q3 hh.2)]
    rw [ei, Ch hstep]
    exact ih (by omega)
noncomputable def Ft (t : Tp) (L c : List Nat) (h : List Int) (g : Int × Int) (u : Int) : Int := if u = g.1 then g.2 else pick (A8 t u) (I7 L c h u) (-1)
noncomputable def FX (t : Tp) (L c : List Nat) (h : List Int) (g : Int × Int) : List Int := (List.range t.1.toNat).map fun k : Nat => Ft t L c h g (k : Int)
theorem PM (hok : C6 t) {h : List Int} {g : Int × Int} : ((FX t L c h g).length : Int) = t.1 := by
  have := hok.1.1
  unfold FX; simp; omega
theorem Hf {h : List Int} {g : Int × Int} {u : Int} (hu : VV t u) : hv (FX t L c h g) u = Ft t L c h g u := by
  have h0 := hu.1
  have h1 := hu.2
  unfold hv FX
  rw [List.getD_eq_getElem?_getD, List.getElem?_map, List.getElem?_range (by omega)]
  show Ft t L c h g ((u.toNat : Nat) : Int) = _
  rw [show ((u.toNat : Nat) : Int) = u by omega]
structure Tr19 (t : Tp) (L : List Nat) (g : Int × Int) (c : List Nat) (r : Int → Nat) (h : List Int) : Prop where
  best : Best t L g.1 r c
  sp : Sp t (Td t L c) g.1 h
  pc : CL t L g.1 = some c
  rc : EZ t (nz L) g.1 = some (nz c)
  ps : DV t L g.1 = some h
  rs : GB t (nz L) g.1 = some h
theorem QP (hok : C6 t) (hw : GT t L) {g : Int × Int} (hs : VV t g.1) : ∃ c r h, Tr19 t L g c r h := by
  obtain ⟨c, r, h1, h2⟩ := Nt hok hw hs
  have h3 := Ma hok hw hs h2
  obtain ⟨h, p1, p2⟩ := Nw hok hw hs h1 h2.len h2.bd
  obtain ⟨k, q1, q2⟩ := Mq hok hw hs h3 h2.len h2.bd
  have e : k = h := Sp.uniq hok (fun h => h.V hok) q2 p2
  exact ⟨c, r, h, h2, p2, h1, h3, p1, by rw [q1, e]⟩
theorem Tr19.bd (hok : C6 t) {g : Int × Int} {r : Int → Nat} {h : List Int} (H : Tr19 t L g c r h) : ∀ v, VV t v → -1 ≤ hv h v ∧ hv h v ≤ 100 := fun v hV => by
  have := H.sp.lo v hV
  have := H.sp.toBs17.lt hok (fun h => h.V hok) hV
  have := hok.1.2.1
  omega
theorem Ol (hok : C6 t) (hw : GT t L) {i : Nat} (hi : i < t.2.2.length) {r : Int → Nat} {h : List Int} (H : Tr19 t L t.2.2[i] c r h) : DQ t L (i : Int) = some (FX t L c h t.2.2[i], 0) ∧ IW t (nz L) (i : Int) = some (FX t L c h t.2.2[i], 0) := by
  have h8 := hok.1.2.1
  have h1t := hok.1.1
  have hL : L.length ≤ 1000000 := by have := hw.2; have := hok.1.2.2.1; omega
  have hpo := hok.2.2 _ (List.getElem_mem hi)
  have hg := Bd (List.getElem?_eq_getElem hi)
  have hR := E8 (t := t) (MJ hw.1) hL
  rw [KB hw, decide_eq_true ⟨hok, hw⟩] at hR
  have hRr := KY (t := t) hL
  rw [decide_eq_true ⟨hok, hw⟩] at hRr
  have hbd := H.bd hok
  have hhl := H.sp.len
  obtain ⟨n, hn⟩ : ∃ n : Nat, t.1 = n := ⟨t.1.toNat, by omega⟩
  have hn' : t.1.toNat = n := by omega
  constructor
  · obtain ⟨o, i1, e0⟩ := BP n (fun (o : List Int) (k : Nat) => (o, (k : Int))) (C0 t L (i : Int) t.2.2[i] c h) id (fun o k => o = (List.range k).map fun k : Nat => Ft t L c h t.2.2[i] (k : Int))
      (fun o k hk i1 => by
        have hV : VV t (k : Int) := ⟨by omega, by omega⟩
        have hlo : o.length = k := by rw [i1]; simp
        obtain ⟨n1, _, _, _⟩ := GC hok (k : Int)
        refine ⟨o ++ [Ft t L c h t.2.2[i] (k : Int)], ?_, by rw [i1, List.range_succ, List.map_append]; rfl⟩
        rw [C0, if_pos (by omega)]
        by_cases q : (k : Int) = t.2.2[i].1
        · rw [if_pos q, hg, Option.bind_some, Option.bind_some, n1, Option.bind_some, MQ hok hw H.best.len H.best.bd hhl hbd hV _ (by have := hpo.2.2.1; omega), Option.bind_some, if_neg (by have := hpo.2.2.1; omega), Di (by simp; omega), Option.bind_some, Option.bind_some, AY (by omega)]
          rw [show Ft t L c h t.2.2[i] (k : Int) = t.2.2[i].2 from if_pos q]; rfl
        · rw [if_neg q, Option.bind_some, n1, Option.bind_some, MQ hok hw H.best.len H.best.bd hhl hbd hV _ (by omega), Option.bind_some, if_pos (by omega), Di (by simp; omega), Option.bind_some, Option.bind_some, AY (by omega)]
          rw [show Ft t L c h t.2.2[i] (k : Int) = pick (A8 t k) (I7 L c h k) (-1) from if_neg q]; rfl)
      (fun o _ => by rw [C0, if_neg (by omega)]; rfl) [] rfl
    have e0' : AA (C0 t L (i : Int) t.2.2[i] c h) ([], 0) = some o := e0
    unfold DQ
    rw [hR, Option.bind_some, if_neg (by decide), if_neg (by simp; omega), hg, Option.bind_some, H.pc, Option.bind_some, H.ps, Option.bind_some, e0', Option.bind_some, i1]
    unfold FX
    rw [hn']
  · obtain ⟨o, i1, e0⟩ := BP n (fun (o : List Int) (k : Nat) => (o, (k : Int))) (EG t (nz L) (i : Int) t.2.2[i] (nz c) h) id (fun o k => o = (List.range k).map fun k : Nat => Ft t L c h t.2.2[i] (k : Int))
      (fun o k hk i1 => by
        have hV : VV t (k : Int) := ⟨by omega, by omega⟩
        have hlo : o.length = k := by rw [i1]; simp
        obtain ⟨_, n1, _, n8⟩ := GC hok (k : Int)
        have hin := OK hok hw H.best.len H.best.bd hhl hbd hV (A8 t k).length (Nat.le_refl _)
        rw [List.drop_length, Lt] at hin
        refine ⟨o ++ [Ft t L c h t.2.2[i] (k : Int)], ?_, by rw [i1, List.range_succ, List.map_append]; rfl⟩
        rw [EG, if_pos (by omega), n1, Option.bind_some, AY (by omega), hin, Option.bind_some]
        by_cases q : (k : Int) = t.2.2[i].1
        · rw [if_pos q, hg, Option.bind_some, Option.bind_some, Di (by simp; omega), Option.bind_some, Option.bind_some, AY (by omega)]
          rw [show Ft t L c h t.2.2[i] (k : Int) = t.2.2[i].2 from if_pos q]; rfl
        · rw [if_neg q, Option.bind_some, Di (by simp; omega), Option.bind_some, Option.bind_some, AY (by omega)]
          rw [show Ft t L c h t.2.2[i] (k : Int) = pick (A8 t k) (I7 L c h k) (-1) from if_neg q]; rfl)
      (fun o _ => by rw [EG, if_neg (by omega)]; rfl) [] rfl
    have e0' : AA (EG t (nz L) (i : Int) t.2.2[i] (nz c) h) ([], 0) = some o := e0
    unfold IW
    rw [hRr, Option.bind_some, if_neg (by decide), if_neg (by simp; omega), hg, Option.bind_some, H.rc, Option.bind_some, H.rs, Option.bind_some, e0', Option.bind_some, i1]
    unfold FX
    rw [hn']
theorem Tr19.far (hok : C6 t) (hw : GT t L) {g : Int × Int} {r : Int → Nat} {h : List Int} (H : Tr19 t L g c r h) : ∀ (n : Nat) (u : Int), r u = n → VV t u → wg c u ≠ CW → 0 ≤ hv h u := by
  intro n
  induction n using Nat.strongRecOn with
  | ind n ih =>
    intro u hn hu hne
    rcases H.best.att u hu with e | e | ⟨v, k, he, e, hr⟩
    · exact absurd e hne
    · subst e; have := H.sp.src hu; omega
    · have hV := (he.V hok).2.1
      obtain ⟨_, hcost⟩ := hw.cost hok he
      have hbv := H.best.bd v hV
      have hbu := H.best.bd u hu
      have hge := OH hcost hbv
      have hvn : wg c v ≠ CW := fun q => hne (by rw [q] at hge; rw [e, q]; exact Nat.le_antisymm (by rw [e, q] at hbu; exact hbu) hge)
      have hup : Lo (wg L k) = true := Classical.byContradiction fun q => by
        rw [Nc hcost q, MX hbv] at e
        exact hne e
      have h1 := ih (r v) (by omega) v rfl hV hvn
      exact (H.sp.up v u ⟨k, he, hup, hne, e.symm⟩ h1).1
theorem Tr19.next (hok : C6 t) {g : Int × Int} {r : Int → Nat} {h : List Int} (H : Tr19 t L g c r h) {u : Int} (hu : VV t u) (hne : u ≠ g.1) (h0 : 0 ≤ hv h u) : ∃ x, Fy t u x ∧ hv h x.2.1 = hv h u - 1 ∧ MZ L c u x.2.1 x.2.2 ∧ Ft t L c h g u = x.1 ∧ 0 < hv h u := by
  obtain ⟨_, _, hN, _⟩ := GC hok u
  have hpos : 0 < hv h u := by
    have : hv h u ≠ 0 := fun e => hne (H.sp.zero u hu e)
    omega
  obtain ⟨v, ⟨k, ⟨p, hp⟩, hs⟩, e⟩ := H.sp.dn u hu hpos
  have hm : (p, v, k) ∈ A8 t u := (hN _).2 hp
  have hP : I7 L c h u (p, v, k) = true := decide_eq_true ⟨e, hs⟩
  have hpt : Ft t L c h g u = pick (A8 t u) (I7 L c h u) (-1) := if_neg hne
  unfold pick at hpt
  cases hf : (A8 t u).find? (I7 L c h u) with
  | none =>
    have := List.find?_eq_none.1 hf _ hm
    exact absurd hP this
  | some x =>
    rw [hf] at hpt
    have hx := List.mem_of_find?_eq_some hf
    have hx3 : I7 L c h u x = true := List.find?_some hf
    have hx2 := of_decide_eq_true hx3
    exact ⟨x, (hN x).1 hx, hx2.1, hx2.2, hpt, hpos⟩
theorem Tr19.none (hok : C6 t) {g : Int × Int} {r : Int → Nat} {h : List Int} (H : Tr19 t L g c r h) {u : Int} (hu : VV t u) (hne : u ≠ g.1) (h0 : ¬ 0 ≤ hv h u) : Ft t L c h g u = -1 := by
  obtain ⟨_, _, hN, _⟩ := GC hok u
  have hpt : Ft t L c h g u = pick (A8 t u) (I7 L c h u) (-1) := if_neg hne
  rw [hpt]
  unfold pick
  cases hf : (A8 t u).find? (I7 L c h u) with
  | none => rfl
  | some x =>
    have hx := List.mem_of_find?_eq_some hf
    have hx3 : I7 L c h u x = true := List.find?_some hf
    have hx2 := (of_decide_eq_true hx3).1
    have he : E t u x.2.1 x.2.2 := ⟨x.1, (hN x).1 hx⟩
    have := H.sp.lo _ (he.V hok).2.1
    omega
theorem Tr19.port (hok : C6 t) {g : Int × Int} (hgp : 0 ≤ g.2) {r : Int → Nat} {h : List Int} (H : Tr19 t L g c r h) {u : Int} (hu : VV t u) : (Ft t L c h g u = -1 ∧ u ≠ g.1 ∧ ¬ 0 ≤ hv h u) ∨ (0 ≤ Ft t L c h g u ∧ 0 ≤ hv h u) := by
  by_cases q : u = g.1
  · refine .inr ⟨by rw [show Ft t L c h g u = g.2 from if_pos q]; exact hgp, ?_⟩
    rw [q] at hu ⊢
    have := H.sp.src hu
    omega
  · by_cases q2 : 0 ≤ hv h u
    · obtain ⟨x, hx, _, _, e, _⟩ := H.next hok hu q q2
      exact .inr ⟨by rw [e]; exact (Fb hok hx).1, q2⟩
    · exact .inl ⟨H.none hok hu q q2, q, q2⟩
end
end Go.Proofs.Ytieebnllkjmjiaa
