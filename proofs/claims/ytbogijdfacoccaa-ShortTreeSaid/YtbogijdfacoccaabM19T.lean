/- Layer 19: trees. Conditions: none. -/
import Derived.Test.YtbogijdfacoccaabM19S
namespace Go.Proofs.Ytbogijdfacoccaa
set_option linter.unusedVariables false
set_option linter.unusedSimpArgs false
open Go Go.RowKit
noncomputable def A9 (t : Tp) (u : Int) : List Sd := (CO t u).getD []
section
variable {t : Tp} {L c : List Nat} {s : Int}
theorem GQ (hok : D5 t) (u : Int) : CO t u = some (A9 t u) ∧ FR t u = some (A9 t u) ∧ (∀ x, x ∈ A9 t u ↔ FP t u x) ∧ (A9 t u).length ≤ 8 := by
  obtain ⟨N, n1, n2, n3, n4⟩ := Ig hok u
  obtain ⟨M, m1, m2, m3⟩ := Hj hok u
  have e : A9 t u = N := by unfold A9; rw [n1]; rfl
  have e2 : M = N := Oy m3 n3 fun x => (m2 x).trans (n2 x).symm
  rw [e]
  exact ⟨n1, by rw [m1, e2], n2, n4⟩
noncomputable def I6 (L c : List Nat) (h : List Int) (u : Int) (x : Sd) : Bool := decide (hv h x.2.1 = hv h u - 1 ∧ MX L c u x.2.1 x.2.2)
def pick (N : List Sd) (P : Sd → Bool) (p : Int) : Int := match N.find? P with | some x => x.1 | none => p
theorem Lm (P : Sd → Bool) (p : Int) : pick [] P p = p := rfl
theorem GX (x : Sd) (N : List Sd) (P : Sd → Bool) (p : Int) : pick (x :: N) P p = if P x = true then x.1 else pick N P p := by
  unfold pick
  rw [List.find?_cons]
  cases P x <;> rfl
theorem Kj (x : Sd) (P : Sd → Bool) (p : Int) : ∀ N : List Sd, pick (N ++ [x]) P p = if (N.find? P).isSome then pick N P p else if P x = true then x.1 else p
  | [] => by rw [List.nil_append, GX]; rfl
  | y :: N => by
    rw [List.cons_append, GX, GX, List.find?_cons]
    cases h : P y with
    | true => simp
    | false =>
      simp only [Bool.false_eq_true, if_false]
      exact Kj x P p N
theorem M7 (hok : D5 t) (hw : G9 t L) (hc : (c.length : Int) = t.1) (hb : ∀ v, VV t v → wg c v ≤ CU) {h : List Int} (hh : (h.length : Int) = t.1) (hbd : ∀ v, VV t v → -1 ≤ hv h v ∧ hv h v ≤ 100) {u : Int} (hu : VV t u) (p0 : Int) (hp0 : -1 ≤ p0) :
    AF (BW L c h u (A9 t u)) (p0, 0) = some (if p0 < 0 then pick (A9 t u) (I6 L c h u) p0 else p0) := by
  obtain ⟨_, _, hN, hl⟩ := GQ hok u
  obtain ⟨p, h1, h2⟩ := BQ (A9 t u).length (fun (p : Int) (i : Nat) => (p, (i : Int))) (BW L c h u (A9 t u)) id
    (fun p i => p = if p0 < 0 then pick ((A9 t u).take i) (I6 L c h u) p0 else p0)
    (fun p i hi hp => by
      have hg := Bl (List.getElem?_eq_getElem hi)
      have hsd := (hN _).1 (List.getElem_mem hi)
      have he : E t u (A9 t u)[i].2.1 (A9 t u)[i].2.2 := ⟨(A9 t u)[i].1, hsd⟩
      obtain ⟨_, Vv, _⟩ := he.V hok
      have iu : ix h u = some (hv h u) := GK hu.1 (by have := hu.2; omega)
      have iv : ix h (A9 t u)[i].2.1 = some (hv h (A9 t u)[i].2.1) := GK Vv.1 (by have := Vv.2; omega)
      have his := Kg hok hw hc hb he
      have hbu := hbd u hu
      have hP : I6 L c h u (A9 t u)[i] = decide (hv h (A9 t u)[i].2.1 = hv h u - 1 ∧ MX L c u (A9 t u)[i].2.1 (A9 t u)[i].2.2) := rfl
      have hstep : BW L c h u (A9 t u) (p, (i : Int)) = some (.inl (if p < 0 ∧ I6 L c h u (A9 t u)[i] = true then (A9 t u)[i].1 else p, ((i + 1 : Nat) : Int))) := by
        rw [BW, if_pos (by omega), hg, Option.bind_some]
        by_cases q : p < 0
        · rw [if_pos q, iv, Option.bind_some, iu, Option.bind_some, AY (by omega)]
          by_cases q2 : hv h (A9 t u)[i].2.1 = hv h u - 1
          · rw [if_pos q2, his, Option.bind_some, Option.bind_some]
            by_cases q3 : MX L c u (A9 t u)[i].2.1 (A9 t u)[i].2.2
            · rw [decide_eq_true q3, if_pos rfl, Option.bind_some, AY (by omega), if_pos ⟨q, by rw [hP]; exact decide_eq_true ⟨q2, q3⟩⟩]; rfl
            · rw [decide_eq_false q3, if_neg (by decide), Option.bind_some, AY (by omega), if_neg (fun hh => by rw [hP] at hh; exact q3 (of_decide_eq_true hh.2).2)]; rfl
          · rw [if_neg q2, Option.bind_some, if_neg (by decide), Option.bind_some, AY (by omega), if_neg (fun hh => by rw [hP] at hh; exact q2 (of_decide_eq_true hh.2).1)]; rfl
        · rw [if_neg q, Option.bind_some, if_neg (by decide), Option.bind_some, AY (by omega), if_neg (fun hh => q hh.1)]; rfl
      refine ⟨_, hstep, ?_⟩
      rw [List.take_succ_eq_append_getElem hi, Kj, hp]
      by_cases q : p0 < 0
      · rw [if_pos q, if_pos q]
        cases hf : ((A9 t u).take i).find? (I6 L c h u) with
        | some x =>
          have hx := List.mem_of_mem_take (List.mem_of_find?_eq_some hf)
          have := (FJ hok ((hN x).1 hx)).1
          have e : pick ((A9 t u).take i) (I6 L c h u) p0 = x.1 := by unfold pick; rw [hf]
          rw [e, if_neg (fun hh => by omega)]; rfl
        | none =>
          have e : pick ((A9 t u).take i) (I6 L c h u) p0 = p0 := by unfold pick; rw [hf]
          rw [e]
          by_cases q2 : I6 L c h u (A9 t u)[i] = true
          · rw [if_pos ⟨q, q2⟩, if_pos q2]; rfl
          · rw [if_neg (fun hh => q2 hh.2), if_neg q2]; rfl
      · rw [if_neg q, if_neg q, if_neg (fun hh => q hh.1)])
    (fun p _ => by rw [BW, if_neg (by omega)]; rfl) p0 (by rw [List.take_zero, Lm]; simp)
  rw [List.take_length] at h1
  have h2' : AF (BW L c h u (A9 t u)) (p0, 0) = some p := h2
  rw [h2', h1]
theorem OP (hok : D5 t) (hw : G9 t L) (hc : (c.length : Int) = t.1) (hb : ∀ v, VV t v → wg c v ≤ CU) {h : List Int} (hh : (h.length : Int) = t.1) (hbd : ∀ v, VV t v → -1 ≤ hv h v ∧ hv h v ≤ 100) {u : Int} (hu : VV t u) :
    ∀ k : Nat, k ≤ (A9 t u).length → AF (EN (nz L) (nz c) h u (A9 t u)) (pick ((A9 t u).drop k) (I6 L c h u) (-1), (k : Int) - 1) = some (pick (A9 t u) (I6 L c h u) (-1)) := by
  obtain ⟨_, _, hN, hl⟩ := GQ hok u
  intro k
  induction k with
  | zero =>
    intro _
    rw [List.drop_zero]
    exact Bd (by rw [EN, if_neg (by omega)])
  | succ k ih =>
    intro hk
    have hi : k < (A9 t u).length := by omega
    have hg := Bl (List.getElem?_eq_getElem hi)
    have hsd := (hN _).1 (List.getElem_mem hi)
    have he : E t u (A9 t u)[k].2.1 (A9 t u)[k].2.2 := ⟨(A9 t u)[k].1, hsd⟩
    obtain ⟨_, Vv, _⟩ := he.V hok
    have iu : ix h u = some (hv h u) := GK hu.1 (by have := hu.2; omega)
    have iv : ix h (A9 t u)[k].2.1 = some (hv h (A9 t u)[k].2.1) := GK Vv.1 (by have := Vv.2; omega)
    have his := LU hok hw hc hb hsd
    have hbv := hbd _ Vv
    have hP : I6 L c h u (A9 t u)[k] = decide (hv h (A9 t u)[k].2.1 = hv h u - 1 ∧ MX L c u (A9 t u)[k].2.1 (A9 t u)[k].2.2) := rfl
    have hd : (A9 t u).drop k = (A9 t u)[k] :: (A9 t u).drop (k + 1) := List.drop_eq_getElem_cons hi
    have ei : (((k + 1 : Nat) : Int) - 1) = (k : Int) := by omega
    have hstep : EN (nz L) (nz c) h u (A9 t u) (pick ((A9 t u).drop (k + 1)) (I6 L c h u) (-1), (k : Int)) = some (.inl (pick ((A9 t u).drop k) (I6 L c h u) (-1), (k : Int) - 1)) := by
      rw [hd, GX, EN, if_pos (by omega), hg, Option.bind_some, his, Option.bind_some]
      by_cases q3 : MX L c u (A9 t u)[k].2.1 (A9 t u)[k].2.2
      · rw [if_pos (decide_eq_true q3), Option.bind_some, iv, Option.bind_some, iu, Option.bind_some, AY (by omega), Option.bind_some]
        by_cases q2 : hv h (A9 t u)[k].2.1 = hv h u - 1
        · rw [if_pos (decide_eq_true (by omega)), Option.bind_some, Option.bind_some, AY (by omega), if_pos (by rw [hP]; exact decide_eq_true ⟨q2, q3⟩)]
        · rw [if_neg (by simp; omega), Option.bind_some, AY (by omega), if_neg (by rw [hP]; simp only [decide_eq_true_eq]; exact fun hh => q2 hh.1)]
      · rw [if_neg (by simp only [decide_eq_true_eq]; exact q3), Option.bind_some, if_neg (by decide), Option.bind_some, AY (by omega), if_neg (by rw [hP]; simp only [decide_eq_true_eq]; exact fun hh => q3 hh.2)]
    rw [ei, CQ hstep]
    exact ih (by omega)
noncomputable def FW (t : Tp) (L c : List Nat) (h : List Int) (g : Int × Int) (u : Int) : Int := if u = g.1 then g.2 else pick (A9 t u) (I6 L c h u) (-1)
noncomputable def Ge (t : Tp) (L c : List Nat) (h : List Int) (g : Int × Int) : List Int := (List.range t.1.toNat).map fun k : Nat => FW t L c h g (k : Int)
theorem Px (hok : D5 t) {h : List Int} {g : Int × Int} : ((Ge t L c h g).length : Int) = t.1 := by
  have := hok.1.1
  unfold Ge; simp; omega
theorem QI {h : List Int} {g : Int × Int} {u : Int} (hu : VV t u) : hv (Ge t L c h g) u = FW t L c h g u := by
  have h0 := hu.1
  have h1 := hu.2
  unfold hv Ge
  rw [List.getD_eq_getElem?_getD, List.getElem?_map, List.getElem?_range (by omega)]
  show FW t L c h g ((u.toNat : Nat) : Int) = _
  rw [show ((u.toNat : Nat) : Int) = u by omega]
structure Tr19 (t : Tp) (L : List Nat) (g : Int × Int) (c : List Nat) (r : Int → Nat) (h : List Int) : Prop where
  best : Best t L g.1 r c
  sp : Sp t (Td t L c) g.1 h
  pc : Ce t L g.1 = some c
  rc : E8 t (nz L) g.1 = some (nz c)
  ps : CY t L g.1 = some h
  rs : GN t (nz L) g.1 = some h
theorem Q4 (hok : D5 t) (hw : G9 t L) {g : Int × Int} (hs : VV t g.1) : ∃ c r h, Tr19 t L g c r h := by
  obtain ⟨c, r, h1, h2⟩ := Ny hok hw hs
  have h3 := LZ hok hw hs h2
  obtain ⟨h, p1, p2⟩ := NJ hok hw hs h1 h2.len h2.bd
  obtain ⟨k, q1, q2⟩ := Mw hok hw hs h3 h2.len h2.bd
  have e : k = h := Sp.uniq hok (fun h => h.V hok) q2 p2
  exact ⟨c, r, h, h2, p2, h1, h3, p1, by rw [q1, e]⟩
theorem Tr19.bd (hok : D5 t) {g : Int × Int} {r : Int → Nat} {h : List Int} (H : Tr19 t L g c r h) : ∀ v, VV t v → -1 ≤ hv h v ∧ hv h v ≤ 100 := fun v hV => by
  have := H.sp.lo v hV
  have := H.sp.toBs17.lt hok (fun h => h.V hok) hV
  have := hok.1.2.1
  omega
theorem Pb (hok : D5 t) (hw : G9 t L) {i : Nat} (hi : i < t.2.2.length) {r : Int → Nat} {h : List Int} (H : Tr19 t L t.2.2[i] c r h) : Dq t L (i : Int) = some (Ge t L c h t.2.2[i], 0) ∧ LO t (nz L) (i : Int) = some (Ge t L c h t.2.2[i], 0) := by
  have h8 := hok.1.2.1
  have h1t := hok.1.1
  have hL : L.length ≤ 1000000 := by have := hw.2; have := hok.1.2.2.1; omega
  have hpo := hok.2.2 _ (List.getElem_mem hi)
  have hg := Bl (List.getElem?_eq_getElem hi)
  have hR := Gm (t := t) (Ov hw.1) hL
  rw [My hw, decide_eq_true ⟨hok, hw⟩] at hR
  have hRr := LA (t := t) hL
  rw [decide_eq_true ⟨hok, hw⟩] at hRr
  have hbd := H.bd hok
  have hhl := H.sp.len
  obtain ⟨n, hn⟩ : ∃ n : Nat, t.1 = n := ⟨t.1.toNat, by omega⟩
  have hn' : t.1.toNat = n := by omega
  constructor
  · obtain ⟨o, i1, e0⟩ := BQ n (fun (o : List Int) (k : Nat) => (o, (k : Int))) (Cm t L (i : Int) t.2.2[i] c h) id (fun o k => o = (List.range k).map fun k : Nat => FW t L c h t.2.2[i] (k : Int))
      (fun o k hk i1 => by
        have hV : VV t (k : Int) := ⟨by omega, by omega⟩
        have hlo : o.length = k := by rw [i1]; simp
        obtain ⟨n1, _, _, _⟩ := GQ hok (k : Int)
        refine ⟨o ++ [FW t L c h t.2.2[i] (k : Int)], ?_, by rw [i1, List.range_succ, List.map_append]; rfl⟩
        rw [Cm, if_pos (by omega)]
        by_cases q : (k : Int) = t.2.2[i].1
        · rw [if_pos q, hg, Option.bind_some, Option.bind_some, n1, Option.bind_some, M7 hok hw H.best.len H.best.bd hhl hbd hV _ (by have := hpo.2.2.1; omega), Option.bind_some, if_neg (by have := hpo.2.2.1; omega), DH (by simp; omega), Option.bind_some, Option.bind_some, AY (by omega)]
          rw [show FW t L c h t.2.2[i] (k : Int) = t.2.2[i].2 from if_pos q]; rfl
        · rw [if_neg q, Option.bind_some, n1, Option.bind_some, M7 hok hw H.best.len H.best.bd hhl hbd hV _ (by omega), Option.bind_some, if_pos (by omega), DH (by simp; omega), Option.bind_some, Option.bind_some, AY (by omega)]
          rw [show FW t L c h t.2.2[i] (k : Int) = pick (A9 t k) (I6 L c h k) (-1) from if_neg q]; rfl)
      (fun o _ => by rw [Cm, if_neg (by omega)]; rfl) [] rfl
    have e0' : AF (Cm t L (i : Int) t.2.2[i] c h) ([], 0) = some o := e0
    unfold Dq
    rw [hR, Option.bind_some, if_neg (by decide), if_neg (by simp; omega), hg, Option.bind_some, H.pc, Option.bind_some, H.ps, Option.bind_some, e0', Option.bind_some, i1]
    unfold Ge
    rw [hn']
  · obtain ⟨o, i1, e0⟩ := BQ n (fun (o : List Int) (k : Nat) => (o, (k : Int))) (EL t (nz L) (i : Int) t.2.2[i] (nz c) h) id (fun o k => o = (List.range k).map fun k : Nat => FW t L c h t.2.2[i] (k : Int))
      (fun o k hk i1 => by
        have hV : VV t (k : Int) := ⟨by omega, by omega⟩
        have hlo : o.length = k := by rw [i1]; simp
        obtain ⟨_, n1, _, n8⟩ := GQ hok (k : Int)
        have hin := OP hok hw H.best.len H.best.bd hhl hbd hV (A9 t k).length (Nat.le_refl _)
        rw [List.drop_length, Lm] at hin
        refine ⟨o ++ [FW t L c h t.2.2[i] (k : Int)], ?_, by rw [i1, List.range_succ, List.map_append]; rfl⟩
        rw [EL, if_pos (by omega), n1, Option.bind_some, AY (by omega), hin, Option.bind_some]
        by_cases q : (k : Int) = t.2.2[i].1
        · rw [if_pos q, hg, Option.bind_some, Option.bind_some, DH (by simp; omega), Option.bind_some, Option.bind_some, AY (by omega)]
          rw [show FW t L c h t.2.2[i] (k : Int) = t.2.2[i].2 from if_pos q]; rfl
        · rw [if_neg q, Option.bind_some, DH (by simp; omega), Option.bind_some, Option.bind_some, AY (by omega)]
          rw [show FW t L c h t.2.2[i] (k : Int) = pick (A9 t k) (I6 L c h k) (-1) from if_neg q]; rfl)
      (fun o _ => by rw [EL, if_neg (by omega)]; rfl) [] rfl
    have e0' : AF (EL t (nz L) (i : Int) t.2.2[i] (nz c) h) ([], 0) = some o := e0
    unfold LO
    rw [hRr, Option.bind_some, if_neg (by decide), if_neg (by simp; omega), hg, Option.bind_some, H.rc, Option.bind_some, H.rs, Option.bind_some, e0', Option.bind_some, i1]
    unfold Ge
    rw [hn']
theorem Tr19.far (hok : D5 t) (hw : G9 t L) {g : Int × Int} {r : Int → Nat} {h : List Int} (H : Tr19 t L g c r h) : ∀ (n : Nat) (u : Int), r u = n → VV t u → wg c u ≠ CU → 0 ≤ hv h u := by
  intro n
  induction n using Nat.strongRecOn with
  | ind n ih =>
    intro u hn hu hne
    rcases H.best.att u hu with e | e | ⟨v, k, he, e, hr⟩
    · exact absurd e hne
    · subst e; have := H.sp.src hu; omega
    · have hV := (he.V hok).2.1
      obtain ⟨_, hcost⟩ := hw.cost hok he
      have hbv := H.best.bd v hV
      have hbu := H.best.bd u hu
      have hge := OA hcost hbv
      have hvn : wg c v ≠ CU := fun q => hne (by rw [q] at hge; rw [e, q]; exact Nat.le_antisymm (by rw [e, q] at hbu; exact hbu) hge)
      have hup : LB (wg L k) = true := Classical.byContradiction fun q => by
        rw [MZ hcost q, Nm hbv] at e
        exact hne e
      have h1 := ih (r v) (by omega) v rfl hV hvn
      exact (H.sp.up v u ⟨k, he, hup, hne, e.symm⟩ h1).1
theorem Tr19.next (hok : D5 t) {g : Int × Int} {r : Int → Nat} {h : List Int} (H : Tr19 t L g c r h) {u : Int} (hu : VV t u) (hne : u ≠ g.1) (h0 : 0 ≤ hv h u) : ∃ x, FP t u x ∧ hv h x.2.1 = hv h u - 1 ∧ MX L c u x.2.1 x.2.2 ∧ FW t L c h g u = x.1 ∧ 0 < hv h u := by
  obtain ⟨_, _, hN, _⟩ := GQ hok u
  have hpos : 0 < hv h u := by
    have : hv h u ≠ 0 := fun e => hne (H.sp.zero u hu e)
    omega
  obtain ⟨v, ⟨k, ⟨p, hp⟩, hs⟩, e⟩ := H.sp.dn u hu hpos
  have hm : (p, v, k) ∈ A9 t u := (hN _).2 hp
  have hP : I6 L c h u (p, v, k) = true := decide_eq_true ⟨e, hs⟩
  have hpt : FW t L c h g u = pick (A9 t u) (I6 L c h u) (-1) := if_neg hne
  unfold pick at hpt
  cases hf : (A9 t u).find? (I6 L c h u) with
  | none =>
    have := List.find?_eq_none.1 hf _ hm
    exact absurd hP this
  | some x =>
    rw [hf] at hpt
    have hx := List.mem_of_find?_eq_some hf
    have hx3 : I6 L c h u x = true := List.find?_some hf
    have hx2 := of_decide_eq_true hx3
    exact ⟨x, (hN x).1 hx, hx2.1, hx2.2, hpt, hpos⟩
theorem Tr19.none (hok : D5 t) {g : Int × Int} {r : Int → Nat} {h : List Int} (H : Tr19 t L g c r h) {u : Int} (hu : VV t u) (hne : u ≠ g.1) (h0 : ¬ 0 ≤ hv h u) : FW t L c h g u = -1 := by
  obtain ⟨_, _, hN, _⟩ := GQ hok u
  have hpt : FW t L c h g u = pick (A9 t u) (I6 L c h u) (-1) := if_neg hne
  rw [hpt]
  unfold pick
  cases hf : (A9 t u).find? (I6 L c h u) with
  | none => rfl
  | some x =>
    have hx := List.mem_of_find?_eq_some hf
    have hx3 : I6 L c h u x = true := List.find?_some hf
    have hx2 := (of_decide_eq_true hx3).1
    have he : E t u x.2.1 x.2.2 := ⟨x.1, (hN x).1 hx⟩
    have := H.sp.lo _ (he.V hok).2.1
    omega
theorem Tr19.port (hok : D5 t) {g : Int × Int} (hgp : 0 ≤ g.2) {r : Int → Nat} {h : List Int} (H : Tr19 t L g c r h) {u : Int} (hu : VV t u) : (FW t L c h g u = -1 ∧ u ≠ g.1 ∧ ¬ 0 ≤ hv h u) ∨ (0 ≤ FW t L c h g u ∧ 0 ≤ hv h u) := by
  by_cases q : u = g.1
  · refine .inr ⟨by rw [show FW t L c h g u = g.2 from if_pos q]; exact hgp, ?_⟩
    rw [q] at hu ⊢
    have := H.sp.src hu
    omega
  · by_cases q2 : 0 ≤ hv h u
    · obtain ⟨x, hx, _, _, e, _⟩ := H.next hok hu q q2
      exact .inr ⟨by rw [e]; exact (FJ hok hx).1, q2⟩
    · exact .inl ⟨H.none hok hu q q2, q, q2⟩
end
end Go.Proofs.Ytbogijdfacoccaa
