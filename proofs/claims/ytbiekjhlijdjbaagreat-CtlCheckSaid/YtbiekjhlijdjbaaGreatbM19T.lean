/- Layer 19: trees. Conditions: none. -/
import Derived.Test.YtbiekjhlijdjbaaGreatbM19B
set_option linter.unusedVariables false
set_option linter.unusedSimpArgs false
open Go Go.RowKit
namespace Go.Proofs.YtbiekjhlijdjbaaGreat
noncomputable section
def A5 (t : Tp) (u : Int) : List Sd := (Dk t u).getD []
section
variable {t : Tp} {L c : List Nat} {s : Int}
theorem HO (hok : CS t) (u : Int) : Dk t u = some (A5 t u) ∧ E6 t u = some (A5 t u) ∧ (∀ x,x ∈ A5 t u ↔ FR t u x) ∧ (A5 t u).length ≤ 8 := by
  obtain ⟨N,n1,n2,n3,n4⟩ := HU hok u
  obtain ⟨M,m1,m2,m3⟩ := IF hok u
  have e : A5 t u = N := by unfold A5; rw [n1]; rfl
  have e2 : M = N := TM m3 n3 fun x => (m2 x).trans (n2 x).symm
  rw [e]
  exact ⟨n1,by rw [m1,e2],n2,n4⟩
def Ln (L c : List Nat) (h : List Int) (u : Int) (x : Sd) : Bool := decide (hv h x.2.1 = hv h u - 1 ∧ Q5 L c u x.2.1 x.2.2)
def pick (N : List Sd) (P : Sd → Bool) (p : Int) : Int := match N.find? P with | some x => x.1 | none => p
theorem O8 (P : Sd → Bool) (p : Int) : pick [] P p = p := rfl
theorem HN (x : Sd) (N : List Sd) (P : Sd → Bool) (p : Int) : pick (x :: N) P p = if P x = true then x.1 else pick N P p := by
  unfold pick
  rw [List.find?_cons]
  cases P x <;> rfl
theorem MU (x : Sd) (P : Sd → Bool) (p : Int) : ∀ N : List Sd,pick (N ++ [x]) P p = if (N.find? P).isSome then pick N P p else if P x = true then x.1 else p
  | [] => by rw [List.nil_append,HN]; rfl
  | y :: N => by
    rw [List.cons_append,HN,HN,List.find?_cons]
    cases h : P y with
    | true => simp
    | false =>
      simp only [Bool.false_eq_true,if_false]
      exact MU x P p N
theorem Rt (hok : CS t) (hw : Ib t L) (hc : (c.length : Int) = t.1) (hb : ∀ v,VV t v → wg c v ≤ C7) {h : List Int} (hh : (h.length : Int) = t.1) (hbd : ∀ v,VV t v → -1 ≤ hv h v ∧ hv h v ≤ 100) {u : Int} (hu : VV t u) (p0 : Int) (hp0 : -1 ≤ p0) :
    Am (Cn L c h u (A5 t u)) (p0,0) = some (if p0 < 0 then pick (A5 t u) (Ln L c h u) p0 else p0) := by
  obtain ⟨_,_,hN,hl⟩ := HO hok u
  obtain ⟨p, h1, h2⟩ := Bw (A5 t u).length (fun (p : Int) (i : Nat) => (p, (i : Int))) (Cn L c h u (A5 t u)) id
    (fun p i => p = if p0 < 0 then pick ((A5 t u).take i) (Ln L c h u) p0 else p0)
    (fun p i hi hp => by
      have hg := AO (zb hi)
      have hsd := (hN _).1 (List.getElem_mem hi)
      have he : E t u (A5 t u)[i].2.1 (A5 t u)[i].2.2 := ⟨(A5 t u)[i].1,hsd⟩
      obtain ⟨_,Vv,_⟩ := he.V hok
      have iu : ix h u = some (hv h u) := E0 hu.1 (by have := hu.2; omega)
      have iv : ix h (A5 t u)[i].2.1 = some (hv h (A5 t u)[i].2.1) := E0 Vv.1 (by have := Vv.2; omega)
      have his := MF hok hw hc hb he
      have hbu := hbd u hu
      have hP : Ln L c h u (A5 t u)[i] = decide (hv h (A5 t u)[i].2.1 = hv h u - 1 ∧ Q5 L c u (A5 t u)[i].2.1 (A5 t u)[i].2.2) := rfl
      have hstep : Cn L c h u (A5 t u) (p,(i : Int)) = some (.inl (if p < 0 ∧ Ln L c h u (A5 t u)[i] = true then (A5 t u)[i].1 else p,((i + 1 : Nat) : Int))) := by
        rw [Cn,if_pos (by omega),hg,za]
        by_cases q : p < 0
        · rw [if_pos q,iv,za,iu,za,AC (by omega)]
          by_cases q2 : hv h (A5 t u)[i].2.1 = hv h u - 1
          · rw [if_pos q2,his,za,za]
            by_cases q3 : Q5 L c u (A5 t u)[i].2.1 (A5 t u)[i].2.2
            · rw [decide_eq_true q3,if_pos rfl,za,AC (by omega),if_pos ⟨q,by rw [hP]; exact decide_eq_true ⟨q2,q3⟩⟩]; rfl
            · rw [decide_eq_false q3,if_neg (by decide),za,AC (by omega),if_neg (fun hh => by rw [hP] at hh; exact q3 (of_decide_eq_true hh.2).2)]; rfl
          · rw [if_neg q2,za,if_neg (by decide),za,AC (by omega),if_neg (fun hh => by rw [hP] at hh; exact q2 (of_decide_eq_true hh.2).1)]; rfl
        · rw [if_neg q,za,if_neg (by decide),za,AC (by omega),if_neg (fun hh => q hh.1)]; rfl
      refine ⟨_,hstep, ?_⟩
      rw [List.take_succ_eq_append_getElem hi,MU,hp]
      by_cases q : p0 < 0
      · rw [if_pos q,if_pos q]
        cases hf : ((A5 t u).take i).find? (Ln L c h u) with
        | some x =>
          have hx := List.mem_of_mem_take (List.mem_of_find?_eq_some hf)
          have := (Gk hok ((hN x).1 hx)).1
          have e : pick ((A5 t u).take i) (Ln L c h u) p0 = x.1 := by unfold pick; rw [hf]
          rw [e,if_neg (fun hh => by omega)]; rfl
        | none =>
          have e : pick ((A5 t u).take i) (Ln L c h u) p0 = p0 := by unfold pick; rw [hf]
          rw [e]
          by_cases q2 : Ln L c h u (A5 t u)[i] = true
          · rw [if_pos ⟨q,q2⟩,if_pos q2]; rfl
          · rw [if_neg (fun hh => q2 hh.2),if_neg q2]; rfl
      · rw [if_neg q,if_neg q,if_neg (fun hh => q hh.1)])
    (fun p _ => by rw [Cn,if_neg (by omega)]; rfl) p0 (by rw [List.take_zero,O8]; simp)
  rw [List.take_length] at h1
  have h2' : Am (Cn L c h u (A5 t u)) (p0,0) = some p := h2
  rw [h2',h1]
theorem SU (hok : CS t) (hw : Ib t L) (hc : (c.length : Int) = t.1) (hb : ∀ v,VV t v → wg c v ≤ C7) {h : List Int} (hh : (h.length : Int) = t.1) (hbd : ∀ v,VV t v → -1 ≤ hv h v ∧ hv h v ≤ 100) {u : Int} (hu : VV t u) :
    ∀ k : Nat,k ≤ (A5 t u).length → Am (Ep (nz L) (nz c) h u (A5 t u)) (pick ((A5 t u).drop k) (Ln L c h u) (-1),(k : Int) - 1) = some (pick (A5 t u) (Ln L c h u) (-1)) := by
  obtain ⟨_,_,hN,hl⟩ := HO hok u
  intro k
  induction k with
  | zero =>
    intro _
    rw [List.drop_zero]
    exact AJ (by rw [Ep,if_neg (by omega)])
  | succ k ih =>
    intro hk
    have hi : k < (A5 t u).length := by omega
    have hg := AO (zb hi)
    have hsd := (hN _).1 (List.getElem_mem hi)
    have he : E t u (A5 t u)[k].2.1 (A5 t u)[k].2.2 := ⟨(A5 t u)[k].1,hsd⟩
    obtain ⟨_,Vv,_⟩ := he.V hok
    have iu : ix h u = some (hv h u) := E0 hu.1 (by have := hu.2; omega)
    have iv : ix h (A5 t u)[k].2.1 = some (hv h (A5 t u)[k].2.1) := E0 Vv.1 (by have := Vv.2; omega)
    have his := N4 hok hw hc hb hsd
    have hbv := hbd _ Vv
    have hP : Ln L c h u (A5 t u)[k] = decide (hv h (A5 t u)[k].2.1 = hv h u - 1 ∧ Q5 L c u (A5 t u)[k].2.1 (A5 t u)[k].2.2) := rfl
    have hd : (A5 t u).drop k = (A5 t u)[k] :: (A5 t u).drop (k + 1) := List.drop_eq_getElem_cons hi
    have ei : (((k + 1 : Nat) : Int) - 1) = (k : Int) := by omega
    have hstep : Ep (nz L) (nz c) h u (A5 t u) (pick ((A5 t u).drop (k + 1)) (Ln L c h u) (-1),(k : Int)) = some (.inl (pick ((A5 t u).drop k) (Ln L c h u) (-1),(k : Int) - 1)) := by
      rw [hd,HN,Ep,if_pos (by omega),hg,za,his,za]
      by_cases q3 : Q5 L c u (A5 t u)[k].2.1 (A5 t u)[k].2.2
      · rw [if_pos (decide_eq_true q3),za,iv,za,iu,za,AC (by omega),za]
        by_cases q2 : hv h (A5 t u)[k].2.1 = hv h u - 1
        · rw [if_pos (decide_eq_true (by omega)),za,za,AC (by omega),if_pos (by rw [hP]; exact decide_eq_true ⟨q2,q3⟩)]
        · rw [if_neg (by simp; omega),za,AC (by omega),if_neg (by rw [hP]; simp only [decide_eq_true_eq]; exact fun hh => q2 hh.1)]
      · rw [if_neg (by simp only [decide_eq_true_eq]; exact q3),za,if_neg (by decide),za,AC (by omega),if_neg (by rw [hP]; simp only [decide_eq_true_eq]; exact fun hh => q3 hh.2)]
    rw [ei,BI hstep]
    exact ih (by omega)
def GQ (t : Tp) (L c : List Nat) (h : List Int) (g : Int × Int) (u : Int) : Int := if u = g.1 then g.2 else pick (A5 t u) (Ln L c h u) (-1)
def Hy (t : Tp) (L c : List Nat) (h : List Int) (g : Int × Int) : List Int := (List.range t.1.toNat).map fun k : Nat => GQ t L c h g (k : Int)
theorem Vf (hok : CS t) {h : List Int} {g : Int × Int} : ((Hy t L c h g).length : Int) = t.1 := by
  have := hok.1.1
  unfold Hy; simp; omega
theorem XI {h : List Int} {g : Int × Int} {u : Int} (hu : VV t u) : hv (Hy t L c h g) u = GQ t L c h g u := by
  have h0 := hu.1
  have h1 := hu.2
  unfold hv Hy
  rw [List.getD_eq_getElem?_getD,List.getElem?_map,List.getElem?_range (by omega)]
  show GQ t L c h g ((u.toNat : Nat) : Int) = _
  rw [show ((u.toNat : Nat) : Int) = u by omega]
structure Tr19 (t : Tp) (L : List Nat) (g : Int × Int) (c : List Nat) (r : Int → Nat) (h : List Int) : Prop where
  best : Best t L g.1 r c
  sp : Sp t (Td t L c) g.1 h
  pc : CU t L g.1 = some c
  rc : Ey t (nz L) g.1 = some (nz c)
  ps : Ej t L g.1 = some h
  rs : Fh t (nz L) g.1 = some h
theorem Yt (hok : CS t) (hw : Ib t L) {g : Int × Int} (hs : VV t g.1) : ∃ c r h,Tr19 t L g c r h := by
  obtain ⟨c,r,h1,h2⟩ := RZ hok hw hs
  have h3 := P8 hok hw hs h2
  obtain ⟨h,p1,p2⟩ := R3 hok hw hs h1 h2.len h2.bd
  obtain ⟨k,q1,q2⟩ := PL hok hw hs h3 h2.len h2.bd
  have e : k = h := Sp.uniq hok (fun h => h.V hok) q2 p2
  exact ⟨c,r,h,h2,p2,h1,h3,p1,by rw [q1,e]⟩
theorem Tr19.bd (hok : CS t) {g : Int × Int} {r : Int → Nat} {h : List Int} (H : Tr19 t L g c r h) : ∀ v,VV t v → -1 ≤ hv h v ∧ hv h v ≤ 100 := fun v hV => by
  have := H.sp.lo v hV
  have := H.sp.toBs17.lt hok (fun h => h.V hok) hV
  have := hok.1.2.1
  omega
theorem Um (hok : CS t) (hw : Ib t L) {i : Nat} (hi : i < t.2.2.length) {r : Int → Nat} {h : List Int} (H : Tr19 t L t.2.2[i] c r h) : Ee t L (i : Int) = some (Hy t L c h t.2.2[i],0) ∧ Ge t (nz L) (i : Int) = some (Hy t L c h t.2.2[i],0) := by
  have h8 := hok.1.2.1
  have h1t := hok.1.1
  have hL : L.length ≤ 1000000 := by have := hw.2; have := hok.1.2.2.1; omega
  have hpo := hok.2.2 _ (List.getElem_mem hi)
  have hg := AO (zb hi)
  have hR := EG (t := t) (QQ hw.1) hL
  rw [Nu hw,decide_eq_true ⟨hok,hw⟩] at hR
  have hRr := KZ (t := t) hL
  rw [decide_eq_true ⟨hok,hw⟩] at hRr
  have hbd := H.bd hok
  have hhl := H.sp.len
  obtain ⟨n,hn⟩ : ∃ n : Nat,t.1 = n := ⟨t.1.toNat,by omega⟩
  have hn' : t.1.toNat = n := by omega
  constructor
  · obtain ⟨o,i1,e0⟩ := Bw n (fun (o : List Int) (k : Nat) => (o,(k : Int))) (Dc t L (i : Int) t.2.2[i] c h) id (fun o k => o = (List.range k).map fun k : Nat => GQ t L c h t.2.2[i] (k : Int))
      (fun o k hk i1 => by
        have hV : VV t (k : Int) := ⟨by omega,by omega⟩
        have hlo : o.length = k := by rw [i1]; simp
        obtain ⟨n1,_,_,_⟩ := HO hok (k : Int)
        refine ⟨o ++ [GQ t L c h t.2.2[i] (k : Int)], ?_,by rw [i1,List.range_succ,List.map_append]; rfl⟩
        rw [Dc,if_pos (by omega)]
        by_cases q : (k : Int) = t.2.2[i].1
        · rw [if_pos q,hg,za,za,n1,za,Rt hok hw H.best.len H.best.bd hhl hbd hV _ (by have := hpo.2.2.1; omega),za,if_neg (by have := hpo.2.2.1; omega),Cs (by simp; omega),za,za,AC (by omega)]
          rw [show GQ t L c h t.2.2[i] (k : Int) = t.2.2[i].2 from if_pos q]; rfl
        · rw [if_neg q,za,n1,za,Rt hok hw H.best.len H.best.bd hhl hbd hV _ (by omega),za,if_pos (by omega),Cs (by simp; omega),za,za,AC (by omega)]
          rw [show GQ t L c h t.2.2[i] (k : Int) = pick (A5 t k) (Ln L c h k) (-1) from if_neg q]; rfl)
      (fun o _ => by rw [Dc,if_neg (by omega)]; rfl) [] rfl
    have e0' : Am (Dc t L (i : Int) t.2.2[i] c h) ([],0) = some o := e0
    unfold Ee
    rw [hR,za,if_neg (by decide),if_neg (by simp; omega),hg,za,H.pc,za,H.ps,za,e0',za,i1]
    unfold Hy
    rw [hn']
  · obtain ⟨o,i1,e0⟩ := Bw n (fun (o : List Int) (k : Nat) => (o,(k : Int))) (Eo t (nz L) (i : Int) t.2.2[i] (nz c) h) id (fun o k => o = (List.range k).map fun k : Nat => GQ t L c h t.2.2[i] (k : Int))
      (fun o k hk i1 => by
        have hV : VV t (k : Int) := ⟨by omega,by omega⟩
        have hlo : o.length = k := by rw [i1]; simp
        obtain ⟨_,n1,_,n8⟩ := HO hok (k : Int)
        have hin := SU hok hw H.best.len H.best.bd hhl hbd hV (A5 t k).length (Nat.le_refl _)
        rw [List.drop_length,O8] at hin
        refine ⟨o ++ [GQ t L c h t.2.2[i] (k : Int)], ?_,by rw [i1,List.range_succ,List.map_append]; rfl⟩
        rw [Eo,if_pos (by omega),n1,za,AC (by omega),hin,za]
        by_cases q : (k : Int) = t.2.2[i].1
        · rw [if_pos q,hg,za,za,Cs (by simp; omega),za,za,AC (by omega)]
          rw [show GQ t L c h t.2.2[i] (k : Int) = t.2.2[i].2 from if_pos q]; rfl
        · rw [if_neg q,za,Cs (by simp; omega),za,za,AC (by omega)]
          rw [show GQ t L c h t.2.2[i] (k : Int) = pick (A5 t k) (Ln L c h k) (-1) from if_neg q]; rfl)
      (fun o _ => by rw [Eo,if_neg (by omega)]; rfl) [] rfl
    have e0' : Am (Eo t (nz L) (i : Int) t.2.2[i] (nz c) h) ([],0) = some o := e0
    unfold Ge
    rw [hRr,za,if_neg (by decide),if_neg (by simp; omega),hg,za,H.rc,za,H.rs,za,e0',za,i1]
    unfold Hy
    rw [hn']
theorem Tr19.far (hok : CS t) (hw : Ib t L) {g : Int × Int} {r : Int → Nat} {h : List Int} (H : Tr19 t L g c r h) : ∀ (n : Nat) (u : Int),r u = n → VV t u → wg c u ≠ C7 → 0 ≤ hv h u := by
  intro n
  induction n using Nat.strongRecOn with
  | ind n ih =>
    intro u hn hu hne
    rcases H.best.att u hu with e | e | ⟨v,k,he,e,hr⟩
    · exact absurd e hne
    · subst e; have := H.sp.src hu; omega
    · have hV := (he.V hok).2.1
      obtain ⟨_,hcost⟩ := hw.cost hok he
      have hbv := H.best.bd v hV
      have hbu := H.best.bd u hu
      have hge := Ta hcost hbv
      have hvn : wg c v ≠ C7 := fun q => hne (by rw [q] at hge; rw [e,q]; exact Nat.le_antisymm (by rw [e,q] at hbu; exact hbu) hge)
      have hup : Pg (wg L k) = true := Classical.byContradiction fun q => by
        rw [QT hcost q,QY hbv] at e
        exact hne e
      have h1 := ih (r v) (by omega) v rfl hV hvn
      exact (H.sp.up v u ⟨k,he,hup,hne,e.symm⟩ h1).1
theorem Tr19.next (hok : CS t) {g : Int × Int} {r : Int → Nat} {h : List Int} (H : Tr19 t L g c r h) {u : Int} (hu : VV t u) (hne : u ≠ g.1) (h0 : 0 ≤ hv h u) : ∃ x,FR t u x ∧ hv h x.2.1 = hv h u - 1 ∧ Q5 L c u x.2.1 x.2.2 ∧ GQ t L c h g u = x.1 ∧ 0 < hv h u := by
  obtain ⟨_,_,hN,_⟩ := HO hok u
  have hpos : 0 < hv h u := by
    have : hv h u ≠ 0 := fun e => hne (H.sp.zero u hu e)
    omega
  obtain ⟨v,⟨k,⟨p,hp⟩,hs⟩,e⟩ := H.sp.dn u hu hpos
  have hm : (p,v,k) ∈ A5 t u := (hN _).2 hp
  have hP : Ln L c h u (p,v,k) = true := decide_eq_true ⟨e,hs⟩
  have hpt : GQ t L c h g u = pick (A5 t u) (Ln L c h u) (-1) := if_neg hne
  unfold pick at hpt
  cases hf : (A5 t u).find? (Ln L c h u) with
  | none =>
    have := List.find?_eq_none.1 hf _ hm
    exact absurd hP this
  | some x =>
    rw [hf] at hpt
    have hx := List.mem_of_find?_eq_some hf
    have hx3 : Ln L c h u x = true := List.find?_some hf
    have hx2 := of_decide_eq_true hx3
    exact ⟨x,(hN x).1 hx,hx2.1,hx2.2,hpt,hpos⟩
theorem Tr19.none (hok : CS t) {g : Int × Int} {r : Int → Nat} {h : List Int} (H : Tr19 t L g c r h) {u : Int} (hu : VV t u) (hne : u ≠ g.1) (h0 : ¬ 0 ≤ hv h u) : GQ t L c h g u = -1 := by
  obtain ⟨_,_,hN,_⟩ := HO hok u
  have hpt : GQ t L c h g u = pick (A5 t u) (Ln L c h u) (-1) := if_neg hne
  rw [hpt]
  unfold pick
  cases hf : (A5 t u).find? (Ln L c h u) with
  | none => rfl
  | some x =>
    have hx := List.mem_of_find?_eq_some hf
    have hx3 : Ln L c h u x = true := List.find?_some hf
    have hx2 := (of_decide_eq_true hx3).1
    have he : E t u x.2.1 x.2.2 := ⟨x.1,(hN x).1 hx⟩
    have := H.sp.lo _ (he.V hok).2.1
    omega
theorem Tr19.port (hok : CS t) {g : Int × Int} (hgp : 0 ≤ g.2) {r : Int → Nat} {h : List Int} (H : Tr19 t L g c r h) {u : Int} (hu : VV t u) : (GQ t L c h g u = -1 ∧ u ≠ g.1 ∧ ¬ 0 ≤ hv h u) ∨ (0 ≤ GQ t L c h g u ∧ 0 ≤ hv h u) := by
  by_cases q : u = g.1
  · refine .inr ⟨by rw [show GQ t L c h g u = g.2 from if_pos q]; exact hgp, ?_⟩
    rw [q] at hu ⊢
    have := H.sp.src hu
    omega
  · by_cases q2 : 0 ≤ hv h u
    · obtain ⟨x,hx,_,_,e,_⟩ := H.next hok hu q q2
      exact .inr ⟨by rw [e]; exact (Gk hok hx).1,q2⟩
    · exact .inl ⟨H.none hok hu q q2,q,q2⟩
end
end
end Go.Proofs.YtbiekjhlijdjbaaGreat
namespace Go.Proofs.YtbiekjhlijdjbaaGreat
section
variable {t : Tp} {L : List Nat}
structure Ps19 (t : Tp) (L : List Nat) (P : Nat → List Int) : Prop where
  tree : ∀ i,i < t.2.2.length → Ee t L (i : Int) = some (P i,0) ∧ Ge t (nz L) (i : Int) = some (P i,0)
  len : ∀ i,i < t.2.2.length → ((P i).length : Int) = t.1
  port : ∀ i,i < t.2.2.length → ∀ u,VV t u → -1 ≤ hv (P i) u
theorem Wv (hok : CS t) (hw : Ib t L) : ∃ P,Ps19 t L P ∧ ∀ i (hi : i < t.2.2.length), ∃ c r h,Tr19 t L t.2.2[i] c r h ∧ P i = Hy t L c h t.2.2[i] := by
  have hx : ∀ i : Nat, ∃ p : List Int, ∀ hi : i < t.2.2.length, ∃ c r h,Tr19 t L t.2.2[i] c r h ∧ p = Hy t L c h t.2.2[i] := fun i => by
    by_cases hi : i < t.2.2.length
    · have hpo := hok.2.2 _ (List.getElem_mem hi)
      obtain ⟨c,r,h,H⟩ := Yt (L := L) (g := t.2.2[i]) hok hw ⟨hpo.1,hpo.2.1⟩
      exact ⟨Hy t L c h t.2.2[i],fun _ => ⟨c,r,h,H,rfl⟩⟩
    · exact ⟨[],fun h => absurd h hi⟩
  refine ⟨fun i => (hx i).choose,⟨fun i hi => ?_,fun i hi => ?_,fun i hi u hu => ?_⟩,fun i hi => (hx i).choose_spec hi⟩
  · obtain ⟨c,r,h,H,e⟩ := (hx i).choose_spec hi
    show Ee t L (i : Int) = some ((hx i).choose,0) ∧ _
    rw [e]
    exact Um hok hw hi H
  · obtain ⟨c,r,h,H,e⟩ := (hx i).choose_spec hi
    show (((hx i).choose.length : Nat) : Int) = _
    rw [e]; exact Vf hok
  · obtain ⟨c,r,h,H,e⟩ := (hx i).choose_spec hi
    have hpo := hok.2.2 _ (List.getElem_mem hi)
    show -1 ≤ hv ((hx i).choose) u
    rw [e,XI hu]
    rcases H.port hok hpo.2.2.1 hu with q | q <;> omega
abbrev Oa (t : Tp) (P : Nat → List Int) : Prop := ∃ i,i < t.2.2.length ∧ ∃ k : Nat,(k : Int) < t.1 ∧ hv (P i) (k : Int) < 0
def Ei (P : Nat → List Int) (m k : Nat) : List Int := (List.range m).map fun i => hv (P i) (k : Int)
theorem Pc (P : Nat → List Int) (m k : Nat) : Ei P (m + 1) k = Ei P m k ++ [hv (P m) (k : Int)] := by unfold Ei; rw [List.range_succ,List.map_append]; rfl
theorem NI (P : Nat → List Int) (m k : Nat) : (Ei P m k).length = m := by unfold Ei; simp
def Cw (t : Tp) (P : Nat → List Int) (m j : Nat) : List (Nat × List Int) := (List.range t.1.toNat).map fun k => (2,Ei P (if k < j then m + 1 else m) k)
theorem FA (P : Nat → List Int) (m j : Nat) : (Cw t P m j).length = t.1.toNat := by unfold Cw; simp
theorem Ga (P : Nat → List Int) (m j k : Nat) (h : k < t.1.toNat) : (Cw t P m j)[k]? = some (2,Ei P (if k < j then m + 1 else m) k) := by
  unfold Cw
  rw [List.getElem?_map,List.getElem?_range h]; rfl
open Classical in
theorem RK (hok : CS t) {P : Nat → List Int} (H : Ps19 t L P) {m : Nat} (hm : m < t.2.2.length) (e : Int) : ∀ (d j : Nat),(j : Int) + d = t.1 → (∀ k : Nat,k < j → 0 ≤ hv (P m) (k : Int)) →
    Am (BJ (P m,e)) (Cw t P m j,(j : Int)) = some (if ∃ k : Nat,(k : Int) < t.1 ∧ hv (P m) (k : Int) < 0 then .inr (.inr (.inr ([],7))) else .inl (Cw t P (m + 1) 0)) := by
  have h8 := hok.1.2.1
  have h1t := hok.1.1
  have hh := hok.1.2.2.2
  have hlen := H.len m hm
  intro d
  induction d with
  | zero =>
    intro j hj hk
    rw [if_neg (fun ⟨k,k1,k2⟩ => by have := hk k (by omega); omega)]
    have e1 : Cw t P m j = Cw t P (m + 1) 0 := by
      refine List.ext_getElem? fun k => ?_
      by_cases hk2 : k < t.1.toNat
      · rw [Ga P m j k hk2,Ga P (m + 1) 0 k hk2,if_pos (by omega),if_neg (by omega)]
      · rw [List.getElem?_eq_none (by rw [FA]; omega),List.getElem?_eq_none (by rw [FA]; omega)]
    refine AJ ?_
    rw [BJ,if_neg (show ¬ (j : Int) < ((P m).length : Int) by omega),e1]
  | succ d ih =>
    intro j hj hk
    have hV : VV t (j : Int) := ⟨by omega,by omega⟩
    have hp := E0 (h := P m) hV.1 (by omega)
    by_cases q : hv (P m) (j : Int) < 0
    · rw [if_pos ⟨j,by omega,q⟩]
      exact AJ (by rw [BJ,if_pos (show (j : Int) < ((P m).length : Int) by omega),hp,za,if_pos q])
    · have hjn : j < t.1.toNat := by omega
      have hg := Ga (t := t) P m j j hjn
      rw [if_neg (by omega)] at hg
      have hset : ∀ (x : Nat × List Int),(Ao (Cw t P m j) (j : Int) x)[j]? = some x := fun x => by
        unfold Ao
        rw [Int.toNat_natCast,List.getElem?_set_self (by rw [FA]; exact hjn)]
      have hst : BJ (P m,e) (Cw t P m j,(j : Int)) = some (.inl (Cw t P m (j + 1),((j + 1 : Nat) : Int))) := by
        rw [BJ,if_pos (show (j : Int) < ((P m).length : Int) by omega),hp,za,if_neg q,AO hg,za,show UV 2 = some () from rfl,za,Cs (by rw [NI]; simp; omega),za,AO (hset _),za,AC (by omega)]
        have e1 : Ao (Ao (Cw t P m j) (j : Int) (0,[])) (j : Int) (2,Ei P m j ++ [hv (P m) (j : Int)]) = Cw t P m (j + 1) := by
          unfold Ao
          rw [Int.toNat_natCast,List.set_set]
          refine List.ext_getElem? fun k => ?_
          by_cases hk2 : k < t.1.toNat
          · rw [Ga P m (j + 1) k hk2,List.getElem?_set]
            by_cases ek : j = k
            · subst ek
              rw [if_pos rfl,if_pos (by rw [FA]; exact hjn),if_pos (by omega),Pc]
            · rw [if_neg ek,Ga P m j k hk2]
              by_cases lt : k < j
              · rw [if_pos lt,if_pos (by omega)]
              · rw [if_neg lt,if_neg (by omega)]
          · rw [List.getElem?_eq_none (by rw [List.length_set,FA]; omega),List.getElem?_eq_none (by rw [FA]; omega)]
        rw [e1]; rfl
      rw [BI hst]
      exact ih (j + 1) (by omega) (fun k hk2 => by
        by_cases ek : k = j
        · rw [ek]; omega
        · exact hk k (by omega))
open Classical in
theorem PY (hok : CS t) {P : Nat → List Int} (H : Ps19 t L P) : ∀ (d m : Nat),m + d = t.2.2.length → (∀ i,i < m → ∀ k : Nat,(k : Int) < t.1 → 0 ≤ hv (P i) (k : Int)) →
    GU (Am (Cd t L) (Cw t P m 0,(m : Int))) (fun x3 => some (x3,0)) = some (if Oa t P then ([],7) else (Cw t P t.2.2.length 0,0)) := by
  have hh := hok.1.2.2.2
  have h1t := hok.1.1
  intro d
  induction d with
  | zero =>
    intro m hm hi
    rw [if_neg (fun ⟨i,i1,k,k1,k2⟩ => by have := hi i (by omega) k k1; omega),AJ (e := .inl (Cw t P m 0)) (by rw [Cd,if_neg (by omega)])]
    rw [show m = t.2.2.length by omega]; rfl
  | succ d ih =>
    intro m hm hi
    have hml : m < t.2.2.length := by omega
    have hin := RK hok H hml 0 t.1.toNat 0 (by omega) (fun k hk => by omega)
    by_cases q : ∃ k : Nat,(k : Int) < t.1 ∧ hv (P m) (k : Int) < 0
    · rw [if_pos q] at hin
      obtain ⟨k,k1,k2⟩ := q
      rw [if_pos ⟨m,hml,k,k1,k2⟩,AJ (e := .inr ([],7)) (by rw [Cd,if_pos (by omega),(H.tree m hml).1,za,show Am (BJ (P m,0)) (Cw t P m 0,0) = _ from hin]; rfl)]; rfl
    · rw [if_neg q] at hin
      have hst : Cd t L (Cw t P m 0,(m : Int)) = some (.inl (Cw t P (m + 1) 0,((m + 1 : Nat) : Int))) := by
        rw [Cd,if_pos (by omega),(H.tree m hml).1,za,show Am (BJ (P m,0)) (Cw t P m 0,0) = _ from hin]
        show some (Sum.inl (_,w64 ((m : Int) + 1))) = _
        rw [AC (by omega)]; rfl
      rw [BI hst]
      refine ih (m + 1) (by omega) fun i hi2 k hk => ?_
      by_cases e : i = m
      · rw [e]
        exact Classical.byContradiction fun hn => q ⟨k,hk,by omega⟩
      · exact hi i (by omega) k hk
open Classical in
theorem OY (hok : CS t) (hw : Ib t L) {P : Nat → List Int} (H : Ps19 t L P) : C4 t L = some (if Oa t P then ([],7) else (Cw t P t.2.2.length 0,0)) := by
  have h8 := hok.1.2.1
  have h1t := hok.1.1
  have hL : L.length ≤ 1000000 := by have := hw.2; have := hok.1.2.2.1; omega
  have hR := EG (t := t) (QQ hw.1) hL
  rw [Nu hw,decide_eq_true ⟨hok,hw⟩] at hR
  have e1 : List.replicate t.1.toNat ((2,[]) : Nat × List Int) = Cw t P 0 0 := by
    refine List.ext_getElem? fun k => ?_
    by_cases hk2 : k < t.1.toNat
    · rw [Ga P 0 0 k hk2,List.getElem?_replicate,if_pos hk2,if_neg (by omega)]; rfl
    · rw [List.getElem?_eq_none (by simp; omega),List.getElem?_eq_none (by rw [FA]; omega)]
  unfold C4
  rw [hR,za,if_neg (by decide),Id (by omega),za,e1]
  exact PY hok H t.2.2.length 0 (by omega) (fun i hi => by omega)
open Classical in
theorem Py (hok : CS t) {P : Nat → List Int} (H : Ps19 t L P) {j : Nat} (hj : (j : Int) < t.1) : ∀ (d m : Nat),m + d = t.2.2.length → (∀ i,i < m → 0 ≤ hv (P i) (j : Int)) →
    Am (B2 t (nz L) (j : Int)) (Ei P m j,(m : Int)) = some (if ∃ i,i < t.2.2.length ∧ hv (P i) (j : Int) < 0 then .inr (.inr (.inr (.inr ([],7)))) else .inl (Ei P t.2.2.length j)) := by
  have hh := hok.1.2.2.2
  intro d
  induction d with
  | zero =>
    intro m hm hi
    rw [if_neg (fun ⟨i,i1,i2⟩ => by have := hi i (by omega); omega)]
    refine AJ ?_
    rw [B2,if_neg (by omega),show m = t.2.2.length by omega]
  | succ d ih =>
    intro m hm hi
    have hml : m < t.2.2.length := by omega
    have hV : VV t (j : Int) := ⟨by omega,by omega⟩
    have hlen := H.len m hml
    have hpo := H.port m hml _ hV
    have hp := E0 (h := P m) hV.1 (by omega)
    by_cases q : hv (P m) (j : Int) < 0
    · rw [if_pos ⟨m,hml,q⟩]
      exact AJ (by rw [B2,if_pos (by omega),(H.tree m hml).2,za,hp,za,if_pos (by omega)])
    · have hst : B2 t (nz L) (j : Int) (Ei P m j,(m : Int)) = some (.inl (Ei P (m + 1) j,((m + 1 : Nat) : Int))) := by
        rw [B2,if_pos (by omega),(H.tree m hml).2,za,hp,za,if_neg (by omega),za,Cs (by rw [NI]; simp; omega),za,AC (by omega),Pc]; rfl
      rw [BI hst]
      refine ih (m + 1) (by omega) fun i hi2 => ?_
      by_cases e : i = m
      · rw [e]; omega
      · exact hi i (by omega)
def HH (t : Tp) (P : Nat → List Int) : List (List Int) := (List.range t.1.toNat).map fun k => Ei P t.2.2.length k
open Classical in
theorem OZ (hok : CS t) {P : Nat → List Int} (H : Ps19 t L P) : ∀ (d j : Nat),(j : Int) + d = t.1 → (∀ k : Nat,k < j → ∀ i,i < t.2.2.length → 0 ≤ hv (P i) (k : Int)) →
    GU (Am (CI t (nz L)) ((List.range j).map fun k => Ei P t.2.2.length k,(j : Int))) (fun x2 => some (x2,0)) = some (if Oa t P then ([],7) else (HH t P,0)) := by
  have h8 := hok.1.2.1
  intro d
  induction d with
  | zero =>
    intro j hj hk
    rw [if_neg (fun ⟨i,i1,k,k1,k2⟩ => by have := hk k (by omega) i i1; omega),AJ (e := .inl ((List.range j).map fun k => Ei P t.2.2.length k)) (by rw [CI,if_neg (by omega)])]
    unfold HH
    rw [show j = t.1.toNat by omega]; rfl
  | succ d ih =>
    intro j hj hk
    have hin := Py hok H (j := j) (by omega) t.2.2.length 0 (by omega) (fun i hi => by omega)
    have e0 : Ei P 0 j = [] := rfl
    rw [e0] at hin
    by_cases q : ∃ i,i < t.2.2.length ∧ hv (P i) (j : Int) < 0
    · rw [if_pos q] at hin
      obtain ⟨i,i1,i2⟩ := q
      rw [if_pos ⟨i,i1,j,by omega,i2⟩,AJ (e := .inr ([],7)) (by rw [CI,if_pos (by omega),show Am (B2 t (nz L) (j : Int)) ([],0) = _ from hin]; rfl)]; rfl
    · rw [if_neg q] at hin
      have hst : CI t (nz L) ((List.range j).map (fun k => Ei P t.2.2.length k),(j : Int)) = some (.inl ((List.range (j + 1)).map (fun k => Ei P t.2.2.length k),((j + 1 : Nat) : Int))) := by
        rw [CI,if_pos (by omega),show Am (B2 t (nz L) (j : Int)) ([],0) = _ from hin]
        show GU ((app ((List.range j).map fun k => Ei P t.2.2.length k) [Ei P t.2.2.length j]).bind fun x13 => some (.inl x13)) _ = _
        rw [Cs (by simp; omega),za]
        show some (Sum.inl (_,w64 ((j : Int) + 1))) = _
        rw [AC (by omega),List.range_succ,List.map_append]; rfl
      rw [BI hst]
      refine ih (j + 1) (by omega) fun k hk2 i hi => ?_
      by_cases e : k = j
      · rw [e]
        exact Classical.byContradiction fun hn => q ⟨i,hi,by omega⟩
      · exact hk k (by omega) i hi
open Classical in
theorem Qm (hok : CS t) (hw : Ib t L) {P : Nat → List Int} (H : Ps19 t L P) : Ed t (nz L) = some (if Oa t P then ([],7) else (HH t P,0)) := by
  have h1t := hok.1.1
  have hL : L.length ≤ 1000000 := by have := hw.2; have := hok.1.2.2.1; omega
  unfold Ed
  rw [KZ hL,za,decide_eq_true ⟨hok,hw⟩,if_neg (by decide)]
  exact OZ hok H t.1.toNat 0 (by omega) (fun k hk => by omega)
end
theorem OT {t : Tp} {L : List Nat} (hL : ∀ x ∈ L,GT x) (hl : L.length ≤ 1000000) : ∃ (R : List (Nat × List Int)) (Q : List (List Int)) (e : Int),C4 t (L.map FE) = some (R,e) ∧ Ed t (nz L) = some (Q,e) ∧ R = Q.map (fun l => (2,l)) ∧ Q.length ≤ 100 ∧ ∀ l ∈ Q,l.length ≤ 100 := by
  by_cases ok : CS t ∧ Ib t L
  · obtain ⟨hok,hw⟩ := ok
    obtain ⟨P,H,_⟩ := Wv (L := L) hok hw
    have h1 := OY hok hw H
    have h2 := Qm hok hw H
    rw [Nu hw]
    by_cases b : Oa t P
    · rw [if_pos b] at h1 h2
      exact ⟨[],[],7,h1,h2,rfl,by simp,by simp⟩
    · rw [if_neg b] at h1 h2
      have h8 := hok.1.2.1
      have hh := hok.1.2.2.2
      refine ⟨_,_,0,h1,h2, ?_,by unfold HH; simp; omega,fun l hl2 => ?_⟩
      · unfold Cw HH
        rw [List.map_map]
        rfl
      · unfold HH at hl2
        obtain ⟨k,_,rfl⟩ := List.mem_map.1 hl2
        rw [NI]; omega
  · refine ⟨[],[],2, ?_, ?_,rfl,by simp,by simp⟩
    · unfold C4
      rw [EG hL hl,decide_eq_false ok]; rfl
    · unfold Ed
      rw [KZ hl,decide_eq_false ok]; rfl
end Go.Proofs.YtbiekjhlijdjbaaGreat
