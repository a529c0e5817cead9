/- Layer 19: costs. Conditions: none. -/
import Derived.Test.YtbiekjhlijdjbaaGreatbM19A
import Derived.Test.YtbiekjhlijdjbaaGreatbM19F
set_option linter.unusedVariables false
set_option linter.unusedSimpArgs false
open Go Go.RowKit
namespace Go.Proofs.YtbiekjhlijdjbaaGreat
def E (t : Tp) (u v k : Int) : Prop := ∃ p,FR t u (p,v,k)
theorem QC {x : Lk} (hne : x.1 ≠ x.2.2.1) {i : Nat} {u p v k : Int} (h : (p,v,k) ∈ Nw u i x) : k = (i : Int) ∧ ((u = x.1 ∧ v = x.2.2.1 ∧ p = x.2.1) ∨ (u = x.2.2.1 ∧ v = x.1 ∧ p = x.2.2.2.1)) := by
  unfold Nw at h
  by_cases c : u = x.1
  · rw [if_pos c,List.mem_singleton] at h
    cases h
    exact ⟨rfl,.inl ⟨c,rfl,rfl⟩⟩
  · rw [if_neg c] at h
    by_cases c2 : u = x.2.2.1
    · rw [if_pos c2,List.mem_singleton] at h
      cases h
      exact ⟨rfl,.inr ⟨c2,rfl,rfl⟩⟩
    · rw [if_neg c2] at h; cases h
theorem E.symm {t : Tp} (hok : CS t) {u v k : Int} (h : E t u v k) : E t v u k := by
  obtain ⟨p,i,x,h1,h2⟩ := h
  have hne := (hok.2.1 x (List.mem_of_getElem? h1)).1
  obtain ⟨rfl,⟨a,b,_⟩ | ⟨a,b,_⟩⟩ := QC hne h2
  · exact ⟨x.2.2.2.1,i,x,h1,by unfold Nw; rw [if_neg (fun e => hne (e.symm.trans b).symm.symm |>.elim),if_pos b,a]; simp⟩
  · exact ⟨x.2.1,i,x,h1,by unfold Nw; rw [if_pos b,a]; simp⟩
theorem E.V {t : Tp} (hok : CS t) {u v k : Int} (h : E t u v k) : VV t u ∧ VV t v ∧ u ≠ v ∧ 0 ≤ k ∧ k < (t.2.1.length : Int) := by
  obtain ⟨p,i,x,h1,h2⟩ := h
  have hi := (List.getElem?_eq_some_iff.1 h1).1
  obtain ⟨hne,_,_,_,k5,k6⟩ := hok.2.1 x (List.mem_of_getElem? h1)
  have a1 := k5.1
  have a2 := k5.2.1
  have a3 := k6.1
  have a4 := k6.2.1
  simp only at a1 a2 a3 a4
  obtain ⟨rfl,⟨a,b,_⟩ | ⟨a,b,_⟩⟩ := QC hne h2
  · subst a b; exact ⟨⟨a1,a2⟩,⟨a3,a4⟩,hne,by omega,by omega⟩
  · subst a b; exact ⟨⟨a3,a4⟩,⟨a1,a2⟩,fun e => hne e.symm,by omega,by omega⟩
theorem Th {a b : Nat} (ha : BH a) (hb : b ≤ C7) : GD a b ≤ C7 := Rr ha (DQ hb)
theorem KN {a b c : Nat} (ha : BH a) (hb : b ≤ c) (hc : c ≤ C7) : GD a b ≤ GD a c := Sb ha (DQ (Nat.le_trans hb hc)) (DQ hc) (by rw [J1 (Nat.le_trans hb hc),J1 hc]; exact hb)
theorem Ta {a b : Nat} (ha : BH a) (hb : b ≤ C7) : b ≤ GD a b := by
  have h := UR (DQ hb) ha
  rw [J1 hb,Se (DQ hb) ha] at h
  exact h
theorem QY {b : Nat} (hb : b ≤ C7) : GD C7 b = C7 := by
  show Bm C7 b = C7
  rw [EW (DQ (Nat.le_refl _)) (DQ hb),if_pos (.inl rfl)]
theorem Uh {a : Nat} (ha : BH a) : Pg a = true ↔ rn a ≠ C7 := by
  obtain ⟨h1,h2⟩ := FX ha
  have h3 := V7 ha
  unfold Pg
  rw [decide_eq_true_eq,h1]
  constructor
  · rintro ⟨_,h⟩ e; rw [e] at h; exact absurd h (by decide)
  · intro h; exact ⟨h2,by have : rn a ≠ 9218868437227405312 := h; omega⟩
theorem QT {a : Nat} (ha : BH a) (h : ¬ Pg a = true) : a = C7 := by
  have h1 : rn a = C7 := Classical.byContradiction fun hn => h ((Uh ha).2 hn)
  unfold rn at h1
  split at h1
  · cases h1
  · exact h1
theorem Ld {c : List Nat} {v : Int} {y : Nat} : (Ao c v y).length = c.length := by unfold Ao; simp
theorem Qq {c : List Nat} {v u : Int} {y : Nat} (h0 : 0 ≤ v) (h1 : v < (c.length : Int)) (h2 : 0 ≤ u) : wg (Ao c v y) u = if u = v then y else wg c u := by
  unfold wg Ao
  rw [List.getD_eq_getElem?_getD,List.getElem?_set]
  by_cases e : u = v
  · subst e
    rw [if_pos rfl,if_pos rfl,if_pos (by omega)]; rfl
  · rw [if_neg (by omega),if_neg e,List.getD_eq_getElem?_getD]
theorem Uk {n : Nat} {x : Nat} {v : Int} (h0 : 0 ≤ v) (h1 : v < n) : wg (List.replicate n x) v = x := by
  unfold wg
  rw [List.getD_eq_getElem?_getD,List.getElem?_replicate,if_pos (by omega)]; rfl
theorem TQ {a b : List Nat} (hl : a.length = b.length) (he : ∀ v : Int,0 ≤ v → v < (a.length : Int) → wg a v = wg b v) : a = b := by
  apply List.ext_getElem hl
  intro i h1 h2
  have := he (i : Int) (by omega) (by omega)
  unfold wg at this
  rw [Int.toNat_natCast,List.getD_eq_getElem?_getD,List.getD_eq_getElem?_getD,zb h1,zb h2] at this
  exact this
abbrev Ib (t : Tp) (L : List Nat) : Prop := Wc L ∧ (L.length : Int) = (t.2.1.length : Int)
theorem Ib.cost {t : Tp} {L : List Nat} (hw : Ib t L) (hok : CS t) {u v k : Int} (h : E t u v k) : In L k ∧ BH (wg L k) := by
  have := (h.V hok).2.2.2
  have hi : In L k := ⟨this.1,by rw [hw.2]; exact this.2⟩
  exact ⟨hi,UZ hw.1 hi⟩
structure Sol (t : Tp) (L : List Nat) (s : Int) (c : List Nat) : Prop where
  len : (c.length : Int) = t.1
  src : wg c s = 0
  bd : ∀ v,VV t v → wg c v ≤ C7
  edge : ∀ u v k,E t u v k → wg c u ≤ GD (wg L k) (wg c v)
structure Best (t : Tp) (L : List Nat) (s : Int) (r : Int → Nat) (c : List Nat) : Prop extends Sol t L s c where
  rk : ∀ v,VV t v → (r v : Int) < t.1
  att : ∀ u,VV t u → wg c u = C7 ∨ u = s ∨ ∃ v k,E t u v k ∧ wg c u = GD (wg L k) (wg c v) ∧ r v < r u
section
variable {t : Tp} {L : List Nat} {s : Int}
theorem Sol.le (hok : CS t) (hw : Ib t L) {c d : List Nat} {r : Int → Nat} (H : Sol t L s c) (G : Best t L s r d) : ∀ (n : Nat) (u : Int),r u = n → VV t u → wg c u ≤ wg d u := by
  intro n
  induction n using Nat.strongRecOn with
  | ind n ih =>
    intro u hn hu
    rcases G.att u hu with h | h | ⟨v,k,he,h,hr⟩
    · rw [h]; exact H.bd u hu
    · subst h; rw [H.src]; exact Nat.zero_le _
    · have hV := (he.V hok).2.1
      rw [h]
      exact Nat.le_trans (H.edge u v k he) (KN (hw.cost hok he).2 (ih (r v) (by omega) v rfl hV) (G.bd v hV))
theorem Best.uniq (hok : CS t) (hw : Ib t L) {c d : List Nat} {r q : Int → Nat} (H : Best t L s r c) (G : Best t L s q d) : c = d := by
  have h1 := H.len
  have h2 := G.len
  refine TQ (by omega) fun v h0 hv => Nat.le_antisymm ?_ ?_
  · exact H.toSol.le hok hw G _ v rfl ⟨h0,by omega⟩
  · exact G.toSol.le hok hw H _ v rfl ⟨h0,by omega⟩
structure Rnd (t : Tp) (L : List Nat) (c c' : List Nat) : Prop where
  len : c'.length = c.length
  le : ∀ v,VV t v → wg c' v ≤ wg c v
  edge : ∀ u v k,E t u v k → wg c' u ≤ GD (wg L k) (wg c v)
  one : ∀ u,VV t u → wg c' u = wg c u ∨ ∃ v k,E t u v k ∧ wg c' u = GD (wg L k) (wg c v)
theorem Rnd.keeps (hok : CS t) (hw : Ib t L) {D c c' : List Nat} {r : Int → Nat} (H : Best t L s r D) (R : Rnd t L c c') {n : Nat}
    (h : ∀ u,VV t u → wg D u ≤ wg c u ∧ wg c u ≤ C7 ∧ (r u < n ∨ u = s → wg c u ≤ wg D u)) : ∀ u,VV t u → wg D u ≤ wg c' u ∧ wg c' u ≤ C7 ∧ (r u < n + 1 ∨ u = s → wg c' u ≤ wg D u) := by
  intro u hu
  obtain ⟨h1,h2,h3⟩ := h u hu
  refine ⟨?_,Nat.le_trans (R.le u hu) h2,fun hr => ?_⟩
  · rcases R.one u hu with e | ⟨v,k,he,e⟩
    · rw [e]; exact h1
    · have hV := (he.V hok).2.1
      rw [e]
      exact Nat.le_trans (H.edge u v k he) (KN (hw.cost hok he).2 (h v hV).1 (h v hV).2.1)
  · rcases H.att u hu with e | e | ⟨v,k,he,e,hlt⟩
    · rw [e]; exact Nat.le_trans (R.le u hu) h2
    · exact Nat.le_trans (R.le u hu) (h3 (.inr e))
    · have hV := (he.V hok).2.1
      rcases hr with hr | hr
      · rw [e]
        exact Nat.le_trans (R.edge u v k he) (KN (hw.cost hok he).2 ((h v hV).2.2 (.inl (by omega))) (H.bd v hV))
      · exact Nat.le_trans (R.le u hu) (h3 (.inr hr))
theorem Jg {c : List Nat} : (nz c).length = c.length := List.length_map _
theorem Pa {u : Int} (hok : CS t) {N : List Sd} (h : ∀ x,x ∈ N ↔ FR t u x) (hp : N.Pairwise fun a b => a.1 < b.1) : N.length ≤ 8 := by
  have h1 : (N.map (·.1)).Nodup := by
    rw [List.nodup_iff_pairwise_ne,List.pairwise_map]
    exact hp.imp fun h => by omega
  have h2 := B6 8 (N.map (·.1)) h1 (fun x hx => by
    obtain ⟨y,hy,rfl⟩ := List.mem_map.1 hx
    have := Gk hok ((h y).1 hy)
    omega)
  rwa [List.length_map] at h2
theorem PP (hok : CS t) (hw : Ib t L) {c : List Nat} (hc : (c.length : Int) = t.1) (hb : ∀ v,VV t v → wg c v ≤ C7) {u : Int} {N : List Sd} (hN : ∀ x ∈ N,FR t u x) (hl : N.length ≤ 8) (b0 : Nat) :
    ∃ b : Nat,Am (C0 (nz L) (nz c) N) ((b0 : Int),0) = some (b : Int) ∧ b ≤ b0 ∧ (∀ x ∈ N,b ≤ GD (wg L x.2.2) (wg c x.2.1)) ∧ (b = b0 ∨ ∃ x ∈ N,b = GD (wg L x.2.2) (wg c x.2.1)) := by
  obtain ⟨b,h1,h2⟩ := Bw N.length (fun (b : Nat) (i : Nat) => ((b : Int),(i : Int))) (C0 (nz L) (nz c) N) (fun b => (b : Int))
    (fun b i => b ≤ b0 ∧ (∀ x ∈ N.take i,b ≤ GD (wg L x.2.2) (wg c x.2.1)) ∧ (b = b0 ∨ ∃ x ∈ N,b = GD (wg L x.2.2) (wg c x.2.1)))
    (fun b i hi ⟨i1,i2,i3⟩ => by
      have hg := AO (zb hi)
      have hm := List.getElem_mem hi
      have he : E t u N[i].2.1 N[i].2.2 := ⟨N[i].1,hN _ hm⟩
      have hV := (he.V hok).2.1
      have hk := (hw.cost hok he).1
      have hst : C0 (nz L) (nz c) N ((b : Int),(i : Int)) = some (.inl ((((if GD (wg L N[i].2.2) (wg c N[i].2.1) < b then GD (wg L N[i].2.2) (wg c N[i].2.1) else b : Nat) : Int)),((i + 1 : Nat) : Int))) := by
        rw [C0,if_pos (by omega),hg,za,JV hk,za,za,JV (show In c N[i].2.1 from ⟨hV.1,by omega⟩),za,Pd,AC (by omega)]
        by_cases q : GD (wg L N[i].2.2) (wg c N[i].2.1) < b
        · rw [if_pos (by omega),if_pos q]; rfl
        · rw [if_neg (by omega),if_neg q]; rfl
      refine ⟨_,hst, ?_⟩
      rw [List.take_succ_eq_append_getElem hi]
      by_cases q : GD (wg L N[i].2.2) (wg c N[i].2.1) < b
      · rw [if_pos q]
        refine ⟨by omega,fun x hx => ?_,.inr ⟨_,hm,rfl⟩⟩
        rcases List.mem_append.1 hx with hx | hx
        · have := i2 x hx; omega
        · rw [List.mem_singleton.1 hx]; exact Nat.le_refl _
      · rw [if_neg q]
        refine ⟨i1,fun x hx => ?_,i3⟩
        rcases List.mem_append.1 hx with hx | hx
        · exact i2 x hx
        · rw [List.mem_singleton.1 hx]; omega)
    (fun b _ => by rw [C0,if_neg (by omega)]) b0 ⟨Nat.le_refl _,by simp,.inl rfl⟩
  rw [List.take_length] at h1
  exact ⟨b,h2,h1⟩
theorem WD {c : List Nat} {y : Nat} {v : Int} (h0 : 0 ≤ v) : wg (c ++ [y]) v = if v = (c.length : Int) then y else wg c v := by
  unfold wg
  rw [List.getD_eq_getElem?_getD,List.getD_eq_getElem?_getD]
  by_cases e : v = (c.length : Int)
  · rw [if_pos e,e,Int.toNat_natCast,List.getElem?_append_right (Nat.le_refl _)]; simp
  · rw [if_neg e]
    by_cases c2 : v.toNat < c.length
    · rw [List.getElem?_append_left c2]
    · rw [List.getElem?_eq_none (by simp; omega),List.getElem?_eq_none (by omega)]
theorem Sw (hok : CS t) (hw : Ib t L) {c : List Nat} (hc : (c.length : Int) = t.1) (hb : ∀ v,VV t v → wg c v ≤ C7) : ∃ c',Am (DM t (nz L) (nz c)) ([],0) = some (nz c') ∧ Rnd t L c c' := by
  have h8 := hok.1.2.1
  obtain ⟨c',⟨i1,i2⟩,h2⟩ := Bw c.length (fun (o : List Nat) (i : Nat) => (nz o,(i : Int))) (DM t (nz L) (nz c)) nz
    (fun o i => o.length = i ∧ ∀ u : Int,0 ≤ u → u < (i : Int) → wg o u ≤ wg c u ∧ (∀ v k,E t u v k → wg o u ≤ GD (wg L k) (wg c v)) ∧ (wg o u = wg c u ∨ ∃ v k,E t u v k ∧ wg o u = GD (wg L k) (wg c v)))
    (fun o i hi ⟨i1,i2⟩ => by
      obtain ⟨N,n1,n2,n3⟩ := IF hok (i : Int)
      have hl := Pa hok n2 n3
      obtain ⟨b,b1,b2,b3,b4⟩ := PP hok hw hc hb (u := (i : Int)) (fun x hx => (n2 x).1 hx) hl (wg c (i : Int))
      refine ⟨o ++ [b], ?_,by simp [i1],fun u u0 u1 => ?_⟩
      · rw [DM,if_pos (by omega),JV (show In c (i : Int) from ⟨by omega,by omega⟩),za,n1,za,b1,za,Cs (by rw [Jg]; simp; omega),za,za,AC (by omega)]
        show some (Sum.inl (nz o ++ [(b : Int)],_)) = some (Sum.inl (nz (o ++ [b]),_))
        rw [show nz (o ++ [b]) = nz o ++ [(b : Int)] from by simp [nz]]; rfl
      · rw [WD u0,i1]
        by_cases e : u = (i : Int)
        · rw [if_pos e,e]
          refine ⟨b2,fun v k he => ?_, ?_⟩
          · obtain ⟨p,hp⟩ := he
            exact b3 (p,v,k) ((n2 _).2 hp)
          · rcases b4 with h | ⟨x,hx,h⟩
            · exact .inl h
            · exact .inr ⟨x.2.1,x.2.2,⟨x.1,(n2 x).1 hx⟩,h⟩
        · rw [if_neg e]; exact i2 u u0 (by omega))
    (fun o hI => by rw [DM,if_neg (by omega)]) [] ⟨rfl,fun u u0 u1 => by omega⟩
  refine ⟨c',h2,⟨i1,fun v hv => (i2 v hv.1 (by have := hv.2; omega)).1,fun u v k he => ?_,fun u hu => (i2 u hu.1 (by have := hu.2; omega)).2.2⟩⟩
  have hV := (he.V hok).1
  exact (i2 u hV.1 (by have := hV.2; omega)).2.1 v k he
theorem P8 (hok : CS t) (hw : Ib t L) {D : List Nat} {r : Int → Nat} (hs : VV t s) (H : Best t L s r D) : Ey t (nz L) s = some (nz D) := by
  have h8 := hok.1.2.1
  have h1t := hok.1.1
  have hL : L.length ≤ 1000000 := by have := hw.2; have := hok.1.2.2.1; omega
  obtain ⟨n,hn⟩ : ∃ n : Nat,t.1 = n := ⟨t.1.toNat,by omega⟩
  have hD := H.len
  obtain ⟨o0,i1,e0⟩ := Bw n (fun (o : List Nat) (i : Nat) => (nz o,(i : Int))) (DF t) nz (fun o i => o = List.replicate i C7)
    (fun o i hi i1 => by
      subst i1
      refine ⟨List.replicate (i + 1) C7, ?_,rfl⟩
      rw [DF,if_pos (by omega),Cs (by rw [Jg]; simp; omega),za,AC (by omega)]
      rw [show nz (List.replicate (i + 1) C7) = nz (List.replicate i C7) ++ [9218868437227405312] from by rw [List.replicate_succ']; simp [nz]]; rfl)
    (fun o _ => by rw [DF,if_neg (by omega)]) [] rfl
  have e0' : Am (DF t) ([],0) = some (nz o0) := e0
  have hset : Ao (nz o0) s 0 = nz (Ao o0 s 0) := by unfold Ao nz; rw [List.map_set]; rfl
  have ho : (o0.length : Int) = t.1 := by rw [i1]; simp; omega
  have hg : ∀ u,VV t u → wg (Ao o0 s 0) u = if u = s then 0 else C7 := fun u hu => by
    rw [Qq hs.1 (by rw [ho]; exact hs.2) hu.1]
    split
    · rfl
    · rw [i1]; exact Uk hu.1 (by have := hu.2; omega)
  obtain ⟨c',⟨j1,j2⟩,e2⟩ := Bw n (fun (o : List Nat) (i : Nat) => (nz o,(i : Int))) (DR t (nz L)) nz
    (fun c i => (c.length : Int) = t.1 ∧ ∀ u,VV t u → wg D u ≤ wg c u ∧ wg c u ≤ C7 ∧ (r u < i ∨ u = s → wg c u ≤ wg D u))
    (fun c i hi ⟨k1,k2⟩ => by
      obtain ⟨c',q1,q2⟩ := Sw hok hw k1 (fun v hv => (k2 v hv).2.1)
      refine ⟨c',by rw [DR,if_pos (by omega),q1,za,za,AC (by omega)]; rfl,by rw [q2.len]; exact k1,q2.keeps hok hw H k2⟩)
    (fun o _ => by rw [DR,if_neg (by omega)]) (Ao o0 s 0) ⟨by rw [Ld]; exact ho,fun u hu => by
      rw [hg u hu]
      have hbd := H.bd u hu
      by_cases e : u = s
      · rw [if_pos e,e,H.src]
        exact ⟨Nat.le_refl _,Nat.zero_le _,fun _ => Nat.le_refl _⟩
      · rw [if_neg e]
        exact ⟨hbd,Nat.le_refl _,fun hh => hh.elim (fun h => absurd h (Nat.not_lt_zero _)) fun h => absurd h e⟩⟩
  have e2' : Am (DR t (nz L)) (nz (Ao o0 s 0),0) = some (nz c') := e2
  have hc : c' = D := TQ (by omega) fun v v0 v1 => by
    have hv : VV t v := ⟨v0,by omega⟩
    obtain ⟨q1,_,q3⟩ := j2 v hv
    have := H.rk v hv
    exact Nat.le_antisymm (q3 (.inl (by omega))) q1
  have hR : DO t (nz L) = some true := by
    unfold DO
    rw [HE,za,decide_eq_true hok,if_pos rfl,MQ hL,za,decide_eq_true hw]; rfl
  unfold Ey
  rw [hR,za,if_neg (by decide),if_neg (by have := hs.1; omega),decide_eq_false (by have := hs.2; omega),za,if_neg (by decide),e0',za,JV (show In o0 s from ⟨hs.1,by rw [ho]; exact hs.2⟩),za,hset,e2',hc]; rfl
end
end Go.Proofs.YtbiekjhlijdjbaaGreat
