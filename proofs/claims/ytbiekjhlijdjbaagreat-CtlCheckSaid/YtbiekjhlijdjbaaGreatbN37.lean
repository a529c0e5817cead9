/- Layer 19: whether a configuration may be. Conditions: none. -/
import Derived.Test.YtbiekjhlijdjbaaGreatbM19T
set_option linter.unusedVariables false
set_option linter.unusedSimpArgs false
open Go Go.RowKit
namespace Go.Proofs.YtbiekjhlijdjbaaGreat
namespace YH
def MK (t : Tp) (u v : Int) : Prop := ∃ x ∈ t.2.1,(u = x.1 ∧ v = x.2.2.1) ∨ (u = x.2.2.1 ∧ v = x.1)
theorem MK.symm {t : Tp} {u v : Int} (h : MK t u v) : MK t v u := by
  obtain ⟨x,hx,h | h⟩ := h
  · exact ⟨x,hx,.inr ⟨h.2,h.1⟩⟩
  · exact ⟨x,hx,.inl ⟨h.2,h.1⟩⟩
theorem MK.V {t : Tp} (hok : CS t) {u v : Int} (h : MK t u v) : VV t u ∧ VV t v := by
  obtain ⟨x,hx,h⟩ := h
  obtain ⟨_,_,_,_,k5,k6⟩ := hok.2.1 x hx
  have a1 := k5.1
  have a2 := k5.2.1
  have a3 := k6.1
  have a4 := k6.2.1
  simp only at a1 a2 a3 a4
  rcases h with ⟨rfl,rfl⟩ | ⟨rfl,rfl⟩
  · exact ⟨⟨a1,a2⟩,⟨a3,a4⟩⟩
  · exact ⟨⟨a3,a4⟩,⟨a1,a2⟩⟩
structure Bs17 (t : Tp) (s : Int) (h : List Int) : Prop where
  len : (h.length : Int) = t.1
  src : VV t s → hv h s = 0
  lo : ∀ v,VV t v → -1 ≤ hv h v
  zero : ∀ v,VV t v → hv h v = 0 → v = s
  dn : ∀ v,VV t v → 0 < hv h v → ∃ u,MK t u v ∧ hv h u = hv h v - 1
structure Sp (t : Tp) (s : Int) (h : List Int) : Prop extends Bs17 t s h where
  up : ∀ u v,MK t u v → 0 ≤ hv h u → 0 ≤ hv h v ∧ hv h v ≤ hv h u + 1
theorem Bs17.set {t : Tp} (hok : CS t) {s : Int} {h : List Int} (H : Bs17 t s h) {u v : Int} (ha : MK t u v) (hu : 0 ≤ hv h u) (hv0 : hv h v < 0) : Bs17 t s (Ao h v (hv h u + 1)) := by
  obtain ⟨Vu,Vv⟩ := ha.V hok
  have hl := H.len
  have g : ∀ w,VV t w → hv (Ao h v (hv h u + 1)) w = if w = v then hv h u + 1 else hv h w := fun w hw => EU Vv.1 (by omega) hw.1
  refine ⟨by rw [Fj]; exact hl,fun hs => ?_,fun w hw => ?_,fun w hw hz => ?_,fun w hw hp => ?_⟩
  · have := H.src hs
    rw [g s hs,if_neg (fun e => by subst e; omega)]; exact this
  · rw [g w hw]
    have := H.lo w hw
    split <;> omega
  · rw [g w hw] at hz
    by_cases c : w = v
    · rw [if_pos c] at hz; omega
    · rw [if_neg c] at hz; exact H.zero w hw hz
  · rw [g w hw] at hp ⊢
    by_cases c : w = v
    · subst c
      rw [if_pos rfl]
      exact ⟨u,ha,by rw [g u Vu,if_neg (fun e => by subst e; omega)]; omega⟩
    · rw [if_neg c] at hp ⊢
      obtain ⟨z,hz,e⟩ := H.dn w hw hp
      exact ⟨z,hz,by rw [g z (hz.V hok).1,if_neg (fun e2 => by subst e2; omega)]; exact e⟩
theorem Sp.le {t : Tp} (hok : CS t) {s : Int} {h g : List Int} (H : Bs17 t s h) (G : Sp t s g) : ∀ (m : Nat) (v : Int),VV t v → hv h v = m → 0 ≤ hv g v ∧ hv g v ≤ m
  | 0,v,hV,e => by
    have := H.zero v hV (by simpa using e)
    subst this
    have := G.src hV
    omega
  | m + 1,v,hV,e => by
    obtain ⟨u,hu,e2⟩ := H.dn v hV (by omega)
    have h1 := Sp.le hok H G m u (hu.V hok).1 (by omega)
    have := G.up u v hu h1.1
    omega
theorem Sp.uniq {t : Tp} (hok : CS t) {s : Int} {h g : List Int} (H : Sp t s h) (G : Sp t s g) : h = g := by
  have hl := H.len
  have gl := G.len
  refine T1 (by omega) (fun v h0 h1 => ?_)
  have hV : VV t v := ⟨h0,by omega⟩
  have a := H.lo v hV
  have b := G.lo v hV
  by_cases c : 0 ≤ hv h v
  · have h2 := Sp.le hok H.toBs17 G (hv h v).toNat v hV (by omega)
    have h3 := Sp.le hok G.toBs17 H (hv g v).toNat v hV (by omega)
    omega
  · by_cases c2 : 0 ≤ hv g v
    · have h3 := Sp.le hok G.toBs17 H (hv g v).toNat v hV (by omega)
      omega
    · omega
theorem Bs17.chain {t : Tp} (hok : CS t) {s : Int} {h : List Int} (H : Bs17 t s h) : ∀ (m : Nat) (v : Int),VV t v → hv h v = m → ∃ l : List Int,l.length = m + 1 ∧ l.Nodup ∧ ∀ x ∈ l,VV t x ∧ hv h x ≤ m
  | 0,v,hV,e => ⟨[v],rfl,by simp,fun x hx => by rw [List.mem_singleton.1 hx]; exact ⟨hV,by omega⟩⟩
  | m + 1,v,hV,e => by
    obtain ⟨u,hu,e2⟩ := H.dn v hV (by omega)
    obtain ⟨l,l1,l2,l3⟩ := H.chain hok m u (hu.V hok).1 (by omega)
    refine ⟨v :: l,by simp [l1],List.nodup_cons.2 ⟨fun hm => by have := (l3 v hm).2; omega,l2⟩,fun x hx => ?_⟩
    rcases List.mem_cons.1 hx with rfl | hx
    · exact ⟨hV,by omega⟩
    · have := l3 x hx
      exact ⟨this.1,by omega⟩
theorem Bs17.lt {t : Tp} (hok : CS t) {s : Int} {h : List Int} (H : Bs17 t s h) {v : Int} (hV : VV t v) : hv h v < t.1 := by
  by_cases c : 0 ≤ hv h v
  · obtain ⟨l,l1,l2,l3⟩ := H.chain hok (hv h v).toNat v hV (by omega)
    have := B6 t.1.toNat l l2 (fun x hx => by have := (l3 x hx).1; omega)
    have := hok.1.1
    omega
  · have := hok.1.1
    omega
structure Q17 (t : Tp) (s a d : Int) (P : List Int) (h : List Int) (Q : List Int) : Prop extends Bs17 t s h where
  qV : ∀ q ∈ P ++ Q,VV t q ∧ 0 ≤ hv h q
  nd : (P ++ Q).Nodup
  mono : Q.Pairwise fun x y => hv h x ≤ hv h y
  hd : ∀ q ∈ Q,d ≤ hv h q
  top : ∀ v,VV t v → hv h v ≤ d + 1
  nn : 0 ≤ d
  up : ∀ u v,MK t u v → 0 ≤ hv h u → u ∉ Q → u ≠ a → 0 ≤ hv h v ∧ hv h v ≤ hv h u + 1
theorem Q17.push {t : Tp} (hok : CS t) {s a d : Int} {P h Q : List Int} (H : Q17 t s a d P h Q) {v : Int} (ha : MK t a v) (hd : hv h a = d) (hv0 : hv h v < 0) : Q17 t s a d P (Ao h v (d + 1)) (Q ++ [v]) ∧ hv (Ao h v (d + 1)) a = d ∧ ∀ w,VV t w → 0 ≤ hv h w → 0 ≤ hv (Ao h v (d + 1)) w := by
  obtain ⟨Va,Vv⟩ := ha.V hok
  have hl := H.len
  have hnn := H.nn
  have g : ∀ w,VV t w → hv (Ao h v (d + 1)) w = if w = v then d + 1 else hv h w := fun w hw => EU Vv.1 (by omega) hw.1
  have hB : Bs17 t s (Ao h v (d + 1)) := by
    have := H.toBs17.set hok ha (by omega) hv0
    rwa [hd] at this
  have hq : ∀ q ∈ P ++ Q,hv (Ao h v (d + 1)) q = hv h q := fun q hq => by
    have := H.qV q hq
    rw [g q this.1,if_neg (fun e => by subst e; omega)]
  have hvn : v ∉ P ++ Q := fun hm => by have := H.qV v hm; omega
  refine ⟨{ toBs17 := hB,qV := fun q hm => ?_,nd := ?_,mono := ?_,hd := fun q hm => ?_,top := fun w hw => ?_,nn := hnn,up := fun u w hu h0 hn hne => ?_ },by rw [g a Va,if_neg (fun e => by subst e; omega)]; exact hd,fun w hw h0 => ?_⟩
  · rw [← List.append_assoc] at hm
    rcases List.mem_append.1 hm with hm | hm
    · rw [hq q hm]; exact H.qV q hm
    · rw [List.mem_singleton.1 hm,g v Vv,if_pos rfl]; exact ⟨Vv,by omega⟩
  · rw [← List.append_assoc,List.nodup_append]
    exact ⟨H.nd,by simp,fun x hx y hy => by rw [List.mem_singleton.1 hy]; intro e; subst e; exact hvn hx⟩
  · rw [List.pairwise_append]
    refine ⟨H.mono.imp_of_mem fun {x y} hx hy hxy => by rw [hq x (List.mem_append_right _ hx),hq y (List.mem_append_right _ hy)]; exact hxy,by simp,fun x hx y hy => ?_⟩
    rw [List.mem_singleton.1 hy,hq x (List.mem_append_right _ hx),g v Vv,if_pos rfl]
    exact H.top x (H.qV x (List.mem_append_right _ hx)).1
  · rcases List.mem_append.1 hm with hm | hm
    · rw [hq q (List.mem_append_right _ hm)]; exact H.hd q hm
    · rw [List.mem_singleton.1 hm,g v Vv,if_pos rfl]; omega
  · rw [g w hw]
    have := H.top w hw
    split <;> omega
  · obtain ⟨Vu,Vw⟩ := hu.V hok
    have hnu : u ≠ v := fun e => hn (by rw [e]; simp)
    rw [g u Vu,if_neg hnu] at h0 ⊢
    have := H.up u w hu h0 (fun hm => hn (List.mem_append_left _ hm)) hne
    rw [g w Vw,if_neg (fun e => by subst e; omega)]
    exact this
  · rw [g w hw]
    split <;> omega
theorem PG {t : Tp} (hok : CS t) {s a d : Int} {P : List Int} {N : List Sd} (hN : N.length ≤ 8) (hA : ∀ x ∈ N,MK t a x.2.1) : ∀ (dd k : Nat),k + dd = N.length → ∀ (h Q : List Int),Q17 t s a d P h Q → hv h a = d → (∀ x ∈ N.take k,0 ≤ hv h x.2.1) → ∃ h' Q',Am (CG a N) (h,Q,(k : Int)) = some (.inl (h',Q')) ∧ Q17 t s a d P h' Q' ∧ hv h' a = d ∧ ∀ x ∈ N,0 ≤ hv h' x.2.1 := by
  intro dd
  induction dd with
  | zero =>
    intro k hk h Q H hd hx
    rw [List.take_of_length_le (by omega)] at hx
    exact ⟨h,Q,AJ (by rw [CG,if_neg (by omega)]),H,hd,hx⟩
  | succ dd ih =>
    intro k hk h Q H hd hx
    have hkl : k < N.length := by omega
    have hg := zb hkl
    have hadj := hA _ (List.getElem_mem hkl)
    obtain ⟨Va,Vv⟩ := hadj.V hok
    have hl := H.len
    have iv : ix h N[k].2.1 = some (hv h N[k].2.1) := E0 Vv.1 (by omega)
    have ia : ix h a = some (hv h a) := E0 Va.1 (by omega)
    have hQl : Q.length ≤ 8 := by
      have h1 := B6 t.1.toNat Q (List.nodup_append.1 H.nd).2.1 (fun x hx => by have := (H.qV x (List.mem_append_right _ hx)).1; omega)
      have := hok.1.2.1
      omega
    have htop := H.top a Va
    have hlt := H.toBs17.lt hok Va
    have ht8 := hok.1.2.1
    have hnn := H.nn
    by_cases c : hv h N[k].2.1 < 0
    · obtain ⟨H',hd',hk'⟩ := H.push hok hadj hd c
      have hst : CG a N (h,Q,(k : Int)) = some (.inl (Ao h N[k].2.1 (d + 1),Q ++ [N[k].2.1],((k + 1 : Nat) : Int))) := by
        rw [CG,if_pos (by omega),AO hg,za,iv,za,if_pos c,ia,za,za,Cs (by simp; omega),za,hd,AC (by omega),za]
        show some (Sum.inl (_,_,w64 ((k : Int) + 1))) = _
        rw [AC (by omega)]; rfl
      rw [BI hst]
      refine ih (k + 1) (by omega) _ _ H' hd' (fun x hm => ?_)
      rw [List.take_succ_eq_append_getElem hkl] at hm
      rcases List.mem_append.1 hm with hm | hm
      · exact hk' _ ((hA x (List.mem_of_mem_take hm)).V hok).2 (hx x hm)
      · rw [List.mem_singleton.1 hm,EU Vv.1 (by omega) Vv.1,if_pos rfl]; omega
    · have hst : CG a N (h,Q,(k : Int)) = some (.inl (h,Q,((k + 1 : Nat) : Int))) := by
        rw [CG,if_pos (by omega),AO hg,za,iv,za,if_neg c,za]
        show some (Sum.inl (_,_,w64 ((k : Int) + 1))) = _
        rw [AC (by omega)]; rfl
      rw [BI hst]
      refine ih (k + 1) (by omega) _ _ H hd (fun x hm => ?_)
      rw [List.take_succ_eq_append_getElem hkl] at hm
      rcases List.mem_append.1 hm with hm | hm
      · exact hx x hm
      · rw [List.mem_singleton.1 hm]; omega
theorem TT {t : Tp} (hok : CS t) {a : Int} : (∀ {x : Sd},FR t a x → MK t a x.2.1) ∧ ∀ {v},MK t a v → ∃ x,FR t a x ∧ x.2.1 = v := by
  constructor
  · rintro x ⟨i,y,h1,h2⟩
    have hm := List.mem_of_getElem? h1
    unfold Nw at h2
    by_cases c1 : a = y.1
    · rw [if_pos c1,List.mem_singleton] at h2; subst h2; exact ⟨y,hm,.inl ⟨c1,rfl⟩⟩
    · rw [if_neg c1] at h2
      by_cases c2 : a = y.2.2.1
      · rw [if_pos c2,List.mem_singleton] at h2; subst h2; exact ⟨y,hm,.inr ⟨c2,rfl⟩⟩
      · rw [if_neg c2] at h2; cases h2
  · rintro v ⟨y,hm,h⟩
    obtain ⟨i,hi,hy⟩ := List.getElem_of_mem hm
    have hg : t.2.1[i]? = some y := by rw [zb hi,hy]
    have hne := (hok.2.1 y hm).1
    rcases h with ⟨h1,h2⟩ | ⟨h1,h2⟩
    · exact ⟨(y.2.1,y.2.2.1,(i : Int)),⟨i,y,hg,by unfold Nw; rw [if_pos h1]; simp⟩,h2.symm⟩
    · exact ⟨(y.2.2.2.1,y.1,(i : Int)),⟨i,y,hg,by unfold Nw; rw [if_neg (fun e => hne (e.symm.trans h1)),if_pos h1]; simp⟩,h2.symm⟩
theorem Ql {t : Tp} (hok : CS t) {s : Int} : ∀ (f : Nat) (d : Int) (P h Q : List Int),P.length + f = 8 → Q17 t s (-1) d P h Q → ∃ h',Am (C6 t) (h,Q) = some h' ∧ Sp t s h' := by
  intro f
  induction f with
  | zero =>
    intro d P h Q hf H
    have h1 := B6 t.1.toNat (P ++ Q) H.nd (fun x hx => by have := (H.qV x hx).1; omega)
    have := hok.1.2.1
    rw [List.length_append] at h1
    have hQ : Q = [] := List.eq_nil_of_length_eq_zero (by omega)
    subst hQ
    exact ⟨h,AJ (by rw [C6,if_neg (by simp)]), { toBs17 := H.toBs17,up := fun u v hu h0 => H.up u v hu h0 (by simp) (by have := (hu.V hok).1.1; omega) }⟩
  | succ f ih =>
    intro d P h Q hf H
    cases Q with
    | nil => exact ⟨h,AJ (by rw [C6,if_neg (by simp)]), { toBs17 := H.toBs17,up := fun u v hu h0 => H.up u v hu h0 (by simp) (by have := (hu.V hok).1.1; omega) }⟩
    | cons a Q =>
      have hqa := H.qV a (by simp)
      have hda := H.hd a (by simp)
      have hmono := List.pairwise_cons.1 H.mono
      have e1 : P ++ a :: Q = (P ++ [a]) ++ Q := by simp
      have hnd := H.nd
      rw [e1] at hnd
      have haQ : a ∉ Q := fun hm => (List.nodup_append.1 hnd).2.2 a (by simp) a hm rfl
      have H1 : Q17 t s a (hv h a) (P ++ [a]) h Q := { toBs17 := H.toBs17,qV := fun q hq => H.qV q (by rw [e1]; exact hq),nd := hnd,mono := hmono.2,hd := fun q hq => hmono.1 q hq,top := fun v hV => (by have := H.top v hV; omega),nn := hqa.2,up := fun u v hu h0 hn hne => H.up u v hu h0 (fun hm => (List.mem_cons.1 hm).elim hne hn) (by have := (hu.V hok).1.1; omega) }
      obtain ⟨N,n1,n2,_,n4⟩ := HU hok a
      obtain ⟨h',Q',g1,g2,g3,g4⟩ := PG hok n4 (fun x hx => (TT hok).1 ((n2 x).1 hx)) N.length 0 (by omega) h Q H1 rfl (by simp)
      have hup : ∀ u v,MK t u v → 0 ≤ hv h' u → u ∉ Q' → u ≠ -1 → 0 ≤ hv h' v ∧ hv h' v ≤ hv h' u + 1 := fun u v hu h0 hn hne => by
        by_cases c : u = a
        · subst c
          obtain ⟨x,hx,rfl⟩ := (TT hok).2 hu
          exact ⟨g4 x ((n2 x).2 hx),by rw [g3]; exact g2.top _ (hu.V hok).2⟩
        · exact g2.up u v hu h0 hn c
      have H2 : Q17 t s (-1) (hv h a) (P ++ [a]) h' Q' := { g2 with up := hup }
      obtain ⟨hF,k1,k2⟩ := ih (hv h a) (P ++ [a]) h' Q' (by simp; omega) H2
      refine ⟨hF, ?_,k2⟩
      have hst : C6 t (h,a :: Q) = some (.inl (h',Q')) := by
        rw [C6,if_pos (by simp only [List.length_cons]; omega),show ix (a :: Q) 0 = some a from AO (k := 0) rfl,za,KF (by simp; omega),za,n1,za]
        have : ((a :: Q).take (Int.toNat ((a :: Q).length : Int))).drop (Int.toNat 1) = Q := by simp
        rw [this]; exact g1
      rw [BI hst]; exact k1
theorem hops_spec {t : Tp} (hok : CS t) (s : Int) : ∃ h,F5 t s = some h ∧ Sp t s h := by
  have h8 := hok.1
  unfold F5
  rw [Jn,decide_eq_true hok,za,if_neg (by decide),Rc ⟨h8.1,h8.2.1⟩,za]
  have hl : ((List.replicate t.1.toNat (-1 : Int)).length : Int) = t.1 := by simp; omega
  by_cases c : s < 0 ∨ t.1 ≤ s
  · rw [if_pos (by simpa using c)]
    refine ⟨_,rfl, { len := hl,src := fun h => by omega,lo := fun v _ => by rw [IB]; omega,zero := fun v _ h => by rw [IB] at h; omega,dn := fun v _ h => by rw [IB] at h; omega,up := fun u v _ h => by rw [IB] at h; omega }⟩
  · have hV : VV t s := ⟨by omega,by omega⟩
    have g : ∀ w,VV t w → hv (Ao (List.replicate t.1.toNat (-1)) s 0) w = if w = s then 0 else -1 := fun w hw => by rw [EU hV.1 (by omega) hw.1,IB]
    rw [if_neg (by simpa using c),E0 hV.1 (by omega),za]
    have H : Q17 t s (-1) 0 [] (Ao (List.replicate t.1.toNat (-1)) s 0) [s] := {
      len := by rw [Fj]; exact hl
      src := fun h => by rw [g s h,if_pos rfl]
      lo := fun v h => by rw [g v h]; split <;> omega
      zero := fun v h e => by
        rw [g v h] at e
        by_cases cc : v = s
        · exact cc
        · rw [if_neg cc] at e; omega
      dn := fun v h e => by
        rw [g v h] at e
        split at e <;> omega
      qV := fun q hq => by
        rw [List.nil_append,List.mem_singleton] at hq
        subst hq
        exact ⟨hV,by rw [g q hV,if_pos rfl]; omega⟩
      nd := by simp
      mono := by simp
      hd := fun q hq => by
        rw [List.mem_singleton] at hq
        subst hq
        rw [g q hV,if_pos rfl]; omega
      top := fun v h => by rw [g v h]; split <;> omega
      nn := by omega
      up := fun u v hu h0 hn _ => by
        rw [g u (hu.V hok).1,if_neg (fun e => hn (by simp [e]))] at h0
        omega }
    obtain ⟨h',e1,e2⟩ := Ql hok 8 0 [] _ _ rfl H
    rw [e1]
    exact ⟨h',rfl,e2⟩
structure R17 (t : Tp) (s k : Int) (h : List Int) : Prop extends Bs17 t s h where
  top : ∀ v,VV t v → hv h v ≤ k
  up : ∀ u v,MK t u v → 0 ≤ hv h u → hv h u < k → 0 ≤ hv h v ∧ hv h v ≤ hv h u + 1
structure I17 (t : Tp) (s k : Int) (done : List (Int × Int)) (h : List Int) : Prop extends Bs17 t s h where
  top : ∀ v,VV t v → hv h v ≤ k + 1
  nn : 0 ≤ k
  up : ∀ u v,MK t u v → 0 ≤ hv h u → hv h u < k → 0 ≤ hv h v ∧ hv h v ≤ hv h u + 1
  dd : ∀ q ∈ done,MK t q.1 q.2 ∧ (hv h q.1 = k → 0 ≤ hv h q.2)
theorem I17.put {t : Tp} (hok : CS t) {s k : Int} {done : List (Int × Int)} {h : List Int} (H : I17 t s k done h) {u v : Int} (ha : MK t u v) (hu : hv h u = k) (hv0 : hv h v < 0) : I17 t s k done (Ao h v (k + 1)) := by
  obtain ⟨Vu,Vv⟩ := ha.V hok
  have hl := H.len
  have hnn := H.nn
  have g : ∀ w,VV t w → hv (Ao h v (k + 1)) w = if w = v then k + 1 else hv h w := fun w hw => EU Vv.1 (by omega) hw.1
  have hB : Bs17 t s (Ao h v (k + 1)) := by
    have := H.toBs17.set hok ha (by omega) hv0
    rwa [hu] at this
  have hd2 : ∀ a b,VV t a → VV t b → (hv h a = k → 0 ≤ hv h b) → hv (Ao h v (k + 1)) a = k → 0 ≤ hv (Ao h v (k + 1)) b := fun a b Va Vb hab he => by
    rw [g a Va] at he
    rw [g b Vb]
    by_cases c : a = v
    · rw [if_pos c] at he; omega
    · rw [if_neg c] at he
      have := hab he
      split <;> omega
  refine { toBs17 := hB,top := fun w hw => ?_,nn := hnn,up := fun a b hab h0 hlt => ?_,dd := fun x hx => ?_ }
  · rw [g w hw]
    have := H.top w hw
    split <;> omega
  · obtain ⟨Va,Vb⟩ := hab.V hok
    rw [g a Va] at h0 hlt ⊢
    by_cases c : a = v
    · rw [if_pos c] at hlt; omega
    · rw [if_neg c] at h0 hlt ⊢
      have := H.up a b hab h0 hlt
      rw [g b Vb,if_neg (fun e => by subst e; omega)]
      exact this
  · obtain ⟨hadj,hx2⟩ := H.dd x hx
    obtain ⟨Va,Vb⟩ := hadj.V hok
    exact ⟨hadj,hd2 _ _ Va Vb hx2⟩
noncomputable def hf (h : List Int) (a b k : Int) : List Int := if hv h a = k ∧ hv h b = -1 then Ao h b (k + 1) else h
theorem half {h : List Int} {a b k : Int} (ha : 0 ≤ a ∧ a < (h.length : Int)) (hb : 0 ≤ b ∧ b < (h.length : Int)) (hk : 0 ≤ k ∧ k ≤ 100) :
    (((ix h a).bind fun x18 => (if x18 = k then (ix h b).bind fun x19 => some (decide (x19 = (-1))) else some false)).bind fun x17 => (if x17 = true then (ix h b).bind fun x20 => some (Ao h b (w64 (k + 1))) else some h)) = some (hf h a b k) := by
  unfold hf
  rw [E0 ha.1 ha.2,E0 hb.1 hb.2,za]
  by_cases c1 : hv h a = k
  · rw [if_pos c1,za,za]
    by_cases c2 : hv h b = -1
    · rw [decide_eq_true c2,if_pos rfl,if_pos ⟨c1,c2⟩,za,AC (by omega)]
    · rw [decide_eq_false c2,if_neg (by decide),if_neg (fun hh => c2 hh.2)]
  · rw [if_neg c1,za,if_neg (by decide),if_neg (fun hh => c1 hh.1)]
theorem T7 {h : List Int} {a b k : Int} : (hf h a b k).length = h.length := by
  unfold hf
  split
  · exact Fj
  · rfl
theorem I17.half {t : Tp} (hok : CS t) {s k : Int} {done : List (Int × Int)} {h : List Int} (H : I17 t s k done h) {a b : Int} (ha : MK t a b) : I17 t s k (done ++ [(a,b)]) (hf h a b k) := by
  obtain ⟨Va,Vb⟩ := ha.V hok
  have hl := H.len
  have hnn := H.nn
  unfold hf
  by_cases c : hv h a = k ∧ hv h b = -1
  · rw [if_pos c]
    have H1 := H.put hok ha c.1 (by omega)
    refine { H1 with dd := fun q hq => ?_ }
    rcases List.mem_append.1 hq with hq | hq
    · exact H1.dd q hq
    · rw [List.mem_singleton.1 hq]
      exact ⟨ha,fun _ => by
        show 0 ≤ hv (Ao h b (k + 1)) b
        rw [EU Vb.1 (by omega) Vb.1,if_pos rfl]; omega⟩
  · rw [if_neg c]
    refine { H with dd := fun q hq => ?_ }
    rcases List.mem_append.1 hq with hq | hq
    · exact H.dd q hq
    · rw [List.mem_singleton.1 hq]
      exact ⟨ha,fun e => by
        show 0 ≤ hv h b
        have e' : hv h a = k := e
        have := H.lo b Vb
        have : hv h b ≠ -1 := fun e2 => c ⟨e',e2⟩
        omega⟩
abbrev St (x : Lk) : List (Int × Int) := [(x.1,x.2.2.1),(x.2.2.1,x.1)]
theorem S9 {t : Tp} (hok : CS t) {s k : Int} (hk : 0 ≤ k ∧ k ≤ 100) {h : List Int} (H : R17 t s k h) : ∃ h',Am (Ew t k) (h,0) = some h' ∧ R17 t s (k + 1) h' := by
  have h24 := hok.1.2.2.1
  obtain ⟨h',h1,h2⟩ := Bw t.2.1.length (fun (h : List Int) (i : Nat) => (h,(i : Int))) (Ew t k) id
    (fun h i => I17 t s k ((t.2.1.take i).flatMap St) h)
    (fun h i hi HI => by
      have hg := AO (zb hi)
      have hadj : MK t t.2.1[i].1 t.2.1[i].2.2.1 := ⟨_,List.getElem_mem hi,.inl ⟨rfl,rfl⟩⟩
      obtain ⟨Va,Vb⟩ := hadj.V hok
      have hl := HI.len
      have I1 := HI.half hok hadj
      have I2 := I1.half hok hadj.symm
      refine ⟨hf (hf h t.2.1[i].1 t.2.1[i].2.2.1 k) t.2.1[i].2.2.1 t.2.1[i].1 k, ?_, ?_⟩
      · rw [Ew,if_pos (by omega),hg,za,za,half ⟨Va.1,by omega⟩ ⟨Vb.1,by omega⟩ hk,za,half ⟨Vb.1,by rw [T7]; omega⟩ ⟨Va.1,by rw [T7]; omega⟩ hk,za,AC (by omega)]; rfl
      · rw [List.take_succ_eq_append_getElem hi,List.flatMap_append,List.flatMap_cons,List.flatMap_nil,List.append_nil]
        have e : ((t.2.1.take i).flatMap St) ++ St t.2.1[i] = ((t.2.1.take i).flatMap St ++ [(t.2.1[i].1,t.2.1[i].2.2.1)]) ++ [(t.2.1[i].2.2.1,t.2.1[i].1)] := by simp
        rw [e]; exact I2)
    (fun h _ => by rw [Ew,if_neg (by omega)]; rfl) h { toBs17 := H.toBs17,top := fun v hV => (by have := H.top v hV; omega),nn := hk.1,up := H.up,dd := fun q hq => by simp at hq }
  rw [List.take_length] at h1
  refine ⟨h',h2, { toBs17 := h1.toBs17,top := h1.top,up := fun u v hu h0 hlt => ?_ }⟩
  by_cases c : hv h' u < k
  · exact h1.up u v hu h0 c
  · have e : hv h' u = k := by omega
    obtain ⟨x,hx,hd⟩ := hu
    have hq : (u,v) ∈ t.2.1.flatMap St := List.mem_flatMap.2 ⟨x,hx,by
      rcases hd with ⟨rfl,rfl⟩ | ⟨rfl,rfl⟩ <;> simp⟩
    have h3 := (h1.dd _ hq).2 e
    have hV := ((h1.dd _ hq).1.V hok).2
    exact ⟨h3,by rw [e]; exact h1.top v hV⟩
theorem rhops_spec {t : Tp} (hok : CS t) (s : Int) : ∃ h,Ho t s = some h ∧ Sp t s h := by
  have h1t := hok.1.1
  have h8 := hok.1.2.1
  obtain ⟨n,hn⟩ : ∃ n : Nat,t.1 = n := ⟨t.1.toNat,by omega⟩
  obtain ⟨h0,⟨i1,i2⟩,e0⟩ := Bw n (fun (h : List Int) (i : Nat) => (h,(i : Int))) (Em t s) id
    (fun h i => h.length = i ∧ ∀ v : Int,0 ≤ v → v < (i : Int) → hv h v = if v = s then 0 else -1)
    (fun h i hi ⟨a1,a2⟩ => by
      refine ⟨h ++ [if (i : Int) = s then 0 else -1], ?_,by simp [a1],fun v v0 v1 => ?_⟩
      · rw [Em,if_pos (by omega)]
        by_cases c : (i : Int) = s
        · rw [if_pos c,if_pos c,Cs (by simp; omega),za,za,AC (by omega)]; rfl
        · rw [if_neg c,if_neg c,Cs (by simp; omega),za,za,AC (by omega)]; rfl
      · rw [WX v0,a1]
        by_cases c : v = (i : Int)
        · rw [if_pos c,c]
        · rw [if_neg c]; exact a2 v v0 (by omega))
    (fun h _ => by rw [Em,if_neg (by omega)]; rfl) [] ⟨rfl,fun v v0 v1 => by omega⟩
  have e0' : Am (Em t s) ([],0) = some h0 := e0
  have g : ∀ w,VV t w → hv h0 w = if w = s then 0 else -1 := fun w hw => i2 w hw.1 (by have := hw.2; omega)
  have H0 : R17 t s 0 h0 := {
    len := by omega
    src := fun h => by rw [g s h,if_pos rfl]
    lo := fun v h => by rw [g v h]; split <;> omega
    zero := fun v h e => by
      rw [g v h] at e
      by_cases cc : v = s
      · exact cc
      · rw [if_neg cc] at e; omega
    dn := fun v h e => by
      rw [g v h] at e
      split at e <;> omega
    top := fun v h => by rw [g v h]; split <;> omega
    up := fun u v hu a b => by omega }
  obtain ⟨h',H',e'⟩ := Bw n (fun (h : List Int) (i : Nat) => (h,(i : Int))) (Er t) id (fun h i => R17 t s (i : Int) h)
    (fun h i hi HI => by
      obtain ⟨g1,g2,g3⟩ := S9 hok (k := (i : Int)) (by omega) HI
      exact ⟨g1,by rw [Er,if_pos (by omega),g2,za,AC (by omega)]; rfl,g3⟩)
    (fun h _ => by rw [Er,if_neg (by omega)]; rfl) h0 H0
  have e2 : Am (Er t) (h0,0) = some h' := e'
  refine ⟨h', ?_, { toBs17 := H'.toBs17,up := fun u v hu a => H'.up u v hu a (by have := H'.toBs17.lt hok (hu.V hok).1; omega) }⟩
  unfold Ho
  rw [e0',za,e2]; rfl
end YH
abbrev X2 := Tp × List (List Int) × List Int × Int × Int × Int × Int × Int × Int
abbrev eN := Int × Int × Int × Int × (Int × Int × Int × Int × Int × Int × Int × Int × Int × (List (Int × (Int × (Int × (Int × Int × Int × Int) × (Int × Int × Int × Int)) × (List (Int × Int × Int))) × Bool)))
theorem Vn (p : X2) (h : p.2.1.length ≤ 9223372036854775807) : Gb p ([] : List eN) = some (decide (¬ ∃ e ∈ p.2.1,30 < (e.length : Int)) && (decide ((p.1.2.1.length : Int) ≤ 30) && (decide ((p.1.2.2.length : Int) ≤ 12) && (decide ((p.2.1.length : Int) ≤ 6) && decide ((p.2.2.1.length : Int) ≤ 12))))) := by
  unfold Gb
  rw [EX p.2.1 h (EJ p) (fun e => 30 < (e.length : Int)) false (fun k hk => by rw [EJ,if_pos (by omega),AO (zb hk),za]) (by rw [EJ,if_neg (by omega)])]
  by_cases c : ∃ e ∈ p.2.1,30 < (e.length : Int)
  · have d : decide (¬ ∃ e ∈ p.2.1,30 < (e.length : Int)) = false := decide_eq_false (fun h => h c)
    rw [if_pos c,d,Bool.false_and]; rfl
  · have d : decide (¬ ∃ e ∈ p.2.1,30 < (e.length : Int)) = true := decide_eq_true c
    rw [if_neg c,d,Bool.true_and]
    show GU (Am (Ff ([] : List eN)) 0) _ = _
    rw [AJ (e := .inl ()) (by rw [Ff,if_neg (by simp)])]
    rfl
abbrev GK (p : X2) : Prop := (∀ s ∈ p.2.2.1, -1048576 ≤ s ∧ s ≤ 1048576) ∧ (p.2.2.1.length : Int) = p.1.1 ∧ (0 ≤ p.2.2.2.1 ∧ p.2.2.2.1 ≤ 500) ∧ ((p.1.2.2.length : Int) ≤ p.2.2.2.2.1 ∧ p.2.2.2.2.1 ≤ 64) ∧ (0 ≤ p.2.2.2.2.2.1 ∧ p.2.2.2.2.2.1 ≤ 65536) ∧ (0 ≤ p.2.2.2.2.2.2.1 ∧ p.2.2.2.2.2.2.1 ≤ 65536) ∧ (0 ≤ p.2.2.2.2.2.2.2.1 ∧ p.2.2.2.2.2.2.2.1 ≤ 65536) ∧ (1 ≤ p.2.2.2.2.2.2.2.2 ∧ p.2.2.2.2.2.2.2.2 ≤ 65536)
theorem LA {a b c : Int} : AM a b c = decide (b ≤ a ∧ a ≤ c) := by
  unfold AM
  by_cases h1 : b ≤ a <;> by_cases h2 : a ≤ c <;> simp [h1,h2]
theorem X6 (p : X2) (h : p.2.2.1.length ≤ 1000) : CR p = some (decide (GK p)) := by
  unfold CR
  rw [EX p.2.2.1 (by omega) (Cg p) (fun s => ¬ (-1048576 ≤ s ∧ s ≤ 1048576)) false (fun k hk => by
    rw [Cg,if_pos (by omega),AO (zb hk),za,LA]
    by_cases c : -1048576 ≤ p.2.2.1[k] ∧ p.2.2.1[k] ≤ 1048576
    · rw [if_neg (by simp [c]),if_neg (fun h => h c)]
    · rw [if_pos (show (!decide (-1048576 ≤ p.2.2.1[k] ∧ p.2.2.1[k] ≤ 1048576)) = true by rw [decide_eq_false c]; rfl),if_pos c]) (by rw [Cg,if_neg (by omega)])]
  by_cases c : ∃ s ∈ p.2.2.1, ¬ (-1048576 ≤ s ∧ s ≤ 1048576)
  · have d : decide (GK p) = false := decide_eq_false (fun h => by obtain ⟨s,h1,h2⟩ := c; exact h2 (h.1 s h1))
    rw [if_pos c,d]; rfl
  · rw [if_neg c]
    show some _ = _
    have c' : ∀ s ∈ p.2.2.1, -1048576 ≤ s ∧ s ≤ 1048576 := fun s hs => Classical.byContradiction fun hh => c ⟨s,hs,hh⟩
    simp only [LA]
    congr 1
    unfold GK
    rw [Bool.eq_iff_iff]
    simp only [zf,decide_eq_true_eq]
    exact ⟨fun hh => ⟨c',hh⟩,fun hh => hh.2⟩
theorem PK {h : List Int} (hl : h.length ≤ 1000) : BN h (-1) = some (decide (-1 ∈ h)) := by
  unfold BN CF
  rw [Nc h.length (BO h (-1)) (fun k => if (-1 : Int) = h.getD k 0 then some (k : Int) else none) (fun k hk => by
    have hg : h[k]? = some h[k] := zb hk
    rw [BO,if_pos (by omega),AO hg,za,List.getD_eq_getElem?_getD,hg]
    simp only [Option.getD_some]
    by_cases c : (-1 : Int) = h[k]
    · rw [if_pos c,if_pos c]
    · rw [if_neg c,if_neg c,AC (by omega)]; rfl) (by rw [BO,if_neg (by omega)])]
  cases e : (List.range h.length).findSome? (fun k => if (-1 : Int) = h.getD k 0 then some (k : Int) else none) with
  | none =>
    rw [decide_eq_false (fun hm => by
      obtain ⟨k,hk,hk2⟩ := List.getElem_of_mem hm
      have := List.findSome?_eq_none_iff.1 e k (List.mem_range.2 hk)
      rw [List.getD_eq_getElem?_getD,zb hk,Option.getD_some,hk2] at this
      simp at this)]
    rfl
  | some x =>
    obtain ⟨k,hk,hx⟩ := List.exists_of_findSome?_eq_some e
    have hk := List.mem_range.1 hk
    rw [List.getD_eq_getElem?_getD,zb hk,Option.getD_some] at hx
    split at hx
    · rename_i h1
      cases hx
      rw [decide_eq_true (h1 ▸ List.getElem_mem hk)]
      show some (decide ((0 : Int) ≤ (k : Int))) = _
      rw [decide_eq_true (by omega)]
    · cases hx
theorem Vc {t : Tp} (hok : CS t) : ∃ b,Ft t = some b ∧ F8 t = some b := by
  obtain ⟨h,h1,h2⟩ := YH.hops_spec hok 0
  obtain ⟨g,g1,g2⟩ := YH.rhops_spec hok 0
  obtain rfl := h2.uniq hok g2
  have hl := h2.len
  have h8 := hok.1
  have hlo : ∀ x ∈ h,x < 0 ↔ x = -1 := fun x hx => by
    obtain ⟨k,hk,rfl⟩ := List.getElem_of_mem hx
    have := h2.lo (k : Int) ⟨by omega,by omega⟩
    unfold hv at this
    rw [Int.toNat_natCast,List.getD_eq_getElem?_getD,zb hk,Option.getD_some] at this
    omega
  refine ⟨!decide (-1 ∈ h), ?_, ?_⟩
  · unfold Ft
    rw [h1,za,if_pos (by omega),PK (by omega)]; rfl
  · unfold F8
    rw [g1,za,EX h (by omega) (ED h) (fun x => x < 0) false (fun k hk => by rw [ED,if_pos (by omega),AO (zb hk),za]) (by rw [ED,if_neg (by omega)])]
    by_cases c : ∃ x ∈ h,x < 0
    · obtain ⟨x,hx,hx0⟩ := c
      rw [if_pos ⟨x,hx,hx0⟩,decide_eq_true (by rw [(hlo x hx).1 hx0] at hx; exact hx)]; rfl
    · rw [if_neg c,decide_eq_false (fun hm => c ⟨_,hm,by omega⟩)]; rfl
theorem P0 {ε : Type} (n : Nat) (step : Int → Option (Int ⊕ (Unit ⊕ ε))) (hs : ∀ k,k < n → step (k : Int) = some (.inl ((k + 1 : Nat) : Int))) (he : step (n : Int) = some (.inr (.inl ()))) : Am step 0 = some (.inl ()) := by
  rw [Nc n step (fun _ => none) hs he,JK (fun _ _ => rfl)]
theorem S5 : ∀ Q : List (List Int),Hz Vs (Q.map fun l => (2,l)) = some Q
  | [] => rfl
  | r :: Q => by
    show (Zy (2,r)).bind (fun a => (Hz Vs (Q.map fun l => (2,l))).bind fun m => some (a :: m)) = _
    rw [S5 Q]; rfl
theorem TC (p : X2) (hn : p.2.1.length ≤ 16) (hw : ∀ e ∈ p.2.1,Mp (fun n => (Lit.int .u64 n).wf = true) e ∧ e.length ≤ 30) : ∀ (d k : Nat) (acc : List (List (List Int))),k + d = p.2.1.length → acc.length = k → (∀ Q ∈ acc,Q.length ≤ 100 ∧ ∀ l ∈ Q,l.length ≤ 100) →
    ∃ o : Option (List (List (List Int))),Am (CZ p) (acc,(k : Int)) = some (match o with | none => .inr ([],2) | some a => .inl a) ∧ Am (C3 p) (acc,(k : Int)) = some (match o with | none => .inr ([],false) | some a => .inl a) ∧ ∀ a,o = some a → a.length ≤ 16 ∧ ∀ Q ∈ a,Q.length ≤ 100 ∧ ∀ l ∈ Q,l.length ≤ 100
  | 0,k,acc,hk,ha,hq => ⟨some acc,AJ (by rw [CZ,if_neg (by omega)]),AJ (by rw [C3,if_neg (by omega)]),fun a h => by cases h; exact ⟨by omega,hq⟩⟩
  | d + 1,k,acc,hk,ha,hq => by
    have hlt : k < p.2.1.length := by omega
    have hg : p.2.1[k]? = some p.2.1[k] := zb hlt
    obtain ⟨ho,hl⟩ := hw _ (List.getElem_mem hlt)
    obtain ⟨L,hL,hL2⟩ := dD ho
    have hll : L.length ≤ 30 := by rw [hL,List.length_map] at hl; exact hl
    obtain ⟨R,Q,e,r1,r2,r3,r4,r5⟩ := OT (t := p.1) hL2 (by omega)
    have s1 : CZ p (acc,(k : Int)) = if e ≠ 0 then some (.inr (.inr ([],2))) else some (.inl (acc ++ [Q],((k + 1 : Nat) : Int))) := by
      rw [CZ,if_pos (by omega),AO hg,za,hL,UW (by omega),za,r1,za]
      by_cases c : e ≠ 0
      · rw [if_pos c,if_pos c]
      · rw [if_neg c,if_neg c,r3,S5,za,Cs (by simp; omega),za,AC (by omega)]; rfl
    have s2 : C3 p (acc,(k : Int)) = if e ≠ 0 then some (.inr (.inr ([],false))) else some (.inl (acc ++ [Q],((k + 1 : Nat) : Int))) := by
      rw [C3,if_pos (by omega),AO hg,za,hL,r2,za]
      by_cases c : e ≠ 0
      · rw [if_pos c,if_pos c]
      · rw [if_neg c,if_neg c,Cs (by simp; omega),za,AC (by omega)]; rfl
    by_cases c : e ≠ 0
    · rw [if_pos c] at s1 s2
      exact ⟨none,AJ s1,AJ s2,fun a h => nomatch h⟩
    · rw [if_neg c] at s1 s2
      rw [BI s1,BI s2]
      exact TC p hn hw d (k + 1) (acc ++ [Q]) (by omega) (by simp [ha]) (fun Q' h' => by
        rcases List.mem_append.1 h' with h' | h'
        · exact hq Q' h'
        · rw [List.mem_singleton.1 h']; exact ⟨r4,r5⟩)
theorem UG (p : X2) (hn : p.2.1.length ≤ 6) (hs : p.2.2.1.length ≤ 12) (hw : ∀ e ∈ p.2.1,Mp (fun n => (Lit.int .u64 n).wf = true) e ∧ e.length ≤ 30) : (DT p = some ([],2) ∧ DL p = some ([],false)) ∨ ∃ a,DT p = some (a,0) ∧ DL p = some (a,true) ∧ a.length ≤ 16 ∧ ∀ Q ∈ a,Q.length ≤ 100 ∧ ∀ l ∈ Q,l.length ≤ 100 := by
  have hnum := X6 p (by omega)
  by_cases ok : CS p.1
  · obtain ⟨b, w1, w2⟩ := Vc ok
    cases b with
    | false =>
      refine .inl ⟨?_, ?_⟩
      · unfold DT
        rw [Jn,decide_eq_true ok,za,if_neg (by decide),w1,za]; rfl
      · unfold DL
        rw [HE,decide_eq_true ok,za,if_neg (by decide),w2,za]; rfl
    | true =>
      have hP : DT p = if (1 ≤ p.2.1.length) ∧ GK p then (GU (Am (CZ p) ([],0)) fun x5 => some (x5,0)) else some ([],2) := by
        unfold DT
        rw [Jn,decide_eq_true ok,za,if_neg (by decide),w1,za,if_neg (by decide),LA,hnum]
        by_cases c1 : 1 ≤ p.2.1.length
        · rw [decide_eq_true (show (1 : Int) ≤ (p.2.1.length : Int) ∧ (p.2.1.length : Int) ≤ 16 by omega),if_neg (by decide),za]
          by_cases c2 : GK p
          · rw [if_pos ⟨c1,c2⟩,decide_eq_true c2]; rfl
          · rw [if_neg (fun h => c2 h.2),decide_eq_false c2]; rfl
        · have d : decide ((1 : Int) ≤ (p.2.1.length : Int) ∧ (p.2.1.length : Int) ≤ 16) = false := decide_eq_false (by omega)
          rw [d,if_pos (show (!false) = true from rfl),za,if_neg (show ¬ (1 ≤ p.2.1.length ∧ GK p) from fun h => c1 h.1)]; rfl
      have hD : DL p = if (1 ≤ p.2.1.length) ∧ GK p then (GU (Am (C3 p) ([],0)) fun x8 => some (x8,true)) else some ([],false) := by
        have hl : Am (DG p) 0 = some (if ∃ s ∈ p.2.2.1, ¬ (-1048576 ≤ s ∧ s ≤ 1048576) then .inr ([],false) else .inl ()) := by
          rw [Nc p.2.2.1.length (DG p) (fun k => if ¬ (-1048576 ≤ p.2.2.1.getD k 0 ∧ p.2.2.1.getD k 0 ≤ 1048576) then some ([],false) else none) (fun k hk => by
            have hg : p.2.2.1[k]? = some p.2.2.1[k] := zb hk
            rw [DG,if_pos (by omega),AO hg,za,List.getD_eq_getElem?_getD,hg,Option.getD_some]
            by_cases c1 : p.2.2.1[k] < -1048576
            · rw [if_pos c1,if_pos (show ¬ (-1048576 ≤ p.2.2.1[k] ∧ p.2.2.1[k] ≤ 1048576) by omega)]; rfl
            · rw [if_neg c1,za]
              by_cases c2 : 1048576 < p.2.2.1[k]
              · rw [decide_eq_true c2,if_pos (show ¬ (-1048576 ≤ p.2.2.1[k] ∧ p.2.2.1[k] ≤ 1048576) by omega)]; rfl
              · rw [decide_eq_false c2,if_neg (show ¬ ¬ (-1048576 ≤ p.2.2.1[k] ∧ p.2.2.1[k] ≤ 1048576) by omega),za,if_neg (by decide),AC (by omega)]; rfl) (by rw [DG,if_neg (by omega)])]
          by_cases c : ∃ s ∈ p.2.2.1, ¬ (-1048576 ≤ s ∧ s ≤ 1048576)
          · rw [if_pos c]
            obtain ⟨s,h1,h2⟩ := c
            obtain ⟨k,hk,rfl⟩ := List.getElem_of_mem h1
            cases e : (List.range p.2.2.1.length).findSome? (fun k => if ¬ (-1048576 ≤ p.2.2.1.getD k 0 ∧ p.2.2.1.getD k 0 ≤ 1048576) then some (([] : List (List (List Int))),false) else none) with
            | none =>
              have := List.findSome?_eq_none_iff.1 e k (List.mem_range.2 hk)
              rw [List.getD_eq_getElem?_getD,zb hk,Option.getD_some,if_pos h2] at this
              cases this
            | some x =>
              obtain ⟨j,_,hx⟩ := List.exists_of_findSome?_eq_some e
              split at hx
              · cases hx; rfl
              · cases hx
          · rw [if_neg c,JK (fun k hk => if_neg (fun hh => c ⟨_,List.getElem_mem hk,by
              rw [List.getD_eq_getElem?_getD,zb hk,Option.getD_some] at hh; exact hh⟩))]
        unfold DL
        rw [HE,decide_eq_true ok,za,if_neg (by decide),w2,za,if_neg (by decide),hl]
        by_cases c1 : 1 ≤ p.2.1.length
        · by_cases c2 : GK p
          · obtain ⟨n1,n2,n3,n4,n5,n6,n7,n8⟩ := id c2
            rw [if_pos (show 1 ≤ p.2.1.length ∧ GK p from ⟨c1,c2⟩),if_neg (by omega),if_neg (by omega),if_neg (by omega),if_neg (by omega),if_neg (by omega),if_neg (by omega),decide_eq_false (by omega),za,if_neg (by decide),if_neg (by simp; omega),if_neg (fun ⟨s,h1,h2⟩ => h2 (n1 s h1))]
            rfl
          · rw [if_neg (show ¬ (1 ≤ p.2.1.length ∧ GK p) from fun h => c2 h.2)]
            by_cases d1 : ∃ s ∈ p.2.2.1, ¬ (-1048576 ≤ s ∧ s ≤ 1048576)
            · rw [if_pos d1]
              repeat' split
              all_goals first | rfl | (simp only [za]; repeat' split; all_goals rfl)
            · rw [if_neg d1]
              have hh : ¬ ((p.2.2.1.length : Int) = p.1.1 ∧ (0 ≤ p.2.2.2.1 ∧ p.2.2.2.1 ≤ 500) ∧ ((p.1.2.2.length : Int) ≤ p.2.2.2.2.1 ∧ p.2.2.2.2.1 ≤ 64) ∧ (0 ≤ p.2.2.2.2.2.1 ∧ p.2.2.2.2.2.1 ≤ 65536) ∧ (0 ≤ p.2.2.2.2.2.2.1 ∧ p.2.2.2.2.2.2.1 ≤ 65536) ∧ (0 ≤ p.2.2.2.2.2.2.2.1 ∧ p.2.2.2.2.2.2.2.1 ≤ 65536) ∧ (1 ≤ p.2.2.2.2.2.2.2.2 ∧ p.2.2.2.2.2.2.2.2 ≤ 65536)) := fun h => c2 ⟨fun s hs => Classical.byContradiction fun hh => d1 ⟨s,hs,hh⟩,h⟩
              by_cases e1 : (p.2.2.1.length : Int) = p.1.1 ∧ (0 ≤ p.2.2.2.1 ∧ p.2.2.2.1 ≤ 500) ∧ ((p.1.2.2.length : Int) ≤ p.2.2.2.2.1 ∧ p.2.2.2.2.1 ≤ 64)
              · rw [if_neg (by omega),if_neg (by omega),if_neg (by omega),if_neg (by omega),if_neg (by omega),if_neg (by omega),decide_eq_false (by omega),za,if_neg (by decide)]
                rw [if_pos (by
                  simp only [Bool.or_eq_true,decide_eq_true_eq]
                  omega)]
              · have : (if (p.2.1.length : Int) < 1 then some true else (if 16 < (p.2.1.length : Int) then some true else (if (p.2.2.1.length : Int) ≠ p.1.1 then some true else (if p.2.2.2.1 < 0 then some true else (if 500 < p.2.2.2.1 then some true else (if p.2.2.2.2.1 < (p.1.2.2.length : Int) then some true else some (decide (64 < p.2.2.2.2.1)))))))) = some true := by
                  repeat' split
                  all_goals first | rfl | (rw [decide_eq_true (by omega)])
                rw [this]; rfl
        · rw [if_neg (show ¬ (1 ≤ p.2.1.length ∧ GK p) from fun h => c1 h.1),if_pos (by omega)]; rfl
      by_cases c : (1 ≤ p.2.1.length) ∧ GK p
      · rw [if_pos c] at hP hD
        obtain ⟨o,l1,l2,l3⟩ := TC p (by omega) hw p.2.1.length 0 [] (by omega) rfl (fun Q h => nomatch h)
        rw [show ((0 : Nat) : Int) = 0 from rfl] at l1 l2
        rw [l1] at hP
        rw [l2] at hD
        cases o with
        | none => exact .inl ⟨hP,hD⟩
        | some a => exact .inr ⟨a,hP,hD,l3 a rfl⟩
      · rw [if_neg c] at hP hD
        exact .inl ⟨hP,hD⟩
  · refine .inl ⟨?_, ?_⟩
    · unfold DT
      rw [Jn,decide_eq_false ok]; rfl
    · unfold DL
      rw [HE,decide_eq_false ok]; rfl
theorem VP {a : List (List (List Int))} {e : Int} {b : Bool} (ha : a.length ≤ 16) (hq : ∀ Q ∈ a,Q.length ≤ 100 ∧ ∀ l ∈ Q,l.length ≤ 100) : Am (Db (a,e) (a,b)) 0 = some (.inl ()) :=
  P0 a.length _ (fun i hi => by
    have g1 : a[i]? = some a[i] := zb hi
    obtain ⟨q1,q2⟩ := hq _ (List.getElem_mem hi)
    have h2 : Am (Da (a,e) (a,b) (i : Int)) 0 = some (.inl ()) := P0 a[i].length _ (fun k hk => by
      have g2 : a[i][k]? = some a[i][k] := zb hk
      have q3 := q2 _ (List.getElem_mem hk)
      have h3 : Am (C8 (a,e) (a,b) (i : Int) (k : Int)) 0 = some (.inl ()) := P0 a[i][k].length _ (fun j hj => by
        have g3 : a[i][k][j]? = some a[i][k][j] := zb hj
        rw [C8]
        simp only [AO g1,AO g2,za]
        rw [if_pos (by omega)]
        simp only [AO g3,za]
        rw [if_neg (fun h => h rfl),AC (by omega)]; rfl) (by
        rw [C8]
        simp only [AO g1,AO g2,za]
        rw [if_neg (by omega)])
      rw [Da]
      simp only [AO g1,AO g2,za]
      rw [if_pos (by omega),if_neg (fun h => h rfl),h3,NA,AC (by omega)]; rfl) (by
      rw [Da]
      simp only [AO g1,za]
      rw [if_neg (by omega)])
    rw [Db]
    simp only [AO g1,za]
    rw [if_pos (by omega),if_neg (fun h => h rfl),h2,NA,AC (by omega)]; rfl) (by
    rw [Db]
    simp only
    rw [if_neg (by omega)])
theorem Mi (p : X2) {φ : Tp → Prop} {ψ : List Int × Int × Int × Int × Int × Int × Int → Prop} (ok0 : Gs φ (Gs (Mp (Mp (fun n => (Lit.int .u64 n).wf = true))) ψ) p) : Fg p = some true := by
  have hok : Mp (Mp (fun n => (Lit.int .u64 n).wf = true)) p.2.1 := ok0.2.1
  have hl : p.2.1.length ≤ 9223372036854775807 := Nat.le_trans hok.1 (by decide)
  unfold Fg
  rw [Vn p hl,za]
  by_cases c : (decide (¬ ∃ e ∈ p.2.1,30 < (e.length : Int)) && (decide ((p.1.2.1.length : Int) ≤ 30) && (decide ((p.1.2.2.length : Int) ≤ 12) && (decide ((p.2.1.length : Int) ≤ 6) && decide ((p.2.2.1.length : Int) ≤ 12))))) = true
  · rw [c,if_neg (by decide)]
    simp only [zf,decide_eq_true_eq] at c
    obtain ⟨c1,c2,c3,c4,c5⟩ := c
    rcases UG p (by omega) (by omega) (fun e he => ⟨hok.2 e he,Classical.byContradiction fun hh => c1 ⟨e,he,by omega⟩⟩) with ⟨h1,h2⟩ | ⟨a,h1,h2,h3,h4⟩
    · rw [h1,za,h2,za,if_neg (by decide),VP (a := []) (by simp) (fun Q h => nomatch h)]; rfl
    · rw [h1,za,h2,za,if_neg (by simp),VP h3 h4]; rfl
  · rw [Bool.eq_false_iff.2 c]; rfl
end Go.Proofs.YtbiekjhlijdjbaaGreat
