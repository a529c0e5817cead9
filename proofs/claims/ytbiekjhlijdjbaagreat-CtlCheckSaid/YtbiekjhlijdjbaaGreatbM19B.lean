/- Layer 19: how far. Conditions: none. -/
import Derived.Test.YtbiekjhlijdjbaaGreatbM19C
set_option linter.unusedVariables false
set_option linter.unusedSimpArgs false
open Go Go.RowKit
namespace Go.Proofs.YtbiekjhlijdjbaaGreat
structure Bs17 (t : Tp) (A : Int → Int → Prop) (s : Int) (h : List Int) : Prop where
  len : (h.length : Int) = t.1
  src : VV t s → hv h s = 0
  lo : ∀ v,VV t v → -1 ≤ hv h v
  zero : ∀ v,VV t v → hv h v = 0 → v = s
  dn : ∀ v,VV t v → 0 < hv h v → ∃ u,A u v ∧ hv h u = hv h v - 1
structure Sp (t : Tp) (A : Int → Int → Prop) (s : Int) (h : List Int) : Prop extends Bs17 t A s h where
  up : ∀ u v,A u v → 0 ≤ hv h u → 0 ≤ hv h v ∧ hv h v ≤ hv h u + 1
theorem Bs17.set {t : Tp} (hok : CS t) {A : Int → Int → Prop} (hA : ∀ {u v : Int},A u v → VV t u ∧ VV t v) {s : Int} {h : List Int} (H : Bs17 t A s h) {u v : Int} (ha : A u v) (hu : 0 ≤ hv h u) (hv0 : hv h v < 0) : Bs17 t A s (Ao h v (hv h u + 1)) := by
  obtain ⟨Vu,Vv⟩ := hA ha
  have hl := H.len
  have g : ∀ w,VV t w → hv (Ao h v (hv h u + 1)) w = if w = v then hv h u + 1 else hv h w := fun w hw => EU Vv.1 (by omega) hw.1
  refine ⟨by rw [Fj]; exact hl,fun hs => ?_,fun w hw => ?_,fun w hw hz => ?_,fun w hw hp => ?_⟩
  · have := H.src hs
    rw [g s hs,if_neg (fun e => by subst e; omega)]; exact this
  · rw [g w hw]
    have := H.lo w hw
    split <;> omega
  · rw [g w hw] at hz
    by_cases c : w = v
    · rw [if_pos c] at hz; omega
    · rw [if_neg c] at hz; exact H.zero w hw hz
  · rw [g w hw] at hp ⊢
    by_cases c : w = v
    · subst c
      rw [if_pos rfl]
      exact ⟨u,ha,by rw [g u Vu,if_neg (fun e => by subst e; omega)]; omega⟩
    · rw [if_neg c] at hp ⊢
      obtain ⟨z,hz,e⟩ := H.dn w hw hp
      exact ⟨z,hz,by rw [g z (hA hz).1,if_neg (fun e2 => by subst e2; omega)]; exact e⟩
theorem Sp.le {t : Tp} (hok : CS t) {A : Int → Int → Prop} (hA : ∀ {u v : Int},A u v → VV t u ∧ VV t v) {s : Int} {h g : List Int} (H : Bs17 t A s h) (G : Sp t A s g) : ∀ (m : Nat) (v : Int),VV t v → hv h v = m → 0 ≤ hv g v ∧ hv g v ≤ m
  | 0,v,hV,e => by
    have := H.zero v hV (by simpa using e)
    subst this
    have := G.src hV
    omega
  | m + 1,v,hV,e => by
    obtain ⟨u,hu,e2⟩ := H.dn v hV (by omega)
    have h1 := Sp.le hok hA H G m u (hA hu).1 (by omega)
    have := G.up u v hu h1.1
    omega
theorem Sp.uniq {t : Tp} (hok : CS t) {A : Int → Int → Prop} (hA : ∀ {u v : Int},A u v → VV t u ∧ VV t v) {s : Int} {h g : List Int} (H : Sp t A s h) (G : Sp t A s g) : h = g := by
  have hl := H.len
  have gl := G.len
  refine T1 (by omega) (fun v h0 h1 => ?_)
  have hV : VV t v := ⟨h0,by omega⟩
  have a := H.lo v hV
  have b := G.lo v hV
  by_cases c : 0 ≤ hv h v
  · have h2 := Sp.le hok hA H.toBs17 G (hv h v).toNat v hV (by omega)
    have h3 := Sp.le hok hA G.toBs17 H (hv g v).toNat v hV (by omega)
    omega
  · by_cases c2 : 0 ≤ hv g v
    · have h3 := Sp.le hok hA G.toBs17 H (hv g v).toNat v hV (by omega)
      omega
    · omega
theorem Bs17.chain {t : Tp} (hok : CS t) {A : Int → Int → Prop} (hA : ∀ {u v : Int},A u v → VV t u ∧ VV t v) {s : Int} {h : List Int} (H : Bs17 t A s h) : ∀ (m : Nat) (v : Int),VV t v → hv h v = m → ∃ l : List Int,l.length = m + 1 ∧ l.Nodup ∧ ∀ x ∈ l,VV t x ∧ hv h x ≤ m
  | 0,v,hV,e => ⟨[v],rfl,by simp,fun x hx => by rw [List.mem_singleton.1 hx]; exact ⟨hV,by omega⟩⟩
  | m + 1,v,hV,e => by
    obtain ⟨u,hu,e2⟩ := H.dn v hV (by omega)
    obtain ⟨l,l1,l2,l3⟩ := H.chain hok hA m u (hA hu).1 (by omega)
    refine ⟨v :: l,by simp [l1],List.nodup_cons.2 ⟨fun hm => by have := (l3 v hm).2; omega,l2⟩,fun x hx => ?_⟩
    rcases List.mem_cons.1 hx with rfl | hx
    · exact ⟨hV,by omega⟩
    · have := l3 x hx
      exact ⟨this.1,by omega⟩
theorem Bs17.lt {t : Tp} (hok : CS t) {A : Int → Int → Prop} (hA : ∀ {u v : Int},A u v → VV t u ∧ VV t v) {s : Int} {h : List Int} (H : Bs17 t A s h) {v : Int} (hV : VV t v) : hv h v < t.1 := by
  by_cases c : 0 ≤ hv h v
  · obtain ⟨l,l1,l2,l3⟩ := H.chain hok hA (hv h v).toNat v hV (by omega)
    have := B6 t.1.toNat l l2 (fun x hx => by have := (l3 x hx).1; omega)
    have := hok.1.1
    omega
  · have := hok.1.1
    omega
structure Q17 (t : Tp) (A : Int → Int → Prop) (s a d : Int) (P : List Int) (h : List Int) (Q : List Int) : Prop extends Bs17 t A s h where
  qV : ∀ q ∈ P ++ Q,VV t q ∧ 0 ≤ hv h q
  nd : (P ++ Q).Nodup
  mono : Q.Pairwise fun x y => hv h x ≤ hv h y
  hd : ∀ q ∈ Q,d ≤ hv h q
  top : ∀ v,VV t v → hv h v ≤ d + 1
  nn : 0 ≤ d
  up : ∀ u v,A u v → 0 ≤ hv h u → u ∉ Q → u ≠ a → 0 ≤ hv h v ∧ hv h v ≤ hv h u + 1
theorem Q17.push {t : Tp} (hok : CS t) {A : Int → Int → Prop} (hA : ∀ {u v : Int},A u v → VV t u ∧ VV t v) {s a d : Int} {P h Q : List Int} (H : Q17 t A s a d P h Q) {v : Int} (ha : A a v) (hd : hv h a = d) (hv0 : hv h v < 0) : Q17 t A s a d P (Ao h v (d + 1)) (Q ++ [v]) ∧ hv (Ao h v (d + 1)) a = d ∧ ∀ w,VV t w → 0 ≤ hv h w → 0 ≤ hv (Ao h v (d + 1)) w := by
  obtain ⟨Va,Vv⟩ := hA ha
  have hl := H.len
  have hnn := H.nn
  have g : ∀ w,VV t w → hv (Ao h v (d + 1)) w = if w = v then d + 1 else hv h w := fun w hw => EU Vv.1 (by omega) hw.1
  have hB : Bs17 t A s (Ao h v (d + 1)) := by
    have := H.toBs17.set hok hA ha (by omega) hv0
    rwa [hd] at this
  have hq : ∀ q ∈ P ++ Q,hv (Ao h v (d + 1)) q = hv h q := fun q hq => by
    have := H.qV q hq
    rw [g q this.1,if_neg (fun e => by subst e; omega)]
  have hvn : v ∉ P ++ Q := fun hm => by have := H.qV v hm; omega
  refine ⟨{ toBs17 := hB,qV := fun q hm => ?_,nd := ?_,mono := ?_,hd := fun q hm => ?_,top := fun w hw => ?_,nn := hnn,up := fun u w hu h0 hn hne => ?_ },by rw [g a Va,if_neg (fun e => by subst e; omega)]; exact hd,fun w hw h0 => ?_⟩
  · rw [← List.append_assoc] at hm
    rcases List.mem_append.1 hm with hm | hm
    · rw [hq q hm]; exact H.qV q hm
    · rw [List.mem_singleton.1 hm,g v Vv,if_pos rfl]; exact ⟨Vv,by omega⟩
  · rw [← List.append_assoc,List.nodup_append]
    exact ⟨H.nd,by simp,fun x hx y hy => by rw [List.mem_singleton.1 hy]; intro e; subst e; exact hvn hx⟩
  · rw [List.pairwise_append]
    refine ⟨H.mono.imp_of_mem fun {x y} hx hy hxy => by rw [hq x (List.mem_append_right _ hx),hq y (List.mem_append_right _ hy)]; exact hxy,by simp,fun x hx y hy => ?_⟩
    rw [List.mem_singleton.1 hy,hq x (List.mem_append_right _ hx),g v Vv,if_pos rfl]
    exact H.top x (H.qV x (List.mem_append_right _ hx)).1
  · rcases List.mem_append.1 hm with hm | hm
    · rw [hq q (List.mem_append_right _ hm)]; exact H.hd q hm
    · rw [List.mem_singleton.1 hm,g v Vv,if_pos rfl]; omega
  · rw [g w hw]
    have := H.top w hw
    split <;> omega
  · obtain ⟨Vu,Vw⟩ := hA hu
    have hnu : u ≠ v := fun e => hn (by rw [e]; simp)
    rw [g u Vu,if_neg hnu] at h0 ⊢
    have := H.up u w hu h0 (fun hm => hn (List.mem_append_left _ hm)) hne
    rw [g w Vw,if_neg (fun e => by subst e; omega)]
    exact this
  · rw [g w hw]
    split <;> omega
structure R17 (t : Tp) (A : Int → Int → Prop) (s k : Int) (h : List Int) : Prop extends Bs17 t A s h where
  top : ∀ v,VV t v → hv h v ≤ k
  up : ∀ u v,A u v → 0 ≤ hv h u → hv h u < k → 0 ≤ hv h v ∧ hv h v ≤ hv h u + 1
structure I17 (t : Tp) (A : Int → Int → Prop) (s k : Int) (done : List (Int × Int)) (h : List Int) : Prop extends Bs17 t A s h where
  top : ∀ v,VV t v → hv h v ≤ k + 1
  nn : 0 ≤ k
  up : ∀ u v,A u v → 0 ≤ hv h u → hv h u < k → 0 ≤ hv h v ∧ hv h v ≤ hv h u + 1
  dd : ∀ q ∈ done,A q.1 q.2 ∧ (hv h q.1 = k → 0 ≤ hv h q.2)
theorem I17.put {t : Tp} (hok : CS t) {A : Int → Int → Prop} (hA : ∀ {u v : Int},A u v → VV t u ∧ VV t v) {s k : Int} {done : List (Int × Int)} {h : List Int} (H : I17 t A s k done h) {u v : Int} (ha : A u v) (hu : hv h u = k) (hv0 : hv h v < 0) : I17 t A s k done (Ao h v (k + 1)) := by
  obtain ⟨Vu,Vv⟩ := hA ha
  have hl := H.len
  have hnn := H.nn
  have g : ∀ w,VV t w → hv (Ao h v (k + 1)) w = if w = v then k + 1 else hv h w := fun w hw => EU Vv.1 (by omega) hw.1
  have hB : Bs17 t A s (Ao h v (k + 1)) := by
    have := H.toBs17.set hok hA ha (by omega) hv0
    rwa [hu] at this
  have hd2 : ∀ a b,VV t a → VV t b → (hv h a = k → 0 ≤ hv h b) → hv (Ao h v (k + 1)) a = k → 0 ≤ hv (Ao h v (k + 1)) b := fun a b Va Vb hab he => by
    rw [g a Va] at he
    rw [g b Vb]
    by_cases c : a = v
    · rw [if_pos c] at he; omega
    · rw [if_neg c] at he
      have := hab he
      split <;> omega
  refine { toBs17 := hB,top := fun w hw => ?_,nn := hnn,up := fun a b hab h0 hlt => ?_,dd := fun x hx => ?_ }
  · rw [g w hw]
    have := H.top w hw
    split <;> omega
  · obtain ⟨Va,Vb⟩ := hA hab
    rw [g a Va] at h0 hlt ⊢
    by_cases c : a = v
    · rw [if_pos c] at hlt; omega
    · rw [if_neg c] at h0 hlt ⊢
      have := H.up a b hab h0 hlt
      rw [g b Vb,if_neg (fun e => by subst e; omega)]
      exact this
  · obtain ⟨hadj,hx2⟩ := H.dd x hx
    obtain ⟨Va,Vb⟩ := hA hadj
    exact ⟨hadj,hd2 _ _ Va Vb hx2⟩
end Go.Proofs.YtbiekjhlijdjbaaGreat
namespace Go.Proofs.YtbiekjhlijdjbaaGreat
abbrev Q5 (L c : List Nat) (u v k : Int) : Prop := Pg (wg L k) = true ∧ wg c u ≠ C7 ∧ GD (wg L k) (wg c v) = wg c u
def Td (t : Tp) (L c : List Nat) (v u : Int) : Prop := ∃ k,E t u v k ∧ Q5 L c u v k
theorem Td.V {t : Tp} (hok : CS t) {L c : List Nat} {u v : Int} (h : Td t L c u v) : VV t u ∧ VV t v := by
  obtain ⟨k,he,_⟩ := h
  exact ⟨(he.V hok).2.1,(he.V hok).1⟩
theorem Tq {a b : Nat} (ha : a ≤ C7) (hb : b ≤ C7) : Ni a b = decide (a = b) := by
  obtain ⟨k1,n1⟩ := FX (DQ ha)
  obtain ⟨k2,n2⟩ := FX (DQ hb)
  rw [LE,k1,k2,J1 ha,J1 hb]
  exact decide_eq_decide.2 ⟨fun h => by have := h.2.2; omega,fun h => ⟨n1,n2,by rw [h]⟩⟩
theorem UC {a : Nat} (ha : a ≤ C7) : Pg a = decide (a ≠ C7) := by
  have := Uh (DQ ha)
  rw [J1 ha] at this
  by_cases c : a = C7
  · rw [decide_eq_false (fun h => h c)]
    cases h : Pg a with
    | false => rfl
    | true => exact absurd c (this.1 h)
  · rw [decide_eq_true c]; exact this.2 c
section
variable {t : Tp} {L c : List Nat} {s : Int}
theorem MF (hok : CS t) (hw : Ib t L) (hc : (c.length : Int) = t.1) (hb : ∀ v,VV t v → wg c v ≤ C7) {u v k : Int} (he : E t u v k) : DP L c u k v = some (decide (Q5 L c u v k)) := by
  obtain ⟨hk,hcost⟩ := hw.cost hok he
  obtain ⟨hu,hv,_⟩ := he.V hok
  have iu : In c u := ⟨hu.1,by rw [hc]; exact hu.2⟩
  have iv : In c v := ⟨hv.1,by rw [hc]; exact hv.2⟩
  unfold DP
  rw [VM,decide_eq_true hk,Bool.true_and,za]
  by_cases q : Pg (wg L k) = true
  · rw [if_pos q,Ih iu,za,Qf.1,za,TJ,UC (hb u hu)]
    by_cases q2 : wg c u = C7
    · rw [decide_eq_false (fun h => h q2),if_neg (by decide),za,decide_eq_false (fun h => h.2.1 q2)]
    · rw [decide_eq_true q2,if_pos rfl,Ih hk,za,Ih iv,za,za,show Ni (Bm (wg L k) (wg c v)) (wg c u) = _ from Tq (Th hcost (hb v hv)) (hb u hu),za]
      exact congrArg some (decide_eq_decide.2 ⟨fun h => ⟨q,q2,h⟩,fun h => h.2.2⟩)
  · rw [if_neg q,za,decide_eq_false (fun h => q h.1)]
theorem N4 (hok : CS t) (hw : Ib t L) (hc : (c.length : Int) = t.1) (hb : ∀ v,VV t v → wg c v ≤ C7) {u : Int} {x : Sd} (hx : FR t u x) : FZ (nz L) (nz c) u x = some (decide (Q5 L c u x.2.1 x.2.2)) := by
  have he : E t u x.2.1 x.2.2 := ⟨x.1,hx⟩
  obtain ⟨hk,hcost⟩ := hw.cost hok he
  obtain ⟨hu,hv,_⟩ := he.V hok
  have iu : In c u := ⟨hu.1,by rw [hc]; exact hu.2⟩
  have iv : In c x.2.1 := ⟨hv.1,by rw [hc]; exact hv.2⟩
  unfold FZ
  rw [JV iu,za]
  by_cases q2 : wg c u = C7
  · have q3 : ¬ ((wg c u : Nat) : Int) ≠ 9218868437227405312 := fun h => h (by rw [q2]; rfl)
    rw [if_neg q3,za,decide_eq_false (fun h => h.2.1 q2)]
  · have q3 : ¬ ((wg c u : Nat) : Int) = 9218868437227405312 := fun h => q2 (show wg c u = 9218868437227405312 by omega)
    rw [if_pos q3,Xo (QQ hw.1),decide_eq_true hk,Bool.true_and,za]
    by_cases q : Pg (wg L x.2.2) = true
    · rw [if_pos q,JV hk,za,JV iv,za,za,Pd,za]
      exact congrArg some (decide_eq_decide.2 ⟨fun h => ⟨q,q2,by omega⟩,fun h => by have := h.2.2; omega⟩)
    · rw [if_neg q,za,decide_eq_false (fun h => q h.1)]
theorem O6 (hok : CS t) (hw : Ib t L) (hc : (c.length : Int) = t.1) (hb : ∀ v,VV t v → wg c v ≤ C7) {a d : Int} {P : List Int} {N : List Sd} (hN : N.length ≤ 8) (hS : ∀ x ∈ N,FR t a x) : ∀ (dd k : Nat),k + dd = N.length → ∀ (h Q : List Int),Q17 t (Td t L c) s a d P h Q → hv h a = d → (∀ x ∈ N.take k,Q5 L c x.2.1 a x.2.2 → 0 ≤ hv h x.2.1) → ∃ h' Q',Am (B7 L c a N) (h,Q,(k : Int)) = some (.inl (h',Q')) ∧ Q17 t (Td t L c) s a d P h' Q' ∧ hv h' a = d ∧ ∀ x ∈ N,Q5 L c x.2.1 a x.2.2 → 0 ≤ hv h' x.2.1 := by
  intro dd
  induction dd with
  | zero =>
    intro k hk h Q H hd hx
    rw [List.take_of_length_le (by omega)] at hx
    exact ⟨h,Q,AJ (by rw [B7,if_neg (by omega)]),H,hd,hx⟩
  | succ dd ih =>
    intro k hk h Q H hd hx
    have hkl : k < N.length := by omega
    have hg := zb hkl
    have he : E t a N[k].2.1 N[k].2.2 := ⟨N[k].1,hS _ (List.getElem_mem hkl)⟩
    obtain ⟨Va,Vv,_⟩ := he.V hok
    have hl := H.len
    have iv : ix h N[k].2.1 = some (hv h N[k].2.1) := E0 Vv.1 (by omega)
    have ia : ix h a = some (hv h a) := E0 Va.1 (by omega)
    have hQl : Q.length ≤ 8 := by
      have h1 := B6 t.1.toNat Q (List.nodup_append.1 H.nd).2.1 (fun x hx => by have := (H.qV x (List.mem_append_right _ hx)).1; omega)
      have := hok.1.2.1
      omega
    have htop := H.top a Va
    have hlt := H.toBs17.lt hok (fun h => h.V hok) Va
    have ht8 := hok.1.2.1
    have hnn := H.nn
    have his := MF hok hw hc hb (he.symm hok)
    by_cases q : hv h N[k].2.1 < 0 ∧ Q5 L c N[k].2.1 a N[k].2.2
    · have hadj : Td t L c a N[k].2.1 := ⟨_,he.symm hok,q.2⟩
      obtain ⟨H',hd',hk'⟩ := H.push hok (fun h => h.V hok) hadj hd q.1
      have hst : B7 L c a N (h,Q,(k : Int)) = some (.inl (Ao h N[k].2.1 (d + 1),Q ++ [N[k].2.1],((k + 1 : Nat) : Int))) := by
        rw [B7,if_pos (by omega),AO hg,za,iv,za,if_pos q.1,his,za,za,if_pos (decide_eq_true q.2),ia,za,za,Cs (by simp; omega),za,hd,AC (by omega),za]
        show some (Sum.inl (_,_,w64 ((k : Int) + 1))) = _
        rw [AC (by omega)]; rfl
      rw [BI hst]
      refine ih (k + 1) (by omega) _ _ H' hd' (fun x hm hsx => ?_)
      rw [List.take_succ_eq_append_getElem hkl] at hm
      rcases List.mem_append.1 hm with hm | hm
      · have hex : E t a x.2.1 x.2.2 := ⟨x.1,hS x (List.mem_of_mem_take hm)⟩
        exact hk' _ (hex.V hok).2.1 (hx x hm hsx)
      · rw [List.mem_singleton.1 hm,EU Vv.1 (by omega) Vv.1,if_pos rfl]; omega
    · have hst : B7 L c a N (h,Q,(k : Int)) = some (.inl (h,Q,((k + 1 : Nat) : Int))) := by
        rw [B7,if_pos (by omega),AO hg,za,iv,za]
        by_cases q1 : hv h N[k].2.1 < 0
        · rw [if_pos q1,his,za,za,decide_eq_false (fun hh => q ⟨q1,hh⟩),if_neg (by decide),za]
          show some (Sum.inl (_,_,w64 ((k : Int) + 1))) = _
          rw [AC (by omega)]; rfl
        · rw [if_neg q1,za,if_neg (by decide),za]
          show some (Sum.inl (_,_,w64 ((k : Int) + 1))) = _
          rw [AC (by omega)]; rfl
      rw [BI hst]
      refine ih (k + 1) (by omega) _ _ H hd (fun x hm hsx => ?_)
      rw [List.take_succ_eq_append_getElem hkl] at hm
      rcases List.mem_append.1 hm with hm | hm
      · exact hx x hm hsx
      · rw [List.mem_singleton.1 hm] at hsx ⊢
        have : ¬ hv h N[k].2.1 < 0 := fun hh => q ⟨hh,hsx⟩
        omega
theorem Ox (hok : CS t) (hw : Ib t L) (hc : (c.length : Int) = t.1) (hb : ∀ v,VV t v → wg c v ≤ C7) : ∀ (f : Nat) (d : Int) (P h Q : List Int),P.length + f = 8 → Q17 t (Td t L c) s (-1) d P h Q → ∃ h',Am (Cx t L c) (h,Q) = some h' ∧ Sp t (Td t L c) s h' := by
  intro f
  induction f with
  | zero =>
    intro d P h Q hf H
    have h1 := B6 t.1.toNat (P ++ Q) H.nd (fun x hx => by have := (H.qV x hx).1; omega)
    have := hok.1.2.1
    rw [List.length_append] at h1
    have hQ : Q = [] := List.eq_nil_of_length_eq_zero (by omega)
    subst hQ
    exact ⟨h,AJ (by rw [Cx,if_neg (by simp)]), { toBs17 := H.toBs17,up := fun u v hu h0 => H.up u v hu h0 (by simp) (by have := (hu.V hok).1.1; omega) }⟩
  | succ f ih =>
    intro d P h Q hf H
    cases Q with
    | nil => exact ⟨h,AJ (by rw [Cx,if_neg (by simp)]), { toBs17 := H.toBs17,up := fun u v hu h0 => H.up u v hu h0 (by simp) (by have := (hu.V hok).1.1; omega) }⟩
    | cons a Q =>
      have hqa := H.qV a (by simp)
      have hda := H.hd a (by simp)
      have hmono := List.pairwise_cons.1 H.mono
      have e1 : P ++ a :: Q = (P ++ [a]) ++ Q := by simp
      have hnd := H.nd
      rw [e1] at hnd
      have haQ : a ∉ Q := fun hm => (List.nodup_append.1 hnd).2.2 a (by simp) a hm rfl
      have H1 : Q17 t (Td t L c) s a (hv h a) (P ++ [a]) h Q := { toBs17 := H.toBs17,qV := fun q hq => H.qV q (by rw [e1]; exact hq),nd := hnd,mono := hmono.2,hd := fun q hq => hmono.1 q hq,top := fun v hV => (by have := H.top v hV; omega),nn := hqa.2,up := fun u v hu h0 hn hne => H.up u v hu h0 (fun hm => (List.mem_cons.1 hm).elim hne hn) (by have := (hu.V hok).1.1; omega) }
      obtain ⟨N,n1,n2,_,n4⟩ := HU hok a
      obtain ⟨h',Q',g1,g2,g3,g4⟩ := O6 hok hw hc hb n4 (fun x hx => (n2 x).1 hx) N.length 0 (by omega) h Q H1 rfl (by simp)
      have hup : ∀ u v,Td t L c u v → 0 ≤ hv h' u → u ∉ Q' → u ≠ -1 → 0 ≤ hv h' v ∧ hv h' v ≤ hv h' u + 1 := fun u v hu h0 hn hne => by
        by_cases q : u = a
        · subst q
          have hV := (hu.V hok).2
          obtain ⟨k,he,hs⟩ := hu
          obtain ⟨p,hp⟩ := he.symm hok
          exact ⟨g4 (p,v,k) ((n2 _).2 hp) hs,by rw [g3]; exact g2.top _ hV⟩
        · exact g2.up u v hu h0 hn q
      have H2 : Q17 t (Td t L c) s (-1) (hv h a) (P ++ [a]) h' Q' := { g2 with up := hup }
      obtain ⟨hF,k1,k2⟩ := ih (hv h a) (P ++ [a]) h' Q' (by simp; omega) H2
      refine ⟨hF, ?_,k2⟩
      have hst : Cx t L c (h,a :: Q) = some (.inl (h',Q')) := by
        rw [Cx,if_pos (by simp only [List.length_cons]; omega),show ix (a :: Q) 0 = some a from AO (k := 0) rfl,za,KF (by simp; omega),za,n1,za]
        have : ((a :: Q).take (Int.toNat ((a :: Q).length : Int))).drop (Int.toNat 1) = Q := by simp
        rw [this]; exact g1
      rw [BI hst]; exact k1
theorem R3 (hok : CS t) (hw : Ib t L) (hs : VV t s) (hcs : CU t L s = some c) (hc : (c.length : Int) = t.1) (hb : ∀ v,VV t v → wg c v ≤ C7) : ∃ h,Ej t L s = some h ∧ Sp t (Td t L c) s h := by
  have h8 := hok.1.2.1
  have h1t := hok.1.1
  have hr0 : ((List.replicate t.1.toNat (-1) : List Int).length : Int) = t.1 := by simp; omega
  have g : ∀ w,VV t w → hv (Ao (List.replicate t.1.toNat (-1)) s 0) w = if w = s then 0 else -1 := fun w hw2 => by
    rw [EU hs.1 (by rw [hr0]; exact hs.2) hw2.1]
    split
    · rfl
    · exact IB
  have H0 : Q17 t (Td t L c) s (-1) 0 [] (Ao (List.replicate t.1.toNat (-1)) s 0) [s] := {
    len := by rw [Fj]; exact hr0
    src := fun _ => by rw [g s hs,if_pos rfl]
    lo := fun v hV => by rw [g v hV]; split <;> omega
    zero := fun v hV e => by
      rw [g v hV] at e
      by_cases cc : v = s
      · exact cc
      · rw [if_neg cc] at e; omega
    dn := fun v hV e => by
      rw [g v hV] at e
      split at e <;> omega
    qV := fun q hq => by
      rw [List.nil_append,List.mem_singleton] at hq
      subst hq
      exact ⟨hs,by rw [g q hs,if_pos rfl]; omega⟩
    nd := by simp
    mono := by simp
    hd := fun q hq => by
      rw [List.mem_singleton] at hq
      subst hq
      rw [g q hs,if_pos rfl]; omega
    top := fun v hV => by rw [g v hV]; split <;> omega
    nn := by omega
    up := fun u v hu a b _ => by
      have hV := (hu.V hok).1
      rw [g u hV] at a
      by_cases cc : u = s
      · exact absurd (by rw [cc]; simp) b
      · rw [if_neg cc] at a; omega }
  obtain ⟨h',q1,q2⟩ := Ox hok hw hc hb 8 0 [] _ [s] rfl H0
  refine ⟨h', ?_,q2⟩
  unfold Ej
  rw [hcs,za,if_neg (by omega),Rc ⟨h1t,h8⟩,za,E0 hs.1 (by rw [hr0]; exact hs.2),za,q1]; rfl
structure J19 (t : Tp) (A : Int → Int → Prop) (s k : Int) (Dn : Int → Int → Prop) (h : List Int) : Prop extends Bs17 t A s h where
  top : ∀ v,VV t v → hv h v ≤ k + 1
  nn : 0 ≤ k
  up : ∀ u v,A u v → 0 ≤ hv h u → hv h u < k → 0 ≤ hv h v ∧ hv h v ≤ hv h u + 1
  dd : ∀ u v,Dn u v → A u v → hv h u = k → 0 ≤ hv h v
theorem J19.put {A : Int → Int → Prop} (hok : CS t) (hA : ∀ {u v : Int},A u v → VV t u ∧ VV t v) {k : Int} {Dn : Int → Int → Prop} {h : List Int} (H : J19 t A s k Dn h) {u v : Int} (ha : A u v) (hu : hv h u = k) (hv0 : hv h v < 0) : J19 t A s k Dn (Ao h v (k + 1)) ∧ 0 ≤ hv (Ao h v (k + 1)) v := by
  obtain ⟨Vu,Vv⟩ := hA ha
  have hl := H.len
  have hnn := H.nn
  have g : ∀ w,VV t w → hv (Ao h v (k + 1)) w = if w = v then k + 1 else hv h w := fun w hw => EU Vv.1 (by omega) hw.1
  have hB : Bs17 t A s (Ao h v (k + 1)) := by
    have := H.toBs17.set hok hA ha (by omega) hv0
    rwa [hu] at this
  refine ⟨{ toBs17 := hB,top := fun w hw => ?_,nn := hnn,up := fun a b hab h0 hlt => ?_,dd := fun a b hD hab he => ?_ },by rw [g v Vv,if_pos rfl]; omega⟩
  · rw [g w hw]
    have := H.top w hw
    split <;> omega
  · obtain ⟨Va,Vb⟩ := hA hab
    rw [g a Va] at h0 hlt ⊢
    by_cases q : a = v
    · rw [if_pos q] at hlt; omega
    · rw [if_neg q] at h0 hlt ⊢
      have := H.up a b hab h0 hlt
      rw [g b Vb,if_neg (fun e => by subst e; omega)]
      exact this
  · obtain ⟨Va,Vb⟩ := hA hab
    rw [g a Va] at he
    rw [g b Vb]
    by_cases q : a = v
    · rw [if_pos q] at he; omega
    · rw [if_neg q] at he
      have := H.dd a b hD hab he
      split <;> omega
theorem M5 (hok : CS t) (hw : Ib t L) (hc : (c.length : Int) = t.1) (hb : ∀ v,VV t v → wg c v ≤ C7) {k : Int} (hk : 0 ≤ k ∧ k ≤ 100) {u : Int} (hu : VV t u) {N : List Sd} (hN : ∀ x,x ∈ N ↔ FR t u x) (hl : N.length ≤ 8) {Dn : Int → Int → Prop} {h : List Int} (H : J19 t (Td t L c) s k Dn h) : ∃ h',Am (CV (nz L) (nz c) (k + 1) u N) (h,0) = some h' ∧ J19 t (Td t L c) s k (fun a b => Dn a b ∨ b = u) h' := by
  obtain ⟨h',h1,h2⟩ := Bw N.length (fun (h : List Int) (i : Nat) => (h,(i : Int))) (CV (nz L) (nz c) (k + 1) u N) id
    (fun h i => J19 t (Td t L c) s k Dn h ∧ ∀ x ∈ N.take i,Q5 L c u x.2.1 x.2.2 → hv h x.2.1 = k → 0 ≤ hv h u)
    (fun h i hi ⟨HI,hx⟩ => by
      have hg := AO (zb hi)
      have hsd := (hN _).1 (List.getElem_mem hi)
      have he : E t u N[i].2.1 N[i].2.2 := ⟨N[i].1,hsd⟩
      obtain ⟨_,Vv,_⟩ := he.V hok
      have hlen := HI.len
      have iu : ix h u = some (hv h u) := E0 hu.1 (by have := hu.2; omega)
      have iv : ix h N[i].2.1 = some (hv h N[i].2.1) := E0 Vv.1 (by have := Vv.2; omega)
      have his := N4 hok hw hc hb hsd
      by_cases q : hv h u = -1 ∧ hv h N[i].2.1 = k ∧ Q5 L c u N[i].2.1 N[i].2.2
      · have hT : Td t L c N[i].2.1 u := ⟨_,he,q.2.2⟩
        obtain ⟨HP,hP⟩ := HI.put hok (fun h => h.V hok) hT q.2.1 (by omega)
        refine ⟨Ao h u (k + 1), ?_,HP,fun x _ _ _ => hP⟩
        rw [CV,if_pos (by omega),iu,za,if_pos q.1,hg,za,iv,za,AC (by omega),if_pos (by omega),za,his,za,za,if_pos (decide_eq_true q.2.2),za,za,AC (by omega)]; rfl
      · refine ⟨h, ?_,HI,fun x hm hsx hxk => ?_⟩
        · rw [CV,if_pos (by omega),iu,za]
          by_cases q1 : hv h u = -1
          · rw [if_pos q1,hg,za,iv,za,AC (by omega)]
            by_cases q2 : hv h N[i].2.1 = k
            · rw [if_pos (by omega),za,his,za,za,decide_eq_false (fun hh => q ⟨q1,q2,hh⟩),if_neg (by decide),za,AC (by omega)]; rfl
            · rw [if_neg (by omega),za,if_neg (by decide),za,AC (by omega)]; rfl
          · rw [if_neg q1,za,if_neg (by decide),za,AC (by omega)]; rfl
        · rw [List.take_succ_eq_append_getElem hi] at hm
          rcases List.mem_append.1 hm with hm | hm
          · exact hx x hm hsx hxk
          · rw [List.mem_singleton.1 hm] at hsx hxk
            have := HI.lo u hu
            have : hv h u ≠ -1 := fun e => q ⟨e,hxk,hsx⟩
            omega)
    (fun h _ => by rw [CV,if_neg (by omega)]; rfl) h ⟨H,by simp⟩
  rw [List.take_length] at h1
  refine ⟨h',h2, { h1.1 with dd := fun a b hD hab he => ?_ }⟩
  rcases hD with hD | hD
  · exact h1.1.dd a b hD hab he
  · subst hD
    obtain ⟨k2,hE,hs2⟩ := hab
    obtain ⟨p,hp⟩ := hE
    exact h1.2 (p,a,k2) ((hN _).2 hp) hs2 he
theorem NP (hok : CS t) (hw : Ib t L) (hc : (c.length : Int) = t.1) (hb : ∀ v,VV t v → wg c v ≤ C7) {k : Int} (hk : 0 ≤ k ∧ k ≤ 100) {h : List Int} (H : R17 t (Td t L c) s k h) : ∃ h',Am (C1 t (nz L) (nz c) (k + 1)) (h,0) = some h' ∧ R17 t (Td t L c) s (k + 1) h' := by
  have h8 := hok.1.2.1
  obtain ⟨h',h1,h2⟩ := Bw c.length (fun (h : List Int) (i : Nat) => (h,(i : Int))) (C1 t (nz L) (nz c) (k + 1)) id
    (fun h i => J19 t (Td t L c) s k (fun _ b => 0 ≤ b ∧ b < (i : Int)) h)
    (fun h i hi HI => by
      obtain ⟨N,n1,n2,n3⟩ := IF hok (i : Int)
      obtain ⟨h',q1,q2⟩ := M5 hok hw hc hb hk (u := (i : Int)) ⟨by omega,by omega⟩ n2 (Pa hok n2 n3) HI
      refine ⟨h',by rw [C1,if_pos (by rw [Jg]; omega),n1,za,q1,za,AC (by omega)]; rfl, { q2 with dd := fun a b hD hab he => q2.dd a b ?_ hab he }⟩
      by_cases e : b = (i : Int)
      · exact .inr e
      · exact .inl ⟨hD.1,by have := hD.2; omega⟩)
    (fun h _ => by rw [C1,if_neg (by rw [Jg]; omega)]; rfl) h { toBs17 := H.toBs17,top := fun v hV => (by have := H.top v hV; omega),nn := hk.1,up := H.up,dd := fun u v hD => by omega }
  refine ⟨h',h2, { toBs17 := h1.toBs17,top := h1.top,up := fun u v hu h0 hlt => ?_ }⟩
  by_cases q : hv h' u < k
  · exact h1.up u v hu h0 q
  · have hV := (hu.V hok).2
    have e : hv h' u = k := by omega
    exact ⟨h1.dd u v ⟨hV.1,by have := hV.2; omega⟩ hu e,by rw [e]; exact h1.top v hV⟩
theorem Bs17.chain2 {A : Int → Int → Prop} (hA : ∀ {u v : Int},A u v → VV t u ∧ VV t v) {h : List Int} (H : Bs17 t A s h) : ∀ (m : Nat) (v : Int),VV t v → hv h v = m → ∃ l : List Int,l.length = m + 1 ∧ l.Nodup ∧ ∀ x ∈ l,VV t x ∧ hv h x ≤ m ∧ 0 ≤ hv h x
  | 0,v,hV,e => ⟨[v],rfl,by simp,fun x hx => by rw [List.mem_singleton.1 hx]; exact ⟨hV,by omega,by omega⟩⟩
  | m + 1,v,hV,e => by
    obtain ⟨u,hu,e2⟩ := H.dn v hV (by omega)
    obtain ⟨l,l1,l2,l3⟩ := H.chain2 hA m u (hA hu).1 (by omega)
    refine ⟨v :: l,by simp [l1],List.nodup_cons.2 ⟨fun hm => by have := (l3 v hm).2; omega,l2⟩,fun x hx => ?_⟩
    rcases List.mem_cons.1 hx with rfl | hx
    · exact ⟨hV,by omega,by omega⟩
    · have := l3 x hx
      exact ⟨this.1,by omega,this.2.2⟩
theorem R17.sp {A : Int → Int → Prop} (hok : CS t) (hA : ∀ {u v : Int},A u v → VV t u ∧ VV t v) {h : List Int} (H : R17 t A s (t.1 - 1) h) : Sp t A s h := by
  refine { toBs17 := H.toBs17,up := fun u v hu h0 => ?_ }
  obtain ⟨Vu,Vv⟩ := hA hu
  by_cases q : hv h u < t.1 - 1
  · exact H.up u v hu h0 q
  · have hlt := H.toBs17.lt hok hA Vu
    obtain ⟨l,l1,l2,l3⟩ := H.toBs17.chain2 hA (hv h u).toNat u Vu (by omega)
    have htop := H.top v Vv
    by_cases hm : v ∈ l
    · exact ⟨(l3 v hm).2.2,by omega⟩
    · have := B6 t.1.toNat (v :: l) (List.nodup_cons.2 ⟨hm,l2⟩) (fun x hx => by
        rcases List.mem_cons.1 hx with rfl | hx
        · have := Vv.1; have := Vv.2; omega
        · have q5 := (l3 x hx).1; have := q5.1; have := q5.2; omega)
      simp only [List.length_cons] at this
      omega
theorem PL (hok : CS t) (hw : Ib t L) (hs : VV t s) (hcs : Ey t (nz L) s = some (nz c)) (hc : (c.length : Int) = t.1) (hb : ∀ v,VV t v → wg c v ≤ C7) : ∃ h,Fh t (nz L) s = some h ∧ Sp t (Td t L c) s h := by
  have h8 := hok.1.2.1
  have h1t := hok.1.1
  obtain ⟨h0,i1,e0⟩ := Bw c.length (fun (h : List Int) (i : Nat) => (h,(i : Int))) (DU (nz c)) id (fun h i => h = List.replicate i (-1))
    (fun h i hi i1 => by
      refine ⟨List.replicate (i + 1) (-1), ?_,rfl⟩
      rw [DU,if_pos (by rw [Jg]; omega),Cs (by rw [i1]; simp; omega),za,AC (by omega),i1,List.replicate_succ']; rfl)
    (fun h _ => by rw [DU,if_neg (by rw [Jg]; omega)]; rfl) [] rfl
  have e0' : Am (DU (nz c)) ([],0) = some h0 := e0
  have hr0 : (h0.length : Int) = t.1 := by rw [i1]; simp; omega
  have g : ∀ w,VV t w → hv (Ao h0 s 0) w = if w = s then 0 else -1 := fun w hw2 => by
    rw [EU hs.1 (by rw [hr0]; exact hs.2) hw2.1]
    split
    · rfl
    · rw [i1]; exact IB
  have H0 : R17 t (Td t L c) s 0 (Ao h0 s 0) := {
    len := by rw [Fj]; exact hr0
    src := fun _ => by rw [g s hs,if_pos rfl]
    lo := fun v h => by rw [g v h]; split <;> omega
    zero := fun v h e => by
      rw [g v h] at e
      by_cases cc : v = s
      · exact cc
      · rw [if_neg cc] at e; omega
    dn := fun v h e => by
      rw [g v h] at e
      split at e <;> omega
    top := fun v h => by rw [g v h]; split <;> omega
    up := fun u v hu a b => by omega }
  obtain ⟨h',H',e'⟩ := Bw (c.length - 1) (fun (h : List Int) (i : Nat) => (h,((i + 1 : Nat) : Int))) (DX t (nz L) (nz c)) id (fun h i => R17 t (Td t L c) s (i : Int) h)
    (fun h i hi HI => by
      obtain ⟨g1,g2,g3⟩ := NP hok hw hc hb (k := (i : Int)) (by omega) HI
      have g2' : Am (C1 t (nz L) (nz c) ((i + 1 : Nat) : Int)) (h,0) = some g1 := g2
      exact ⟨g1,by rw [DX,if_pos (by rw [Jg]; omega),g2',za,AC (by omega)]; rfl,g3⟩)
    (fun h _ => by rw [DX,if_neg (by rw [Jg]; omega)]; rfl) (Ao h0 s 0) H0
  have e2 : Am (DX t (nz L) (nz c)) (Ao h0 s 0,1) = some h' := e'
  have hF : ((c.length - 1 : Nat) : Int) = t.1 - 1 := by omega
  rw [hF] at H'
  refine ⟨h', ?_,H'.sp hok (fun h => h.V hok)⟩
  unfold Fh
  rw [hcs,za,e0',za,if_pos (by rw [Jg]; omega),E0 hs.1 (by rw [hr0]; exact hs.2),za,za,e2]; rfl
end
end Go.Proofs.YtbiekjhlijdjbaaGreat
