/- Layer 19: costs, as the program computes them. Conditions: none. -/
import Derived.Test.YtbiekjhlijdjbaaGreatbM19
set_option linter.unusedVariables false
set_option linter.unusedSimpArgs false
open Go Go.RowKit
namespace Go.Proofs.YtbiekjhlijdjbaaGreat
section sortingP
variable {α : Type} {key : α → Int}
theorem Ov {L0 : List α} {S : List α × Int → Option ((List α × Int) ⊕ List α)} (hS : ∀ L (j : Nat) (h : j < L.length),L.Perm L0 → S (L,(j : Int)) = if 0 < j ∧ key L[j] < key (L[j - 1]'(by omega)) then some (.inl (Oq L j h,((j - 1 : Nat) : Int))) else some (.inr L)) {n : Nat} :
    ∀ (j : Nat) (L : List α),L.Perm L0 → j < L.length → j < n → Ud key L n j → ∃ L',Am S (L,(j : Int)) = some L' ∧ L'.Perm L ∧ Tm key L' n := by
  intro j
  induction j with
  | zero =>
    intro L hN hj hjn h
    exact ⟨L,AJ (by rw [hS L 0 hj hN,if_neg (fun hh => Nat.lt_irrefl _ hh.1)]),List.Perm.refl _,I3 h hj (fun hh => Nat.lt_irrefl _ hh.1)⟩
  | succ j ih =>
    intro L hN hj hjn h
    by_cases c : 0 < j + 1 ∧ key L[j + 1] < key (L[j + 1 - 1]'(by omega))
    · have h1 := OA h hj c.1 hjn c.2
      obtain ⟨L',e,p,o⟩ := ih (Oq L (j + 1) hj) ((KK hj c.1).trans hN) (by rw [GA]; omega) (by omega) h1
      exact ⟨L',by rw [BI (by rw [hS L (j + 1) hj hN,if_pos c])]; exact e,p.trans (KK hj c.1),o⟩
    · exact ⟨L,AJ (by rw [hS L (j + 1) hj hN,if_neg c]),List.Perm.refl _,I3 h hj c⟩
theorem NY {L0 : List α} {S : List α × Int → Option ((List α × Int) ⊕ List α)} {T : List α × Int → Option ((List α × Int) ⊕ List α)} (hS : ∀ L (j : Nat) (h : j < L.length),L.Perm L0 → S (L,(j : Int)) = if 0 < j ∧ key L[j] < key (L[j - 1]'(by omega)) then some (.inl (Oq L j h,((j - 1 : Nat) : Int))) else some (.inr L))
    (hT : ∀ L (i : Nat),L.Perm L0 → i < L0.length → T (L,(i : Int)) = (Am S (L,(i : Int))).bind fun x => some (.inl (x,((i + 1 : Nat) : Int)))) (hTe : ∀ L (i : Nat),L0.length ≤ i → T (L,(i : Int)) = some (.inr L)) :
    ∃ L',Am T (L0,1) = some L' ∧ L'.Perm L0 ∧ Tm key L' L0.length := by
  have keyl : ∀ (d i : Nat) (L : List α),i + d = L0.length → 1 ≤ i → L.Perm L0 → Tm key L i → ∃ L',Am T (L,(i : Int)) = some L' ∧ L'.Perm L0 ∧ Tm key L' L0.length := by
    intro d
    induction d with
    | zero =>
      intro i L hi h1 hp ho
      exact ⟨L,AJ (hTe L i (by omega)),hp,by rw [← hi]; exact ho⟩
    | succ d ih =>
      intro i L hi h1 hp ho
      have hlen := hp.length_eq
      obtain ⟨L',e,p,o⟩ := Ov (key := key) hS (n := i + 1) i L hp (by omega) (by omega) (fun u v hv huv hvn hne => ho u v hv huv (by omega))
      have hst : T (L,(i : Int)) = some (.inl (L',((i + 1 : Nat) : Int))) := by rw [hT L i hp (by omega),e]; rfl
      rw [BI hst]
      exact ih (i + 1) L' (by omega) (by omega) (p.trans hp) o
  by_cases c : L0.length = 0
  · exact ⟨L0,AJ (hTe L0 1 (by omega)),List.Perm.refl _,fun u v hv huv hvn => by omega⟩
  · exact keyl (L0.length - 1) 1 L0 (by omega) (Nat.le_refl _) (List.Perm.refl _) (fun u v hv huv hvn => by omega)
end sortingP
theorem OI {p : Nat} (h : p ≤ C7) : Mu p = 9223372036854775808 + (p : Int) := by
  have hc := cost_cfn' (DQ h)
  unfold Mu
  rw [hc,if_neg (fun hh => by have : p ≤ 9218868437227405312 := h; omega)]
theorem N7 {p : Nat} (h : p ≤ C7) : GT p := by
  have : p ≤ 9218868437227405312 := h
  unfold GT; omega
theorem Zc {c : List Nat} {a b : Int} (ha : In c a) (hb : In c b) (h1 : wg c a ≤ C7) (h2 : wg c b ≤ C7) : ∃ x,D5 a b c = some x ∧ (x < 0 ↔ wg c a < wg c b) := by
  refine ⟨OL (Mu (wg c a)) (Mu (wg c b)), ?_, ?_⟩
  · unfold D5
    rw [Ih ha,za,Ih hb,za,Pz (N7 h1) (N7 h2)]; rfl
  · rw [U0,OI h1,OI h2]; omega
theorem O9 {c : List Nat} (L : List Int) (j : Nat) (h : j < L.length) (hL : L.length ≤ 1000) (hc : ∀ x ∈ L,In c x ∧ wg c x ≤ C7) : A6 0 c (L,(j : Int)) = if 0 < j ∧ ((wg c L[j] : Nat) : Int) < ((wg c (L[j - 1]'(by omega)) : Nat) : Int) then some (.inl (Oq L j h,((j - 1 : Nat) : Int))) else some (.inr L) := by
  rw [A6]
  by_cases q : 0 < j
  · have hw : w64 ((j : Int) - 1) = ((j - 1 : Nat) : Int) := by rw [AC (by omega)]; omega
    have hj1 : j - 1 < L.length := by omega
    have g1 := AO (zb h)
    have g2 := AO (zb hj1)
    obtain ⟨x,x1,x2⟩ := Zc (hc _ (List.getElem_mem h)).1 (hc _ (List.getElem_mem hj1)).1 (hc _ (List.getElem_mem h)).2 (hc _ (List.getElem_mem hj1)).2
    rw [if_pos (by omega),hw,g1,za,g2,za,x1,za,za]
    by_cases c2 : wg c L[j] < wg c (L[j - 1]'(by omega))
    · have hlen : j - 1 < (Ao L (j : Int) (L[j - 1]'(by omega))).length := by unfold Ao; simp; omega
      rw [decide_eq_true (x2.2 c2),if_pos rfl,if_pos ⟨q,by omega⟩,za,za,za,AO (zb hlen),za]
      unfold Ao Oq
      rw [Int.toNat_natCast,Int.toNat_natCast]
    · rw [decide_eq_false (fun hh => c2 (x2.1 hh)),if_neg (by decide),if_neg (fun hh => c2 (by have := hh.2; omega))]
  · rw [if_neg (by omega),za,if_neg (by decide),if_neg (fun hh => q hh.1)]
theorem Xj {c : List Nat} {L : List Int} (hL : L.length ≤ 12) (hc : ∀ x ∈ L,In c x ∧ wg c x ≤ C7) : ∃ L',BM L c = some L' ∧ L'.Perm L ∧ Tm (fun v : Int => ((wg c v : Nat) : Int)) L' L.length := by
  have hlen : ∀ n : Nat,n ≤ 12 → ∃ v,Dh (IntKind.u64.wrap (n : Int)) = some v := fun n hn => by
    have : n = 0 ∨ n = 1 ∨ n = 2 ∨ n = 3 ∨ n = 4 ∨ n = 5 ∨ n = 6 ∨ n = 7 ∨ n = 8 ∨ n = 9 ∨ n = 10 ∨ n = 11 ∨ n = 12 := by omega
    apply Option.isSome_iff_exists.1
    rcases this with rfl | rfl | rfl | rfl | rfl | rfl | rfl | rfl | rfl | rfl | rfl | rfl | rfl <;> kernel_rfl
  obtain ⟨v,hv⟩ := hlen L.length hL
  obtain ⟨L',e,p,o⟩ := NY (key := fun v : Int => ((wg c v : Nat) : Int)) (L0 := L) (S := A6 0 c) (T := AU 0 (L.length : Int) c) (fun M j h hM => O9 M j h (by rw [hM.length_eq]; omega) (fun x hx => hc x (hM.mem_iff.1 hx)))
    (fun M i hM hi => by rw [AU,if_pos (by omega),AC (by omega)]; rfl) (fun M i hi => by rw [AU,if_neg (by omega)])
  refine ⟨L', ?_,p,o⟩
  have hp : Bz L 0 (L.length : Int) v c = some L' := by
    unfold Bz
    refine AJ ?_
    rw [Cb,if_pos (by rw [AC (by omega)]; omega)]
    unfold Bq
    show (Am (AU 0 (L.length : Int) c) (L,1)).bind _ = _
    rw [e]; rfl
  unfold BM
  rw [hv,za,hp]; rfl
theorem RQ {a b : Nat} (ha : a ≤ C7) (hb : b ≤ C7) : Le a b = some (if b < a then b else a) := by
  obtain ⟨k1,n1⟩ := FX (DQ ha)
  obtain ⟨k2,n2⟩ := FX (DQ hb)
  rw [J1 ha] at k1
  rw [J1 hb] at k2
  unfold Le
  rw [HF n1 n2,k1,k2]
  by_cases c1 : a < b
  · rw [show Hw (a : Int) (b : Int) = .lt from if_pos (by omega),if_neg (show ¬ b < a by omega)]
  · by_cases c2 : a = b
    · subst c2
      rw [show Hw (a : Int) (a : Int) = .eq from by unfold Hw; simp]; simp
    · rw [show Hw (a : Int) (b : Int) = .gt from by unfold Hw; rw [if_neg (show ¬ (a : Int) < b by omega),if_neg (show ¬ (a : Int) = b by omega)],if_pos (show b < a by omega)]
section
variable {t : Tp} {L : List Nat} {s : Int}
theorem X4 (hok : CS t) (hw : Ib t L) (X : List Int) (hX : 0 < X.length ∧ X.length ≤ 100) {c : List Nat} (hc : (c.length : Int) = t.1) (hb : ∀ v,VV t v → wg c v ≤ C7) {a : Int} (ha : VV t a) {N : List Sd} (hN : ∀ x,x ∈ N ↔ FR t a x) (hl : N.length ≤ 8) :
    ∃ c' : List Nat,Am (B3 L X a N) (0,c) = some (.inl (X.drop 1,c')) ∧ (c'.length : Int) = t.1 ∧ (∀ v,VV t v → wg c' v ≤ wg c v) ∧ (∀ v,VV t v → wg c' v = wg c v ∨ ∃ k,E t v a k ∧ wg c' v = GD (wg L k) (wg c a)) ∧ (∀ v k,E t v a k → wg c' v ≤ GD (wg L k) (wg c a)) := by
  have hstep : ∀ (d : List Nat) (i : Nat) (hi : i < N.length),(d.length : Int) = t.1 → (∀ v,VV t v → wg d v ≤ C7) → ∃ d' : List Nat,B3 L X a N ((i : Int),d) = some (.inl (((i + 1 : Nat) : Int),d')) ∧ (d'.length : Int) = t.1 ∧
      ∀ v,VV t v → wg d' v = if v = N[i].2.1 ∧ GD (wg L N[i].2.2) (wg d a) < wg d v then GD (wg L N[i].2.2) (wg d a) else wg d v := by
    intro d i hi hd hbd
    have hg := AO (zb hi)
    have he : E t a N[i].2.1 N[i].2.2 := ⟨N[i].1,(hN _).1 (List.getElem_mem hi)⟩
    obtain ⟨hk,hcost⟩ := hw.cost hok he
    have hV := (he.V hok).2.1
    have hda : In d a := ⟨ha.1,by rw [hd]; exact ha.2⟩
    have hdv : In d N[i].2.1 := ⟨hV.1,by rw [hd]; exact hV.2⟩
    have hle := Th hcost (hbd a ha)
    have hup : FC L N[i].2.2 = some (Pg (wg L N[i].2.2)) := by rw [VM,decide_eq_true hk,Bool.true_and]
    by_cases u : Pg (wg L N[i].2.2) = true
    · refine ⟨Ao d N[i].2.1 (if GD (wg L N[i].2.2) (wg d a) < wg d N[i].2.1 then GD (wg L N[i].2.2) (wg d a) else wg d N[i].2.1), ?_,by rw [Ld]; exact hd,fun v hv => ?_⟩
      · rw [B3,if_pos (by omega),hg,za,hup,za,if_pos u,Ih hdv,za,Ih hk,za,Ih hda,za,show Le (wg d N[i].2.1) (Bm (wg L N[i].2.2) (wg d a)) = _ from RQ (hbd _ hV) hle,za,za,za,AC (by omega)]; rfl
      · rw [Qq hdv.1 hdv.2 hv.1]
        by_cases e : v = N[i].2.1
        · subst e
          rw [if_pos rfl]
          by_cases q : GD (wg L N[i].2.2) (wg d a) < wg d N[i].2.1
          · rw [if_pos q,if_pos ⟨rfl,q⟩]
          · rw [if_neg q,if_neg (fun h => q h.2)]
        · rw [if_neg e,if_neg (fun h => e h.1)]
    · refine ⟨d, ?_,hd,fun v hv => ?_⟩
      · rw [B3,if_pos (by omega),hg,za,hup,za,if_neg u,za,AC (by omega)]; rfl
      · rw [if_neg (fun h => by
          rw [QT hcost u,QY (hbd a ha)] at h
          have := hbd v hv
          omega)]
  have hne : ∀ i (hi : i < N.length),N[i].2.1 ≠ a := fun i hi e => by
    have he : E t a N[i].2.1 N[i].2.2 := ⟨N[i].1,(hN _).1 (List.getElem_mem hi)⟩
    exact (he.V hok).2.2.1 e.symm
  obtain ⟨c',⟨i1,i2,i3,i4⟩,h2⟩ := Bw N.length (fun (d : List Nat) (i : Nat) => ((i : Int),d)) (B3 L X a N) (fun d => Sum.inl (X.drop 1,d))
    (fun d i => (d.length : Int) = t.1 ∧ (∀ v,VV t v → wg d v ≤ wg c v) ∧ wg d a = wg c a ∧ (∀ v,VV t v → wg d v = wg c v ∨ ∃ k,E t v a k ∧ wg d v = GD (wg L k) (wg c a)) ∧ (∀ x ∈ N.take i,wg d x.2.1 ≤ GD (wg L x.2.2) (wg c a)))
    (fun d i hi ⟨i1,i2,i3,i4,i5⟩ => by
      have he : E t a N[i].2.1 N[i].2.2 := ⟨N[i].1,(hN _).1 (List.getElem_mem hi)⟩
      obtain ⟨d',q1,q2,q3⟩ := hstep d i hi i1 (fun v hv => Nat.le_trans (i2 v hv) (hb v hv))
      have hdec : ∀ v,VV t v → wg d' v ≤ wg d v := fun v hv => by
        rw [q3 v hv]
        split
        · rename_i h; omega
        · exact Nat.le_refl _
      refine ⟨d',q1,q2,fun v hv => Nat.le_trans (hdec v hv) (i2 v hv), ?_,fun v hv => ?_,fun x hx => ?_⟩
      · rw [q3 a ha,if_neg (fun h => hne i hi h.1.symm)]; exact i3
      · rw [q3 v hv]
        by_cases q : v = N[i].2.1 ∧ GD (wg L N[i].2.2) (wg d a) < wg d v
        · rw [if_pos q,i3,q.1]
          exact .inr ⟨_,he.symm hok,rfl⟩
        · rw [if_neg q]; exact i4 v hv
      · have hVx : VV t x.2.1 := by
          have hm : x ∈ N := List.mem_of_mem_take hx
          have he2 : E t a x.2.1 x.2.2 := ⟨x.1,(hN _).1 hm⟩
          exact (he2.V hok).2.1
        rw [List.take_succ_eq_append_getElem hi] at hx
        rcases List.mem_append.1 hx with hx | hx
        · exact Nat.le_trans (hdec _ hVx) (i5 x hx)
        · rw [List.mem_singleton.1 hx,q3 _ (he.V hok).2.1,i3]
          split
          · exact Nat.le_refl _
          · rename_i h
            have h' : ¬ GD (wg L N[i].2.2) (wg c a) < wg d N[i].2.1 := fun hh => h ⟨rfl,hh⟩
            omega)
    (fun d _ => by
      rw [B3,if_neg (by omega),KF (by omega),za]
      rw [Int.toNat_natCast,List.take_length]; rfl) c ⟨hc,fun v _ => Nat.le_refl _,rfl,fun v _ => .inl rfl,by simp⟩
  rw [List.take_length] at i4
  refine ⟨c',h2,i1,i2,i4.1,fun v k he => ?_⟩
  obtain ⟨p,hp⟩ := he.symm hok
  exact i4.2 (p,v,k) ((hN _).2 hp)
structure DJ (t : Tp) (L : List Nat) (s : Int) (P O : List Int) (c : List Nat) : Prop where
  len : (c.length : Int) = t.1
  nd : (P ++ O).Nodup
  mem : ∀ v,v ∈ P ++ O ↔ VV t v
  src : wg c s = 0
  bd : ∀ v,VV t v → wg c v ≤ C7
  lo : ∀ d ∈ P, ∀ o ∈ O,wg c d ≤ wg c o
  edge : ∀ d ∈ P, ∀ u k,E t u d k → wg c u ≤ GD (wg L k) (wg c d)
  att : ∀ u,VV t u → wg c u = C7 ∨ u = s ∨ ∃ d k,d ∈ P ∧ E t u d k ∧ wg c u = GD (wg L k) (wg c d) ∧ (u ∈ P → P.idxOf d < P.idxOf u)
theorem DJ.short (hok : CS t) {P O : List Int} {c : List Nat} (H : DJ t L s P O c) : (P ++ O).length ≤ t.1.toNat := by
  have := hok.1.1
  exact B6 t.1.toNat (P ++ O) H.nd (fun x hx => by have := (H.mem x).1 hx; omega)
theorem DJ.step (hok : CS t) (hw : Ib t L) {P O : List Int} {c : List Nat} (H : DJ t L s P O c) {a : Int} {Q : List Int} (hp : (a :: Q).Perm O) (hmin : ∀ o ∈ Q,wg c a ≤ wg c o) {c' : List Nat}
    (h1 : (c'.length : Int) = t.1) (h2 : ∀ v,VV t v → wg c' v ≤ wg c v) (h3 : ∀ v,VV t v → wg c' v = wg c v ∨ ∃ k,E t v a k ∧ wg c' v = GD (wg L k) (wg c a)) (h4 : ∀ v k,E t v a k → wg c' v ≤ GD (wg L k) (wg c a)) : DJ t L s (P ++ [a]) Q c' := by
  have hperm : ((P ++ [a]) ++ Q).Perm (P ++ O) := by
    rw [List.append_assoc]
    exact List.Perm.append_left _ hp
  have haO : a ∈ O := hp.mem_iff.1 (List.mem_cons_self ..)
  have hV : ∀ {x},x ∈ P ++ O → VV t x := fun hx => (H.mem _).1 hx
  have ha : VV t a := hV (List.mem_append_right _ haO)
  have hb' : ∀ v,VV t v → wg c' v ≤ C7 := fun v hv => Nat.le_trans (h2 v hv) (H.bd v hv)
  have hge : ∀ v k,E t v a k → wg c a ≤ GD (wg L k) (wg c a) := fun v k he => Ta (hw.cost hok he).2 (H.bd a ha)
  have hdone : ∀ d ∈ P ++ [a],wg c' d = wg c d := fun d hd => by
    have hle : wg c d ≤ wg c a := by
      rcases List.mem_append.1 hd with h | h
      · exact H.lo d h a haO
      · rw [List.mem_singleton.1 h]; exact Nat.le_refl _
    have hVd : VV t d := by
      rcases List.mem_append.1 hd with h | h
      · exact hV (List.mem_append_left _ h)
      · rw [List.mem_singleton.1 h]; exact ha
    rcases h3 d hVd with e | ⟨k,he,e⟩
    · exact e
    · have := h2 d hVd
      have := hge d k he
      omega
  have hnd := hperm.nodup_iff.2 H.nd
  refine ⟨h1,hnd,fun v => (hperm.mem_iff).trans (H.mem v), ?_,hb',fun d hd o ho => ?_,fun d hd u k he => ?_,fun u hu => ?_⟩
  · by_cases hs : VV t s
    · have := h2 s hs
      have := H.src
      omega
    · have e1 : wg c s = 0 := H.src
      unfold wg at e1 ⊢
      have hlen : c'.length = c.length := by have := H.len; omega
      by_cases q : s.toNat < c'.length
      · have hneg : s < 0 := by
          refine Classical.byContradiction fun hn => hs ⟨by omega,by omega⟩
        have hz : VV t 0 := ⟨Int.le_refl _,by have := hok.1.1; omega⟩
        have h0 : s.toNat = (0 : Int).toNat := by omega
        rw [h0] at e1 ⊢
        have := h2 0 hz
        unfold wg at this
        omega
      · rw [List.getD_eq_getElem?_getD,List.getElem?_eq_none (by omega)]; rfl
  · have hVo : VV t o := hV (List.mem_append_right _ (hp.mem_iff.1 (zc _ ho)))
    have hda : wg c d ≤ wg c a := by
      rcases List.mem_append.1 hd with h | h
      · exact H.lo d h a haO
      · rw [List.mem_singleton.1 h]; exact Nat.le_refl _
    rw [hdone d hd]
    rcases h3 o hVo with e | ⟨k,he,e⟩
    · rw [e]; exact Nat.le_trans hda (hmin o ho)
    · rw [e]; exact Nat.le_trans hda (hge o k he)
  · rw [hdone d hd]
    rcases List.mem_append.1 hd with h | h
    · exact Nat.le_trans (h2 u (he.V hok).1) (H.edge d h u k he)
    · rw [List.mem_singleton.1 h] at he ⊢
      exact h4 u k he
  · have old : wg c' u = wg c u → wg c' u = C7 ∨ u = s ∨ ∃ d k,d ∈ P ++ [a] ∧ E t u d k ∧ wg c' u = GD (wg L k) (wg c' d) ∧ (u ∈ P ++ [a] → (P ++ [a]).idxOf d < (P ++ [a]).idxOf u) := fun e => by
      rw [e]
      rcases H.att u hu with q | q | ⟨d,k,hd,he,q,hr⟩
      · exact .inl q
      · exact .inr (.inl q)
      · refine .inr (.inr ⟨d,k,List.mem_append_left _ hd,he,by rw [hdone d (List.mem_append_left _ hd)]; exact q,fun hm => ?_⟩)
        have i1 : (P ++ [a]).idxOf d = P.idxOf d := by rw [List.idxOf_append,if_pos hd]
        have i3 : P.idxOf d < P.length := List.idxOf_lt_length_of_mem hd
        rcases List.mem_append.1 hm with hm | hm
        · rw [i1,List.idxOf_append,if_pos hm]; exact hr hm
        · have hu2 := List.mem_singleton.1 hm
          subst hu2
          have hn : u ∉ P := fun hP => (List.nodup_append.1 H.nd).2.2 u hP u haO rfl
          rw [i1,List.idxOf_append,if_neg hn]; omega
    by_cases hm : u ∈ P ++ [a]
    · exact old (hdone u hm)
    · rcases h3 u hu with e | ⟨k,he,e⟩
      · exact old e
      · refine .inr (.inr ⟨a,k,by simp,he,by rw [hdone a (by simp)]; exact e,fun h => absurd h hm⟩)
theorem Vy (hok : CS t) (hw : Ib t L) : ∀ (n : Nat) (P O : List Int) (c : List Nat),O.length = n → DJ t L s P O c → ∃ (P' : List Int) (c' : List Nat),Am (CO t L) (O,c) = some c' ∧ DJ t L s P' [] c' := by
  intro n
  induction n with
  | zero =>
    intro P O c hn H
    have := List.eq_nil_of_length_eq_zero hn
    subst this
    exact ⟨P,c,AJ (by rw [CO,if_neg (by simp)]),H⟩
  | succ n ih =>
    intro P O c hn H
    have h8 := hok.1.2.1
    have hsh := H.short hok
    rw [List.length_append] at hsh
    have hin : ∀ x ∈ O,In c x ∧ wg c x ≤ C7 := fun x hx => by
      have hv := (H.mem x).1 (List.mem_append_right _ hx)
      exact ⟨⟨hv.1,by rw [H.len]; exact hv.2⟩,H.bd x hv⟩
    obtain ⟨X,x1,x2,x3⟩ := Xj (c := c) (L := O) (by omega) hin
    cases X with
    | nil => have := x2.length_eq; simp at this; omega
    | cons a Q =>
      have hlen := x2.length_eq
      simp only [List.length_cons] at hlen
      have haO : a ∈ O := x2.mem_iff.1 (List.mem_cons_self ..)
      have ha := (H.mem a).1 (List.mem_append_right _ haO)
      obtain ⟨N,n1,n2,_,n4⟩ := HU hok a
      obtain ⟨c',r1,r2,r3,r4,r5⟩ := X4 hok hw (a :: Q) (by simp only [List.length_cons]; omega) H.len H.bd ha n2 n4
      have hmin : ∀ o ∈ Q,wg c a ≤ wg c o := fun o ho => by
        obtain ⟨i,hi,rfl⟩ := List.getElem_of_mem ho
        have := x3 0 (i + 1) (by simp only [List.length_cons]; omega) (by omega) (by omega)
        simp only [List.getElem_cons_zero,List.getElem_cons_succ] at this
        omega
      have H' := H.step hok hw x2 hmin r2 r3 r4 r5
      obtain ⟨P',cF,f1,f2⟩ := ih (P ++ [a]) Q c' (by omega) H'
      refine ⟨P',cF, ?_,f2⟩
      have hst : CO t L (O,c) = some (.inl (Q,c')) := by
        rw [CO,if_pos (by omega),x1,za,show ix (a :: Q) 0 = some a from AO (k := 0) rfl,za,KF (by simp only [List.length_cons]; omega),za,n1,za,r1]; rfl
      rw [BI hst]; exact f1
theorem SB {n : Int} (h : 1 ≤ n ∧ n ≤ 8) : AV [C7] n = some (List.replicate n.toNat C7) := by
  have : n = 1 ∨ n = 2 ∨ n = 3 ∨ n = 4 ∨ n = 5 ∨ n = 6 ∨ n = 7 ∨ n = 8 := by omega
  have go : ∀ (m : Nat) (hm : 1 ≤ m ∧ m ≤ 8),(∃ k,D4 Bb k (NV (List.replicate m (0 : Nat)) 0 (min 1 m) [C7],1) = some (List.replicate m C7)) → AV [C7] (m : Int) = some (List.replicate m C7) := by
    intro m hm hk
    unfold AV
    have e1 : AH (IntKind.u64.wrap (([C7] : List Nat).length : Int)) (IntKind.u64.wrap (m : Int)) = (0,(m : Int)) := by
      have : m = 1 ∨ m = 2 ∨ m = 3 ∨ m = 4 ∨ m = 5 ∨ m = 6 ∨ m = 7 ∨ m = 8 := by omega
      rcases this with rfl | rfl | rfl | rfl | rfl | rfl | rfl | rfl <;> decide
    rw [if_neg (by omega),e1,if_neg (by simp; omega),AC (by simp; omega),Id (by simp; omega),za]
    show (Am Bb (NV (List.replicate (Int.toNat (m : Int)) 0) 0 (min 1 (List.replicate (Int.toNat (m : Int)) 0).length) [C7],((min 1 (List.replicate (Int.toNat (m : Int)) (0 : Nat)).length : Nat) : Int))).bind _ = _
    rw [Int.toNat_natCast,List.length_replicate,show min 1 m = 1 by omega]
    rw [show min 1 m = 1 by omega] at hk
    show (Am Bb (NV (List.replicate m 0) 0 1 [C7],1)).bind _ = _
    rw [Cr.2 hk]; rfl
  rcases this with rfl | rfl | rfl | rfl | rfl | rfl | rfl | rfl
  · exact go 1 (by omega) ⟨6,by kernel_rfl⟩
  · exact go 2 (by omega) ⟨6,by kernel_rfl⟩
  · exact go 3 (by omega) ⟨6,by kernel_rfl⟩
  · exact go 4 (by omega) ⟨6,by kernel_rfl⟩
  · exact go 5 (by omega) ⟨6,by kernel_rfl⟩
  · exact go 6 (by omega) ⟨6,by kernel_rfl⟩
  · exact go 7 (by omega) ⟨6,by kernel_rfl⟩
  · exact go 8 (by omega) ⟨6,by kernel_rfl⟩
theorem Nu (hw : Ib t L) : L.map FE = L := map_id'' L fun x hx => cost_cfn' (hw.1 x hx)
where map_id'' {α : Type} : ∀ (l : List α) {f : α → α},(∀ a ∈ l,f a = a) → l.map f = l
  | [],_,_ => rfl
  | x :: l,f,h => by rw [List.map_cons,h x (List.mem_cons_self ..),map_id'' l fun a ha => h a (zc _ ha)]
theorem QQ (hw : Wc L) : ∀ x ∈ L,GT x := fun x hx => by
  have := hw x hx
  unfold GT; unfold BH at this; omega
theorem EG {L : List Nat} (hL : ∀ x ∈ L,GT x) (hl : L.length ≤ 1000000) : Dv t (L.map FE) = some (decide (CS t ∧ Ib t L)) := by
  unfold Dv
  rw [Jn,za]
  by_cases h : CS t
  · rw [decide_eq_true h,if_pos rfl,TG hL hl,za,za]
    exact congrArg some (decide_eq_decide.2 ⟨fun x => ⟨h,x⟩,fun x => x.2⟩)
  · rw [decide_eq_false h,if_neg (by decide),za,decide_eq_false (fun x => h x.1)]
theorem KZ {L : List Nat} (hl : L.length ≤ 1000000) : DO t (nz L) = some (decide (CS t ∧ Ib t L)) := by
  unfold DO
  rw [HE,za]
  by_cases h : CS t
  · rw [decide_eq_true h,if_pos rfl,MQ hl,za,za]
    exact congrArg some (decide_eq_decide.2 ⟨fun x => ⟨h,x⟩,fun x => x.2⟩)
  · rw [decide_eq_false h,if_neg (by decide),za,decide_eq_false (fun x => h x.1)]
theorem Us {α : Type} {l : List α} (h : l ≠ []) : aP l = some () := by
  cases l with
  | nil => exact absurd rfl h
  | cons _ _ => rfl
theorem RZ (hok : CS t) (hw : Ib t L) (hs : VV t s) : ∃ (c : List Nat) (r : Int → Nat),CU t L s = some c ∧ Best t L s r c := by
  have h8 := hok.1.2.1
  have h1t := hok.1.1
  have hL : L.length ≤ 1000000 := by have := hw.2; have := hok.1.2.2.1; omega
  obtain ⟨n,hn⟩ : ∃ n : Nat,t.1 = n := ⟨t.1.toNat,by omega⟩
  have hc0 : ((List.replicate t.1.toNat C7).length : Int) = t.1 := by simp; omega
  have hcl : ((Ao (List.replicate t.1.toNat C7) s 0).length : Int) = t.1 := by rw [Ld]; exact hc0
  obtain ⟨O,o1,o2⟩ := Bw n (fun (o : List Int) (i : Nat) => (o,(i : Int))) (CP s (List.replicate t.1.toNat C7)) id (fun o i => o = (List.range i).map (fun k : Nat => (k : Int)))
    (fun o i hi i1 => by
      refine ⟨o ++ [(i : Int)], ?_,by rw [i1,List.range_succ,List.map_append]; rfl⟩
      have : o.length = i := by rw [i1]; simp
      rw [CP,if_pos (by omega),Cs (by simp; omega),za,AC (by omega)]; rfl)
    (fun o _ => by rw [CP,if_neg (by omega)]; rfl) [] rfl
  have o2' : Am (CP s (List.replicate t.1.toNat C7)) ([],0) = some O := o2
  have hmem : ∀ v,v ∈ [] ++ O ↔ VV t v := fun v => by
    rw [List.nil_append,o1,List.mem_map]
    constructor
    · rintro ⟨k,hk,rfl⟩
      have := List.mem_range.1 hk
      exact ⟨by omega,by omega⟩
    · intro hv
      exact ⟨v.toNat,List.mem_range.2 (by have := hv.1; have := hv.2; omega),by have := hv.1; omega⟩
  have hg : ∀ u,VV t u → wg (Ao (List.replicate t.1.toNat C7) s 0) u = if u = s then 0 else C7 := fun u hu => by
    rw [Qq hs.1 (by rw [hc0]; exact hs.2) hu.1]
    split
    · rfl
    · exact Uk hu.1 (by have := hu.2; omega)
  have H0 : DJ t L s [] O (Ao (List.replicate t.1.toNat C7) s 0) := {
    len := hcl
    nd := by
      rw [List.nil_append,o1,List.nodup_iff_pairwise_ne,List.pairwise_map]
      exact (List.nodup_iff_pairwise_ne.1 List.nodup_range).imp fun h e => h (by omega)
    mem := hmem
    src := by rw [hg s hs,if_pos rfl]
    bd := fun v hv => by
      rw [hg v hv]
      split
      · exact Nat.zero_le _
      · exact Nat.le_refl _
    lo := fun d hd => by simp at hd
    edge := fun d hd => by simp at hd
    att := fun u hu => by
      rw [hg u hu]
      by_cases e : u = s
      · exact .inr (.inl e)
      · rw [if_neg e]; exact .inl rfl }
  obtain ⟨P',c,f1,f2⟩ := Vy hok hw O.length [] O _ rfl H0
  have hmem2 : ∀ v,v ∈ P' ↔ VV t v := fun v => by
    have := f2.mem v
    rwa [List.append_nil] at this
  refine ⟨c,fun v => P'.idxOf v, ?_, { len := f2.len,src := f2.src,bd := f2.bd,edge := fun u v k he => f2.edge v ((hmem2 v).2 (he.V hok).2.1) u k he,rk := fun v hv => ?_,att := fun u hu => ?_ }⟩
  · have hR := EG (t := t) (QQ hw.1) hL
    rw [Nu hw,decide_eq_true ⟨hok,hw⟩] at hR
    have hne : c ≠ [] := fun e => by
      have := f2.len
      rw [e] at this; simp at this; omega
    unfold CU
    rw [hR,za,if_neg (by decide),if_neg (by have := hs.1; omega),decide_eq_false (by have := hs.2; omega),za,if_neg (by decide),Qf.1,za,show AV [9218868437227405312] t.1 = _ from SB ⟨h1t,h8⟩,za,Ih (show In _ s from ⟨hs.1,by rw [hc0]; exact hs.2⟩),za,o2',za,f1,za,Us hne]; rfl
  · have hl := f2.short hok
    rw [List.append_nil] at hl
    have := List.idxOf_lt_length_of_mem ((hmem2 v).2 hv)
    show ((P'.idxOf v : Nat) : Int) < t.1
    omega
  · rcases f2.att u hu with h | h | ⟨d,k,_,he,h,hr⟩
    · exact .inl h
    · exact .inr (.inl h)
    · exact .inr (.inr ⟨d,k,he,h,hr ((hmem2 u).2 hu)⟩)
end
end Go.Proofs.YtbiekjhlijdjbaaGreat
