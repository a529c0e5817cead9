/- Layer 31: the program's cases. Conditions: none. -/
import Derived.Test.YtkhiflmalgkjiaaGreatfN30B
set_option linter.unusedVariables false
set_option linter.unusedSimpArgs false
open Go Go.RowKit
namespace Go.Proofs.YtkhiflmalgkjiaaGreat
def vA (vs : List Int × List Int × List Int × List Int × List Int) : Nat → List Int
  | 0 => vs.1 | 1 => vs.2.1 | 2 => vs.2.2.1 | 3 => vs.2.2.2.1 | _ => vs.2.2.2.2
theorem wY (vs : List Int × List Int × List Int × List Int × List Int) {i : Nat} (h : i < 5) : ix ([vs.1,vs.2.1,vs.2.2.1,vs.2.2.2.1,vs.2.2.2.2] : List (List Int)) (i : Int) = some (vA vs i) := A9 (by
  match i,h with
  | 0,_ => rfl | 1,_ => rfl | 2,_ => rfl | 3,_ => rfl | 4,_ => rfl)
noncomputable def P4 (i : Nat) (a b : List Ca) : Bool := (CJ a b (fA i)).getD false
theorem ZY {ε : Type} (n : Nat) (step : Int → Option (Int ⊕ ε)) (e : ε) (hs : ∀ i : Nat,i < n → (∃ r,step (i : Int) = some (.inr r)) ∨ step (i : Int) = some (.inl ((i + 1 : Nat) : Int))) (he : step (n : Int) = some (.inr e)) : ∃ r,Aj step 0 = some r := by
  have key : ∀ (d k : Nat),k + d = n → ∃ r,Aj step (k : Int) = some r := by
    intro d
    induction d with
    | zero => intro k hk; obtain rfl : k = n := by omega
              exact ⟨e,Ap he⟩
    | succ d ih =>
      intro k hk
      rcases hs k (by omega) with ⟨r,h⟩ | h
      · exact ⟨r,Ap h⟩
      · rw [Bi h]; exact ih (k + 1) (by omega)
  exact key n 0 (by omega)
theorem Uo {a b : List Se} (h : a.length ≤ 1000000) : ∃ r,AG a b = some r := by
  unfold AG
  by_cases hl : a.length = b.length
  · rw [if_neg (by omega)]
    obtain ⟨r,hr⟩ := ZY a.length (Ak a b) (.inl ()) (fun i hi => by
      rw [Ak,if_pos (by omega),A9 (zb hi),za,A9 (zb (show i < b.length by omega)),za]
      split
      · exact .inl ⟨_,rfl⟩
      · refine .inr ?_; rw [Ah (by omega)]; rfl) (by rw [Ak,if_neg (by omega)])
    rw [hr]
    cases r with
    | inl u => exact ⟨true,rfl⟩
    | inr r => exact ⟨r,rfl⟩
  · rw [if_pos (by omega)]; exact ⟨false,rfl⟩
theorem UH (x y : Ca) {i : Nat} (h : i < 5) (hx : x.2.2.length ≤ 1000000) : ∃ r,C8 x y (fA i) = some r := by
  unfold C8
  have e : ∀ s,CT s (fA i) (-1) = some (wA s i (-1)) := fun s => Kf s h (-1)
  rw [e,za,e,za]
  split
  · obtain ⟨r,hr⟩ := Uo (a := x.2.2) (b := y.2.2) hx
    rw [hr]; exact ⟨r,rfl⟩
  · exact ⟨false,rfl⟩
theorem V6 {a b : List Ca} {i : Nat} (h : i < 5) (ha : a.length ≤ 1000000) (ho : ∀ c ∈ a,c.2.2.length ≤ 1000000) : CJ a b (fA i) = some (P4 i a b) := by
  have : ∃ r,CJ a b (fA i) = some r := by
    unfold CJ AE
    by_cases hl : a.length = b.length
    · rw [if_neg (by omega)]
      obtain ⟨r,hr⟩ := ZY a.length (Ad a b (fA i)) (.inl ()) (fun j hj => by
        obtain ⟨q,hq⟩ := UH a[j] (b[j]'(by omega)) h (ho _ (List.getElem_mem _))
        rw [Ad,if_pos (by omega),A9 (zb hj),za,A9 (zb (show j < b.length by omega)),za,hq,za]
        split
        · exact .inl ⟨_,rfl⟩
        · refine .inr ?_; rw [Ah (by omega)]; rfl) (by rw [Ad,if_neg (by omega)])
      rw [hr]
      cases r with
      | inl u => exact ⟨true,rfl⟩
      | inr r => exact ⟨r,rfl⟩
    · rw [if_pos (by omega)]; exact ⟨false,rfl⟩
  obtain ⟨r,hr⟩ := this
  unfold P4
  rw [hr]; rfl
theorem PU {α β : Type} (g : α → List β) (p : α → Bool) : ∀ (l : List α) (c : List β),c.length + (l.map fun x => (g x).length).sum ≤ 1000000 → HF (fun x c => if p x = true then some c else HU c (g x)) l c = some (c ++ l.flatMap fun x => if p x = true then [] else g x)
  | [],c,_ => by simp [HF]
  | x :: l,c,h => by
    simp only [zj,List.sum_cons] at h
    unfold HF
    by_cases hp : p x = true
    · rw [if_pos hp,za,PU g p l c (by omega),List.flatMap_cons,if_pos hp,List.nil_append]
    · rw [if_neg hp,I5 (by omega),za,PU g p l _ (by rw [List.length_append]; omega),List.flatMap_cons,if_neg hp,List.append_assoc]
theorem mV {V : Nat → List Int} (d i : Nat) : (V i).length ≤ pr V (d + 1) i ∧ pr V d (i + 1) ≤ pr V (d + 1) i := by
  have h0 : ∀ d i,1 ≤ pr V d i := fun d => by
    induction d with
    | zero => intro i; exact Nat.le_refl _
    | succ d ih => intro i; unfold pr; exact Nat.mul_pos (Nat.succ_pos _) (ih _)
  have h1 := h0 d (i + 1)
  have e : pr V (d + 1) i = ((V i).length + 1) * pr V d (i + 1) := rfl
  rw [e,Nat.add_mul,Nat.one_mul]
  have := Nat.mul_le_mul_left (V i).length h1
  rw [Nat.mul_one] at this
  omega
theorem eY {t : Tr41} {sw : Int} {vs : List Int × List Int × List Int × List Int × List Int} {R : Se → List Se} (hR : ∀ k,BI (t,sw,vs) k = some (R k) ∧ (R k).length ≤ 1000000) : ∀ (d i : Nat) (k : Se) (n : Nat),i + d = 5 → d < n → pr (vA vs) d i ≤ 1000000 → A2 n (t,sw,vs) (i : Int) k = some (fr R (vA vs) P4 d i k)
  | d,i,k,0,_,h,_ => absurd h (Nat.not_lt_zero _)
  | 0,i,k,n + 1,hi,_,_ => by
    show Bc (A2 n) (t,sw,vs) (i : Int) k = _
    unfold Bc
    rw [if_pos (by omega)]
    dsimp only
    rw [w36,w39,(hR k).1]; rfl
  | d + 1, i, k, n + 1, hi, hd, hp => by
    obtain ⟨p1,p2⟩ := mV (V := vA vs) d i
    have ih := fun k => eY hR d (i + 1) k n (by omega) (by omega) (by omega)
    have hl := fun k => PY (R := R) (V := vA vs) (sm := P4) d (i + 1) k
    have hw : w64 ((i : Int) + 1) = ((i + 1 : Nat) : Int) := by rw [Ah (by omega)]; rfl
    show Bc (A2 n) (t,sw,vs) (i : Int) k = _
    unfold Bc
    rw [if_neg (by omega),Ik (by omega),za]
    dsimp only
    rw [w36,w39,hw,ih k,za,wY vs (by omega),za]
    have hsum : ((vA vs i).map fun v => (fr R (vA vs) P4 d (i + 1) (wA k i v)).length).sum + pr (vA vs) d (i + 1) ≤ pr (vA vs) (d + 1) i := by
      have := sum_le' (l := vA vs i) (g := fun v => (fr R (vA vs) P4 d (i + 1) (wA k i v)).length) (b := pr (vA vs) d (i + 1)) fun v _ => hl _
      have e : pr (vA vs) (d + 1) i = ((vA vs i).length + 1) * pr (vA vs) d (i + 1) := rfl
      rw [e,Nat.add_mul,Nat.one_mul]
      omega
    have hloop := OC (vA vs i) (by omega) (fun v c => if P4 i (fr R (vA vs) P4 d (i + 1) (wA k i v)) (fr R (vA vs) P4 d (i + 1) k) = true then some c else HU c (fr R (vA vs) P4 d (i + 1) (wA k i v)))
      (A3 (A2 n) (t,sw,vs) (i : Int) k (fA i) (fr R (vA vs) P4 d (i + 1) k) (vA vs i))
      (fun j x c hx => by
        have hj := (List.getElem?_eq_some_iff.1 hx).1
        rw [A3,if_pos (by omega),A9 hx,za,Kf k (by omega),za]
        dsimp only
        rw [w36,w39,hw,ih (wA k i x),za,V6 (by omega) (by have := hl (wA k i x); omega) (fun c hc => by rw [(LJ d (i + 1) _ c (by omega) hc).2]; exact (hR _).2),za]
        by_cases hs : P4 i (fr R (vA vs) P4 d (i + 1) (wA k i x)) (fr R (vA vs) P4 d (i + 1) k) = true
        · rw [if_pos hs,hs,if_neg (by decide)]
        · rw [if_neg hs,if_pos (by simpa using hs)]
          cases HU c (fr R (vA vs) P4 d (i + 1) (wA k i x)) <;> rfl)
      (fun c => by rw [A3,if_neg (by omega)]) (vA vs i).length 0 [] _ (by omega) (by rw [List.drop_zero]; exact PU _ (fun v => P4 i (fr R (vA vs) P4 d (i + 1) (wA k i v)) (fr R (vA vs) P4 d (i + 1) k)) _ [] (by simp only [List.length_nil]; omega))
    rw [show Aj (A3 (A2 n) (t,sw,vs) (i : Int) k (fA i) (fr R (vA vs) P4 d (i + 1) k) (vA vs i)) ([],0) = _ from hloop,za,List.nil_append]
    have hfr := PY (R := R) (V := vA vs) (sm := P4) (d + 1) i k
    unfold fr at hfr
    rw [List.length_append] at hfr
    rw [I5 (by omega)]
    rfl
theorem jY {t : Tr41} {sw : Int} {vs : List Int × List Int × List Int × List Int × List Int} {R : Se → List Se} (hR : ∀ k,BI (t,sw,vs) k = some (R k) ∧ (R k).length ≤ 1000000) (k : Se) (hp : pr (vA vs) 5 0 ≤ 1000000) : Dy (t,sw,vs) 0 k = some (fr R (vA vs) P4 5 0 k) :=
  B6 (g := fun n => A2 n (t,sw,vs) 0 k) (fun n r h => E7 n (t,sw,vs) 0 k r h) (eY hR 5 0 k 6 rfl (by omega) hp)
end Go.Proofs.YtkhiflmalgkjiaaGreat
namespace Go.Proofs.YtkhiflmalgkjiaaGreat
abbrev Alk (t : Tr38) (a b : Int × Int × PK) (f : Int) : Prop := ∀ v ∈ Dl f t, ¬ (gt a f ≠ gt b f ∧ (gt a f = v ∨ gt b f = v))
theorem P5 {a b : Int × Int × PK} : ∀ (n : Nat) (t : Tr38),SizeOf.sizeOf t < n → (∀ f,0 ≤ f → f ≤ 5 → Alk t a b f) → H3 a t = H3 b t
  | 0,t,h,_ => absurd h (Nat.not_lt_zero _)
  | n + 1,t,h,H => by
    have hx : t.un.2.2.2.map (H3 a) = t.un.2.2.2.map (H3 b) := List.map_congr_left fun x hm => P5 n x (by have := QK hm; omega) fun f f0 f5 v hv => H f f0 f5 v (by
      rw [HY]
      exact List.mem_append_right _ (List.mem_flatten.2 ⟨_,List.mem_map.2 ⟨x,hm,rfl⟩,hv⟩))
    rw [L8,L8,hx]
    unfold TP
    by_cases c3 : t.un.1 = 3
    · have c1 : ¬ t.un.1 = 1 := by omega
      simp only [if_neg c1,if_pos c3]
      refine decide_eq_decide.2 ⟨fun ⟨k,e⟩ => ⟨k, ?_⟩,fun ⟨k,e⟩ => ⟨k, ?_⟩⟩
      · have hm : t.un.2.2.1 ∈ Dl t.un.2.1 t := by rw [HY,if_pos ⟨c3,rfl⟩]; simp
        have := H t.un.2.1 k.1 k.2 _ hm
        exact Classical.byContradiction fun hn => this ⟨fun e2 => hn (e2.symm.trans e),.inl e⟩
      · have hm : t.un.2.2.1 ∈ Dl t.un.2.1 t := by rw [HY,if_pos ⟨c3,rfl⟩]; simp
        have := H t.un.2.1 k.1 k.2 _ hm
        exact Classical.byContradiction fun hn => this ⟨fun e2 => hn (e2.trans e),.inr e⟩
    · rw [if_neg c3,if_neg c3]
theorem AaB : EE 0 = some 255 ∧ EE 1 = some 255 ∧ EE 2 = some 15 ∧ EE 3 = some 255 := ⟨by kernel_rfl,by kernel_rfl,by kernel_rfl,by kernel_rfl⟩
theorem Q9 (p : PK) {f v : Int} (hf : 0 ≤ f ∧ f ≤ 3) (hv : 0 ≤ v ∧ v ≤ Ci f) : Dk p f v = some ((if f = 0 then v else p.1),(if f = 1 then v else p.2.1),(if f = 2 then v else p.2.2.1),(if f = 3 then v else p.2.2.2)) := by
  have hk : CG f = true := by unfold CG; simp; omega
  have ht : EN f v = some true := by
    unfold EN
    rw [if_pos hv.1]
    obtain ⟨h0,h1,h2,h3⟩ := AaB
    have hf4 : f = 0 ∨ f = 1 ∨ f = 2 ∨ f = 3 := by omega
    rcases hf4 with rfl | rfl | rfl | rfl
    · rw [h0,za]; have : v ≤ 255 := hv.2; simp [this]
    · rw [h1,za]; have : v ≤ 255 := hv.2; simp [this]
    · rw [h2,za]; have : v ≤ 15 := hv.2; simp [this]
    · rw [h3,za]; have : v ≤ 255 := hv.2; simp [this]
  unfold Dk
  rw [if_pos hk,ht]
  have hf4 : f = 0 ∨ f = 1 ∨ f = 2 ∨ f = 3 := by omega
  rcases hf4 with rfl | rfl | rfl | rfl <;> rfl
theorem II (s : Se) (f v : Int) {q : PK} (h : Dk s.2 f v = some q) : CM s f v = some ((if f = 4 then v else s.1),q) := by
  unfold CM
  rw [h]
  by_cases hf : f = 4
  · rw [if_pos hf,if_pos hf]; rfl
  · rw [if_neg hf,if_neg hf]; rfl
theorem rO (p : PK) (v : Int) : Dk p 4 v = some p := by
  unfold Dk
  rw [if_neg (by decide)]; rfl
theorem ZV {o sw q : Int} {p : PK} {x t : Tr38} (g : Gd q p sw x t) : H3 (o,q,p) x = H3 (sw,q,p) t := by
  rw [← g.same]
  refine P5 (SizeOf.sizeOf x + 1) x (by omega) fun f h0 h5 v hv => ?_
  by_cases c : f = 5
  · rw [c,g.none] at hv; exact absurd hv (List.not_mem_nil)
  · intro hh
    refine hh.1 ?_
    unfold gt
    simp only [if_neg c]
theorem PS {α β σ : Type} (g : β → α) (F : α → σ → Option σ) : ∀ (l : List β) (c : σ),HF F (l.map g) c = HF (fun x => F (g x)) l c
  | [],c => rfl
  | x :: l,c => by
    show (F (g x) c).bind _ = (F (g x) c).bind _
    congr 1
    funext c'
    exact PS g F l c'
theorem MH {α σ : Type} {F F' : α → σ → Option σ} : ∀ (l : List α) (c : σ),(∀ x ∈ l, ∀ c,F x c = F' x c) → HF F l c = HF F' l c
  | [],c,_ => rfl
  | x :: l,c,h => by
    show (F x c).bind _ = (F' x c).bind _
    rw [h x (List.mem_cons_self ..)]
    congr 1
    funext c'
    exact MH l c' fun y hy => h y (zd _ hy)
theorem fB (sw o : Int) : ∀ (n : Nat) (t : Tr41),SizeOf.sizeOf t < n → t.cnt ≤ 1048576 → GR t = true → Ab n (at' sw t) o = Ab n t sw
  | 0,t,h,_,_ => absurd h (Nat.not_lt_zero _)
  | n + 1, t, h, hc, hf => by
    obtain ⟨⟨⟨h1,hz⟩,ho⟩,h2⟩ := (Fx t).1 hf
    unfold FR at h1
    have hfi := Zo (SizeOf.sizeOf t + 1) t (by omega) hc hf
    have E : ∀ x ∈ t.un.2.2.2.2,Ab n (at' sw x) o = Ab n x sw := fun x hx => fB sw o n x (by have := XI hx; omega) (Nat.le_trans (cP hx) hc) (h2 x hx)
    have tot : ∀ x ∈ t.un.2.2.2.2, ∀ s, ∃ S,Ab n x sw s = some S ∧ Ku AQ S ∧ Bd S (wd x) := fun x hx s => ZG n x (by have := XI hx; omega) (hfi.ch hx) sw s
    have hq := qP t
    have hll := lP t
    have gd : ∀ s : Se,t.un.1 = 1 ∨ t.un.1 = 5 → Gd s.1 s.2 sw (ct sw t.un.2.1) t.un.2.1 := fun s c => Rd s.1 s.2 sw (SizeOf.sizeOf t.un.2.1 + 1) t.un.2.1 (by omega) (ho c).1
    have hcp : (cp sw t.un.1 t.un.2.1).cnt ≤ 1048576 := by
      unfold cp
      by_cases c : t.un.1 = 1 ∨ t.un.1 = 5
      · rw [if_pos c]
        have := (gd (0,0,0,0,0) c).size
        omega
      · rw [if_neg c]; omega
    funext s
    rw [YT]
    by_cases k5 : t.un.1 = 5
    · obtain ⟨x,y,hxy⟩ := Yn (hfi.two k5)
      have hx : x ∈ t.un.2.2.2.2 := by rw [hxy]; exact List.mem_cons_self ..
      have hy : y ∈ t.un.2.2.2.2 := by rw [hxy]; exact zd _ (List.mem_cons_self ..)
      have hh := ZV (o := o) (gd s (.inr k5))
      have hcp1 : cp sw t.un.1 t.un.2.1 = ct sw t.un.2.1 := if_pos (.inr k5)
      have T : ∀ (i : Nat) (z : Tr41),(if H3 (sw,s.1,s.2) t.un.2.1 = true then 0 else 1) = i → t.un.2.2.2.2[i]? = some z → z ∈ t.un.2.2.2.2 → Ab (n + 1) t sw s = Ab n z sw s := fun i z hi hz hm => by
        obtain ⟨S,g1,_⟩ := tot z hm s
        rw [g1]
        exact tE (Ab n) (t := t) sw k5 hfi.q (hfi.two k5) (by rw [hi]; exact hz) g1
      have up : ∀ z ∈ t.un.2.2.2.2,Ab (n + 1) (at' sw z) o s = Ab n z sw s := fun z hz => by
        obtain ⟨S,g1,_⟩ := tot z hz s
        rw [g1]
        exact Fh n (at' sw z) o s S (by rw [E z hz]; exact g1)
      rw [hxy,hcp1]
      show Ab (n + 1) (if t.un.1 = 5 ∧ (ct sw t.un.2.1).un.1 = 1 then at' sw x else if t.un.1 = 5 ∧ (ct sw t.un.2.1).un.1 = 2 then at' sw y else .mk t.un.1 (ct sw t.un.2.1) t.un.2.2.1 t.un.2.2.2.1 [at' sw x,at' sw y]) o s = _
      split
      · rename_i c
        have hl := LM (gd s (.inr k5)).fit (.inl rfl) c.2
        rw [hl,QA] at hh
        rw [up x hx,T 0 x (by rw [if_pos hh.symm]) (by rw [hxy]; rfl) hx]
      · split
        · rename_i c
          have hl := LM (gd s (.inr k5)).fit (.inr rfl) c.2
          rw [hl,Qt] at hh
          rw [up y hy,T 1 y (by rw [← hh]; rfl) (by rw [hxy]; rfl) hy]
        · by_cases hv : H3 (sw,s.1,s.2) t.un.2.1 = true
          · obtain ⟨S,g1,_⟩ := tot x hx s
            rw [T 0 x (if_pos hv) (by rw [hxy]; rfl) hx,g1]
            exact tE (Ab n) (t := .mk t.un.1 (ct sw t.un.2.1) t.un.2.2.1 t.un.2.2.2.1 [at' sw x,at' sw y]) (x := at' sw x) o k5 (by rw [← hcp1]; exact hcp) rfl (by
              show ([at' sw x,at' sw y] : List Tr41)[if H3 (o,s.1,s.2) (ct sw t.un.2.1) = true then 0 else 1]? = _
              rw [hh,if_pos hv]; rfl) (by rw [E x hx]; exact g1)
          · obtain ⟨S,g1,_⟩ := tot y hy s
            rw [T 1 y (if_neg hv) (by rw [hxy]; rfl) hy,g1]
            exact tE (Ab n) (t := .mk t.un.1 (ct sw t.un.2.1) t.un.2.2.1 t.un.2.2.2.1 [at' sw x,at' sw y]) (x := at' sw y) o k5 (by rw [← hcp1]; exact hcp) rfl (by
              show ([at' sw x,at' sw y] : List Tr41)[if H3 (o,s.1,s.2) (ct sw t.un.2.1) = true then 0 else 1]? = _
              rw [hh,if_neg hv]; rfl) (by rw [E y hy]; exact g1)
    · rw [Wg k5]
      have hk : t.un.1 = 1 ∨ t.un.1 = 2 ∨ t.un.1 = 3 ∨ t.un.1 = 4 := by omega
      show AJ (Ab n) (.mk t.un.1 (cp sw t.un.1 t.un.2.1) t.un.2.2.1 t.un.2.2.2.1 (t.un.2.2.2.2.map (at' sw))) o s = AJ (Ab n) t sw s
      rcases hk with k | k | k | k
      · rw [vQ (Ab n) sw k hfi.q s,vQ (Ab n) (t := .mk t.un.1 (cp sw t.un.1 t.un.2.1) t.un.2.2.1 t.un.2.2.2.1 (t.un.2.2.2.2.map (at' sw))) o k hcp s]
        have hh := ZV (o := o) (gd s (.inl k))
        have hcp1 : cp sw t.un.1 t.un.2.1 = ct sw t.un.2.1 := if_pos (.inl k)
        show some (if H3 (o,s.1,s.2) (cp sw t.un.1 t.un.2.1) = true then [s] else []) = _
        rw [hcp1,hh]
      · obtain ⟨q,hq2⟩ := Ql s t.un.2.2.1 t.un.2.2.2.1
        rw [uS (Ab n) sw k hq2,uS (Ab n) (t := .mk t.un.1 (cp sw t.un.1 t.un.2.1) t.un.2.2.1 t.un.2.2.2.1 (t.un.2.2.2.2.map (at' sw))) o k hq2]
      · obtain ⟨r,g1,_⟩ := iO (G := fun x s => Ab n x sw s) t.un.2.2.2.2 [s] 1 tot (by simp [Ku]) (by show min ((1 : Nat) : Int) 1000 ≤ 1; decide)
        rw [yR (Ab n) sw k (by omega) g1]
        exact yR (Ab n) (t := .mk t.un.1 (cp sw t.un.1 t.un.2.1) t.un.2.2.1 t.un.2.2.2.1 (t.un.2.2.2.2.map (at' sw))) o k (by show (t.un.2.2.2.2.map (at' sw)).length ≤ _; rw [zh]; omega) (by
          show HF _ (t.un.2.2.2.2.map (at' sw)) [s] = _
          rw [PS, ← g1]
          exact MH _ _ fun x hx c => by rw [E x hx])
      · obtain ⟨r,g1,_⟩ := eW (G := fun x s => Ab n x sw s) (s := s) t.un.2.2.2.2 [] 0 (fun x hx => tot x hx s) (by simp [Ku]) (by show min ((0 : Nat) : Int) 1000 ≤ 0; decide)
        rw [xE (Ab n) sw k (by omega) g1]
        exact xE (Ab n) (t := .mk t.un.1 (cp sw t.un.1 t.un.2.1) t.un.2.2.1 t.un.2.2.2.1 (t.un.2.2.2.2.map (at' sw))) o k (by show (t.un.2.2.2.2.map (at' sw)).length ≤ _; rw [zh]; omega) (by
          show HF _ (t.un.2.2.2.2.map (at' sw)) [] = _
          rw [PS, ← g1]
          exact MH _ _ fun x hx c => by rw [E x hx])
theorem VS (t : Tr41) (i : Nat) : cl t (i + 1) = min (cl t i * ((len i t : Nat) + 1 : Int)) 100000 := rfl
theorem Wf {t : Tr27} (hc : t.cnt ≤ 1048576) : ∀ (d k : Nat),k + d = 5 → cl (pm t) k ≤ 300 → ∃ r,Aj (Id t) (cl (pm t) k,(k : Int)) = some r ∧ (∀ u,r = .inl u → cl (pm t) 5 ≤ 300) ∧ ∀ b,r = .inr b → b = false
  | 0,k,hk,h => by
    obtain rfl : k = 5 := by omega
    exact ⟨.inl (),by rw [Ap (e := .inl ()) (by rw [Id,if_neg (by omega)])],fun _ _ => h,fun b hb => (nomatch hb)⟩
  | d + 1,k,hk,h => by
    have hb := UU (pm t) k
    have hl : (LV (k : Int) (pm t) ((Ci (k : Int)).toNat + 1)).length ≤ 256 := XQ (k : Int) (pm t)
    have hm := sU (a := cl (pm t) k) (b := ((LV (k : Int) (pm t) ((Ci (k : Int)).toNat + 1)).length : Int) + 1) hb (by omega)
    have hs : Id t (cl (pm t) k,(k : Int)) = if 300 < cl (pm t) k * ((len k (pm t) : Nat) + 1 : Int) then some (.inr (.inr false)) else some (.inl (cl (pm t) k * ((len k (pm t) : Nat) + 1 : Int),((k + 1 : Nat) : Int))) := by
      have e1 : w64 (((LV (k : Int) (pm t) ((Ci (k : Int)).toNat + 1)).length : Int) + 1) = ((LV (k : Int) (pm t) ((Ci (k : Int)).toNat + 1)).length : Int) + 1 := Ah (by omega)
      have e2 : w64 (cl (pm t) k * (((LV (k : Int) (pm t) ((Ci (k : Int)).toNat + 1)).length : Int) + 1)) = cl (pm t) k * (((LV (k : Int) (pm t) ((Ci (k : Int)).toNat + 1)).length : Int) + 1) := Ah ⟨by have := hm.1; omega,by have := hm.2; omega⟩
      have e3 : w64 ((k : Int) + 1) = ((k + 1 : Nat) : Int) := by rw [Ah (by omega)]; rfl
      rw [Id,if_pos (by omega),w28,w31,bS hc,za,e1,e2,e3]
      try rfl
    by_cases c : 300 < cl (pm t) k * ((len k (pm t) : Nat) + 1 : Int)
    · exact ⟨.inr false,by rw [Ap (by rw [hs,if_pos c])],fun u hu => (nomatch hu),fun b hb => by cases hb; rfl⟩
    · have e : cl (pm t) (k + 1) = cl (pm t) k * ((len k (pm t) : Nat) + 1 : Int) := by rw [VS]; omega
      rw [Bi (by rw [hs,if_neg c]), ← e]
      exact Wf hc d (k + 1) (by omega) (by omega)
theorem pY {t : Tr27} (hc : t.cnt ≤ 1048576) : ∃ b,Q3 t = some b ∧ (b = true → cl (pm t) 5 ≤ 300) := by
  obtain ⟨r,h1,h2,h3⟩ := Wf hc 5 0 rfl (by show (1 : Int) ≤ 300; decide)
  unfold Q3
  rw [show Aj (Id t) (1,0) = some r from h1]
  cases r with
  | inl u =>
    refine ⟨decide ((sz (pm t) : Int) ≤ 150), ?_,fun _ => h2 u rfl⟩
    rw [w28,w31,Te hc]; rfl
  | inr b => exact ⟨b,rfl,fun hb => by rw [h3 b rfl] at hb; cases hb⟩
theorem Zi (t : Tr41) (i : Nat) : cl t i ≤ cl t (i + 1) := by
  have hb := UU t i
  have := Int.mul_le_mul_of_nonneg_left (show (1 : Int) ≤ (len i t : Nat) + 1 by omega) hb.1
  rw [Int.mul_one] at this
  rw [VS]; omega
theorem Wo {t : Tr41} {i : Nat} (h : cl t (i + 1) ≤ 300) : cl t (i + 1) = cl t i * ((len i t : Nat) + 1 : Int) := by
  rw [VS] at h ⊢; omega
theorem rS {t : Tr41} (h : cl t 5 ≤ 300) : cl t 5 = (((((((len 0 t + 1) * (len 1 t + 1)) * (len 2 t + 1)) * (len 3 t + 1)) * (len 4 t + 1)) : Nat) : Int) := by
  have u4 : cl t 4 ≤ cl t 5 := Zi t 4
  have u3 : cl t 3 ≤ cl t 4 := Zi t 3
  have u2 : cl t 2 ≤ cl t 3 := Zi t 2
  have u1 : cl t 1 ≤ cl t 2 := Zi t 1
  have e5 : cl t 5 = cl t 4 * ((len ((4 : Nat) : Int) t : Nat) + 1 : Int) := Wo (i := 4) h
  have e4 : cl t 4 = cl t 3 * ((len ((3 : Nat) : Int) t : Nat) + 1 : Int) := Wo (i := 3) (show cl t 4 ≤ 300 by omega)
  have e3 : cl t 3 = cl t 2 * ((len ((2 : Nat) : Int) t : Nat) + 1 : Int) := Wo (i := 2) (show cl t 3 ≤ 300 by omega)
  have e2 : cl t 2 = cl t 1 * ((len ((1 : Nat) : Int) t : Nat) + 1 : Int) := Wo (i := 1) (show cl t 2 ≤ 300 by omega)
  have e1 : cl t 1 = cl t 0 * ((len ((0 : Nat) : Int) t : Nat) + 1 : Int) := Wo (i := 0) (show cl t 1 ≤ 300 by omega)
  rw [e5,e4,e3,e2,e1,show cl t 0 = 1 from rfl,Int.one_mul]
  simp only [Int.natCast_mul,Int.natCast_add]
  rfl
def c1 (a b : Int) : Int := if a = -1 then b else a
def cm (q s : Se) : Se := (c1 s.1 q.1,c1 s.2.1 q.2.1,c1 s.2.2.1 q.2.2.1,c1 s.2.2.2.1 q.2.2.2.1,c1 s.2.2.2.2 q.2.2.2.2)
theorem Qy (q s : Se) (i : Nat) : gA (cm q s) i = c1 (gA s i) (gA q i) := by
  unfold gA; split <;> rfl
theorem UZ {a b : Se} (h : ∀ i,i < 5 → gA a i = gA b i) : a = b := by
  have h0 : a.1 = b.1 := h 0 (by omega)
  have h1 : a.2.1 = b.2.1 := h 1 (by omega)
  have h2 : a.2.2.1 = b.2.2.1 := h 2 (by omega)
  have h3 : a.2.2.2.1 = b.2.2.2.1 := h 3 (by omega)
  have h4 : a.2.2.2.2 = b.2.2.2.2 := h 4 (by omega)
  simp only [Prod.ext_iff]
  exact ⟨h0,h1,h2,h3,h4⟩
abbrev wJ (q k : Se) : Prop := ∀ i,i < 5 → gA k i = -1 ∨ gA k i = gA q i
theorem iJ {q k : Se} : wJ q k ↔ cm q k = q := by
  constructor
  · intro h
    refine UZ fun i hi => ?_
    rw [Qy]; unfold c1
    rcases h i hi with h | h
    · rw [if_pos h]
    · split
      · rfl
      · exact h
  · intro h i hi
    have e := Qy q k i
    rw [h] at e; unfold c1 at e
    by_cases c : gA k i = -1
    · exact .inl c
    · rw [if_neg c] at e; exact .inr e.symm
noncomputable def X7 (q : Se) (c : Ca) : Bool := @decide (wJ q (kn c)) (Classical.propDecidable _)
theorem Py {q : Se} {c : Ca} : X7 q c = true ↔ wJ q (kn c) := @decide_eq_true_iff _ (Classical.propDecidable _)
theorem qJ {q : Se} {c : Ca} {i : Nat} (h : i < 5) (h1 : gA (kn c) i ≠ -1) (h2 : gA (kn c) i ≠ gA q i) : X7 q c = false := by
  rw [← Bool.not_eq_true,Py]
  exact fun hh => (hh i h).elim h1 h2
noncomputable def fo (q : Se) : List Ca → Option (List Se)
  | [] => none
  | c :: l => if X7 q c = true then some c.2.2 else fo q l
theorem YZ (q : Se) (c : Ca) (l : List Ca) : fo q (c :: l) = if X7 q c = true then some c.2.2 else fo q l := rfl
theorem Yt (q : Se) : ∀ a b : List Ca,fo q (a ++ b) = if (fo q a).isSome = true then fo q a else fo q b
  | [],b => rfl
  | c :: a,b => by
    rw [List.cons_append,YZ,YZ]
    by_cases h : X7 q c = true
    · simp only [if_pos h]; rfl
    · simp only [if_neg h]; exact Yt q a b
theorem YS {q : Se} : ∀ {l : List Ca},(∀ c ∈ l,X7 q c = false) → fo q l = none
  | [],_ => rfl
  | c :: l,h => by
    unfold fo
    rw [if_neg (by rw [h c (List.mem_cons_self ..)]; decide)]
    exact YS fun x hx => h x (zd _ hx)
theorem Y8 {q : Se} {F : Int → List Ca} {w : Int} : ∀ L : List Int,(∀ v ∈ L,v ≠ w → ∀ c ∈ F v,X7 q c = false) → fo q (L.flatMap F) = if w ∈ L then fo q (F w) else none
  | [],_ => rfl
  | v :: L,h => by
    have ih := Y8 L fun x hx => h x (zd _ hx)
    rw [List.flatMap_cons,Yt,ih]
    by_cases e : v = w
    · subst e
      rw [if_pos (List.mem_cons_self ..)]
      cases hf : fo q (F v) with
      | none => simp
      | some x => rfl
    · rw [YS (h v (List.mem_cons_self ..) e),if_neg (by simp)]
      by_cases m : w ∈ L
      · rw [if_pos m,if_pos (zd _ m)]
      · rw [if_neg m,if_neg (fun hh => (List.mem_cons.1 hh).elim (fun e2 => e e2.symm) m)]
def Al (i : Nat) : List Ca → List Ca → Prop
  | [],[] => True
  | x :: a,y :: b => (wA (kn x) i (-1) = wA (kn y) i (-1) ∧ x.2.2 = y.2.2) ∧ Al i a b
  | _,_ => False
theorem mY {q : Se} {i : Nat} (hi : i < 5) : ∀ {a b : List Ca},Al i a b → (∀ c ∈ a,gA (kn c) i = gA q i) → (∀ c ∈ b,gA (kn c) i = -1) → fo q a = fo q b
  | [],[],_,_,_ => rfl
  | [],_ :: _,h,_,_ => h.elim
  | _ :: _,[],h,_,_ => h.elim
  | x :: a,y :: b,h,ha,hb => by
    have ih := mY hi (a := a) (b := b) h.2 (fun c hc => ha c (zd _ hc)) fun c hc => hb c (zd _ hc)
    have hx := ha x (List.mem_cons_self ..)
    have hy := hb y (List.mem_cons_self ..)
    have hj : ∀ j,j < 5 → j ≠ i → gA (kn x) j = gA (kn y) j := fun j h5 hne => by
      have := congrArg (fun s => gA s j) h.1.1
      simp only [RA _ hi h5,if_neg hne] at this
      exact this
    have he : X7 q x = X7 q y := by
      rw [Bool.eq_iff_iff,Py,Py]
      constructor
      · intro hA j h5
        by_cases e : j = i
        · subst e; exact .inl hy
        · rw [← hj j h5 e]; exact hA j h5
      · intro hA j h5
        by_cases e : j = i
        · subst e; exact .inr hx
        · rw [hj j h5 e]; exact hA j h5
    unfold fo
    rw [he,ih,h.1.2]
section
variable {R : Se → List Se} {V : Nat → List Int} {sm : Nat → List Ca → List Ca → Bool}
def lB (V : Nat → List Int) (q : Se) : Nat → Nat → Se → Se
  | 0,_,k => k
  | d + 1,i,k => if gA q i ∈ V i then lB V q d (i + 1) (wA k i (gA q i)) else lB V q d (i + 1) k
theorem dX {q : Se} (hsm : ∀ i a b,i < 5 → a.length ≤ 1000000 → (∀ c ∈ a,c.2.2.length ≤ 1000000) → sm i a b = true → Al i a b) (hR : ∀ k,(R k).length ≤ 1000000) (hV : ∀ j,(-1 : Int) ∉ V j) : ∀ (d i : Nat) (k : Se),i + d = 5 → pr V d i ≤ 1000000 → (∀ j,j < i → gA k j = -1 ∨ gA k j = gA q j) → (∀ j,i ≤ j → j < 5 → gA k j = -1) → fo q (fr R V sm d i k) = some (R (lB V q d i k))
  | 0,i,k,hi,_,h1,_ => by
    obtain rfl : i = 5 := by omega
    show (if X7 q (k.1,k.2,R k) = true then some (R k) else none) = _
    rw [if_pos (Py.2 h1)]; rfl
  | d + 1,i,k,hi,hp,h1,h2 => by
    obtain ⟨_,hp2⟩ := mV (V := V) d i
    have hw : ∀ v j,j < 5 → gA (wA k i v) j = if j = i then v else gA k j := fun v j h5 => RA k (by omega) h5 v
    have A : ∀ v,v ≠ gA q i → v ∈ V i → ∀ c ∈ fr R V sm d (i + 1) (wA k i v),X7 q c = false := fun v hv hm c hc => by
      have e := (LJ d (i + 1) _ c (by omega) hc).1 i (by omega)
      rw [hw v i (by omega),if_pos rfl] at e
      exact qJ (i := i) (by omega) (by rw [e]; exact fun h => hV i (h ▸ hm)) (by rw [e]; exact hv)
    have B : fo q (fr R V sm d (i + 1) k) = some (R (lB V q d (i + 1) k)) := dX hsm hR hV d (i + 1) k (by omega) (by omega) (fun j hj => by
      by_cases e : j = i
      · subst e; exact .inl (h2 j (Nat.le_refl _) (by omega))
      · exact h1 j (by omega)) fun j hj h5 => h2 j (by omega) h5
    have C : fo q (fr R V sm d (i + 1) (wA k i (gA q i))) = some (R (lB V q d (i + 1) (wA k i (gA q i)))) := dX hsm hR hV d (i + 1) (wA k i (gA q i)) (by omega) (by omega) (fun j hj => by
      rw [hw _ j (by omega)]
      by_cases e : j = i
      · subst e; rw [if_pos rfl]; exact .inr rfl
      · rw [if_neg e]; exact h1 j (by omega)) fun j hj h5 => by
        rw [hw _ j h5,if_neg (by omega)]; exact h2 j (by omega) h5
    unfold fr lB
    rw [Yt,Y8 (q := q) (w := gA q i) (V i) fun v hv hne c hc => by
      split at hc
      · cases hc
      · exact A v hne hv c hc]
    by_cases m : gA q i ∈ V i
    · rw [if_pos m,if_pos m]
      by_cases s : sm i (fr R V sm d (i + 1) (wA k i (gA q i))) (fr R V sm d (i + 1) k) = true
      · rw [if_pos s]
        show fo q _ = _
        rw [← C]
        refine (mY (i := i) (by omega) (hsm _ _ _ (by omega) (by have := PY (R := R) (V := V) (sm := sm) d (i + 1) (wA k i (gA q i)); omega) (fun c hc => by rw [(LJ d (i + 1) _ c (by omega) hc).2]; exact hR _) s) (fun c hc => ?_) fun c hc => ?_).symm
        · rw [(LJ d (i + 1) _ c (by omega) hc).1 i (by omega),hw _ i (by omega),if_pos rfl]
        · rw [(LJ d (i + 1) _ c (by omega) hc).1 i (by omega)]; exact h2 i (Nat.le_refl _) (by omega)
      · rw [if_neg s,C]; rfl
    · rw [if_neg m,if_neg m]; exact B
theorem XM {q : Se} : ∀ (d i : Nat) (k : Se),i + d = 5 → ∀ j,j < 5 → gA (lB V q d i k) j = if j < i then gA k j else if gA q j ∈ V j then gA q j else gA k j
  | 0,i,k,hi,j,h5 => by rw [if_pos (by omega)]; rfl
  | d + 1,i,k,hi,j,h5 => by
    unfold lB
    by_cases m : gA q i ∈ V i
    · rw [if_pos m,XM d (i + 1) _ (by omega) j h5,RA k (by omega) h5]
      by_cases e : j = i
      · subst e; rw [if_pos rfl,if_pos (by omega),if_neg (by omega),if_pos m]
      · rw [if_neg e]
        by_cases l : j < i
        · rw [if_pos l,if_pos (by omega)]
        · rw [if_neg l,if_neg (by omega)]
    · rw [if_neg m,XM d (i + 1) _ (by omega) j h5]
      by_cases e : j = i
      · subst e; rw [if_pos (by omega),if_neg (by omega),if_neg m]
      · by_cases l : j < i
        · rw [if_pos l,if_pos (by omega)]
        · rw [if_neg l,if_neg (by omega)]
end
theorem nC (sw : Int) (s : Se) : ∀ {i : Nat},i < 5 → gt (sw,s.1,s.2) (fA i) = gA s i
  | 0,_ => rfl
  | 1,_ => rfl
  | 2,_ => rfl
  | 3,_ => rfl
  | 4,_ => rfl
theorem iI {f : Int} (h : 0 ≤ f ∧ f ≤ 4) : ∃ i,i < 5 ∧ fA i = f := by
  have : f = 0 ∨ f = 1 ∨ f = 2 ∨ f = 3 ∨ f = 4 := by omega
  rcases this with rfl | rfl | rfl | rfl | rfl
  · exact ⟨1,by omega,rfl⟩
  · exact ⟨2,by omega,rfl⟩
  · exact ⟨3,by omega,rfl⟩
  · exact ⟨4,by omega,rfl⟩
  · exact ⟨0,by omega,rfl⟩
theorem e7 (s : Se) {v : Int} : ∀ {i : Nat},i < 5 → 0 ≤ v ∧ v ≤ Ci (fA i) → CM s (fA i) v = some (wA s i v)
  | 0,_,_ => II s 4 v (rO _ v)
  | 1,_,h => (II s 0 v (Q9 _ (by decide) h)).trans rfl
  | 2,_,h => (II s 1 v (Q9 _ (by decide) h)).trans rfl
  | 3,_,h => (II s 2 v (Q9 _ (by decide) h)).trans rfl
  | 4,_,h => (II s 3 v (Q9 _ (by decide) h)).trans rfl
section
variable {q k : Se} {V : Nat → List Int}
theorem xS {s : Se} {i : Nat} (hi : i < 5) {v : Int} (hv : v ≠ -1) : cm q (wA s i v) = wA (cm q s) i v := UZ fun j hj => by
  rw [Qy,RA _ hi hj,RA _ hi hj]
  by_cases e : j = i
  · rw [if_pos e,if_pos e]; unfold c1; rw [if_neg hv]
  · rw [if_neg e,if_neg e,Qy]
abbrev Kq (k : Se) (V : Nat → List Int) (y : Se) : Prop := ∀ i,i < 5 → gA y i = gA k i ∨ gA y i ∈ V i
abbrev Rl (q k : Se) (V : Nat → List Int) (a b : List Se) : Prop := (∀ z,z ∈ b ↔ ∃ y ∈ a,z = cm q y) ∧ ∀ y ∈ a,Kq k V y
theorem X1 {s : Se} (h : Kq k V s) : Rl q k V [s] [cm q s] := ⟨fun z => by simp,fun y hy => by rw [List.mem_singleton.1 hy]; exact h⟩
theorem gN : Rl q k V [] [] := ⟨fun z => by simp,fun y hy => nomatch hy⟩
variable (hV : ∀ j,(-1 : Int) ∉ V j) (hk : ∀ i,i < 5 → gA k i = -1 → gA q i ∉ V i)
include hV hk
theorem rK {sw : Int} {c : Tr38} (hc : ∀ i,i < 5 → ∀ v,v ∈ Dl (fA i) c → v ∈ V i) {y : Se} (hy : Kq k V y) : H3 (sw,y.1,y.2) c = H3 (sw,(cm q y).1,(cm q y).2) c := by
  refine P5 (SizeOf.sizeOf c + 1) c (by omega) fun f f0 f5 v hv => ?_
  by_cases e5 : f = 5
  · subst e5; exact fun hh => hh.1 rfl
  · obtain ⟨i,hi,e⟩ := iI (f := f) (by omega)
    subst e
    have hm := hc i hi v hv
    rw [nC sw y hi,nC sw (cm q y) hi,Qy]
    unfold c1
    by_cases c : gA y i = -1
    · rw [if_pos c,c]
      rintro ⟨_,h | h⟩
      · exact hV i (h ▸ hm)
      · rcases hy i hi with h2 | h2
        · exact hk i hi (h2.symm.trans c) (h ▸ hm)
        · exact hV i (c ▸ h2)
    · rw [if_neg c]; exact fun hh => hh.1 rfl
omit hV hk in
theorem oW {a b c d : List Se} (h : Rl q k V a b) (g : Rl q k V c d) : Rl q k V (Mk AQ a c) (Mk AQ b d) := by
  refine ⟨fun z => ?_,fun y hy => ?_⟩
  · rw [Jf Gz,h.1,g.1]
    constructor
    · rintro (⟨y,hy,e⟩ | ⟨y,hy,e⟩)
      · exact ⟨y,(Jf Gz).2 (.inl hy),e⟩
      · exact ⟨y,(Jf Gz).2 (.inr hy),e⟩
    · rintro ⟨y,hy,e⟩
      rcases (Jf Gz).1 hy with hy | hy
      · exact .inl ⟨y,hy,e⟩
      · exact .inr ⟨y,hy,e⟩
  · rcases (Jf Gz).1 hy with hy | hy
    · exact h.2 y hy
    · exact g.2 y hy
omit hV hk in
theorem mA {g : Se → Option (List Se)} {a b : List Se} (h : Rl q k V a b) (hg : ∀ s,Kq k V s → ∃ S T,g s = some S ∧ g (cm q s) = some T ∧ Rl q k V S T) : ∃ c d,H4 AQ g a [] = some c ∧ H4 AQ g b [] = some d ∧ Rl q k V c d := by
  obtain ⟨c,hc⟩ := OG (lt := AQ) (f := g) (l := a) (a := []) Gz fun s hs => by
    obtain ⟨S,T,e,_⟩ := hg s (h.2 s hs); exact ⟨S,e⟩
  obtain ⟨d,hd⟩ := OG (lt := AQ) (f := g) (l := b) (a := []) Gz fun s hs => by
    obtain ⟨y,hy,rfl⟩ := (h.1 s).1 hs
    obtain ⟨S,T,_,e,_⟩ := hg y (h.2 y hy); exact ⟨T,e⟩
  have m1 := (Ic Gz (List.Pairwise.nil) hc).2.2
  have m2 := (Ic Gz (List.Pairwise.nil) hd).2.2
  refine ⟨c,d,hc,hd,fun z => ?_,fun y hy => ?_⟩
  · rw [m2]
    constructor
    · rintro (h0 | ⟨x,hx,r,hr,hz⟩)
      · cases h0
      · obtain ⟨y,hy,rfl⟩ := (h.1 x).1 hx
        obtain ⟨S,T,e1,e2,e3⟩ := hg y (h.2 y hy)
        rw [hr] at e2; cases e2
        obtain ⟨w,hw,e⟩ := (e3.1 z).1 hz
        exact ⟨w,(m1 w).2 (.inr ⟨y,hy,S,e1,hw⟩),e⟩
    · rintro ⟨w,hw,e⟩
      rcases (m1 w).1 hw with h0 | ⟨y,hy,r,hr,hw⟩
      · cases h0
      · obtain ⟨S,T,e1,e2,e3⟩ := hg y (h.2 y hy)
        rw [hr] at e1; cases e1
        exact .inr ⟨cm q y,(h.1 _).2 ⟨y,hy,rfl⟩,T,e2,(e3.1 z).2 ⟨w,hw,e⟩⟩
  · rcases (m1 y).1 hy with h0 | ⟨x,hx,r,hr,hw⟩
    · cases h0
    · obtain ⟨S,T,e1,e2,e3⟩ := hg x (h.2 x hx)
      rw [hr] at e1; cases e1
      exact e3.2 y hw
omit hV hk in
theorem dV {G : Tr41 → Se → Option (List Se)} : ∀ (l : List Tr41) {c d : List Se},Rl q k V c d → (∀ x ∈ l, ∀ s,Kq k V s → ∃ S T,G x s = some S ∧ G x (cm q s) = some T ∧ Rl q k V S T) →
    ∃ r t,HF (fun x c => H4 AQ (G x) c []) l c = some r ∧ HF (fun x c => H4 AQ (G x) c []) l d = some t ∧ Rl q k V r t
  | [],c,d,h,_ => ⟨c,d,rfl,rfl,h⟩
  | x :: l,c,d,h,hg => by
    obtain ⟨a,b,h1,h2,h3⟩ := mA h (hg x (List.mem_cons_self ..))
    obtain ⟨r,t,g1,g2,g3⟩ := dV l h3 fun y hy => hg y (zd _ hy)
    exact ⟨r,t,by show (H4 AQ (G x) c []).bind _ = _; rw [h1]; exact g1,by show (H4 AQ (G x) d []).bind _ = _; rw [h2]; exact g2,g3⟩
omit hV hk in
theorem gD {G : Tr41 → Se → Option (List Se)} {s : Se} : ∀ (l : List Tr41) {c d : List Se},Rl q k V c d → (∀ x ∈ l, ∃ S T,G x s = some S ∧ G x (cm q s) = some T ∧ Rl q k V S T) →
    ∃ r t,HF (fun x c => (G x s).bind fun r => some (Mk AQ c r)) l c = some r ∧ HF (fun x c => (G x (cm q s)).bind fun r => some (Mk AQ c r)) l d = some t ∧ Rl q k V r t
  | [],c,d,h,_ => ⟨c,d,rfl,rfl,h⟩
  | x :: l,c,d,h,hg => by
    obtain ⟨a,b,h1,h2,h3⟩ := hg x (List.mem_cons_self ..)
    obtain ⟨r,t,g1,g2,g3⟩ := gD l (oW h h3) fun y hy => hg y (zd _ hy)
    exact ⟨r,t,by show ((G x s).bind fun r => some (Mk AQ c r)).bind _ = _; rw [h1]; exact g1,by show ((G x (cm q s)).bind fun r => some (Mk AQ d r)).bind _ = _; rw [h2]; exact g2,g3⟩
theorem m8 {sw : Int} : ∀ (n : Nat) (t : Tr41),SizeOf.sizeOf t < n → Fi t → GR t = true → (∀ i,i < 5 → ∀ v,v ∈ us (fA i) t → v ∈ V i) → ∀ s,Kq k V s → ∃ S T,Ab n t sw s = some S ∧ Ab n t sw (cm q s) = some T ∧ Rl q k V S T
  | 0,t,h,_,_,_,_,_ => absurd h (Nat.not_lt_zero _)
  | n + 1,t,h,hfi,hf,hu,s,hs => by
    obtain ⟨⟨⟨h1,hz⟩,ho⟩,h2⟩ := (Fx t).1 hf
    unfold FR at h1
    have hl := hfi.len
    have ih : ∀ x ∈ t.un.2.2.2.2, ∀ s,Kq k V s → ∃ S T,Ab n x sw s = some S ∧ Ab n x sw (cm q s) = some T ∧ Rl q k V S T := fun x hx s hs => m8 n x (by have := XI hx; omega) (hfi.ch hx) (h2 x hx) (fun i hi v hv => hu i hi v (I4.2 (.inr (.inr ⟨x,hx,hv⟩)))) s hs
    have hh := rK hV hk (sw := sw) (c := t.un.2.1) (fun i hi v hv => hu i hi v (I4.2 (.inl hv))) hs
    show ∃ S T,AJ (Ab n) t sw s = some S ∧ AJ (Ab n) t sw (cm q s) = some T ∧ _
    have hk5 : t.un.1 = 1 ∨ t.un.1 = 2 ∨ t.un.1 = 3 ∨ t.un.1 = 4 ∨ t.un.1 = 5 := by omega
    rcases hk5 with k1 | k1 | k1 | k1 | k1
    · refine ⟨_,_,vQ _ sw k1 hfi.q s,vQ _ sw k1 hfi.q (cm q s), ?_⟩
      rw [← hh]
      split
      · exact X1 hs
      · exact gN
    · obtain ⟨g0,g4,g1,g2⟩ := h1.2.2.2.1 k1
      obtain ⟨i,hi,e⟩ := iI ⟨g0,g4⟩
      rw [← e] at g2
      have hm : t.un.2.2.2.1 ∈ V i := hu i hi _ (I4.2 (.inr (.inl ⟨k1,e.symm,rfl⟩)))
      refine ⟨_,_,uS _ sw k1 (by rw [← e]; exact e7 s hi ⟨g1,g2⟩),uS _ sw k1 (by rw [← e]; exact e7 (cm q s) hi ⟨g1,g2⟩), ?_⟩
      rw [← xS hi (by omega)]
      refine X1 fun j hj => ?_
      rw [RA s hi hj]
      by_cases c : j = i
      · subst c; rw [if_pos rfl]; exact .inr hm
      · rw [if_neg c]; exact hs j hj
    · obtain ⟨r,t',g1,g2,g3⟩ := dV (G := fun x s => Ab n x sw s) t.un.2.2.2.2 (X1 hs) ih
      exact ⟨r,t',yR _ sw k1 (by omega) g1,yR _ sw k1 (by omega) g2,g3⟩
    · obtain ⟨r,t',g1,g2,g3⟩ := gD (G := fun x s => Ab n x sw s) (s := s) t.un.2.2.2.2 gN fun x hx => ih x hx s hs
      exact ⟨r,t',xE _ sw k1 (by omega) g1,xE _ sw k1 (by omega) g2,g3⟩
    · have hlen : t.un.2.2.2.2.length = 2 := hfi.two k1
      have hi : (if H3 (sw,s.1,s.2) t.un.2.1 = true then 0 else 1) < t.un.2.2.2.2.length := by split <;> omega
      obtain ⟨S,T,g1,g2,g3⟩ := ih _ (List.getElem_mem hi) s hs
      exact ⟨S,T,tE _ sw k1 hfi.q hlen (zb hi) g1,tE _ sw k1 hfi.q hlen (by rw [← hh]; exact zb hi) g2,g3⟩
end
def u1 (a b : Int) : Int := if a = b then -1 else a
def un (k s : Se) : Se := (s.1,u1 s.2.1 k.2.1,u1 s.2.2.1 k.2.2.1,u1 s.2.2.2.1 k.2.2.2.1,u1 s.2.2.2.2 k.2.2.2.2)
theorem yW {x : List Se} {i : Nat} {y : Se} (h : x[i]? = some y) (c : Se → Prop) [DecidablePred c] (g : Se → Se) : ((ix x (i : Int)).bind fun y => if c y then (ix x (i : Int)).bind fun z => some (AU x (i : Int) (g z)) else some x) = some (x.set i (if c y then g y else y)) := by
  rw [A9 h,za]
  by_cases hc : c y
  · rw [if_pos hc,if_pos hc,za]
    unfold AU; simp
  · rw [if_neg hc,if_neg hc]
    obtain ⟨hi,e⟩ := List.getElem?_eq_some_iff.1 h
    rw [← e,List.set_getElem_self]
theorem U7 {x : List Se} {i : Nat} {y z : Se} (h : x[i]? = some y) : (x.set i z)[i]? = some z := by
  rw [List.getElem?_set_self (List.getElem?_eq_some_iff.1 h).1]
theorem zU (k y : Se) : (let a := if y.2.1 = k.2.1 then (y.1,((-1 : Int),y.2.2.1,y.2.2.2.1,y.2.2.2.2)) else y
    let b := if a.2.2.1 = k.2.2.1 then (a.1,(a.2.1,(-1 : Int),a.2.2.2.1,a.2.2.2.2)) else a
    let c := if b.2.2.2.1 = k.2.2.2.1 then (b.1,(b.2.1,b.2.2.1,(-1 : Int),b.2.2.2.2)) else b
    if c.2.2.2.2 = k.2.2.2.2 then (c.1,(c.2.1,c.2.2.1,c.2.2.2.1,(-1 : Int))) else c) = un k y := by
  obtain ⟨y0,y1,y2,y3,y4⟩ := y
  unfold un u1
  by_cases h1 : y1 = k.2.1 <;> by_cases h2 : y2 = k.2.2.1 <;> by_cases h3 : y3 = k.2.2.2.1 <;> by_cases h4 : y4 = k.2.2.2.2 <;> simp only [h1,h2,h3,h4,if_true,if_false,if_pos,if_neg,not_false_eq_true]
theorem lF (k : Se) (S : List Se) (hl : S.length ≤ 1000000) : Aj (Ce k S) (S,0) = some (S.map (un k)) := by
  obtain ⟨o,h1,h2⟩ := DU S.length (fun (o : List Se) (i : Nat) => (o,(i : Int))) (Ce k S) id (fun o i => ∀ j : Nat,o[j]? = if j < i then (S[j]?).map (un k) else S[j]?)
    (fun o i hi ho => by
      have e0 : o[i]? = some S[i] := by rw [ho i,if_neg (by omega),zb hi]
      refine ⟨o.set i (un k S[i]), ?_,fun j => ?_⟩
      · rw [Ce,if_pos (by omega)]
        rw [yW e0 (fun y => y.2.1 = k.2.1) (fun z => (z.1,((-1),z.2.2.1,z.2.2.2.1,z.2.2.2.2))),za]
        rw [yW (U7 e0) (fun y => y.2.2.1 = k.2.2.1) (fun z => (z.1,(z.2.1,(-1),z.2.2.2.1,z.2.2.2.2))),za,List.set_set]
        rw [yW (U7 e0) (fun y => y.2.2.2.1 = k.2.2.2.1) (fun z => (z.1,(z.2.1,z.2.2.1,(-1),z.2.2.2.2))),za,List.set_set]
        rw [yW (U7 e0) (fun y => y.2.2.2.2 = k.2.2.2.2) (fun z => (z.1,(z.2.1,z.2.2.1,z.2.2.2.1,(-1)))),za,List.set_set,Ah (by omega), ← zU]
        rfl
      · rw [List.getElem?_set]
        by_cases c : i = j
        · subst c
          have hj : i < o.length := (List.getElem?_eq_some_iff.1 e0).1
          rw [if_pos rfl,if_pos hj,if_pos (by omega),zb hi]; rfl
        · rw [if_neg c,ho j]
          by_cases d : j < i
          · rw [if_pos d,if_pos (by omega)]
          · rw [if_neg d,if_neg (by omega)])
    (fun o _ => by rw [Ce,if_neg (by omega)]; rfl) S (fun j => by rw [if_neg (by omega)])
  have e : o = S.map (un k) := List.ext_getElem? fun j => by
    rw [h1 j,List.getElem?_map]
    by_cases c : j < S.length
    · rw [if_pos c]
    · rw [if_neg c,List.getElem?_eq_none (by omega)]; rfl
  rw [← e]; exact h2
theorem XK {t : Tr41} (hf : Fi t) (hw : wd t ≤ 64) {n : Nat} (hn : SizeOf.sizeOf t < n) (sw : Int) (vs : List Int × List Int × List Int × List Int × List Int) (k : Se) : ∃ W,BI (t,sw,vs) k = some W ∧ (Ku AQ W ∧ W.length ≤ 64) ∧ ∃ S,Ab n t sw k = some S ∧ ∀ z,z ∈ W ↔ ∃ s ∈ S,z = un k s := by
  obtain ⟨S,s1,s2,s3⟩ := ZG n t hn hf sw k
  have hlen : S.length ≤ 64 := by unfold Bd at s3; omega
  have y1 := lF k S (by omega)
  obtain ⟨Z,z1,z2,z3⟩ := gK (L := S.map (un k)) (by rw [zh]; omega)
  have hz := z2.length_eq
  rw [zh] at hz
  obtain ⟨W,w1,w2,w3,w4⟩ := Qo (L := Z) (by omega) z3
  refine ⟨W, ?_,⟨w2,by omega⟩,S,s1,fun z => ?_⟩
  · unfold BI
    dsimp only
    rw [w36,w39,XN (cA (S := S) s1) s2 (by omega),za,y1,za,z1,za,w1]
    rfl
  · rw [w4,z2.mem_iff,List.mem_map]
    exact ⟨fun ⟨s,h,e⟩ => ⟨s,h,e.symm⟩,fun ⟨s,h,e⟩ => ⟨s,h,e.symm⟩⟩
theorem nV {i : Nat} : ∀ {a b : List Ca} (hl : a.length = b.length),(∀ j (h : j < a.length),wA (kn a[j]) i (-1) = wA (kn (b[j]'(by omega))) i (-1) ∧ a[j].2.2 = (b[j]'(by omega)).2.2) → Al i a b
  | [],[],_,_ => trivial
  | [],_ :: _,h,_ => by simp at h
  | _ :: _,[],h,_ => by simp at h
  | x :: a,y :: b,hl,h => ⟨h 0 (by simp),nV (by simpa using hl) fun j hj => by
    have := h (j + 1) (by simp; omega)
    simpa using this⟩
theorem RZ {ε : Type} (n : Nat) (step : Int → Option (Int ⊕ (Unit ⊕ ε))) (P : Nat → Prop) (hs : ∀ i : Nat,i < n → step (i : Int) = some (.inl ((i + 1 : Nat) : Int)) ∧ P i ∨ ∃ r,step (i : Int) = some (.inr (.inr r))) (h : Aj step 0 = some (.inl ())) : ∀ i,i < n → P i := by
  have key : ∀ (d k : Nat),k + d = n → Aj step (k : Int) = some (.inl ()) → ∀ i,k ≤ i → i < n → P i := by
    intro d
    induction d with
    | zero => intro k hk _ i h1 h2; omega
    | succ d ih =>
      intro k hk hl i h1 h2
      rcases hs k (by omega) with ⟨e,p⟩ | ⟨r,e⟩
      · rw [Bi e] at hl
        rcases Nat.eq_or_lt_of_le h1 with c | c
        · subst c; exact p
        · exact ih (k + 1) (by omega) hl i c h2
      · rw [Ap e] at hl; cases hl
  exact fun i hi => key n 0 (by omega) h i (Nat.zero_le _) hi
theorem Ru (n : Nat) (step : Int → Option (Int ⊕ (Unit ⊕ Bool))) (b : Bool) (hs : ∀ i : Nat,i < n → step (i : Int) = some (.inr (.inr b)) ∨ step (i : Int) = some (.inl ((i + 1 : Nat) : Int))) (he : step (n : Int) = some (.inr (.inl ()))) : ∃ r,Aj step 0 = some r ∧ (r = .inl () ∨ r = .inr b) := by
  have key : ∀ (d k : Nat),k + d = n → ∃ r,Aj step (k : Int) = some r ∧ (r = .inl () ∨ r = .inr b) := by
    intro d
    induction d with
    | zero => intro k hk; obtain rfl : k = n := by omega
              exact ⟨_,Ap he,.inl rfl⟩
    | succ d ih =>
      intro k hk
      rcases hs k (by omega) with h | h
      · exact ⟨_,Ap h,.inr rfl⟩
      · rw [Bi h]; exact ih (k + 1) (by omega)
  exact key n 0 (by omega)
theorem c8 {a b : List Se} (h : a.length ≤ 1000000) (e : AG a b = some true) : a = b := by
  unfold AG at e
  by_cases hl : a.length = b.length
  case neg => rw [if_pos (by omega)] at e; cases e
  rw [if_neg (by omega)] at e
  have st : ∀ i (hi : i < a.length),Ak a b (i : Int) = if a[i] ≠ b[i]'(by omega) then some (.inr (.inr false)) else some (.inl ((i + 1 : Nat) : Int)) := fun i hi => by
    rw [Ak,if_pos (by omega),A9 (zb hi),za,A9 (zb (show i < b.length by omega)),za]
    by_cases c : a[i] ≠ b[i]'(by omega)
    · rw [if_pos (zA.2 c),if_pos c]
    · rw [if_neg (fun h => c (zA.1 h)),if_neg c,Ah (by omega)]; rfl
  have hlp : Aj (Ak a b) 0 = some (.inl ()) := by
    obtain ⟨r,hr,hb⟩ := Ru a.length (Ak a b) false (fun i hi => by
      rw [st i hi]
      by_cases c : a[i] ≠ b[i]'(by omega)
      · rw [if_pos c]; exact .inl rfl
      · rw [if_neg c]; exact .inr rfl) (by rw [Ak,if_neg (by omega)])
    rcases hb with hb | hb
    · rw [hr,hb]
    · rw [hr,hb] at e; cases e
  have := RZ a.length _ (fun i => a[i]? = b[i]?) (fun i hi => by
    rw [st i hi]
    by_cases c : a[i] ≠ b[i]'(by omega)
    · rw [if_pos c]; exact .inr ⟨_,rfl⟩
    · rw [if_neg c]
      refine .inl ⟨rfl, ?_⟩
      rw [zb hi,zb (show i < b.length by omega)]
      exact congrArg some (Classical.byContradiction c)) hlp
  exact List.ext_getElem? fun i => by
    by_cases c : i < a.length
    · exact this i c
    · rw [List.getElem?_eq_none (by omega),List.getElem?_eq_none (by omega)]
theorem w8 {i : Nat} {a b : List Ca} (h : i < 5) (ha : a.length ≤ 1000000) (ho : ∀ c ∈ a,c.2.2.length ≤ 1000000) (e : P4 i a b = true) : Al i a b := by
  have e : CJ a b (fA i) = some true := by rw [V6 h ha ho,e]
  unfold CJ AE at e
  by_cases hl : a.length = b.length
  case neg => rw [if_pos (by omega)] at e; cases e
  rw [if_neg (by omega)] at e
  have hq : ∀ i' (hi : i' < a.length), ∃ q,C8 a[i'] (b[i']'(by omega)) (fA i) = some q ∧ (q = true → wA (kn a[i']) i (-1) = wA (kn (b[i']'(by omega))) i (-1) ∧ a[i'].2.2 = (b[i']'(by omega)).2.2) := fun j hj => by
    obtain ⟨q,hq⟩ := UH a[j] (b[j]'(by omega)) h (ho _ (List.getElem_mem _))
    refine ⟨q,hq,fun c => ?_⟩
    subst c
    unfold C8 at hq
    have e : ∀ s,CT s (fA i) (-1) = some (wA s i (-1)) := fun s => Kf s h (-1)
    rw [e,za,e,za] at hq
    split at hq
    · rename_i hc
      refine ⟨vX.1 hc,c8 (ho _ (List.getElem_mem _)) ?_⟩
      obtain ⟨r,hr⟩ := Uo (a := a[j].2.2) (b := (b[j]'(by omega)).2.2) (ho _ (List.getElem_mem _))
      rw [hr] at hq ⊢
      exact hq
    · cases hq
  have st : ∀ j (hj : j < a.length), ∃ q,Ad a b (fA i) (j : Int) = (if q = true then some (.inl ((j + 1 : Nat) : Int)) else some (.inr (.inr false))) ∧ (q = true → wA (kn a[j]) i (-1) = wA (kn (b[j]'(by omega))) i (-1) ∧ a[j].2.2 = (b[j]'(by omega)).2.2) := fun j hj => by
    obtain ⟨q,q1,q2⟩ := hq j hj
    refine ⟨q, ?_,q2⟩
    rw [Ad,if_pos (by omega),A9 (zb hj),za,A9 (zb (show j < b.length by omega)),za,q1,za]
    cases q with
    | true => rw [if_neg (by decide),if_pos rfl,Ah (by omega)]; rfl
    | false => rw [if_pos (by decide),if_neg (by decide)]
  have hlp : Aj (Ad a b (fA i)) 0 = some (.inl ()) := by
    obtain ⟨r,hr,hb⟩ := Ru a.length (Ad a b (fA i)) false (fun j hj => by
      obtain ⟨q,q1,_⟩ := st j hj
      rw [q1]
      cases q with
      | true => exact .inr rfl
      | false => exact .inl rfl) (by rw [Ad,if_neg (by omega)])
    rcases hb with hb | hb
    · rw [hr,hb]
    · rw [hr,hb] at e; cases e
  have := RZ a.length _ (fun j => ∀ (hj : j < a.length),wA (kn a[j]) i (-1) = wA (kn (b[j]'(by omega))) i (-1) ∧ a[j].2.2 = (b[j]'(by omega)).2.2) (fun j hj => by
    obtain ⟨q,q1,q2⟩ := st j hj
    rw [q1]
    cases q with
    | true => exact .inl ⟨rfl,fun _ => q2 rfl⟩
    | false => exact .inr ⟨_,rfl⟩) hlp
  exact nV hl fun j hj => this j hj hj
theorem Pn (s q : Se) : D7 s q.1 q.2 = some (cm q s) := by
  unfold D7 cm c1
  by_cases h0 : s.1 = -1 <;> by_cases h1 : s.2.1 = -1 <;> by_cases h2 : s.2.2.1 = -1 <;> by_cases h3 : s.2.2.2.1 = -1 <;> by_cases h4 : s.2.2.2.2 = -1 <;> simp only [h0,h1,h2,h3,h4,if_true,if_false,za]
theorem cG (c : Ca) (q : Se) : HG c q.1 q.2 = some (X7 q c) := by
  unfold HG
  rw [show D7 ((AC c).1,((AC c).2.1,(AC c).2.2.1,(AC c).2.2.2.1,(AC c).2.2.2.2)) q.1 q.2 = some (cm q (kn c)) from Pn (kn c) q,za]
  refine congrArg some (Bool.eq_iff_iff.2 ?_)
  rw [Py,iJ,decide_eq_true_iff]
  exact vX (x := cm q (kn c)) (y := q)
theorem jD {q : Se} {l : List Ca} (hl : l.length ≤ 1000000) {o : List Se} (h : fo q l = some o) : ∃ (i : Nat) (c : Ca),HD l q.1 q.2 = some (i : Int) ∧ l[i]? = some c ∧ c.2.2 = o := by
  have st : ∀ j (hj : j < l.length),A1 l q.1 q.2 (j : Int) = if X7 q l[j] = true then some (.inr (.inr (j : Int))) else some (.inl ((j + 1 : Nat) : Int)) := fun j hj => by
    rw [A1,if_pos (by omega),A9 (zb hj),za,cG,za]
    by_cases c : X7 q l[j] = true
    · rw [if_pos c,if_pos c]
    · rw [if_neg c,if_neg c,Ah (by omega)]; rfl
  have key : ∀ (d k : Nat),k + d = l.length → fo q (l.drop k) = some o → ∃ (i : Nat) (c : Ca),Aj (A1 l q.1 q.2) (k : Int) = some (.inr (i : Int)) ∧ l[i]? = some c ∧ c.2.2 = o := by
    intro d
    induction d with
    | zero => intro k hk h; rw [List.drop_of_length_le (by omega)] at h; cases h
    | succ d ih =>
      intro k hk h
      have hkl : k < l.length := by omega
      rw [List.drop_eq_getElem_cons hkl] at h
      unfold fo at h
      by_cases c : X7 q l[k] = true
      · rw [if_pos c] at h
        exact ⟨k,l[k],Ap (by rw [st k hkl,if_pos c]),zb hkl,Option.some.inj h⟩
      · rw [if_neg c] at h
        rw [Bi (by rw [st k hkl,if_neg c])]
        exact ih (k + 1) (by omega) h
  obtain ⟨i,c,h1,h2,h3⟩ := key l.length 0 (by omega) h
  refine ⟨i,c, ?_,h2,h3⟩
  unfold HD BT
  rw [show Aj (A1 l q.1 q.2) 0 = _ from h1]
  rfl
theorem mG (c : Ca) (q : Se) (hl : c.2.2.length ≤ 1000000) {S : List Se} (hA : Ku AQ S) (hp : (c.2.2.map (cm q)).Perm S) : Mw c q.1 q.2 = some S := by
  have h := PZ c.2.2 (by omega) (cm q) (J6 c q.1 q.2) (fun k hk out ho => by
    rw [J6,if_pos (by omega),A9 (zb hk),za,Pn,za]) fun out => by rw [J6,if_neg (by omega)]
  unfold Mw
  rw [h,za,R1 hA hp (by rw [← hp.length_eq,zh]; omega)]
  rfl
theorem f7 {t : Tr41} (hc : t.cnt ≤ 1000) (may : xU t) (h300 : cl t 5 ≤ 300) {n : Nat} (sw : Int) (hn : SizeOf.sizeOf (at' sw t) < n) : ∃ (R : Se → List Se) (V : Nat → List Int),(∀ k,(Ku AQ (R k) ∧ (R k).length ≤ 64) ∧ ∃ S,Ab n (at' sw t) sw k = some S ∧ ∀ z,z ∈ R k ↔ ∃ s ∈ S,z = un k s) ∧ (∀ j,(-1 : Int) ∉ V j) ∧ (∀ i,i < 5 → ∀ v,v ∈ us (fA i) (at' sw t) → v ∈ V i) ∧ Fi (at' sw t) ∧ GR (at' sw t) = true ∧ pr V 5 0 ≤ 300 ∧ Hm t sw = some (fr R V P4 5 0 (-1, -1, -1, -1, -1),0) := by
  have hf := may.1.1
  have g := Zz sw (SizeOf.sizeOf t + 1) t (by omega) hf
  have hca := iQ sw (SizeOf.sizeOf t + 1) t (by omega) hf
  have hx3 : cl (at' sw t) 5 ≤ 300 := Int.le_trans (Zy g.sub 5) h300
  have hfi := Zo (SizeOf.sizeOf (at' sw t) + 1) (at' sw t) (by omega) (by omega) g.fit
  have hwd : wd (at' sw t) ≤ 64 := Int.le_trans g.wide may.2
  obtain ⟨V4,a4,b4,c4⟩ := Nh (t := at' sw t) (by omega) 4
  obtain ⟨V0,a0,b0,c0⟩ := Nh (t := at' sw t) (by omega) 0
  obtain ⟨V1,a1,b1,c1⟩ := Nh (t := at' sw t) (by omega) 1
  obtain ⟨V2,a2,b2,c2⟩ := Nh (t := at' sw t) (by omega) 2
  obtain ⟨V3,a3,b3,c3⟩ := Nh (t := at' sw t) (by omega) 3
  have hV : ∀ (f : Int) (V : List Int),(∀ v,v ∈ V ↔ v ∈ us f (at' sw t)) → (-1 : Int) ∉ V := fun f V h2 h => by
      have := iA (f := f) (SizeOf.sizeOf (at' sw t) + 1) (at' sw t) (by omega) g.fit ((h2 _).1 h)
      omega
  have l4 : V4.length = len 4 (at' sw t) := by rw [HI g.fit 4 b4 c4]
  have l0 : V0.length = len 0 (at' sw t) := by rw [HI g.fit 0 b0 c0]
  have l1 : V1.length = len 1 (at' sw t) := by rw [HI g.fit 1 b1 c1]
  have l2 : V2.length = len 2 (at' sw t) := by rw [HI g.fit 2 b2 c2]
  have l3 : V3.length = len 3 (at' sw t) := by rw [HI g.fit 3 b3 c3]
  have hp : pr (vA (V4,V0,V1,V2,V3)) 5 0 ≤ 300 := by
    have e := rS hx3
    have e2 : pr (vA (V4,V0,V1,V2,V3)) 5 0 = ((((len 0 (at' sw t) + 1) * (len 1 (at' sw t) + 1)) * (len 2 (at' sw t) + 1)) * (len 3 (at' sw t) + 1)) * (len 4 (at' sw t) + 1) := by
      show (V4.length + 1) * ((V0.length + 1) * ((V1.length + 1) * ((V2.length + 1) * ((V3.length + 1) * 1)))) = _
      rw [l4,l0,l1,l2,l3,Nat.mul_one]
      ac_rfl
    rw [e2]
    omega
  have hR : ∀ k, ∃ W,BI (at' sw t,sw,(V4,V0,V1,V2,V3)) k = some W ∧ (Ku AQ W ∧ W.length ≤ 64) ∧ ∃ S,Ab n (at' sw t) sw k = some S ∧ ∀ z,z ∈ W ↔ ∃ s ∈ S,z = un k s := fun k => XK hfi hwd hn sw _ k
  refine ⟨fun k => (hR k).choose,vA (V4,V0,V1,V2,V3),fun k => (hR k).choose_spec.2,fun j => ?_,fun i hi v => ?_,hfi,g.fit,hp, ?_⟩
  · unfold vA
    split
    · exact hV 4 V4 c4
    · exact hV 0 V0 c0
    · exact hV 1 V1 c1
    · exact hV 2 V2 c2
    · exact hV 3 V3 c3
  · match i,hi with
    | 0,_ => exact (c4 v).2
    | 1,_ => exact (c0 v).2
    | 2,_ => exact (c1 v).2
    | 3,_ => exact (c2 v).2
    | 4,_ => exact (c3 v).2
  · have f0 : Bm 0 = some 4 := Ik (i := 0) (by decide)
    have f1 : Bm 1 = some 0 := Ik (i := 1) (by decide)
    have f2 : Bm 2 = some 1 := Ik (i := 2) (by decide)
    have f3 : Bm 3 = some 2 := Ik (i := 3) (by decide)
    have f4 : Bm 4 = some 3 := Ik (i := 4) (by decide)
    have g0 : ∀ s,CT s 4 (-1) = some (wA s 0 (-1)) := fun s => Kf s (i := 0) (by decide) (-1)
    have g1 : ∀ s,CT s 0 (-1) = some (wA s 1 (-1)) := fun s => Kf s (i := 1) (by decide) (-1)
    have g2 : ∀ s,CT s 1 (-1) = some (wA s 2 (-1)) := fun s => Kf s (i := 2) (by decide) (-1)
    have g3 : ∀ s,CT s 2 (-1) = some (wA s 3 (-1)) := fun s => Kf s (i := 3) (by decide) (-1)
    have g4 : ∀ s,CT s 3 (-1) = some (wA s 4 (-1)) := fun s => Kf s (i := 4) (by decide) (-1)
    have hfrom := jY (R := fun k => (hR k).choose) (fun k => ⟨(hR k).choose_spec.1,by have := (hR k).choose_spec.2.1.2; omega⟩) (-1, -1, -1, -1, -1) (by omega)
    unfold Hm
    rw [w36,w39,f9 (by omega),za, @decide_eq_true _ (_) may,if_neg (by decide),uN (by omega),za]
    simp only [w36,w39]
    rw [sC (by omega) g.fit,za,if_neg (by omega)]
    simp only [f0,f1,f2,f3,f4,a4,a0,a1,a2,a3,g0,g1,g2,g3,g4,za]
    rw [show Dy (at' sw t,sw,V4,V0,V1,V2,V3) 0 (wA (wA (wA (wA (wA (-1,0,0,0,0) 0 (-1)) 1 (-1)) 2 (-1)) 3 (-1)) 4 (-1)) = _ from hfrom,za]
theorem kR (p : Int × Int × Int × Int) : ∃ b,Jj p = some b ∧ (b = true → 0 ≤ p.1 ∧ 0 ≤ p.2.1 ∧ 0 ≤ p.2.2.1 ∧ 0 ≤ p.2.2.2) := by
  have st : ∀ i : Nat,i < 4 → (FP p (i : Int) = some (.inr (.inr false))) ∨ (FP p (i : Int) = some (.inl ((i + 1 : Nat) : Int)) ∧ 0 ≤ gA (0,p) (i + 1)) := fun i hi => by
    have hx : ix ([p.1,p.2.1,p.2.2.1,p.2.2.2] : List Int) (i : Int) = some (gA (0,p) (i + 1)) := A9 (by
      match i,hi with
      | 0,_ => rfl | 1,_ => rfl | 2,_ => rfl | 3,_ => rfl)
    rw [FP,if_pos (by omega),hx,za,Ah (by omega)]
    by_cases c : gA (0,p) (i + 1) < 0
    · rw [if_pos c]; exact .inl rfl
    · rw [if_neg c,za,za]
      by_cases d : HX (i : Int) < gA (0,p) (i + 1)
      · rw [if_pos (decide_eq_true d)]; exact .inl rfl
      · rw [if_neg (by simpa using d)]; exact .inr ⟨rfl,by omega⟩
  obtain ⟨r,h1,h2⟩ := Ru 4 (FP p) false (fun i hi => (st i hi).imp id And.left) (by rw [FP,if_neg (by decide)])
  unfold Jj
  rw [h1]
  rcases h2 with rfl | rfl
  · refine ⟨true,rfl,fun _ => ?_⟩
    have := RZ 4 _ (fun i => 0 ≤ gA (0,p) (i + 1)) (fun i hi => (st i hi).elim (fun h => .inr ⟨_,h⟩) .inl) h1
    exact ⟨this 0 (by omega),this 1 (by omega),this 2 (by omega),this 3 (by omega)⟩
  · exact ⟨false,rfl,fun h => nomatch h⟩
theorem Ze (k s : Se) {i : Nat} (hi : i < 5) : gA (un k s) i = if i = 0 then gA s 0 else u1 (gA s i) (gA k i) := by
  match i,hi with
  | 0,_ => rfl
  | 1,_ => rfl
  | 2,_ => rfl
  | 3,_ => rfl
  | 4,_ => rfl
section
variable {q k : Se} {V : Nat → List Int}
theorem nN (h : wJ q k) (s : Se) : cm q (un k s) = cm q s := UZ fun i hi => by
  rw [Qy,Qy,Ze k s hi]
  by_cases c : i = 0
  · subst c; rw [if_pos rfl]
  · rw [if_neg c]
    unfold c1 u1
    by_cases d : gA s i = gA k i
    · rw [if_pos d,if_pos rfl]
      split
      · rfl
      · rename_i e; rcases h i hi with h | h
        · exact absurd (d.trans h) e
        · rw [d,h]
    · rw [if_neg d]
theorem qT (hV : ∀ j,(-1 : Int) ∉ V j) (hq : ∀ i,i < 5 → 0 ≤ gA q i) (hk : ∀ i,i < 5 → gA k i = if gA q i ∈ V i then gA q i else -1) {s t : Se} (hs : Kq k V s) (ht : Kq k V t) (e : cm q (un k s) = cm q (un k t)) : un k s = un k t := UZ fun i hi => by
  have e := congrArg (fun x => gA x i) e
  simp only [Qy] at e
  have h0 := hq i hi
  have hki := hk i hi
  have key : (∀ s,Kq k V s → gA (un k s) i ≠ -1) ∨ (∀ s,Kq k V s → gA (un k s) i ≠ gA q i) := by
    by_cases c : i = 0
    · by_cases m : gA q i ∈ V i
      · left
        intro s hs h
        rw [Ze k s hi,if_pos c] at h
        rw [if_pos m] at hki
        subst c
        rcases hs 0 hi with h2 | h2
        · omega
        · exact hV 0 (h ▸ h2)
      · right
        intro s hs h
        rw [Ze k s hi,if_pos c] at h
        rw [if_neg m] at hki
        subst c
        rcases hs 0 hi with h2 | h2
        · omega
        · exact m (h ▸ h2)
    · right
      intro s hs h
      rw [Ze k s hi,if_neg c] at h
      unfold u1 at h
      by_cases d : gA s i = gA k i
      · rw [if_pos d] at h; omega
      · rw [if_neg d] at h
        rcases hs i hi with h2 | h2
        · exact d h2
        · rw [if_pos (h ▸ h2)] at hki; exact d (h.trans hki.symm)
  unfold c1 at e
  rcases key with key | key
  · rw [if_neg (key s hs),if_neg (key t ht)] at e; exact e
  · by_cases a : gA (un k s) i = -1
    · by_cases b : gA (un k t) i = -1
      · rw [a,b]
      · rw [if_pos a,if_neg b] at e; exact absurd e.symm (key t ht)
    · by_cases b : gA (un k t) i = -1
      · rw [if_neg a,if_pos b] at e; exact absurd e (key s hs)
      · rw [if_neg a,if_neg b] at e; exact e
end
theorem SH (p0 : Tr27) (ok0 : p0.cnt ≤ 1048576) (p1 : Int) {A : Prop} (_ : A) (p2 : Int) {B : Prop} (_ : B) (p3 : Int × Int × Int × Int) {C : Prop} (_ : C) : IF p0 p1 p2 p3 = some true := by
  unfold IF
  rw [w28,w31,f8 ok0,za]
  by_cases ok : xU (pm p0)
  case neg => rw [@decide_eq_false _ (_) ok,if_pos (by decide),za,if_pos rfl,Ng]; rfl
  case pos =>
    have hc := jU ok
    obtain ⟨b,hb1,hb2⟩ := pY ok0
    obtain ⟨b',hb3,hb4⟩ := kR p3
    rw [@decide_eq_true _ (_) ok,if_neg (by decide),hb1,za,hb3,za]
    cases b with
    | false => rw [if_pos (by decide),za,if_pos rfl,Ng]; rfl
    | true =>
      rw [if_neg (by decide)]
      cases b' with
      | false => rw [if_pos (by decide),za,if_pos rfl,Ng]; rfl
      | true =>
        rw [if_neg (by decide)]
        by_cases c1 : p2 < 0
        · rw [if_pos c1,za,if_pos rfl,Ng]; rfl
        rw [if_neg c1,za]
        by_cases c2 : 7 < p2
        · rw [if_pos (decide_eq_true c2),Ng]; rfl
        rw [if_neg (by simpa using c2)]
        obtain ⟨q0,q1,q2,q3⟩ := hb4 rfl
        have hq : ∀ i,i < 5 → 0 ≤ gA (p2,p3) i := fun i hi => by
          match i,hi with
          | 0,_ => exact Int.not_lt.1 c1
          | 1,_ => exact q0
          | 2,_ => exact q1
          | 3,_ => exact q2
          | 4,_ => exact q3
        obtain ⟨n,hn1,hn2⟩ : ∃ n,SizeOf.sizeOf (at' p1 (pm p0)) < n ∧ SizeOf.sizeOf (pm p0) < n := ⟨SizeOf.sizeOf (at' p1 (pm p0)) + SizeOf.sizeOf (pm p0) + 1,by omega,by omega⟩
        obtain ⟨R,V,r1,r2,r3,r4,r5,r6,r7⟩ := f7 (by omega) ok (hb2 rfl) p1 hn1
        have hfo := dX (q := (p2,p3)) (R := R) (V := V) (sm := P4) (fun i a b hi ha ho => w8 hi ha ho) (fun k => by have := (r1 k).1.2; omega) r2 5 0 (-1, -1, -1, -1, -1) rfl (by omega) (fun j hj => by omega) fun j _ h => by match j,h with | 0,_ => rfl | 1,_ => rfl | 2,_ => rfl | 3,_ => rfl | 4,_ => rfl
        have hsta := fun j h => XM (V := V) (q := (p2,p3)) 5 0 (-1, -1, -1, -1, -1) rfl j h
        have hlen := PY (R := R) (V := V) (sm := P4) 5 0 (-1, -1, -1, -1, -1)
        generalize lB V (p2,p3) 5 0 (-1, -1, -1, -1, -1) = k at *
        have hk : ∀ i,i < 5 → gA k i = if gA (p2,p3) i ∈ V i then gA (p2,p3) i else -1 := fun i hi => by
          rw [hsta i hi,if_neg (by omega)]
          match i,hi with | 0,_ => rfl | 1,_ => rfl | 2,_ => rfl | 3,_ => rfl | 4,_ => rfl
        have hag : wJ (p2,p3) k := fun i hi => by
          rw [hk i hi]
          split
          · exact .inr rfl
          · exact .inl rfl
        obtain ⟨⟨hA,hW⟩,S,s1,s2⟩ := r1 k
        obtain ⟨S',T,t1,t2,t3⟩ := m8 (q := (p2,p3)) (k := k) (V := V) r2 (fun i hi e m => by
          rw [hk i hi,if_pos m] at e; have := hq i hi; omega) (sw := p1) n (at' p1 (pm p0)) hn1 r4 r5 r3 k fun i _ => .inl rfl
        rw [s1] at t1
        cases t1
        rw [iJ.1 hag,fB p1 p1 n (pm p0) hn2 (by omega) ok.1.1] at t2
        obtain ⟨T',u1,u2,u3⟩ := ZG n (pm p0) hn2 (Zo (SizeOf.sizeOf (pm p0) + 1) (pm p0) (by omega) (by omega) ok.1.1) p1 (p2,p3)
        rw [t2] at u1
        cases u1
        have hTl : T.length ≤ 1000 := by have := ok.2; unfold Bd at u3; omega
        have hperm : ((R k).map (cm (p2,p3))).Perm T := by
          refine (List.perm_ext_iff_of_nodup ?_ (P7 Gz u2)).2 fun z => ?_
          · refine List.pairwise_map.2 ((P7 Gz hA).imp_of_mem fun {a b} ha hb hne e => hne ?_)
            obtain ⟨x,hx,rfl⟩ := (s2 a).1 ha
            obtain ⟨y,hy,rfl⟩ := (s2 b).1 hb
            exact qT r2 hq hk (t3.2 x hx) (t3.2 y hy) e
          · rw [t3.1,List.mem_map]
            constructor
            · rintro ⟨w,hw,rfl⟩
              obtain ⟨x,hx,rfl⟩ := (s2 w).1 hw
              exact ⟨x,hx,nN hag x⟩
            · rintro ⟨x,hx,rfl⟩
              exact ⟨un k x,(s2 _).2 ⟨x,hx,rfl⟩,nN hag x⟩
        obtain ⟨i,c,i1,i2,i3⟩ := jD (q := (p2,p3)) (by omega) hfo
        have hi := (List.getElem?_eq_some_iff.1 i2).1
        have hrun := mG c (p2,p3) (by rw [i3]; omega) u2 (by rw [i3]; exact hperm)
        rw [gC ok0,za,w36,w39,r7,za,show HD (fr R V P4 5 0 (-1, -1, -1, -1, -1),(0 : Int)).1 p2 p3 = some (i : Int) from i1,za]
        generalize fr R V P4 5 0 (-1, -1, -1, -1, -1) = l at *
        have ht : (decide (((l,(0 : Int)) : List Ca × Int).2 ≠ 0) || (decide ((i : Int) < 0) || decide ((((l,(0 : Int)) : List Ca × Int).1.length : Int) ≤ (i : Int)))) = false := by
          simp only [Bool.or_eq_false_iff,decide_eq_false_iff_not]
          exact ⟨fun h => h rfl,by omega,by omega⟩
        rw [ht,if_neg (by decide),show ix ((l,(0 : Int)) : List Ca × Int).1 (i : Int) = some c from A9 i2,za,show Mw c p2 p3 = some T from hrun,za]
        simp only [za,w36,w39]
        rw [XN (cA t2) u2 (by omega),za,bF (by omega),za,if_pos rfl,Ng]
        rfl
end Go.Proofs.YtkhiflmalgkjiaaGreat
