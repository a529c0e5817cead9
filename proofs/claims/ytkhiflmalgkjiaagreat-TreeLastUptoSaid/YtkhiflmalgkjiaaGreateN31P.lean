/- Layer 31: the program's cases. Conditions: none. -/
import Derived.Test.YtkhiflmalgkjiaaGreateN30B
set_option linter.unusedVariables false
set_option linter.unusedSimpArgs false
open Go Go.RowKit
namespace Go.Proofs.YtkhiflmalgkjiaaGreat
theorem xP {x : List Se} {i : Nat} (h : i < x.length) (c : Se → Prop) [DecidablePred c] (g : Se → Se) : ∃ x',((ix x (i : Int)).bind fun y => if c y then (ix x (i : Int)).bind fun z => some (AP x (i : Int) (g z)) else some x) = some x' ∧ x'.length = x.length := by
  rw [A5 (List.getElem?_eq_getElem h),Option.bind_some]
  by_cases hc : c x[i]
  · rw [if_pos hc,Option.bind_some]
    exact ⟨_,rfl,by simp [AP]⟩
  · rw [if_neg hc]; exact ⟨x,rfl,rfl⟩
theorem aS (p : Se) (S : List Se) (hl : S.length ≤ 1000000) : ∃ Y,Ah (Cc p S) (S,0) = some Y ∧ Y.length = S.length := by
  obtain ⟨o,h1,h2⟩ := Dk S.length (fun (o : List Se) (i : Nat) => (o,(i : Int))) (Cc p S) id (fun o i => o.length = S.length)
    (fun o i hi ho => by
      obtain ⟨a,ha,la⟩ := xP (x := o) (i := i) (by omega) (fun y => y.2.1 = p.2.1) (fun z => (z.1,((-1),z.2.2.1,z.2.2.2.1,z.2.2.2.2)))
      obtain ⟨b,hb,lb⟩ := xP (x := a) (i := i) (by omega) (fun y => y.2.2.1 = p.2.2.1) (fun z => (z.1,(z.2.1,(-1),z.2.2.2.1,z.2.2.2.2)))
      obtain ⟨c,hc,lc⟩ := xP (x := b) (i := i) (by omega) (fun y => y.2.2.2.1 = p.2.2.2.1) (fun z => (z.1,(z.2.1,z.2.2.1,(-1),z.2.2.2.2)))
      obtain ⟨d,hd,ld⟩ := xP (x := c) (i := i) (by omega) (fun y => y.2.2.2.2 = p.2.2.2.2) (fun z => (z.1,(z.2.1,z.2.2.1,z.2.2.2.1,(-1))))
      refine ⟨d, ?_,by omega⟩
      rw [Cc,if_pos (by omega),ha,Option.bind_some,hb,Option.bind_some,hc,Option.bind_some,hd,Option.bind_some,Ad (by omega)]
      rfl)
    (fun o _ => by rw [Cc,if_neg (by omega)]; rfl) S rfl
  exact ⟨o,h2,h1⟩
theorem XQ {t : Tr41} (hf : Fi t) (hw : wd t ≤ 64) (sw : Int) (vs : List Int × List Int × List Int × List Int × List Int) (k : Se) : ∃ W,BK (t,sw,vs) k = some W ∧ J3 AL W ∧ W.length ≤ 64 := by
  obtain ⟨S,s1,s2,s3⟩ := mO (SizeOf.sizeOf t + 1) t (by omega) hf sw (k.1,k.2)
  have hlen : S.length ≤ 64 := by unfold Bd at s3; omega
  obtain ⟨Y,y1,y2⟩ := aS k S (by omega)
  obtain ⟨Z,z1,z2,z3⟩ := eL (L := Y) (by omega)
  have hz := z2.length_eq
  obtain ⟨W,w1,w2,w3,_⟩ := Qk (L := Z) (by omega) z3
  refine ⟨W, ?_,w2,by omega⟩
  unfold BK
  dsimp only
  rw [w36,w39,eI (oI s1) s2 (by omega),Option.bind_some,y1,Option.bind_some,z1,Option.bind_some,w1]
  rfl
def vA (vs : List Int × List Int × List Int × List Int × List Int) : Nat → List Int
  | 0 => vs.1 | 1 => vs.2.1 | 2 => vs.2.2.1 | 3 => vs.2.2.2.1 | _ => vs.2.2.2.2
theorem sO (vs : List Int × List Int × List Int × List Int × List Int) {i : Nat} (h : i < 5) : ix ([vs.1,vs.2.1,vs.2.2.1,vs.2.2.2.1,vs.2.2.2.2] : List (List Int)) (i : Int) = some (vA vs i) := A5 (by
  match i,h with
  | 0,_ => rfl | 1,_ => rfl | 2,_ => rfl | 3,_ => rfl | 4,_ => rfl)
noncomputable def P2 (i : Nat) (a b : List Ca) : Bool := (Db a b (fA i)).getD false
theorem ZA {ε : Type} (n : Nat) (step : Int → Option (Int ⊕ ε)) (e : ε) (hs : ∀ i : Nat,i < n → (∃ r,step (i : Int) = some (.inr r)) ∨ step (i : Int) = some (.inl ((i + 1 : Nat) : Int))) (he : step (n : Int) = some (.inr e)) : ∃ r,Ah step 0 = some r := by
  have key : ∀ (d k : Nat),k + d = n → ∃ r,Ah step (k : Int) = some r := by
    intro d
    induction d with
    | zero => intro k hk; obtain rfl : k = n := by omega
              exact ⟨e,Ak he⟩
    | succ d ih =>
      intro k hk
      rcases hs k (by omega) with ⟨r,h⟩ | h
      · exact ⟨r,Ak h⟩
      · rw [A4 h]; exact ih (k + 1) (by omega)
  exact key n 0 (by omega)
theorem bB {a b : List Se} (h : a.length ≤ 1000000) : ∃ r,AU a b = some r := by
  unfold AU
  by_cases hl : a.length = b.length
  · rw [if_neg (by omega)]
    obtain ⟨r,hr⟩ := ZA a.length (AB a b) (.inl ()) (fun i hi => by
      rw [AB,if_pos (by omega),A5 (List.getElem?_eq_getElem hi),Option.bind_some,A5 (List.getElem?_eq_getElem (show i < b.length by omega)),Option.bind_some]
      split
      · exact .inl ⟨_,rfl⟩
      · refine .inr ?_; rw [Ad (by omega)]; rfl) (by rw [AB,if_neg (by omega)])
    rw [hr]
    cases r with
    | inl u => exact ⟨true,rfl⟩
    | inr r => exact ⟨r,rfl⟩
  · rw [if_pos (by omega)]; exact ⟨false,rfl⟩
theorem aG (x y : Ca) {i : Nat} (h : i < 5) (hx : x.2.2.length ≤ 1000000) : ∃ r,Ef x y (fA i) = some r := by
  unfold Ef
  have e : ∀ s,C0 s (fA i) (-1) = some (wA s i (-1)) := fun s => L6 s h (-1)
  rw [e,Option.bind_some,e,Option.bind_some]
  split
  · obtain ⟨r,hr⟩ := bB (a := x.2.2) (b := y.2.2) hx
    rw [hr]; exact ⟨r,rfl⟩
  · exact ⟨false,rfl⟩
theorem fQ {a b : List Ca} {i : Nat} (h : i < 5) (ha : a.length ≤ 1000000) (ho : ∀ c ∈ a,c.2.2.length ≤ 1000000) : Db a b (fA i) = some (P2 i a b) := by
  have : ∃ r,Db a b (fA i) = some r := by
    unfold Db AQ
    by_cases hl : a.length = b.length
    · rw [if_neg (by omega)]
      obtain ⟨r,hr⟩ := ZA a.length (Ap a b (fA i)) (.inl ()) (fun j hj => by
        obtain ⟨q,hq⟩ := aG a[j] (b[j]'(by omega)) h (ho _ (List.getElem_mem _))
        rw [Ap,if_pos (by omega),A5 (List.getElem?_eq_getElem hj),Option.bind_some,A5 (List.getElem?_eq_getElem (show j < b.length by omega)),Option.bind_some,hq,Option.bind_some]
        split
        · exact .inl ⟨_,rfl⟩
        · refine .inr ?_; rw [Ad (by omega)]; rfl) (by rw [Ap,if_neg (by omega)])
      rw [hr]
      cases r with
      | inl u => exact ⟨true,rfl⟩
      | inr r => exact ⟨r,rfl⟩
    · rw [if_pos (by omega)]; exact ⟨false,rfl⟩
  obtain ⟨r,hr⟩ := this
  unfold P2
  rw [hr]; rfl
theorem Qe {α β : Type} (g : α → List β) (p : α → Bool) : ∀ (l : List α) (c : List β),c.length + (l.map fun x => (g x).length).sum ≤ 1000000 → NQ (fun x c => if p x = true then some c else HT c (g x)) l c = some (c ++ l.flatMap fun x => if p x = true then [] else g x)
  | [],c,_ => by simp [NQ]
  | x :: l,c,h => by
    simp only [List.map_cons,List.sum_cons] at h
    unfold NQ
    by_cases hp : p x = true
    · rw [if_pos hp,Option.bind_some,Qe g p l c (by omega),List.flatMap_cons,if_pos hp,List.nil_append]
    · rw [if_neg hp,Gt (by omega),Option.bind_some,Qe g p l _ (by rw [List.length_append]; omega),List.flatMap_cons,if_neg hp,List.append_assoc]
theorem vN {V : Nat → List Int} (d i : Nat) : (V i).length ≤ pr V (d + 1) i ∧ pr V d (i + 1) ≤ pr V (d + 1) i := by
  have h0 : ∀ d i,1 ≤ pr V d i := fun d => by
    induction d with
    | zero => intro i; exact Nat.le_refl _
    | succ d ih => intro i; unfold pr; exact Nat.mul_pos (Nat.succ_pos _) (ih _)
  have h1 := h0 d (i + 1)
  have e : pr V (d + 1) i = ((V i).length + 1) * pr V d (i + 1) := rfl
  rw [e,Nat.add_mul,Nat.one_mul]
  have := Nat.mul_le_mul_left (V i).length h1
  rw [Nat.mul_one] at this
  omega
theorem dQ {t : Tr41} {sw : Int} {vs : List Int × List Int × List Int × List Int × List Int} {R : Se → List Se} (hR : ∀ k,BK (t,sw,vs) k = some (R k) ∧ (R k).length ≤ 1000000) : ∀ (d i : Nat) (k : Se) (n : Nat),i + d = 5 → d < n → pr (vA vs) d i ≤ 1000000 → A0 n (t,sw,vs) (i : Int) k = some (fr R (vA vs) P2 d i k)
  | d,i,k,0,_,h,_ => absurd h (Nat.not_lt_zero _)
  | 0,i,k,n + 1,hi,_,_ => by
    show Be (A0 n) (t,sw,vs) (i : Int) k = _
    unfold Be
    rw [if_pos (by omega)]
    dsimp only
    rw [w36,w39,(hR k).1]; rfl
  | d + 1, i, k, n + 1, hi, hd, hp => by
    obtain ⟨p1,p2⟩ := vN (V := vA vs) d i
    have ih := fun k => dQ hR d (i + 1) k n (by omega) (by omega) (by omega)
    have hl := fun k => R3 (R := R) (V := vA vs) (sm := P2) d (i + 1) k
    have hw : w64 ((i : Int) + 1) = ((i + 1 : Nat) : Int) := by rw [Ad (by omega)]; rfl
    show Be (A0 n) (t,sw,vs) (i : Int) k = _
    unfold Be
    rw [if_neg (by omega),Iq (by omega),Option.bind_some]
    dsimp only
    rw [w36,w39,hw,ih k,Option.bind_some,sO vs (by omega),Option.bind_some]
    have hsum : ((vA vs i).map fun v => (fr R (vA vs) P2 d (i + 1) (wA k i v)).length).sum + pr (vA vs) d (i + 1) ≤ pr (vA vs) (d + 1) i := by
      have := sum_le' (l := vA vs i) (g := fun v => (fr R (vA vs) P2 d (i + 1) (wA k i v)).length) (b := pr (vA vs) d (i + 1)) fun v _ => hl _
      have e : pr (vA vs) (d + 1) i = ((vA vs i).length + 1) * pr (vA vs) d (i + 1) := rfl
      rw [e,Nat.add_mul,Nat.one_mul]
      omega
    have hloop := Pw (vA vs i) (by omega) (fun v c => if P2 i (fr R (vA vs) P2 d (i + 1) (wA k i v)) (fr R (vA vs) P2 d (i + 1) k) = true then some c else HT c (fr R (vA vs) P2 d (i + 1) (wA k i v)))
      (A1 (A0 n) (t,sw,vs) (i : Int) k (fA i) (fr R (vA vs) P2 d (i + 1) k) (vA vs i))
      (fun j x c hx => by
        have hj := (List.getElem?_eq_some_iff.1 hx).1
        rw [A1,if_pos (by omega),A5 hx,Option.bind_some,L6 k (by omega),Option.bind_some]
        dsimp only
        rw [w36,w39,hw,ih (wA k i x),Option.bind_some,fQ (by omega) (by have := hl (wA k i x); omega) (fun c hc => by rw [(Nv d (i + 1) _ c (by omega) hc).2]; exact (hR _).2),Option.bind_some]
        by_cases hs : P2 i (fr R (vA vs) P2 d (i + 1) (wA k i x)) (fr R (vA vs) P2 d (i + 1) k) = true
        · rw [if_pos hs,hs,if_neg (by decide)]
        · rw [if_neg hs,if_pos (by simpa using hs)]
          cases HT c (fr R (vA vs) P2 d (i + 1) (wA k i x)) <;> rfl)
      (fun c => by rw [A1,if_neg (by omega)]) (vA vs i).length 0 [] _ (by omega) (by rw [List.drop_zero]; exact Qe _ (fun v => P2 i (fr R (vA vs) P2 d (i + 1) (wA k i v)) (fr R (vA vs) P2 d (i + 1) k)) _ [] (by simp only [List.length_nil]; omega))
    rw [show Ah (A1 (A0 n) (t,sw,vs) (i : Int) k (fA i) (fr R (vA vs) P2 d (i + 1) k) (vA vs i)) ([],0) = _ from hloop,Option.bind_some,List.nil_append]
    have hfr := R3 (R := R) (V := vA vs) (sm := P2) (d + 1) i k
    unfold fr at hfr
    rw [List.length_append] at hfr
    rw [Gt (by omega)]
    rfl
theorem jA {t : Tr41} {sw : Int} {vs : List Int × List Int × List Int × List Int × List Int} {R : Se → List Se} (hR : ∀ k,BK (t,sw,vs) k = some (R k) ∧ (R k).length ≤ 1000000) (k : Se) (hp : pr (vA vs) 5 0 ≤ 1000000) : Dx (t,sw,vs) 0 k = some (fr R (vA vs) P2 5 0 k) :=
  B4 (g := fun n => A0 n (t,sw,vs) 0 k) (fun n r h => Fe n (t,sw,vs) 0 k r h) (dQ hR 5 0 k 6 rfl (by omega) hp)
end Go.Proofs.YtkhiflmalgkjiaaGreat
namespace Go.Proofs.YtkhiflmalgkjiaaGreat
theorem UZ (t : Tr41) (i : Nat) : cl t (i + 1) = min (cl t i * ((len i t : Nat) + 1 : Int)) 100000 := rfl
theorem XA {t : Tr27} (hc : t.cnt ≤ 1048576) : ∀ (d k : Nat),k + d = 5 → cl (pm t) k ≤ 300 → ∃ r,Ah (Iz t) (cl (pm t) k,(k : Int)) = some r ∧ (∀ u,r = .inl u → cl (pm t) 5 ≤ 300) ∧ ∀ b,r = .inr b → b = false
  | 0,k,hk,h => by
    obtain rfl : k = 5 := by omega
    exact ⟨.inl (),by rw [Ak (e := .inl ()) (by rw [Iz,if_neg (by omega)])],fun _ _ => h,fun b hb => (nomatch hb)⟩
  | d + 1,k,hk,h => by
    have hb := Up (pm t) k
    have hl : (Mb (k : Int) (pm t) ((Cg (k : Int)).toNat + 1)).length ≤ 256 := XO (k : Int) (pm t)
    have hm := oE (a := cl (pm t) k) (b := ((Mb (k : Int) (pm t) ((Cg (k : Int)).toNat + 1)).length : Int) + 1) hb (by omega)
    have hs : Iz t (cl (pm t) k,(k : Int)) = if 300 < cl (pm t) k * ((len k (pm t) : Nat) + 1 : Int) then some (.inr (.inr false)) else some (.inl (cl (pm t) k * ((len k (pm t) : Nat) + 1 : Int),((k + 1 : Nat) : Int))) := by
      have e1 : w64 (((Mb (k : Int) (pm t) ((Cg (k : Int)).toNat + 1)).length : Int) + 1) = ((Mb (k : Int) (pm t) ((Cg (k : Int)).toNat + 1)).length : Int) + 1 := Ad (by omega)
      have e2 : w64 (cl (pm t) k * (((Mb (k : Int) (pm t) ((Cg (k : Int)).toNat + 1)).length : Int) + 1)) = cl (pm t) k * (((Mb (k : Int) (pm t) ((Cg (k : Int)).toNat + 1)).length : Int) + 1) := Ad ⟨by have := hm.1; omega,by have := hm.2; omega⟩
      have e3 : w64 ((k : Int) + 1) = ((k + 1 : Nat) : Int) := by rw [Ad (by omega)]; rfl
      rw [Iz,if_pos (by omega),w28,w31,aM hc,Option.bind_some,e1,e2,e3]
      try rfl
    by_cases c : 300 < cl (pm t) k * ((len k (pm t) : Nat) + 1 : Int)
    · exact ⟨.inr false,by rw [Ak (by rw [hs,if_pos c])],fun u hu => (nomatch hu),fun b hb => by cases hb; rfl⟩
    · have e : cl (pm t) (k + 1) = cl (pm t) k * ((len k (pm t) : Nat) + 1 : Int) := by rw [UZ]; omega
      rw [A4 (by rw [hs,if_neg c]), ← e]
      exact XA hc d (k + 1) (by omega) (by omega)
theorem pY {t : Tr27} (hc : t.cnt ≤ 1048576) : ∃ b,Q6 t = some b ∧ (b = true → cl (pm t) 5 ≤ 300) := by
  obtain ⟨r,h1,h2,h3⟩ := XA hc 5 0 rfl (by show (1 : Int) ≤ 300; decide)
  unfold Q6
  rw [show Ah (Iz t) (1,0) = some r from h1]
  cases r with
  | inl u =>
    refine ⟨decide ((sz (pm t) : Int) ≤ 150), ?_,fun _ => h2 u rfl⟩
    rw [w28,w31,Tg hc]; rfl
  | inr b => exact ⟨b,rfl,fun hb => by rw [h3 b rfl] at hb; cases hb⟩
theorem Zy (t : Tr41) (i : Nat) : cl t i ≤ cl t (i + 1) := by
  have hb := Up t i
  have := Int.mul_le_mul_of_nonneg_left (show (1 : Int) ≤ (len i t : Nat) + 1 by omega) hb.1
  rw [Int.mul_one] at this
  rw [UZ]; omega
theorem Wy {t : Tr41} {i : Nat} (h : cl t (i + 1) ≤ 300) : cl t (i + 1) = cl t i * ((len i t : Nat) + 1 : Int) := by
  rw [UZ] at h ⊢; omega
theorem oY {t : Tr41} (h : cl t 5 ≤ 300) : cl t 5 = (((((((len 0 t + 1) * (len 1 t + 1)) * (len 2 t + 1)) * (len 3 t + 1)) * (len 4 t + 1)) : Nat) : Int) := by
  have u4 : cl t 4 ≤ cl t 5 := Zy t 4
  have u3 : cl t 3 ≤ cl t 4 := Zy t 3
  have u2 : cl t 2 ≤ cl t 3 := Zy t 2
  have u1 : cl t 1 ≤ cl t 2 := Zy t 1
  have e5 : cl t 5 = cl t 4 * ((len ((4 : Nat) : Int) t : Nat) + 1 : Int) := Wy (i := 4) h
  have e4 : cl t 4 = cl t 3 * ((len ((3 : Nat) : Int) t : Nat) + 1 : Int) := Wy (i := 3) (show cl t 4 ≤ 300 by omega)
  have e3 : cl t 3 = cl t 2 * ((len ((2 : Nat) : Int) t : Nat) + 1 : Int) := Wy (i := 2) (show cl t 3 ≤ 300 by omega)
  have e2 : cl t 2 = cl t 1 * ((len ((1 : Nat) : Int) t : Nat) + 1 : Int) := Wy (i := 1) (show cl t 2 ≤ 300 by omega)
  have e1 : cl t 1 = cl t 0 * ((len ((0 : Nat) : Int) t : Nat) + 1 : Int) := Wy (i := 0) (show cl t 1 ≤ 300 by omega)
  rw [e5,e4,e3,e2,e1,show cl t 0 = 1 from rfl,Int.one_mul]
  simp only [Int.natCast_mul,Int.natCast_add]
  rfl
theorem cQ {t : Tr41} (hc : t.cnt ≤ 1000) (may : vP t) (h300 : cl t 5 ≤ 300) (sw : Int) : ∃ (R : Se → List Se) (V : Nat → List Int),(∀ k,J3 AL (R k) ∧ (R k).length ≤ 64) ∧ (∀ j,(V j).Nodup ∧ (-1 : Int) ∉ V j) ∧ pr V 5 0 ≤ 300 ∧ Ht t sw = some (fr R V P2 5 0 (-1, -1, -1, -1, -1),0) := by
  have hf := may.1.1
  have g := Y4 sw (SizeOf.sizeOf t + 1) t (by omega) hf
  have hca := cF sw (SizeOf.sizeOf t + 1) t (by omega) hf
  have hx3 : cl (at' sw t) 5 ≤ 300 := Int.le_trans (Yo g.sub 5) h300
  have hfi := mB (SizeOf.sizeOf (at' sw t) + 1) (at' sw t) (by omega) (by omega) g.fit
  have hwd : wd (at' sw t) ≤ 64 := Int.le_trans g.wide may.2
  obtain ⟨V4,a4,b4,c4⟩ := Ns (t := at' sw t) (by omega) 4
  obtain ⟨V0,a0,b0,c0⟩ := Ns (t := at' sw t) (by omega) 0
  obtain ⟨V1,a1,b1,c1⟩ := Ns (t := at' sw t) (by omega) 1
  obtain ⟨V2,a2,b2,c2⟩ := Ns (t := at' sw t) (by omega) 2
  obtain ⟨V3,a3,b3,c3⟩ := Ns (t := at' sw t) (by omega) 3
  have hV : ∀ (f : Int) (V : List Int),V.Pairwise (· < ·) → (∀ v,v ∈ V ↔ v ∈ us f (at' sw t)) → V.Nodup ∧ (-1 : Int) ∉ V := fun f V h1 h2 =>
    ⟨h1.imp fun h => Int.ne_of_lt h,fun h => by
      have := fB (f := f) (SizeOf.sizeOf (at' sw t) + 1) (at' sw t) (by omega) g.fit ((h2 _).1 h)
      omega⟩
  have l4 : V4.length = len 4 (at' sw t) := by rw [HL g.fit 4 b4 c4]
  have l0 : V0.length = len 0 (at' sw t) := by rw [HL g.fit 0 b0 c0]
  have l1 : V1.length = len 1 (at' sw t) := by rw [HL g.fit 1 b1 c1]
  have l2 : V2.length = len 2 (at' sw t) := by rw [HL g.fit 2 b2 c2]
  have l3 : V3.length = len 3 (at' sw t) := by rw [HL g.fit 3 b3 c3]
  have hp : pr (vA (V4,V0,V1,V2,V3)) 5 0 ≤ 300 := by
    have e := oY hx3
    have e2 : pr (vA (V4,V0,V1,V2,V3)) 5 0 = ((((len 0 (at' sw t) + 1) * (len 1 (at' sw t) + 1)) * (len 2 (at' sw t) + 1)) * (len 3 (at' sw t) + 1)) * (len 4 (at' sw t) + 1) := by
      show (V4.length + 1) * ((V0.length + 1) * ((V1.length + 1) * ((V2.length + 1) * ((V3.length + 1) * 1)))) = _
      rw [l4,l0,l1,l2,l3,Nat.mul_one]
      ac_rfl
    rw [e2]
    omega
  have hR : ∀ k, ∃ W,BK (at' sw t,sw,(V4,V0,V1,V2,V3)) k = some W ∧ J3 AL W ∧ W.length ≤ 64 := fun k => XQ hfi hwd sw _ k
  refine ⟨fun k => (hR k).choose,vA (V4,V0,V1,V2,V3),fun k => (hR k).choose_spec.2,fun j => ?_,hp, ?_⟩
  · unfold vA
    split
    · exact hV 4 V4 b4 c4
    · exact hV 0 V0 b0 c0
    · exact hV 1 V1 b1 c1
    · exact hV 2 V2 b2 c2
    · exact hV 3 V3 b3 c3
  · have f0 : Bl 0 = some 4 := Iq (i := 0) (by decide)
    have f1 : Bl 1 = some 0 := Iq (i := 1) (by decide)
    have f2 : Bl 2 = some 1 := Iq (i := 2) (by decide)
    have f3 : Bl 3 = some 2 := Iq (i := 3) (by decide)
    have f4 : Bl 4 = some 3 := Iq (i := 4) (by decide)
    have g0 : ∀ s,C0 s 4 (-1) = some (wA s 0 (-1)) := fun s => L6 s (i := 0) (by decide) (-1)
    have g1 : ∀ s,C0 s 0 (-1) = some (wA s 1 (-1)) := fun s => L6 s (i := 1) (by decide) (-1)
    have g2 : ∀ s,C0 s 1 (-1) = some (wA s 2 (-1)) := fun s => L6 s (i := 2) (by decide) (-1)
    have g3 : ∀ s,C0 s 2 (-1) = some (wA s 3 (-1)) := fun s => L6 s (i := 3) (by decide) (-1)
    have g4 : ∀ s,C0 s 3 (-1) = some (wA s 4 (-1)) := fun s => L6 s (i := 4) (by decide) (-1)
    have hfrom := jA (R := fun k => (hR k).choose) (fun k => ⟨(hR k).choose_spec.1,by have := (hR k).choose_spec.2.2; omega⟩) (-1, -1, -1, -1, -1) (by omega)
    unfold Ht
    rw [w36,w39,fX (by omega),Option.bind_some, @decide_eq_true _ (_) may,if_neg (by decide),wU (by omega),Option.bind_some]
    simp only [w36,w39]
    rw [rO (by omega) g.fit,Option.bind_some,if_neg (by omega)]
    simp only [f0,f1,f2,f3,f4,a4,a0,a1,a2,a3,g0,g1,g2,g3,g4,Option.bind_some]
    rw [show Dx (at' sw t,sw,V4,V0,V1,V2,V3) 0 (wA (wA (wA (wA (wA (-1,0,0,0,0) 0 (-1)) 1 (-1)) 2 (-1)) 3 (-1)) 4 (-1)) = _ from hfrom,Option.bind_some]
theorem bJ {A : List Se} {x : Se} (h : J3 AL (A ++ [x])) : F9 AL A x = A ++ [x] := by
  refine LP H7 (LG H7 (List.pairwise_append.1 h).1) h fun z => ?_
  rw [Na H7,List.mem_append,List.mem_singleton]
  exact Or.comm
section
variable {x6 : List Ca × Int} {i : Nat}
theorem vF (hi : i < x6.1.length) (hA : J3 AL x6.1[i].2.2) (hl : x6.1[i].2.2.length ≤ 64) : Ah (F6 x6 (i : Int)) ([],0) = some x6.1[i].2.2 := by
  have hx := A5 (List.getElem?_eq_getElem hi)
  obtain ⟨o,h1,h2⟩ := Dk x6.1[i].2.2.length (fun (o : List Se) (j : Nat) => (o,(j : Int))) (F6 x6 (i : Int)) id (fun o j => o = x6.1[i].2.2.take j)
    (fun o j hj ho => by
      have e := List.take_succ_eq_append_getElem hj
      have hs : J3 AL (x6.1[i].2.2.take (j + 1)) := hA.sublist (List.take_sublist _ _)
      rw [e] at hs
      refine ⟨x6.1[i].2.2.take (j + 1), ?_,rfl⟩
      rw [F6,hx,Option.bind_some,if_pos (by omega),Option.bind_some,A5 (List.getElem?_eq_getElem hj),Option.bind_some,ho,oJ _ _ (by rw [List.length_take]; omega),Option.bind_some,bJ hs, ← e,Ad (by omega)]
      rfl)
    (fun o _ => by rw [F6,hx,Option.bind_some,if_neg (by omega)]; rfl) [] (by simp)
  rw [List.take_length] at h1
  rw [h1] at h2
  exact h2
theorem tZ (hi : i < x6.1.length) (hl : x6.1.length ≤ 300) (hD : x6.1.Pairwise fun a b => kn a ≠ kn b) : Ah (F4 x6 (i : Int)) 0 = some (.inl ()) := by
  have hx := A5 (List.getElem?_eq_getElem hi)
  have key : ∀ (d k : Nat),k + d = i → Ah (F4 x6 (i : Int)) (k : Int) = some (.inl ()) := by
    intro d
    induction d with
    | zero => intro k hk; exact Ak (by rw [F4,if_neg (by omega)])
    | succ d ih =>
      intro k hk
      have hne := List.pairwise_iff_getElem.1 hD k i (by omega) hi (by omega)
      rw [A4 (s' := ((k + 1 : Nat) : Int)) (by
        rw [F4,if_pos (by omega),hx,Option.bind_some,A5 (List.getElem?_eq_getElem (show k < x6.1.length by omega)),Option.bind_some]
        by_cases e : x6.1[i].1 = (x6.1[k]'(by omega)).1
        · rw [if_pos e,Option.bind_some,Option.bind_some,decide_eq_false (fun h => hne (by simp only [kn,Prod.ext_iff]; exact ⟨e.symm,h.1.symm,h.2.1.symm,h.2.2.1.symm,h.2.2.2.symm⟩)),Option.bind_some,if_neg (by decide),Ad (by omega)]; rfl
        · rw [if_neg e,Option.bind_some,if_neg (by decide),Ad (by omega)]; rfl)]
      exact ih (k + 1) (by omega)
  exact key i 0 (by omega)
theorem xB (hl : x6.1.length ≤ 300) (hD : x6.1.Pairwise fun a b => kn a ≠ kn b) (hA : ∀ c ∈ x6.1,J3 AL c.2.2 ∧ c.2.2.length ≤ 64) : Ah (FZ x6) 0 = some (.inl ()) := by
  have key : ∀ (d k : Nat),k + d = x6.1.length → Ah (FZ x6) (k : Int) = some (.inl ()) := by
    intro d
    induction d with
    | zero => intro k hk; exact Ak (by rw [FZ,if_neg (by omega)])
    | succ d ih =>
      intro k hk
      have hkl : k < x6.1.length := by omega
      obtain ⟨q1,q2⟩ := hA _ (List.getElem_mem hkl)
      rw [A4 (s' := ((k + 1 : Nat) : Int)) (by
        rw [FZ,if_pos (by omega),vF hkl q1 q2,Option.bind_some,A5 (List.getElem?_eq_getElem hkl),Option.bind_some,aN (by omega),Option.bind_some,if_neg (by decide),tZ hkl hl hD,Ad (by omega)]; rfl)]
      exact ih (k + 1) (by omega)
  exact key x6.1.length 0 (by omega)
end
theorem TZ (p0 : Tr27) (ok0 : p0.cnt ≤ 1048576) (p1 : Int) {A : Prop} (_ : A) : Jg p0 p1 = some true := by
  unfold Jg
  rw [w28,w31,iB ok0,Option.bind_some]
  by_cases ok : vP (pm p0)
  case neg => rw [@decide_eq_false _ (_) ok,if_pos (by decide),Option.bind_some,if_pos rfl,Vj]; rfl
  case pos =>
    have hc := jU ok
    obtain ⟨b,hb1,hb2⟩ := pY ok0
    rw [@decide_eq_true _ (_) ok,if_neg (by decide),hb1,Option.bind_some,Option.bind_some]
    cases b with
    | false => rw [if_pos (by decide),Vj]; rfl
    | true =>
      obtain ⟨R,V,r1,r2,r3,r4⟩ := cQ (by omega) ok (hb2 rfl) p1
      obtain ⟨X,hX⟩ := Yw (R := R) (V := V) (sm := P2) 5 0 (-1, -1, -1, -1, -1)
      have hlen := R3 (R := R) (V := V) (sm := P2) 5 0 (-1, -1, -1, -1, -1)
      have hD := VC (R := R) (V := V) (sm := P2) 5 0 (-1, -1, -1, -1, -1) rfl (fun j _ h => by match j,h with | 0,_ => rfl | 1,_ => rfl | 2,_ => rfl | 3,_ => rfl | 4,_ => rfl) r2
      have hA : ∀ c ∈ fr R V P2 5 0 (-1, -1, -1, -1, -1),J3 AL c.2.2 ∧ c.2.2.length ≤ 64 := fun c hc => by
        rw [(Nv 5 0 _ c rfl hc).2]; exact r1 _
      rw [if_neg (by decide),iA ok0,Option.bind_some,w36,w39,r4,Option.bind_some]
      generalize fr R V P2 5 0 (-1, -1, -1, -1, -1) = l at *
      have hl1 : l.length = X.length + 1 := by rw [hX]; simp
      have hix : ix l (w64 ((l.length : Int) - 1)) = some ((-1 : Int),((-1 : Int),(-1 : Int),(-1 : Int),(-1 : Int)),R (-1, -1, -1, -1, -1)) := by
        rw [Ad (by omega),show (l.length : Int) - 1 = ((X.length : Nat) : Int) by omega]
        exact A5 (by rw [hX]; simp)
      dsimp only
      rw [if_neg (by decide),if_neg (by omega),if_neg (by omega),hix,Option.bind_some,if_neg (fun h => h rfl),Option.bind_some,Option.bind_some,if_neg (by simp),xB (x6 := (l,0)) (by show l.length ≤ 300; omega) hD hA,Vj]
      rfl
end Go.Proofs.YtkhiflmalgkjiaaGreat
