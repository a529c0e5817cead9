/- Layer 31: what comes of a packet. Conditions: none. -/
import Derived.Test.YtkhiflmalgkjiaaGreatfN30Q
import Derived.Test.YtkhiflmalgkjiaaGreatfMW
set_option linter.unusedVariables false
set_option linter.unusedSimpArgs false
open Go Go.RowKit
namespace Go.Proofs.YtkhiflmalgkjiaaGreat
abbrev xQ (t : Tr38) : Prop := t.cnt ≤ 1048576
theorem nR {t : Tr38} (hc : xQ t) (s q : Int) (p : PK) : Fv t s q p = some (H3 (s,q,p) t) := mK hc s q p
inductive Fi : Tr41 → Prop
  | mk (t : Tr41) : (1 ≤ t.un.1 ∧ t.un.1 ≤ 5) → (t.un.1 = 5 → t.un.2.2.2.2.length = 2) → t.un.2.2.2.2.length ≤ 8 → xQ t.un.2.1 → (∀ x ∈ t.un.2.2.2.2,Fi x) → Fi t
section
variable {t : Tr41}
theorem Fi.kind (h : Fi t) : 1 ≤ t.un.1 ∧ t.un.1 ≤ 5 := by cases h; assumption
theorem Fi.two (h : Fi t) : t.un.1 = 5 → t.un.2.2.2.2.length = 2 := by cases h; assumption
theorem Fi.len (h : Fi t) : t.un.2.2.2.2.length ≤ 8 := by cases h; assumption
theorem Fi.q (h : Fi t) : xQ t.un.2.1 := by cases h; assumption
theorem Fi.ch (h : Fi t) {x : Tr41} (hx : x ∈ t.un.2.2.2.2) : Fi x := by cases h with | mk _ _ _ _ _ h => exact h x hx
end
theorem Zo : ∀ (n : Nat) (t : Tr41),SizeOf.sizeOf t < n → t.cnt ≤ 1048576 → GR t = true → Fi t
  | 0,t,h,_,_ => absurd h (Nat.not_lt_zero _)
  | n + 1,t,h,hc,hf => by
    obtain ⟨⟨⟨h1,hz⟩,ho⟩,h2⟩ := (Fx t).1 hf
    unfold FR at h1
    have hq := qP t
    exact .mk t ⟨h1.1,h1.2.1⟩ (fun k => h1.2.2.2.2.2.1 k) (by omega) (by show t.un.2.1.cnt ≤ _; omega) fun x hx => Zo n x (by have := XI hx; omega) (Nat.le_trans (cP hx) hc) (h2 x hx)
def HF {α σ : Type} (F : α → σ → Option σ) : List α → σ → Option σ
  | [],c => some c
  | x :: l,c => (F x c).bind fun c' => HF F l c'
theorem OC {α σ : Type} (l : List α) (hl : l.length ≤ 1048576) (F : α → σ → Option σ) (step : σ × Int → Option ((σ × Int) ⊕ σ))
    (hs : ∀ (i : Nat) (x : α) (c : σ),l[i]? = some x → step (c,(i : Int)) = (F x c).bind fun c' => some (.inl (c',w64 ((i : Int) + 1)))) (he : ∀ c,step (c,(l.length : Int)) = some (.inr c)) :
    ∀ (d k : Nat) (c r : σ),k + d = l.length → HF F (l.drop k) c = some r → Aj step (c,(k : Int)) = some r
  | 0,k,c,r,hk,h => by
    have hk : k = l.length := by omega
    subst hk
    rw [List.drop_length] at h
    cases h
    exact Ap (he c)
  | d + 1,k,c,r,hk,h => by
    have hlt : k < l.length := by omega
    rw [List.drop_eq_getElem_cons hlt] at h
    obtain ⟨c',h1,h2⟩ := BO (show (F l[k] c).bind (fun c' => HF F (l.drop (k + 1)) c') = some r from h)
    rw [Bi (s' := (c',((k + 1 : Nat) : Int))) (by rw [hs k l[k] c (zb hlt),h1,za,Ah ⟨by omega,by omega⟩]; rfl)]
    exact OC l hl F step hs he d (k + 1) c' r (by omega) h2
abbrev Rf := Tr41 → Int → Se → Option (List Se)
section
variable (f : Rf) {t : Tr41} (sw : Int) {s : Se} {r : List Se}
theorem vQ (hk : t.un.1 = 1) (hc : xQ t.un.2.1) (s : Se) : AJ f t sw s = some (if H3 (sw,s.1,s.2) t.un.2.1 = true then [s] else []) := by
  unfold AJ
  rw [if_pos hk,w36,nR hc,za]
  by_cases h : H3 (sw,s.1,s.2) t.un.2.1 = true
  · rw [if_pos h,if_pos h]; rfl
  · rw [if_neg h,if_neg h]; rfl
theorem uS (hk : t.un.1 = 2) {s' : Se} (ha : CM s t.un.2.2.1 t.un.2.2.2.1 = some s') : AJ f t sw s = some [s'] := by
  unfold AJ
  rw [if_neg (by omega),if_pos hk,ha,za]; rfl
theorem yF (x : Tr41) : Cg f sw x = f x sw := by
  funext k
  unfold Cg
  rw [w36,w39]
  cases f x sw k <;> rfl
theorem yR (hk : t.un.1 = 3) (hl : t.un.2.2.2.2.length ≤ 1048576) (h : HF (fun x c => H4 AQ (f x sw) c []) t.un.2.2.2.2 [s] = some r) : AJ f t sw s = some r := by
  have e : Cw f t.un.2.2.2.2 sw s = some r := by
    unfold Cw
    rw [show Aj (Bu f t.un.2.2.2.2 sw) (Gw AQ [] s,0) = some r from OC t.un.2.2.2.2 hl (fun x c => H4 AQ (f x sw) c []) _ (fun i x c hx => by
        have hi : i < t.un.2.2.2.2.length := by
          rcases Nat.lt_or_ge i t.un.2.2.2.2.length with h | h
          · exact h
          · rw [List.getElem?_eq_none h] at hx; cases hx
        rw [Bu,if_pos (by omega),A9 hx,za,yF]) (fun c => by rw [Bu,if_neg (by omega)]) t.un.2.2.2.2.length 0 [s] r (by omega) h,za]
  unfold AJ
  rw [if_neg (by omega),if_neg (by omega),if_pos hk,e,za]; rfl
theorem xE (hk : t.un.1 = 4) (hl : t.un.2.2.2.2.length ≤ 1048576) (h : HF (fun x c => (f x sw s).bind fun r => some (Mk AQ c r)) t.un.2.2.2.2 [] = some r) : AJ f t sw s = some r := by
  unfold AJ
  rw [if_neg (by omega),if_neg (by omega),if_neg (by omega),if_pos hk,show Aj (B5 f t sw s) ([],0) = some r from OC t.un.2.2.2.2 hl (fun x c => (f x sw s).bind fun r => some (Mk AQ c r)) _ (fun i x c hx => by
        have hi : i < t.un.2.2.2.2.length := by
          rcases Nat.lt_or_ge i t.un.2.2.2.2.length with h | h
          · exact h
          · rw [List.getElem?_eq_none h] at hx; cases hx
        rw [B5,if_pos (by omega),A9 hx,za,w36,w39]
        cases f x sw s <;> rfl) (fun c => by rw [B5,if_neg (by omega)]) t.un.2.2.2.2.length 0 [] r (by omega) h,za]; rfl
theorem tE (hk : t.un.1 = 5) (hc : xQ t.un.2.1) {x : Tr41} (hlen : t.un.2.2.2.2.length = 2) (hx : t.un.2.2.2.2[if H3 (sw,s.1,s.2) t.un.2.1 = true then 0 else 1]? = some x) (hr : f x sw s = some r) : AJ f t sw s = some r := by
  have e : Fe t sw s = some x := by
    unfold Fe
    rw [w36,nR hc,za]
    by_cases h : H3 (sw,s.1,s.2) t.un.2.1 = true
    · rw [if_pos h] at hx
      rw [if_pos h,za,if_neg (by omega),show ix t.un.2.2.2.2 0 = some x from A9 (k := 0) hx,za,w36,w39]
    · rw [if_neg h] at hx
      rw [if_neg h,za,if_neg (by omega),show ix t.un.2.2.2.2 1 = some x from A9 (k := 1) hx,za,w36,w39]
  unfold AJ
  rw [if_neg (by omega),if_neg (by omega),if_neg (by omega),if_neg (by omega),if_pos hk,w36,w39,e,za,w36,w39,hr,za]; rfl
end
theorem eZ (l : List Se) (x : Se) : (Gw AQ l x).length ≤ l.length + 1 := by
  induction l with
  | nil => simp [Gw]
  | cons y l ih =>
    unfold Gw
    split
    · simp
    · split
      · simp only [List.length_cons]; omega
      · simp
theorem Vs : ∀ (b a : List Se),(Mk AQ a b).length ≤ a.length + b.length
  | [],a => by simp [Mk]
  | x :: b,a => by
    have h1 := Vs b (Gw AQ a x)
    have h2 := eZ a x
    show (Mk AQ (Gw AQ a x) b).length ≤ _
    simp only [List.length_cons]
    omega
theorem W8 {g : Se → Option (List Se)} {m : Nat} : ∀ {l a b : List Se},(∀ x ∈ l, ∀ r,g x = some r → r.length ≤ m) → H4 AQ g l a = some b → b.length ≤ a.length + l.length * m
  | [],a,b,_,h => by cases h; simp
  | x :: l,a,b,hm,h => by
    obtain ⟨r,h1,h2⟩ := BO (show (g x).bind (fun r => H4 AQ g l (Mk AQ a r)) = some b from h)
    have h3 := W8 (fun y hy => hm y (zd _ hy)) h2
    have h4 := hm x (List.mem_cons_self ..) r h1
    have h5 := Vs r a
    rw [List.length_cons,Nat.succ_mul]
    omega
abbrev Bd (S : List Se) (w : Int) : Prop := min (S.length : Int) 1000 ≤ w
theorem tC {a m b : Nat} {n w : Int} (hb : b ≤ a * m) (hn : min (a : Int) 1000 ≤ n) (hw : (m : Int) ≤ w ∧ m < 1000) : min (b : Int) 1000 ≤ min (n * w) 1000 := by
  have h1 : (b : Int) ≤ (a : Int) * (m : Int) := by exact_mod_cast hb
  rcases Nat.lt_or_ge 1000 a with ha | ha
  · rcases Nat.eq_zero_or_pos m with hm | hm
    · subst hm
      have : b = 0 := by omega
      subst this
      have : (0 : Int) ≤ n * w := Int.mul_nonneg (by omega) (by omega)
      omega
    · have h2 : (1000 : Int) * 1 ≤ n * w := Int.mul_le_mul (by omega) (by omega) (by omega) (by omega)
      omega
  · have h2 : (a : Int) * (m : Int) ≤ n * w := Int.mul_le_mul (by omega) hw.1 (by omega) (by omega)
    omega
section
variable {G : Tr41 → Se → Option (List Se)}
theorem eW {s : Se} : ∀ (l : List Tr41) (c : List Se) (n : Int),(∀ x ∈ l, ∃ S,G x s = some S ∧ Ku AQ S ∧ Bd S (wd x)) → Ku AQ c → Bd c n →
    ∃ r,HF (fun x c => (G x s).bind fun r => some (Mk AQ c r)) l c = some r ∧ Ku AQ r ∧ Bd r ((l.map wd).foldl (wf 4) n)
  | [],c,n,_,hc,hb => ⟨c,rfl,hc,hb⟩
  | x :: l,c,n,h,hc,hb => by
    obtain ⟨S,h1,h2,h3⟩ := h x (List.mem_cons_self ..)
    obtain ⟨r,g1,g2,g3⟩ := eW l (Mk AQ c S) (wf 4 n (wd x)) (fun y hy => h y (zd _ hy)) (OH Gz hc) (by
      have := Vs S c
      show min _ _ ≤ wf 4 n (wd x)
      unfold wf
      rw [if_neg (by decide),if_pos rfl]
      unfold Bd at hb h3
      omega)
    exact ⟨r,by show ((G x s).bind fun r => some (Mk AQ c r)).bind _ = _; rw [h1]; exact g1,g2,g3⟩
theorem iO : ∀ (l : List Tr41) (c : List Se) (n : Int),(∀ x ∈ l, ∀ s, ∃ S,G x s = some S ∧ Ku AQ S ∧ Bd S (wd x)) → Ku AQ c → Bd c n →
    ∃ r,HF (fun x c => H4 AQ (G x) c []) l c = some r ∧ Ku AQ r ∧ Bd r ((l.map wd).foldl (wf 3) n)
  | [],c,n,_,hc,hb => ⟨c,rfl,hc,hb⟩
  | x :: l, c, n, h, hc, hb => by
    have hx := h x (List.mem_cons_self ..)
    obtain ⟨b,hb1⟩ := OG (lt := AQ) (f := G x) (l := c) (a := []) Gz fun s _ => (hx s).imp fun S h => h.1
    have hA := (Ic Gz (List.Pairwise.nil) hb1).1
    have hw := sX x
    have hbd : Bd b (wf 3 n (wd x)) := by
      unfold wf
      rw [if_pos rfl]
      unfold Bd at hb
      by_cases h0 : c = []
      · subst h0
        cases hb1
        have : (0 : Int) ≤ n * wd x := Int.mul_nonneg (by simp at hb; omega) hw.1
        simp only [Bd,List.length_nil]; omega
      · have hc1 : 1 ≤ c.length := by
          cases c with
          | nil => exact absurd rfl h0
          | cons y c => simp
        by_cases h1 : wd x < 1000
        · have h2 := W8 (m := (wd x).toNat) (fun s _ r hr => by
            obtain ⟨S,e1,_,e3⟩ := hx s
            rw [hr] at e1; cases e1
            unfold Bd at e3; omega) hb1
          exact tC (by simpa using h2) hb ⟨by omega,by omega⟩
        · have h2 : (1 : Int) * 1000 ≤ n * wd x := Int.mul_le_mul (by omega) (by omega) (by omega) (by omega)
          show min _ _ ≤ min _ _
          omega
    obtain ⟨r,g1,g2,g3⟩ := iO l b (wf 3 n (wd x)) (fun y hy => h y (zd _ hy)) hA hbd
    exact ⟨r,by show (H4 AQ (G x) c []).bind _ = _; rw [hb1]; exact g1,g2,g3⟩
end
theorem eP {x : Int} : ∀ (l : List Int) (n : Int),(x ∈ l ∨ x ≤ n) → x ≤ l.foldl (wf 5) n
  | [],n,h => h.resolve_left (by simp)
  | y :: l,n,h => by
    refine eP l _ ?_
    have : wf 5 n y = max n y := by unfold wf; rw [if_neg (by decide),if_neg (by decide)]
    rw [this]
    rcases h with h | h
    · rcases List.mem_cons.1 h with rfl | h
      · right; omega
      · exact .inl h
    · right; omega
theorem kJ (p : PK) (f v : Int) : ∃ q,Dk p f v = some q := by
  unfold Dk
  by_cases h : CG f = true
  · have hf : f = 0 ∨ f = 1 ∨ f = 2 ∨ f = 3 := by
      unfold CG at h
      simp at h
      omega
    have ht : ∃ b,EN f v = some b := by
      unfold EN EE HB
      by_cases hv : 0 ≤ v
      · rw [if_pos hv]
        rcases hf with rfl | rfl | rfl | rfl <;> exact ⟨_,rfl⟩
      · rw [if_neg hv]; exact ⟨_,rfl⟩
    obtain ⟨b,hb⟩ := ht
    rw [if_pos h,hb]
    cases b with
    | false => exact ⟨_,rfl⟩
    | true => rcases hf with rfl | rfl | rfl | rfl <;> exact ⟨_,rfl⟩
  · rw [if_neg h]; exact ⟨_,rfl⟩
theorem Ql (s : Se) (f v : Int) : ∃ q,CM s f v = some q := by
  obtain ⟨q,hq⟩ := kJ s.2 f v
  unfold CM
  rw [hq]
  by_cases h : f = 4
  · rw [if_pos h]; exact ⟨_,rfl⟩
  · rw [if_neg h]; exact ⟨_,rfl⟩
theorem ZG : ∀ (n : Nat) (t : Tr41),SizeOf.sizeOf t < n → Fi t → ∀ (sw : Int) (s : Se), ∃ S,Ab n t sw s = some S ∧ Ku AQ S ∧ Bd S (wd t)
  | 0,t,h,_,_,_ => absurd h (Nat.not_lt_zero _)
  | n + 1,t,h,hf,sw,s => by
    have hl := hf.len
    have ih : ∀ x ∈ t.un.2.2.2.2, ∀ s, ∃ S,Ab n x sw s = some S ∧ Ku AQ S ∧ Bd S (wd x) := fun x hx s => ZG n x (by have := XI hx; omega) (hf.ch hx) sw s
    have hk := hf.kind
    have hwd := Sz t
    show ∃ S,AJ (Ab n) t sw s = some S ∧ _
    have hk5 : t.un.1 = 1 ∨ t.un.1 = 2 ∨ t.un.1 = 3 ∨ t.un.1 = 4 ∨ t.un.1 = 5 := by omega
    rcases hk5 with k | k | k | k | k
    · rw [if_neg (by omega)] at hwd
      refine ⟨_,vQ _ sw k hf.q s, ?_⟩
      split
      · exact ⟨by simp [Ku],by rw [hwd]; show min ((1 : Nat) : Int) 1000 ≤ 1; decide⟩
      · exact ⟨by simp [Ku],by rw [hwd]; show min ((0 : Nat) : Int) 1000 ≤ 1; decide⟩
    · rw [if_neg (by omega)] at hwd
      obtain ⟨q,hq2⟩ := Ql s t.un.2.2.1 t.un.2.2.2.1
      exact ⟨[q],uS _ sw k hq2,by simp [Ku],by rw [hwd]; show min ((1 : Nat) : Int) 1000 ≤ 1; decide⟩
    · rw [if_pos (by omega),k] at hwd
      obtain ⟨r,g1,g2,g3⟩ := iO (G := fun x s => Ab n x sw s) t.un.2.2.2.2 [s] 1 ih (by simp [Ku]) (by show min ((1 : Nat) : Int) 1000 ≤ 1; decide)
      exact ⟨r,yR _ sw k (by omega) g1,g2,by rw [hwd]; exact g3⟩
    · rw [if_pos (by omega),k] at hwd
      obtain ⟨r,g1,g2,g3⟩ := eW (G := fun x s => Ab n x sw s) (s := s) t.un.2.2.2.2 [] 0 (fun x hx => ih x hx s) (by simp [Ku]) (by show min ((0 : Nat) : Int) 1000 ≤ 0; decide)
      exact ⟨r,xE _ sw k (by omega) g1,g2,by rw [hwd]; exact g3⟩
    · rw [if_pos (by omega),k] at hwd
      have hlen : t.un.2.2.2.2.length = 2 := hf.two k
      have hi : (if H3 (sw,s.1,s.2) t.un.2.1 = true then 0 else 1) < t.un.2.2.2.2.length := by split <;> omega
      obtain ⟨S,g1,g2,g3⟩ := ih _ (List.getElem_mem hi) s
      refine ⟨S,tE _ sw k hf.q hlen (zb hi) g1,g2, ?_⟩
      have := eP (x := wd t.un.2.2.2.2[if H3 (sw,s.1,s.2) t.un.2.1 = true then 0 else 1]) (t.un.2.2.2.2.map wd) (w0 5) (.inl (List.mem_map.2 ⟨_,List.getElem_mem hi,rfl⟩))
      rw [hwd]
      exact Int.le_trans g3 this
theorem cA {n : Nat} {t : Tr41} {sw : Int} {s : Se} {S : List Se} (h : Ab n t sw s = some S) : Fw t sw s = some S := B6 (g := fun n => Ab n t sw s) (fun n r h => Fh n t sw s r h) h
theorem bF {W : List Se} (hl : W.length ≤ 1000000000) : AG W W = some true := by
  have st : ∀ (k : Nat) (h : k < W.length),Ak W W (k : Int) = some (.inl ((k + 1 : Nat) : Int)) := fun k h => by
    have hk : W[k]? = some W[k] := zb h
    rw [Ak,if_pos (by omega),A9 hk,za,za,if_neg (by simp)]
    rw [Ah ⟨by omega,by omega⟩]; rfl
  have go : ∀ (d k : Nat),k + d = W.length → Aj (Ak W W) (k : Int) = some (.inl ()) := fun d => by
    induction d with
    | zero => intro k h; exact Ap (by rw [Ak,if_neg (by omega)])
    | succ d ih => intro k h; rw [Bi (st k (by omega))]; exact ih (k + 1) (by omega)
  unfold AG
  rw [if_neg (fun h => h rfl),show Aj (Ak W W) 0 = some (.inl ()) from go W.length 0 (by omega)]
  rfl
end Go.Proofs.YtkhiflmalgkjiaaGreat
namespace Go.Proofs.YtkhiflmalgkjiaaGreat
theorem Vn {f v : Int} {t : Tr38} : v ∈ Dl f t ↔ (t.un.1 = 3 ∧ t.un.2.1 = f ∧ t.un.2.2.1 = v) ∨ ∃ x ∈ t.un.2.2.2,v ∈ Dl f x := by
  rw [HY,List.mem_append]
  refine or_congr ?_ ?_
  · by_cases c : t.un.1 = 3 ∧ t.un.2.1 = f
    · rw [if_pos c,List.mem_singleton]
      exact ⟨fun h => ⟨c.1,c.2,h.symm⟩,fun h => h.2.2.symm⟩
    · rw [if_neg c]
      exact ⟨fun h => absurd h (List.not_mem_nil),fun h => absurd ⟨h.1,h.2.1⟩ c⟩
  · rw [List.mem_flatten]
    constructor
    · rintro ⟨l,hl,hv⟩
      obtain ⟨x,hx,rfl⟩ := List.mem_map.1 hl
      exact ⟨x,hx,hv⟩
    · rintro ⟨x,hx,hv⟩
      exact ⟨_,List.mem_map.2 ⟨x,hx,rfl⟩,hv⟩
theorem LI {f v k : Int} (hk : k ≠ 3) : v ∉ Dl f (Tr38.mk k 0 0 []) := fun h => by
  rcases Vn.1 h with h | ⟨x,hx,_⟩
  · exact hk h.1
  · exact absurd hx (List.not_mem_nil)
theorem gZ (f v sw : Int) : ∀ (n : Nat) (t : Tr38),SizeOf.sizeOf t < n → v ∈ Dl f (ct sw t) → v ∈ Dl f t
  | 0,t,h,_ => absurd h (Nat.not_lt_zero _)
  | n + 1, t, h, hv => by
    have ch : ∀ x ∈ t.un.2.2.2.map (ct sw),v ∈ Dl f x → v ∈ Dl f t := fun x hx hv => by
      obtain ⟨y,hy,rfl⟩ := List.mem_map.1 hx
      exact Vn.2 (.inr ⟨y,hy,gZ f v sw n y (by have := QK hy; omega) hv⟩)
    have mk : ∀ k f0 v0 L,(k = 3 → t.un.1 = 3 ∧ t.un.2.1 = f0 ∧ t.un.2.2.1 = v0) → (∀ x ∈ L,x ∈ t.un.2.2.2.map (ct sw)) → v ∈ Dl f (Tr38.mk k f0 v0 L) → v ∈ Dl f t := fun k f0 v0 L h1 h2 hv => by
      rcases Vn.1 hv with hv | ⟨x,hx,hv⟩
      · obtain ⟨a,b,c⟩ := h1 hv.1
        exact Vn.2 (.inl ⟨a,b.trans hv.2.1,c.trans hv.2.2⟩)
      · exact ch x (h2 x hx) hv
    have smp' : ∀ k a d : Int,k ≠ 3 → a ≠ 3 → d ≠ 3 → v ∈ Dl f (bY k (t.un.2.2.2.map (ct sw)) a d) → v ∈ Dl f t := fun k a d hk ha hd hv => by
      unfold bY at hv
      split at hv
      · exact absurd hv (LI hd)
      · split at hv
        · exact absurd hv (LI ha)
        · rename_i x hx
          exact ch x (List.mem_filter.1 (by rw [hx]; exact List.mem_cons_self .. : x ∈ (t.un.2.2.2.map (ct sw)).filter _)).1 hv
        · rename_i x y R hx
          exact mk _ _ _ _ (fun h => absurd h hk) (fun z hz => (List.mem_filter.1 (by rw [hx]; exact hz : z ∈ (t.un.2.2.2.map (ct sw)).filter _)).1) hv
    rw [cO] at hv
    unfold tT at hv
    split at hv
    · rename_i k3
      split at hv
      · split at hv
        · exact absurd hv (LI (by decide))
        · exact absurd hv (LI (by decide))
      · exact mk _ _ _ _ (fun _ => ⟨k3,rfl,rfl⟩) (fun _ h => h) hv
    · split at hv
      · rename_i k3 k4
        unfold ctN at hv
        split at hv
        · rename_i c hc
          split at hv
          · exact absurd hv (LI (by decide))
          · split at hv
            · exact absurd hv (LI (by decide))
            · exact mk _ _ _ _ (fun h => absurd h k3) (fun x hx => by rw [hc]; exact hx) hv
        · exact mk _ _ _ _ (fun h => absurd h k3) (fun _ h => h) hv
      · split at hv
        · exact smp' _ _ _ (by omega) (by decide) (by decide) hv
        · split at hv
          · exact smp' _ _ _ (by omega) (by decide) (by decide) hv
          · rename_i k3 _ _ _
            exact mk _ _ _ _ (fun h => absurd h k3) (fun _ h => h) hv
structure Pt (x t : Tr41) : Prop where
  fit : GR x = true
  deep : dq x ≤ dq t
  size : sz x ≤ sz t
  wide : wd x ≤ wd t
  none : ∀ v,v ∉ us 5 x
  sub : ∀ f v,v ∈ us f x → v ∈ us f t
theorem wf_mono {k n m w w' : Int} (h0 : 0 ≤ n) (h : n ≤ m) (hw : 0 ≤ w) (h' : w ≤ w') : 0 ≤ wf k n w ∧ wf k n w ≤ wf k m w' := by
  unfold wf
  split
  · have h1 : 0 ≤ n * w := Int.mul_nonneg h0 hw
    have h2 : n * w ≤ m * w' := Int.mul_le_mul h h' hw (by omega)
    omega
  · split <;> omega
theorem UF (k : Int) (g : Tr41 → Tr41) : ∀ (L : List Tr41) (n m : Int),0 ≤ n → n ≤ m → (∀ x ∈ L,wd (g x) ≤ wd x) → ((L.map g).map wd).foldl (wf k) n ≤ (L.map wd).foldl (wf k) m
  | [],n,m,_,h,_ => h
  | x :: L,n,m,h0,h,hx => by
    have := wf_mono (k := k) h0 h (sX (g x)).1 (hx x (List.mem_cons_self ..))
    exact UF k g L _ _ this.1 this.2 fun y hy => hx y (zd _ hy)
theorem Zz (sw : Int) : ∀ (n : Nat) (t : Tr41),SizeOf.sizeOf t < n → GR t = true → Pt (at' sw t) t
  | 0,t,h,_ => absurd h (Nat.not_lt_zero _)
  | n + 1, t, h, hf => by
    obtain ⟨⟨⟨h1,hz⟩,ho⟩,h2⟩ := (Fx t).1 hf
    have IH : ∀ x ∈ t.un.2.2.2.2,Pt (at' sw x) x := fun x hx => Zz sw n x (by have := XI hx; omega) (h2 x hx)
    have hl1 := h1
    unfold FR at h1
    have gd : t.un.1 = 1 ∨ t.un.1 = 5 → Gd 0 (0,0,0,0) sw (ct sw t.un.2.1) t.un.2.1 := fun c => Rd 0 (0,0,0,0) sw (SizeOf.sizeOf t.un.2.1 + 1) t.un.2.1 (by omega) (ho c).1
    have hpO : t.un.1 = 1 ∨ t.un.1 = 5 → Od (cp sw t.un.1 t.un.2.1) 64 8 := fun c => by
      unfold cp
      rw [if_pos c]
      have g := gd c
      have := (ho c).2
      exact ⟨g.fit,by have := g.deep; omega,by have := g.size; omega⟩
    have hpN : ¬ (t.un.1 = 1 ∨ t.un.1 = 5) → cp sw t.un.1 t.un.2.1 = ZP := fun c => by
      unfold cp
      rw [if_neg c]
      exact hz (by omega)
    have hpC : (if t.un.1 < 2 ∨ 4 < t.un.1 then (cp sw t.un.1 t.un.2.1).cnt else 0) ≤ (if t.un.1 < 2 ∨ 4 < t.un.1 then t.un.2.1.cnt else 0) := by
      by_cases c : t.un.1 = 1 ∨ t.un.1 = 5
      · rw [if_pos (by omega),if_pos (by omega)]
        unfold cp
        rw [if_pos c]
        exact (gd c).size
      · rw [if_neg (by omega),if_neg (by omega)]; exact Nat.le_refl _
    have hp5 : ∀ v,v ∉ Dl 5 (cp sw t.un.1 t.un.2.1) := fun v hv => by
      by_cases c : t.un.1 = 1 ∨ t.un.1 = 5
      · unfold cp at hv
        rw [if_pos c,(gd c).none] at hv
        exact absurd hv (List.not_mem_nil)
      · rw [hpN c] at hv
        exact absurd hv (LI (by decide))
    have hpS : ∀ f v,v ∈ Dl f (cp sw t.un.1 t.un.2.1) → v ∈ Dl f t.un.2.1 := fun f v hv => by
      unfold cp at hv
      split at hv
      · exact gZ f v sw (SizeOf.sizeOf t.un.2.1 + 1) t.un.2.1 (by omega) hv
      · exact hv
    have M : Pt (.mk t.un.1 (cp sw t.un.1 t.un.2.1) t.un.2.2.1 t.un.2.2.2.1 (t.un.2.2.2.2.map (at' sw))) t := by
      refine ⟨(Fx _).2 ⟨⟨⟨?_,fun c => hpN (by show ¬ (t.un.1 = 1 ∨ t.un.1 = 5); have c : t.un.1 = 2 ∨ t.un.1 = 3 ∨ t.un.1 = 4 := c; omega)⟩,hpO⟩,fun x hx => ?_⟩, ?_, ?_, ?_,fun v hv => ?_,fun f v hv => ?_⟩
      · show FR t.un.1 t.un.2.2.1 t.un.2.2.2.1 (t.un.2.2.2.2.map (at' sw)).length
        rw [zh]; exact hl1
      · obtain ⟨y,hy,rfl⟩ := List.mem_map.1 (show x ∈ t.un.2.2.2.2.map (at' sw) from hx)
        exact (IH y hy).fit
      · rw [Uy,Uy t]
        refine Nat.add_le_add_left (Tf fun a ha => ?_) 1
        obtain ⟨x,hx,rfl⟩ := List.mem_map.1 ha
        obtain ⟨y,hy,rfl⟩ := List.mem_map.1 (show x ∈ t.un.2.2.2.2.map (at' sw) from hx)
        exact Nat.le_trans (IH y hy).deep (UN (List.mem_map.2 ⟨y,hy,rfl⟩))
      · rw [SX,SX t]
        have hs := sum_mono' (g := fun x => sz (at' sw x)) (h := sz) t.un.2.2.2.2 fun x hx => (IH x hx).size
        have e : ((t.un.2.2.2.2.map (at' sw)).map sz).sum = (t.un.2.2.2.2.map fun x => sz (at' sw x)).sum := by rw [List.map_map]; rfl
        show 1 + (if t.un.1 < 2 ∨ 4 < t.un.1 then (cp sw t.un.1 t.un.2.1).cnt else 0) + ((t.un.2.2.2.2.map (at' sw)).map sz).sum ≤ _
        rw [e]
        omega
      · rw [Sz,Sz t]
        show (if 3 ≤ t.un.1 ∧ t.un.1 ≤ 5 then ((t.un.2.2.2.2.map (at' sw)).map wd).foldl (wf t.un.1) (w0 t.un.1) else 1) ≤ _
        by_cases c : 3 ≤ t.un.1 ∧ t.un.1 ≤ 5
        · rw [if_pos c,if_pos c]
          exact UF t.un.1 (at' sw) t.un.2.2.2.2 _ _ (by unfold w0; split <;> decide) (Int.le_refl _) fun x hx => (IH x hx).wide
        · rw [if_neg c,if_neg c]; exact Int.le_refl _
      · rcases I4.1 hv with hv | hv | ⟨x,hx,hv⟩
        · exact hp5 v hv
        · have hv : t.un.1 = 2 ∧ t.un.2.2.1 = 5 ∧ t.un.2.2.2.1 = v := hv
          have := (h1.2.2.2.1 hv.1)
          omega
        · obtain ⟨y,hy,rfl⟩ := List.mem_map.1 (show x ∈ t.un.2.2.2.2.map (at' sw) from hx)
          exact (IH y hy).none v hv
      · rcases I4.1 hv with hv | hv | ⟨x,hx,hv⟩
        · exact I4.2 (.inl (hpS f v hv))
        · exact I4.2 (.inr (.inl hv))
        · obtain ⟨y,hy,rfl⟩ := List.mem_map.1 (show x ∈ t.un.2.2.2.2.map (at' sw) from hx)
          exact I4.2 (.inr (.inr ⟨y,hy,(IH y hy).sub f v hv⟩))
    have one : ∀ x ∈ t.un.2.2.2.2,t.un.1 = 5 → Pt (at' sw x) t := fun x hx k => by
      have p := IH x hx
      refine ⟨p.fit, ?_, ?_, ?_,p.none,fun f v hv => I4.2 (.inr (.inr ⟨x,hx,p.sub f v hv⟩))⟩
      · rw [Uy t]
        have := UN (List.mem_map.2 ⟨x,hx,rfl⟩ : dq x ∈ t.un.2.2.2.2.map dq)
        have := p.deep
        omega
      · rw [SX t]
        have := LH (g := sz) hx
        have := p.size
        omega
      · rw [Sz t,if_pos (by omega),k]
        exact Int.le_trans p.wide (eP _ _ (.inl (List.mem_map.2 ⟨x,hx,rfl⟩)))
    rw [YT]
    unfold jA
    split
    · rename_i a b hab
      obtain ⟨x,y,hxy⟩ : ∃ x y,t.un.2.2.2.2 = [x,y] := Yn (by have := congrArg List.length hab; rw [zh] at this; exact this)
      rw [hxy] at hab
      obtain ⟨e1,e2⟩ := List.cons.inj (show at' sw x :: [at' sw y] = [a,b] from hab)
      obtain ⟨e2,_⟩ := List.cons.inj e2
      subst e1 e2
      split
      · rename_i c; exact one x (by rw [hxy]; exact List.mem_cons_self ..) c.1
      · split
        · rename_i c; exact one y (by rw [hxy]; exact zd _ (List.mem_cons_self ..)) c.1
        · rw [hxy] at M; exact M
    · exact M
theorem Qv {p q : Int → Bool} (h : ∀ x,p x = true → q x = true) : ∀ l : List Int,(l.filter p).length ≤ (l.filter q).length
  | [] => Nat.le_refl _
  | x :: l => by
    have ih := Qv h l
    by_cases c : p x = true
    · rw [List.filter_cons_of_pos c,List.filter_cons_of_pos (h x c),List.length_cons,List.length_cons]; omega
    · rw [List.filter_cons_of_neg c]
      by_cases c' : q x = true
      · rw [List.filter_cons_of_pos c',List.length_cons]; omega
      · rw [List.filter_cons_of_neg c']; exact ih
theorem Zy {x t : Tr41} (h : ∀ f v,v ∈ us f x → v ∈ us f t) : ∀ i,cl x i ≤ cl t i
  | 0 => Int.le_refl _
  | i + 1 => by
    have ih := Zy h i
    have b1 := UU x i
    have hl : len (i : Int) x ≤ len (i : Int) t := Qv (fun v hv => by
      simp only [decide_eq_true_eq] at hv ⊢
      exact h _ _ hv) _
    have hm : cl x i * ((len i x : Nat) + 1 : Int) ≤ cl t i * ((len i t : Nat) + 1 : Int) := Int.mul_le_mul ih (by omega) (by omega) (by have := UU t i; omega)
    show min (cl x i * ((len i x : Nat) + 1 : Int)) 100000 ≤ min (cl t i * ((len i t : Nat) + 1 : Int)) 100000
    omega
end Go.Proofs.YtkhiflmalgkjiaaGreat
namespace Go.Proofs.YtkhiflmalgkjiaaGreat
theorem bS {t : Tr27} (hc : t.cnt ≤ 1048576) (f : Int) : Mb t f = some (LV f (pm t) ((Ci f).toNat + 1)) := by
  have htb := SY f
  unfold Mb
  obtain ⟨o,h1,h2⟩ := DU ((Ci f).toNat + 1) (fun (o : List Int) (i : Nat) => (o,(i : Int))) (G5 t f) id (fun o i => o = LV f (pm t) i)
    (fun o i hi ho => by
      have hvl := WS f (pm t) i
      refine ⟨LV f (pm t) (i + 1), ?_,rfl⟩
      rw [G5,if_pos (by omega),w28,w31,sR hc,za,Ah (by omega),aL,ho]
      by_cases c : (i : Int) ∈ us f (pm t)
      · rw [decide_eq_true c,if_pos rfl,if_pos c,I5 (by simp; omega)]; rfl
      · rw [decide_eq_false c,if_neg (by decide),if_neg c,List.append_nil]; rfl)
    (fun o _ => by rw [G5,if_neg (by omega)]; rfl) [] rfl
  have h2' : Aj (G5 t f) ([],0) = some o := h2
  rw [h2',h1]; rfl
abbrev Ca := Int × (Int × Int × Int × Int) × List Se
abbrev kn (c : Ca) : Se := (c.1,c.2.1)
def fA : Nat → Int | 0 => 4 | 1 => 0 | 2 => 1 | 3 => 2 | _ => 3
theorem Ik {i : Nat} (h : i < 5) : Bm (i : Int) = some (fA i) := by
  unfold Bm
  rw [show ix ([4,0,1,2,3] : List Int) (i : Int) = some (fA i) from A9 (by
    match i,h with
    | 0,_ => rfl | 1,_ => rfl | 2,_ => rfl | 3,_ => rfl | 4,_ => rfl)]
  rfl
def wA (s : Se) : Nat → Int → Se
  | 0,v => (v,s.2.1,s.2.2.1,s.2.2.2.1,s.2.2.2.2)
  | 1,v => (s.1,v,s.2.2.1,s.2.2.2.1,s.2.2.2.2)
  | 2,v => (s.1,s.2.1,v,s.2.2.2.1,s.2.2.2.2)
  | 3,v => (s.1,s.2.1,s.2.2.1,v,s.2.2.2.2)
  | _,v => (s.1,s.2.1,s.2.2.1,s.2.2.2.1,v)
def gA (s : Se) : Nat → Int
  | 0 => s.1 | 1 => s.2.1 | 2 => s.2.2.1 | 3 => s.2.2.2.1 | _ => s.2.2.2.2
theorem Kf (s : Se) {i : Nat} (h : i < 5) (v : Int) : CT s (fA i) v = some (wA s i v) := by
  match i,h with
  | 0,_ => rfl
  | 1,_ => rfl
  | 2,_ => rfl
  | 3,_ => rfl
  | 4,_ => rfl
theorem RA (s : Se) {i j : Nat} (hi : i < 5) (hj : j < 5) (v : Int) : gA (wA s i v) j = if j = i then v else gA s j := by
  match i,hi with
  | 0,_ => match j,hj with | 0,_ => rfl | 1,_ => rfl | 2,_ => rfl | 3,_ => rfl | 4,_ => rfl
  | 1,_ => match j,hj with | 0,_ => rfl | 1,_ => rfl | 2,_ => rfl | 3,_ => rfl | 4,_ => rfl
  | 2,_ => match j,hj with | 0,_ => rfl | 1,_ => rfl | 2,_ => rfl | 3,_ => rfl | 4,_ => rfl
  | 3,_ => match j,hj with | 0,_ => rfl | 1,_ => rfl | 2,_ => rfl | 3,_ => rfl | 4,_ => rfl
  | 4,_ => match j,hj with | 0,_ => rfl | 1,_ => rfl | 2,_ => rfl | 3,_ => rfl | 4,_ => rfl
section
variable (R : Se → List Se) (V : Nat → List Int) (sm : Nat → List Ca → List Ca → Bool)
def fr : Nat → Nat → Se → List Ca
  | 0,_,k => [(k.1,k.2,R k)]
  | d + 1,i,k => ((V i).flatMap fun v => if sm i (fr d (i + 1) (wA k i v)) (fr d (i + 1) k) = true then [] else fr d (i + 1) (wA k i v)) ++ fr d (i + 1) k
def pr : Nat → Nat → Nat
  | 0,_ => 1
  | d + 1,i => ((V i).length + 1) * pr d (i + 1)
variable {R V sm}
theorem rX {d i : Nat} {k : Se} {c : Ca} (h : c ∈ fr R V sm (d + 1) i k) : (∃ v ∈ V i,c ∈ fr R V sm d (i + 1) (wA k i v)) ∨ c ∈ fr R V sm d (i + 1) k := by
  unfold fr at h
  rcases List.mem_append.1 h with h | h
  · obtain ⟨v,hv,hc⟩ := List.mem_flatMap.1 h
    split at hc
    · cases hc
    · exact .inl ⟨v,hv,hc⟩
  · exact .inr h
theorem LJ : ∀ (d i : Nat) (k : Se) (c : Ca),i + d = 5 → c ∈ fr R V sm d i k → (∀ j,j < i → gA (kn c) j = gA k j) ∧ c.2.2 = R (kn c)
  | 0,i,k,c,hi,h => by
    have : c = (k.1,k.2,R k) := List.mem_singleton.1 h
    subst this
    exact ⟨fun _ _ => rfl,rfl⟩
  | d + 1,i,k,c,hi,h => by
    rcases rX h with ⟨v,hv,hc⟩ | hc
    · obtain ⟨h1,h2⟩ := LJ d (i + 1) _ c (by omega) hc
      exact ⟨fun j hj => by rw [h1 j (by omega),RA k (by omega) (by omega),if_neg (by omega)],h2⟩
    · obtain ⟨h1,h2⟩ := LJ d (i + 1) _ c (by omega) hc
      exact ⟨fun j hj => h1 j (by omega),h2⟩
theorem sum_le' {l : List Int} {g : Int → Nat} {b : Nat} (h : ∀ v ∈ l,g v ≤ b) : (l.map g).sum ≤ l.length * b := by
  induction l with
  | nil => simp
  | cons x l ih =>
    have h1 := h x (List.mem_cons_self ..)
    have h2 := ih fun v hv => h v (zd _ hv)
    simp only [zj,List.sum_cons,List.length_cons,Nat.add_mul,Nat.one_mul]
    omega
theorem PY : ∀ (d i : Nat) (k : Se),(fr R V sm d i k).length ≤ pr V d i
  | 0,i,k => Nat.le_refl _
  | d + 1,i,k => by
    unfold fr pr
    rw [List.length_append,List.length_flatMap,Nat.add_mul,Nat.one_mul]
    have h1 := PY d (i + 1) k
    have h2 : ((V i).map fun v => (if sm i (fr R V sm d (i + 1) (wA k i v)) (fr R V sm d (i + 1) k) = true then [] else fr R V sm d (i + 1) (wA k i v)).length).sum ≤ (V i).length * pr V d (i + 1) := sum_le' fun v hv => by
      split
      · exact Nat.zero_le _
      · exact PY d (i + 1) _
    omega
end
end Go.Proofs.YtkhiflmalgkjiaaGreat
