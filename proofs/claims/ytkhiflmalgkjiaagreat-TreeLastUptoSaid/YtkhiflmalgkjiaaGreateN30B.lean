/- Layer 31: what comes of a packet. Conditions: none. -/
import Derived.Test.YtkhiflmalgkjiaaGreateN30Q
import Derived.Test.YtkhiflmalgkjiaaGreateMW
set_option linter.unusedVariables false
set_option linter.unusedSimpArgs false
open Go Go.RowKit
namespace Go.Proofs.YtkhiflmalgkjiaaGreat
abbrev sR (t : Tr38) : Prop := t.cnt ≤ 1048576
theorem nB {t : Tr38} (hc : sR t) (s q : Int) (p : PK) : Fm t s q p = some (Kl (s,q,p) t) := lC hc s q p
inductive Fi : Tr41 → Prop
  | mk (t : Tr41) : (1 ≤ t.un.1 ∧ t.un.1 ≤ 5) → (t.un.1 = 5 → t.un.2.2.2.2.length = 2) → t.un.2.2.2.2.length ≤ 8 → sR t.un.2.1 → (∀ x ∈ t.un.2.2.2.2,Fi x) → Fi t
section
variable {t : Tr41}
theorem Fi.kind (h : Fi t) : 1 ≤ t.un.1 ∧ t.un.1 ≤ 5 := by cases h; assumption
theorem Fi.two (h : Fi t) : t.un.1 = 5 → t.un.2.2.2.2.length = 2 := by cases h; assumption
theorem Fi.len (h : Fi t) : t.un.2.2.2.2.length ≤ 8 := by cases h; assumption
theorem Fi.q (h : Fi t) : sR t.un.2.1 := by cases h; assumption
theorem Fi.ch (h : Fi t) {x : Tr41} (hx : x ∈ t.un.2.2.2.2) : Fi x := by cases h with | mk _ _ _ _ _ h => exact h x hx
end
theorem mB : ∀ (n : Nat) (t : Tr41),SizeOf.sizeOf t < n → t.cnt ≤ 1048576 → HW t = true → Fi t
  | 0,t,h,_,_ => absurd h (Nat.not_lt_zero _)
  | n + 1,t,h,hc,hf => by
    obtain ⟨⟨⟨h1,hz⟩,ho⟩,h2⟩ := (Gu t).1 hf
    unfold Gg at h1
    have hq := qP t
    exact .mk t ⟨h1.1,h1.2.1⟩ (fun k => h1.2.2.2.2.2.1 k) (by omega) (by show t.un.2.1.cnt ≤ _; omega) fun x hx => mB n x (by have := aK hx; omega) (Nat.le_trans (cP hx) hc) (h2 x hx)
def NQ {α σ : Type} (F : α → σ → Option σ) : List α → σ → Option σ
  | [],c => some c
  | x :: l,c => (F x c).bind fun c' => NQ F l c'
theorem Pw {α σ : Type} (l : List α) (hl : l.length ≤ 1048576) (F : α → σ → Option σ) (step : σ × Int → Option ((σ × Int) ⊕ σ))
    (hs : ∀ (i : Nat) (x : α) (c : σ),l[i]? = some x → step (c,(i : Int)) = (F x c).bind fun c' => some (.inl (c',w64 ((i : Int) + 1)))) (he : ∀ c,step (c,(l.length : Int)) = some (.inr c)) :
    ∀ (d k : Nat) (c r : σ),k + d = l.length → NQ F (l.drop k) c = some r → Ah step (c,(k : Int)) = some r
  | 0,k,c,r,hk,h => by
    have hk : k = l.length := by omega
    subst hk
    rw [List.drop_length] at h
    cases h
    exact Ak (he c)
  | d + 1,k,c,r,hk,h => by
    have hlt : k < l.length := by omega
    rw [List.drop_eq_getElem_cons hlt] at h
    obtain ⟨c',h1,h2⟩ := Bz (show (F l[k] c).bind (fun c' => NQ F (l.drop (k + 1)) c') = some r from h)
    rw [A4 (s' := (c',((k + 1 : Nat) : Int))) (by rw [hs k l[k] c (List.getElem?_eq_getElem hlt),h1,Option.bind_some,Ad ⟨by omega,by omega⟩]; rfl)]
    exact Pw l hl F step hs he d (k + 1) c' r (by omega) h2
abbrev Rf := Tr41 → Int → Se → Option (List Se)
section
variable (f : Rf) {t : Tr41} (sw : Int) {s : Se} {r : List Se}
theorem st1 (hk : t.un.1 = 1) (hc : sR t.un.2.1) (s : Se) : AX f t sw s = some (if Kl (sw,s.1,s.2) t.un.2.1 = true then [s] else []) := by
  unfold AX
  rw [if_pos hk,w36,nB hc,Option.bind_some]
  by_cases h : Kl (sw,s.1,s.2) t.un.2.1 = true
  · rw [if_pos h,if_pos h]; rfl
  · rw [if_neg h,if_neg h]; rfl
theorem st2 (hk : t.un.1 = 2) {s' : Se} (ha : DE s t.un.2.2.1 t.un.2.2.2.1 = some s') : AX f t sw s = some [s'] := by
  unfold AX
  rw [if_neg (by omega),if_pos hk,ha,Option.bind_some]; rfl
theorem tK (x : Tr41) : Cf f sw x = f x sw := by
  funext k
  unfold Cf
  rw [w36,w39]
  cases f x sw k <;> rfl
theorem st3 (hk : t.un.1 = 3) (hl : t.un.2.2.2.2.length ≤ 1048576) (h : NQ (fun x c => JU AL (f x sw) c []) t.un.2.2.2.2 [s] = some r) : AX f t sw s = some r := by
  have e : Cr f t.un.2.2.2.2 sw s = some r := by
    unfold Cr
    rw [show Ah (Br f t.un.2.2.2.2 sw) (F9 AL [] s,0) = some r from Pw t.un.2.2.2.2 hl (fun x c => JU AL (f x sw) c []) _ (fun i x c hx => by
        have hi : i < t.un.2.2.2.2.length := by
          rcases Nat.lt_or_ge i t.un.2.2.2.2.length with h | h
          · exact h
          · rw [List.getElem?_eq_none h] at hx; cases hx
        rw [Br,if_pos (by omega),A5 hx,Option.bind_some,tK]) (fun c => by rw [Br,if_neg (by omega)]) t.un.2.2.2.2.length 0 [s] r (by omega) h,Option.bind_some]
  unfold AX
  rw [if_neg (by omega),if_neg (by omega),if_pos hk,e,Option.bind_some]; rfl
theorem st4 (hk : t.un.1 = 4) (hl : t.un.2.2.2.2.length ≤ 1048576) (h : NQ (fun x c => (f x sw s).bind fun r => some (On AL c r)) t.un.2.2.2.2 [] = some r) : AX f t sw s = some r := by
  unfold AX
  rw [if_neg (by omega),if_neg (by omega),if_neg (by omega),if_pos hk,show Ah (B5 f t sw s) ([],0) = some r from Pw t.un.2.2.2.2 hl (fun x c => (f x sw s).bind fun r => some (On AL c r)) _ (fun i x c hx => by
        have hi : i < t.un.2.2.2.2.length := by
          rcases Nat.lt_or_ge i t.un.2.2.2.2.length with h | h
          · exact h
          · rw [List.getElem?_eq_none h] at hx; cases hx
        rw [B5,if_pos (by omega),A5 hx,Option.bind_some,w36,w39]
        cases f x sw s <;> rfl) (fun c => by rw [B5,if_neg (by omega)]) t.un.2.2.2.2.length 0 [] r (by omega) h,Option.bind_some]; rfl
theorem st5 (hk : t.un.1 = 5) (hc : sR t.un.2.1) {x : Tr41} (hlen : t.un.2.2.2.2.length = 2) (hx : t.un.2.2.2.2[if Kl (sw,s.1,s.2) t.un.2.1 = true then 0 else 1]? = some x) (hr : f x sw s = some r) : AX f t sw s = some r := by
  have e : Fa t sw s = some x := by
    unfold Fa
    rw [w36,nB hc,Option.bind_some]
    by_cases h : Kl (sw,s.1,s.2) t.un.2.1 = true
    · rw [if_pos h] at hx
      rw [if_pos h,Option.bind_some,if_neg (by omega),show ix t.un.2.2.2.2 0 = some x from A5 (k := 0) hx,Option.bind_some,w36,w39]
    · rw [if_neg h] at hx
      rw [if_neg h,Option.bind_some,if_neg (by omega),show ix t.un.2.2.2.2 1 = some x from A5 (k := 1) hx,Option.bind_some,w36,w39]
  unfold AX
  rw [if_neg (by omega),if_neg (by omega),if_neg (by omega),if_neg (by omega),if_pos hk,w36,w39,e,Option.bind_some,w36,w39,hr,Option.bind_some]; rfl
end
theorem dW (l : List Se) (x : Se) : (F9 AL l x).length ≤ l.length + 1 := by
  induction l with
  | nil => simp [F9]
  | cons y l ih =>
    unfold F9
    split
    · simp
    · split
      · simp only [List.length_cons]; omega
      · simp
theorem UJ : ∀ (b a : List Se),(On AL a b).length ≤ a.length + b.length
  | [],a => by simp [On]
  | x :: b,a => by
    have h1 := UJ b (F9 AL a x)
    have h2 := dW a x
    show (On AL (F9 AL a x) b).length ≤ _
    simp only [List.length_cons]
    omega
theorem W7 {g : Se → Option (List Se)} {m : Nat} : ∀ {l a b : List Se},(∀ x ∈ l, ∀ r,g x = some r → r.length ≤ m) → JU AL g l a = some b → b.length ≤ a.length + l.length * m
  | [],a,b,_,h => by cases h; simp
  | x :: l,a,b,hm,h => by
    obtain ⟨r,h1,h2⟩ := Bz (show (g x).bind (fun r => JU AL g l (On AL a r)) = some b from h)
    have h3 := W7 (fun y hy => hm y (List.mem_cons_of_mem _ hy)) h2
    have h4 := hm x (List.mem_cons_self ..) r h1
    have h5 := UJ r a
    rw [List.length_cons,Nat.succ_mul]
    omega
abbrev Bd (S : List Se) (w : Int) : Prop := min (S.length : Int) 1000 ≤ w
theorem r5 {a m b : Nat} {n w : Int} (hb : b ≤ a * m) (hn : min (a : Int) 1000 ≤ n) (hw : (m : Int) ≤ w ∧ m < 1000) : min (b : Int) 1000 ≤ min (n * w) 1000 := by
  have h1 : (b : Int) ≤ (a : Int) * (m : Int) := by exact_mod_cast hb
  rcases Nat.lt_or_ge 1000 a with ha | ha
  · rcases Nat.eq_zero_or_pos m with hm | hm
    · subst hm
      have : b = 0 := by omega
      subst this
      have : (0 : Int) ≤ n * w := Int.mul_nonneg (by omega) (by omega)
      omega
    · have h2 : (1000 : Int) * 1 ≤ n * w := Int.mul_le_mul (by omega) (by omega) (by omega) (by omega)
      omega
  · have h2 : (a : Int) * (m : Int) ≤ n * w := Int.mul_le_mul (by omega) hw.1 (by omega) (by omega)
    omega
section
variable {G : Tr41 → Se → Option (List Se)}
theorem mL {s : Se} : ∀ (l : List Tr41) (c : List Se) (n : Int),(∀ x ∈ l, ∃ S,G x s = some S ∧ J3 AL S ∧ Bd S (wd x)) → J3 AL c → Bd c n →
    ∃ r,NQ (fun x c => (G x s).bind fun r => some (On AL c r)) l c = some r ∧ J3 AL r ∧ Bd r ((l.map wd).foldl (wf 4) n)
  | [],c,n,_,hc,hb => ⟨c,rfl,hc,hb⟩
  | x :: l,c,n,h,hc,hb => by
    obtain ⟨S,h1,h2,h3⟩ := h x (List.mem_cons_self ..)
    obtain ⟨r,g1,g2,g3⟩ := mL l (On AL c S) (wf 4 n (wd x)) (fun y hy => h y (List.mem_cons_of_mem _ hy)) (PR H7 hc) (by
      have := UJ S c
      show min _ _ ≤ wf 4 n (wd x)
      unfold wf
      rw [if_neg (by decide),if_pos rfl]
      unfold Bd at hb h3
      omega)
    exact ⟨r,by show ((G x s).bind fun r => some (On AL c r)).bind _ = _; rw [h1]; exact g1,g2,g3⟩
theorem m7 : ∀ (l : List Tr41) (c : List Se) (n : Int),(∀ x ∈ l, ∀ s, ∃ S,G x s = some S ∧ J3 AL S ∧ Bd S (wd x)) → J3 AL c → Bd c n →
    ∃ r,NQ (fun x c => JU AL (G x) c []) l c = some r ∧ J3 AL r ∧ Bd r ((l.map wd).foldl (wf 3) n)
  | [],c,n,_,hc,hb => ⟨c,rfl,hc,hb⟩
  | x :: l, c, n, h, hc, hb => by
    have hx := h x (List.mem_cons_self ..)
    obtain ⟨b,hb1⟩ := UX (lt := AL) (f := G x) (l := c) (a := []) H7 fun s _ => (hx s).imp fun S h => h.1
    have hA := (KV H7 (List.Pairwise.nil) hb1).1
    have hw := pI x
    have hbd : Bd b (wf 3 n (wd x)) := by
      unfold wf
      rw [if_pos rfl]
      unfold Bd at hb
      by_cases h0 : c = []
      · subst h0
        cases hb1
        have : (0 : Int) ≤ n * wd x := Int.mul_nonneg (by simp at hb; omega) hw.1
        simp only [Bd,List.length_nil]; omega
      · have hc1 : 1 ≤ c.length := by
          cases c with
          | nil => exact absurd rfl h0
          | cons y c => simp
        by_cases h1 : wd x < 1000
        · have h2 := W7 (m := (wd x).toNat) (fun s _ r hr => by
            obtain ⟨S,e1,_,e3⟩ := hx s
            rw [hr] at e1; cases e1
            unfold Bd at e3; omega) hb1
          exact r5 (by simpa using h2) hb ⟨by omega,by omega⟩
        · have h2 : (1 : Int) * 1000 ≤ n * wd x := Int.mul_le_mul (by omega) (by omega) (by omega) (by omega)
          show min _ _ ≤ min _ _
          omega
    obtain ⟨r,g1,g2,g3⟩ := m7 l b (wf 3 n (wd x)) (fun y hy => h y (List.mem_cons_of_mem _ hy)) hA hbd
    exact ⟨r,by show (JU AL (G x) c []).bind _ = _; rw [hb1]; exact g1,g2,g3⟩
end
theorem cX {x : Int} : ∀ (l : List Int) (n : Int),(x ∈ l ∨ x ≤ n) → x ≤ l.foldl (wf 5) n
  | [],n,h => h.resolve_left (by simp)
  | y :: l,n,h => by
    refine cX l _ ?_
    have : wf 5 n y = max n y := by unfold wf; rw [if_neg (by decide),if_neg (by decide)]
    rw [this]
    rcases h with h | h
    · rcases List.mem_cons.1 h with rfl | h
      · right; omega
      · exact .inl h
    · right; omega
theorem kJ (p : PK) (f v : Int) : ∃ q,FK p f v = some q := by
  unfold FK
  by_cases h : C5 f = true
  · have hf : f = 0 ∨ f = 1 ∨ f = 2 ∨ f = 3 := by
      unfold C5 at h
      simp at h
      omega
    have ht : ∃ b,Gs f v = some b := by
      unfold Gs Hq HQ
      by_cases hv : 0 ≤ v
      · rw [if_pos hv]
        rcases hf with rfl | rfl | rfl | rfl <;> exact ⟨_,rfl⟩
      · rw [if_neg hv]; exact ⟨_,rfl⟩
    obtain ⟨b,hb⟩ := ht
    rw [if_pos h,hb]
    cases b with
    | false => exact ⟨_,rfl⟩
    | true => rcases hf with rfl | rfl | rfl | rfl <;> exact ⟨_,rfl⟩
  · rw [if_neg h]; exact ⟨_,rfl⟩
theorem Wm (s : Se) (f v : Int) : ∃ q,DE s f v = some q := by
  obtain ⟨q,hq⟩ := kJ s.2 f v
  unfold DE
  rw [hq]
  by_cases h : f = 4
  · rw [if_pos h]; exact ⟨_,rfl⟩
  · rw [if_neg h]; exact ⟨_,rfl⟩
theorem mO : ∀ (n : Nat) (t : Tr41),SizeOf.sizeOf t < n → Fi t → ∀ (sw : Int) (s : Se), ∃ S,BE n t sw s = some S ∧ J3 AL S ∧ Bd S (wd t)
  | 0,t,h,_,_,_ => absurd h (Nat.not_lt_zero _)
  | n + 1,t,h,hf,sw,s => by
    have hl := hf.len
    have ih : ∀ x ∈ t.un.2.2.2.2, ∀ s, ∃ S,BE n x sw s = some S ∧ J3 AL S ∧ Bd S (wd x) := fun x hx s => mO n x (by have := aK hx; omega) (hf.ch hx) sw s
    have hk := hf.kind
    have hwd := Sk t
    show ∃ S,AX (BE n) t sw s = some S ∧ _
    have hk5 : t.un.1 = 1 ∨ t.un.1 = 2 ∨ t.un.1 = 3 ∨ t.un.1 = 4 ∨ t.un.1 = 5 := by omega
    rcases hk5 with k | k | k | k | k
    · rw [if_neg (by omega)] at hwd
      refine ⟨_,st1 _ sw k hf.q s, ?_⟩
      split
      · exact ⟨by simp [J3],by rw [hwd]; show min ((1 : Nat) : Int) 1000 ≤ 1; decide⟩
      · exact ⟨by simp [J3],by rw [hwd]; show min ((0 : Nat) : Int) 1000 ≤ 1; decide⟩
    · rw [if_neg (by omega)] at hwd
      obtain ⟨q,hq2⟩ := Wm s t.un.2.2.1 t.un.2.2.2.1
      exact ⟨[q],st2 _ sw k hq2,by simp [J3],by rw [hwd]; show min ((1 : Nat) : Int) 1000 ≤ 1; decide⟩
    · rw [if_pos (by omega),k] at hwd
      obtain ⟨r,g1,g2,g3⟩ := m7 (G := fun x s => BE n x sw s) t.un.2.2.2.2 [s] 1 ih (by simp [J3]) (by show min ((1 : Nat) : Int) 1000 ≤ 1; decide)
      exact ⟨r,st3 _ sw k (by omega) g1,g2,by rw [hwd]; exact g3⟩
    · rw [if_pos (by omega),k] at hwd
      obtain ⟨r,g1,g2,g3⟩ := mL (G := fun x s => BE n x sw s) (s := s) t.un.2.2.2.2 [] 0 (fun x hx => ih x hx s) (by simp [J3]) (by show min ((0 : Nat) : Int) 1000 ≤ 0; decide)
      exact ⟨r,st4 _ sw k (by omega) g1,g2,by rw [hwd]; exact g3⟩
    · rw [if_pos (by omega),k] at hwd
      have hlen : t.un.2.2.2.2.length = 2 := hf.two k
      have hi : (if Kl (sw,s.1,s.2) t.un.2.1 = true then 0 else 1) < t.un.2.2.2.2.length := by split <;> omega
      obtain ⟨S,g1,g2,g3⟩ := ih _ (List.getElem_mem hi) s
      refine ⟨S,st5 _ sw k hf.q hlen (List.getElem?_eq_getElem hi) g1,g2, ?_⟩
      have := cX (x := wd t.un.2.2.2.2[if Kl (sw,s.1,s.2) t.un.2.1 = true then 0 else 1]) (t.un.2.2.2.2.map wd) (w0 5) (.inl (List.mem_map.2 ⟨_,List.getElem_mem hi,rfl⟩))
      rw [hwd]
      exact Int.le_trans g3 this
theorem oI {n : Nat} {t : Tr41} {sw : Int} {s : Se} {S : List Se} (h : BE n t sw s = some S) : Fo t sw s = some S := B4 (g := fun n => BE n t sw s) (fun n r h => GV n t sw s r h) h
theorem aN {W : List Se} (hl : W.length ≤ 1000000000) : AU W W = some true := by
  have st : ∀ (k : Nat) (h : k < W.length),AB W W (k : Int) = some (.inl ((k + 1 : Nat) : Int)) := fun k h => by
    have hk : W[k]? = some W[k] := List.getElem?_eq_getElem h
    rw [AB,if_pos (by omega),A5 hk,Option.bind_some,Option.bind_some,if_neg (by simp)]
    rw [Ad ⟨by omega,by omega⟩]; rfl
  have go : ∀ (d k : Nat),k + d = W.length → Ah (AB W W) (k : Int) = some (.inl ()) := fun d => by
    induction d with
    | zero => intro k h; exact Ak (by rw [AB,if_neg (by omega)])
    | succ d ih => intro k h; rw [A4 (st k (by omega))]; exact ih (k + 1) (by omega)
  unfold AU
  rw [if_neg (fun h => h rfl),show Ah (AB W W) 0 = some (.inl ()) from go W.length 0 (by omega)]
  rfl
end Go.Proofs.YtkhiflmalgkjiaaGreat
namespace Go.Proofs.YtkhiflmalgkjiaaGreat
theorem Vv {f v : Int} {t : Tr38} : v ∈ DS f t ↔ (t.un.1 = 3 ∧ t.un.2.1 = f ∧ t.un.2.2.1 = v) ∨ ∃ x ∈ t.un.2.2.2,v ∈ DS f x := by
  rw [J8,List.mem_append]
  refine or_congr ?_ ?_
  · by_cases c : t.un.1 = 3 ∧ t.un.2.1 = f
    · rw [if_pos c,List.mem_singleton]
      exact ⟨fun h => ⟨c.1,c.2,h.symm⟩,fun h => h.2.2.symm⟩
    · rw [if_neg c]
      exact ⟨fun h => absurd h (List.not_mem_nil),fun h => absurd ⟨h.1,h.2.1⟩ c⟩
  · rw [List.mem_flatten]
    constructor
    · rintro ⟨l,hl,hv⟩
      obtain ⟨x,hx,rfl⟩ := List.mem_map.1 hl
      exact ⟨x,hx,hv⟩
    · rintro ⟨x,hx,hv⟩
      exact ⟨_,List.mem_map.2 ⟨x,hx,rfl⟩,hv⟩
theorem Mf {f v k : Int} (hk : k ≠ 3) : v ∉ DS f (Tr38.mk k 0 0 []) := fun h => by
  rcases Vv.1 h with h | ⟨x,hx,_⟩
  · exact hk h.1
  · exact absurd hx (List.not_mem_nil)
theorem fR (f v sw : Int) : ∀ (n : Nat) (t : Tr38),SizeOf.sizeOf t < n → v ∈ DS f (ct sw t) → v ∈ DS f t
  | 0,t,h,_ => absurd h (Nat.not_lt_zero _)
  | n + 1, t, h, hv => by
    have ch : ∀ x ∈ t.un.2.2.2.map (ct sw),v ∈ DS f x → v ∈ DS f t := fun x hx hv => by
      obtain ⟨y,hy,rfl⟩ := List.mem_map.1 hx
      exact Vv.2 (.inr ⟨y,hy,fR f v sw n y (by have := S8 hy; omega) hv⟩)
    have mk : ∀ k f0 v0 L,(k = 3 → t.un.1 = 3 ∧ t.un.2.1 = f0 ∧ t.un.2.2.1 = v0) → (∀ x ∈ L,x ∈ t.un.2.2.2.map (ct sw)) → v ∈ DS f (Tr38.mk k f0 v0 L) → v ∈ DS f t := fun k f0 v0 L h1 h2 hv => by
      rcases Vv.1 hv with hv | ⟨x,hx,hv⟩
      · obtain ⟨a,b,c⟩ := h1 hv.1
        exact Vv.2 (.inl ⟨a,b.trans hv.2.1,c.trans hv.2.2⟩)
      · exact ch x (h2 x hx) hv
    have smp' : ∀ k a d : Int,k ≠ 3 → a ≠ 3 → d ≠ 3 → v ∈ DS f (bQ k (t.un.2.2.2.map (ct sw)) a d) → v ∈ DS f t := fun k a d hk ha hd hv => by
      unfold bQ at hv
      split at hv
      · exact absurd hv (Mf hd)
      · split at hv
        · exact absurd hv (Mf ha)
        · rename_i x hx
          exact ch x (List.mem_filter.1 (by rw [hx]; exact List.mem_cons_self .. : x ∈ (t.un.2.2.2.map (ct sw)).filter _)).1 hv
        · rename_i x y R hx
          exact mk _ _ _ _ (fun h => absurd h hk) (fun z hz => (List.mem_filter.1 (by rw [hx]; exact hz : z ∈ (t.un.2.2.2.map (ct sw)).filter _)).1) hv
    rw [bS] at hv
    unfold xJ at hv
    split at hv
    · rename_i k3
      split at hv
      · split at hv
        · exact absurd hv (Mf (by decide))
        · exact absurd hv (Mf (by decide))
      · exact mk _ _ _ _ (fun _ => ⟨k3,rfl,rfl⟩) (fun _ h => h) hv
    · split at hv
      · rename_i k3 k4
        unfold yT at hv
        split at hv
        · rename_i c hc
          split at hv
          · exact absurd hv (Mf (by decide))
          · split at hv
            · exact absurd hv (Mf (by decide))
            · exact mk _ _ _ _ (fun h => absurd h k3) (fun x hx => by rw [hc]; exact hx) hv
        · exact mk _ _ _ _ (fun h => absurd h k3) (fun _ h => h) hv
      · split at hv
        · exact smp' _ _ _ (by omega) (by decide) (by decide) hv
        · split at hv
          · exact smp' _ _ _ (by omega) (by decide) (by decide) hv
          · rename_i k3 _ _ _
            exact mk _ _ _ _ (fun h => absurd h k3) (fun _ h => h) hv
structure Pt (x t : Tr41) : Prop where
  fit : HW x = true
  deep : dq x ≤ dq t
  size : sz x ≤ sz t
  wide : wd x ≤ wd t
  none : ∀ v,v ∉ us 5 x
  sub : ∀ f v,v ∈ us f x → v ∈ us f t
theorem wf_mono {k n m w w' : Int} (h0 : 0 ≤ n) (h : n ≤ m) (hw : 0 ≤ w) (h' : w ≤ w') : 0 ≤ wf k n w ∧ wf k n w ≤ wf k m w' := by
  unfold wf
  split
  · have h1 : 0 ≤ n * w := Int.mul_nonneg h0 hw
    have h2 : n * w ≤ m * w' := Int.mul_le_mul h h' hw (by omega)
    omega
  · split <;> omega
theorem Uh (k : Int) (g : Tr41 → Tr41) : ∀ (L : List Tr41) (n m : Int),0 ≤ n → n ≤ m → (∀ x ∈ L,wd (g x) ≤ wd x) → ((L.map g).map wd).foldl (wf k) n ≤ (L.map wd).foldl (wf k) m
  | [],n,m,_,h,_ => h
  | x :: L,n,m,h0,h,hx => by
    have := wf_mono (k := k) h0 h (pI (g x)).1 (hx x (List.mem_cons_self ..))
    exact Uh k g L _ _ this.1 this.2 fun y hy => hx y (List.mem_cons_of_mem _ hy)
theorem Y4 (sw : Int) : ∀ (n : Nat) (t : Tr41),SizeOf.sizeOf t < n → HW t = true → Pt (at' sw t) t
  | 0,t,h,_ => absurd h (Nat.not_lt_zero _)
  | n + 1, t, h, hf => by
    obtain ⟨⟨⟨h1,hz⟩,ho⟩,h2⟩ := (Gu t).1 hf
    have IH : ∀ x ∈ t.un.2.2.2.2,Pt (at' sw x) x := fun x hx => Y4 sw n x (by have := aK hx; omega) (h2 x hx)
    have hl1 := h1
    unfold Gg at h1
    have gd : t.un.1 = 1 ∨ t.un.1 = 5 → Gd 0 (0,0,0,0) sw (ct sw t.un.2.1) t.un.2.1 := fun c => UU 0 (0,0,0,0) sw (SizeOf.sizeOf t.un.2.1 + 1) t.un.2.1 (by omega) (ho c).1
    have hpO : t.un.1 = 1 ∨ t.un.1 = 5 → Of (cp sw t.un.1 t.un.2.1) 64 8 := fun c => by
      unfold cp
      rw [if_pos c]
      have g := gd c
      have := (ho c).2
      exact ⟨g.fit,by have := g.deep; omega,by have := g.size; omega⟩
    have hpN : ¬ (t.un.1 = 1 ∨ t.un.1 = 5) → cp sw t.un.1 t.un.2.1 = ZP := fun c => by
      unfold cp
      rw [if_neg c]
      exact hz (by omega)
    have hpC : (if t.un.1 < 2 ∨ 4 < t.un.1 then (cp sw t.un.1 t.un.2.1).cnt else 0) ≤ (if t.un.1 < 2 ∨ 4 < t.un.1 then t.un.2.1.cnt else 0) := by
      by_cases c : t.un.1 = 1 ∨ t.un.1 = 5
      · rw [if_pos (by omega),if_pos (by omega)]
        unfold cp
        rw [if_pos c]
        exact (gd c).size
      · rw [if_neg (by omega),if_neg (by omega)]; exact Nat.le_refl _
    have hp5 : ∀ v,v ∉ DS 5 (cp sw t.un.1 t.un.2.1) := fun v hv => by
      by_cases c : t.un.1 = 1 ∨ t.un.1 = 5
      · unfold cp at hv
        rw [if_pos c,(gd c).none] at hv
        exact absurd hv (List.not_mem_nil)
      · rw [hpN c] at hv
        exact absurd hv (Mf (by decide))
    have hpS : ∀ f v,v ∈ DS f (cp sw t.un.1 t.un.2.1) → v ∈ DS f t.un.2.1 := fun f v hv => by
      unfold cp at hv
      split at hv
      · exact fR f v sw (SizeOf.sizeOf t.un.2.1 + 1) t.un.2.1 (by omega) hv
      · exact hv
    have M : Pt (.mk t.un.1 (cp sw t.un.1 t.un.2.1) t.un.2.2.1 t.un.2.2.2.1 (t.un.2.2.2.2.map (at' sw))) t := by
      refine ⟨(Gu _).2 ⟨⟨⟨?_,fun c => hpN (by show ¬ (t.un.1 = 1 ∨ t.un.1 = 5); have c : t.un.1 = 2 ∨ t.un.1 = 3 ∨ t.un.1 = 4 := c; omega)⟩,hpO⟩,fun x hx => ?_⟩, ?_, ?_, ?_,fun v hv => ?_,fun f v hv => ?_⟩
      · show Gg t.un.1 t.un.2.2.1 t.un.2.2.2.1 (t.un.2.2.2.2.map (at' sw)).length
        rw [List.length_map]; exact hl1
      · obtain ⟨y,hy,rfl⟩ := List.mem_map.1 (show x ∈ t.un.2.2.2.2.map (at' sw) from hx)
        exact (IH y hy).fit
      · rw [Ui,Ui t]
        refine Nat.add_le_add_left (Rj fun a ha => ?_) 1
        obtain ⟨x,hx,rfl⟩ := List.mem_map.1 ha
        obtain ⟨y,hy,rfl⟩ := List.mem_map.1 (show x ∈ t.un.2.2.2.2.map (at' sw) from hx)
        exact Nat.le_trans (IH y hy).deep (Uz (List.mem_map.2 ⟨y,hy,rfl⟩))
      · rw [R1,R1 t]
        have hs := sum_mono' (g := fun x => sz (at' sw x)) (h := sz) t.un.2.2.2.2 fun x hx => (IH x hx).size
        have e : ((t.un.2.2.2.2.map (at' sw)).map sz).sum = (t.un.2.2.2.2.map fun x => sz (at' sw x)).sum := by rw [List.map_map]; rfl
        show 1 + (if t.un.1 < 2 ∨ 4 < t.un.1 then (cp sw t.un.1 t.un.2.1).cnt else 0) + ((t.un.2.2.2.2.map (at' sw)).map sz).sum ≤ _
        rw [e]
        omega
      · rw [Sk,Sk t]
        show (if 3 ≤ t.un.1 ∧ t.un.1 ≤ 5 then ((t.un.2.2.2.2.map (at' sw)).map wd).foldl (wf t.un.1) (w0 t.un.1) else 1) ≤ _
        by_cases c : 3 ≤ t.un.1 ∧ t.un.1 ≤ 5
        · rw [if_pos c,if_pos c]
          exact Uh t.un.1 (at' sw) t.un.2.2.2.2 _ _ (by unfold w0; split <;> decide) (Int.le_refl _) fun x hx => (IH x hx).wide
        · rw [if_neg c,if_neg c]; exact Int.le_refl _
      · rcases LO.1 hv with hv | hv | ⟨x,hx,hv⟩
        · exact hp5 v hv
        · have hv : t.un.1 = 2 ∧ t.un.2.2.1 = 5 ∧ t.un.2.2.2.1 = v := hv
          have := (h1.2.2.2.1 hv.1)
          omega
        · obtain ⟨y,hy,rfl⟩ := List.mem_map.1 (show x ∈ t.un.2.2.2.2.map (at' sw) from hx)
          exact (IH y hy).none v hv
      · rcases LO.1 hv with hv | hv | ⟨x,hx,hv⟩
        · exact LO.2 (.inl (hpS f v hv))
        · exact LO.2 (.inr (.inl hv))
        · obtain ⟨y,hy,rfl⟩ := List.mem_map.1 (show x ∈ t.un.2.2.2.2.map (at' sw) from hx)
          exact LO.2 (.inr (.inr ⟨y,hy,(IH y hy).sub f v hv⟩))
    have one : ∀ x ∈ t.un.2.2.2.2,t.un.1 = 5 → Pt (at' sw x) t := fun x hx k => by
      have p := IH x hx
      refine ⟨p.fit, ?_, ?_, ?_,p.none,fun f v hv => LO.2 (.inr (.inr ⟨x,hx,p.sub f v hv⟩))⟩
      · rw [Ui t]
        have := Uz (List.mem_map.2 ⟨x,hx,rfl⟩ : dq x ∈ t.un.2.2.2.2.map dq)
        have := p.deep
        omega
      · rw [R1 t]
        have := LQ (g := sz) hx
        have := p.size
        omega
      · rw [Sk t,if_pos (by omega),k]
        exact Int.le_trans p.wide (cX _ _ (.inl (List.mem_map.2 ⟨x,hx,rfl⟩)))
    rw [iM]
    unfold iS
    split
    · rename_i a b hab
      obtain ⟨x,y,hxy⟩ : ∃ x y,t.un.2.2.2.2 = [x,y] := eK (by have := congrArg List.length hab; rw [List.length_map] at this; exact this)
      rw [hxy] at hab
      obtain ⟨e1,e2⟩ := List.cons.inj (show at' sw x :: [at' sw y] = [a,b] from hab)
      obtain ⟨e2,_⟩ := List.cons.inj e2
      subst e1 e2
      split
      · rename_i c; exact one x (by rw [hxy]; exact List.mem_cons_self ..) c.1
      · split
        · rename_i c; exact one y (by rw [hxy]; exact List.mem_cons_of_mem _ (List.mem_cons_self ..)) c.1
        · rw [hxy] at M; exact M
    · exact M
theorem Qu {p q : Int → Bool} (h : ∀ x,p x = true → q x = true) : ∀ l : List Int,(l.filter p).length ≤ (l.filter q).length
  | [] => Nat.le_refl _
  | x :: l => by
    have ih := Qu h l
    by_cases c : p x = true
    · rw [List.filter_cons_of_pos c,List.filter_cons_of_pos (h x c),List.length_cons,List.length_cons]; omega
    · rw [List.filter_cons_of_neg c]
      by_cases c' : q x = true
      · rw [List.filter_cons_of_pos c',List.length_cons]; omega
      · rw [List.filter_cons_of_neg c']; exact ih
theorem Yo {x t : Tr41} (h : ∀ f v,v ∈ us f x → v ∈ us f t) : ∀ i,cl x i ≤ cl t i
  | 0 => Int.le_refl _
  | i + 1 => by
    have ih := Yo h i
    have b1 := Up x i
    have hl : len (i : Int) x ≤ len (i : Int) t := Qu (fun v hv => by
      simp only [decide_eq_true_eq] at hv ⊢
      exact h _ _ hv) _
    have hm : cl x i * ((len i x : Nat) + 1 : Int) ≤ cl t i * ((len i t : Nat) + 1 : Int) := Int.mul_le_mul ih (by omega) (by omega) (by have := Up t i; omega)
    show min (cl x i * ((len i x : Nat) + 1 : Int)) 100000 ≤ min (cl t i * ((len i t : Nat) + 1 : Int)) 100000
    omega
end Go.Proofs.YtkhiflmalgkjiaaGreat
namespace Go.Proofs.YtkhiflmalgkjiaaGreat
theorem Wv (p q : Se) : Jo p q = some (AL p q) := by
  have st : ∀ (i : Nat) (u v : Int) (s : Int),s = (i : Int) → i < 4 → [p.2.1,p.2.2.1,p.2.2.2.1,p.2.2.2.2][i]? = some u → [q.2.1,q.2.2.1,q.2.2.2.1,q.2.2.2.2][i]? = some v → H4 p q s = if u ≠ v then some (.inr (.inr (decide (u < v)))) else some (.inl (s + 1)) := by
    intro i u v s hs hi hu hv
    subst hs
    rw [H4,if_pos (by omega),A5 hu,Option.bind_some,A5 hv,Option.bind_some]
    have : w64 ((i : Int) + 1) = (i : Int) + 1 := Ad ⟨by omega,by omega⟩
    rw [this]; rfl
  unfold Jo
  by_cases h0 : p.1 ≠ q.1
  · rw [if_pos h0]; simp [G9,h0]
  rw [if_neg h0]
  have e0 := Decidable.not_not.1 h0
  by_cases h1 : p.2.1 ≠ q.2.1
  · rw [Ak (by rw [st 0 p.2.1 q.2.1 0 rfl (by decide) rfl rfl,if_pos h1])]
    show some _ = _; simp [G9,e0,h1]
  rw [A4 (s' := 1) (by rw [st 0 p.2.1 q.2.1 0 rfl (by decide) rfl rfl,if_neg h1]; rfl)]
  have e1 := Decidable.not_not.1 h1
  by_cases h2 : p.2.2.1 ≠ q.2.2.1
  · rw [Ak (by rw [st 1 p.2.2.1 q.2.2.1 1 rfl (by decide) rfl rfl,if_pos h2])]
    show some _ = _; simp [G9,e0,e1,h2]
  rw [A4 (s' := 2) (by rw [st 1 p.2.2.1 q.2.2.1 1 rfl (by decide) rfl rfl,if_neg h2]; rfl)]
  have e2 := Decidable.not_not.1 h2
  by_cases h3 : p.2.2.2.1 ≠ q.2.2.2.1
  · rw [Ak (by rw [st 2 p.2.2.2.1 q.2.2.2.1 2 rfl (by decide) rfl rfl,if_pos h3])]
    show some _ = _; simp [G9,e0,e1,e2,h3]
  rw [A4 (s' := 3) (by rw [st 2 p.2.2.2.1 q.2.2.2.1 2 rfl (by decide) rfl rfl,if_neg h3]; rfl)]
  have e3 := Decidable.not_not.1 h3
  by_cases h4 : p.2.2.2.2 ≠ q.2.2.2.2
  · rw [Ak (by rw [st 3 p.2.2.2.2 q.2.2.2.2 3 rfl (by decide) rfl rfl,if_pos h4])]
    show some _ = _; simp [G9,e0,e1,e2,e3,h4]
  rw [A4 (s' := 4) (by rw [st 3 p.2.2.2.2 q.2.2.2.2 3 rfl (by decide) rfl rfl,if_neg h4]; rfl)]
  have e4 := Decidable.not_not.1 h4
  rw [Ak (e := .inl ()) (by rw [H4,if_neg (by omega)])]
  show some _ = _; simp [G9,e0,e1,e2,e3,e4]
def pf (x : Se) : List Se → Bool → List Se × Bool
  | [],b => ([],b)
  | y :: l,b => if (!(b || decide (y = x)) && AL x y) = true then (x :: y :: (pf x l true).1,(pf x l true).2) else (y :: (pf x l (b || decide (y = x))).1,(pf x l (b || decide (y = x))).2)
theorem VB (x : Se) : ∀ l : List Se,pf x l true = (l,true)
  | [] => rfl
  | y :: l => by
    have ih := VB x l
    simp [pf,ih]
theorem iF (x : Se) : ∀ l : List Se,(if (pf x l false).2 = true then (pf x l false).1 else (pf x l false).1 ++ [x]) = F9 AL l x
  | [] => rfl
  | y :: l => by
    have ih := iF x l
    unfold pf F9
    by_cases h1 : AL x y = true
    · have hne : y ≠ x := fun h => by rw [h,H7.irr x] at h1; cases h1
      rw [if_pos h1]
      have hc : (!(false || decide (y = x)) && AL x y) = true := by rw [h1]; simp [hne]
      rw [if_pos hc,VB]
      rfl
    · have hc : ¬ (!(false || decide (y = x)) && AL x y) = true := by
        intro h; rw [Bool.and_eq_true] at h; exact h1 h.2
      rw [if_neg h1,if_neg hc]
      by_cases h2 : AL y x = true
      · have hne : y ≠ x := fun h => by rw [h,H7.irr x] at h2; cases h2
        have hb : (false || decide (y = x)) = false := by simp [hne]
        rw [if_pos h2,hb, ← ih]
        split <;> simp
      · have he : y = x := H7.tot (by simpa using h2) (by simpa using h1)
        have hb : (false || decide (y = x)) = true := by simp [he]
        rw [if_neg h2,hb,VB]
        rfl
theorem SH (l : List Se) (x : Se) (hl : l.length ≤ 1048576) : ∀ (d k : Nat) (o : List Se) (b : Bool),k + d = l.length → o.length ≤ 2 * k + 1 → Ah (JA l x) (o,b,(k : Int)) = some (o ++ (pf x (l.drop k) b).1,(pf x (l.drop k) b).2)
  | 0,k,o,b,hk,ho => by
    have hk : k = l.length := by omega
    subst hk
    rw [List.drop_length]
    show _ = some (o ++ [],b)
    rw [Ak (e := (o,b)) (by rw [JA,if_neg (by omega)]),List.append_nil]
  | d + 1, k, o, b, hk, ho => by
    have hlt : k < l.length := by omega
    have hx : l[k]? = some l[k] := List.getElem?_eq_getElem hlt
    have hw : w64 ((k : Int) + 1) = ((k + 1 : Nat) : Int) := by rw [Ad ⟨by omega,by omega⟩]; omega
    rw [List.drop_eq_getElem_cons hlt]
    have hq : (if l[k].1 = x.1 ∧ l[k].2.1 = x.2.1 ∧ l[k].2.2.1 = x.2.2.1 ∧ l[k].2.2.2.1 = x.2.2.2.1 ∧ l[k].2.2.2.2 = x.2.2.2.2 then some true else some b) = some (b || decide (l[k] = x)) := by
      by_cases h : l[k] = x
      · rw [if_pos (by rw [h]; exact ⟨rfl,rfl,rfl,rfl,rfl⟩)]; simp [h]
      · rw [if_neg (fun g => h (by simp only [Prod.ext_iff]; exact g))]; simp [h]
    unfold pf
    by_cases h : (!(b || decide (l[k] = x)) && AL x l[k]) = true
    · rw [if_pos h]
      have h' := h; rw [Bool.and_eq_true] at h'
      rw [A4 (s' := ((o ++ [x]) ++ [l[k]],true,((k + 1 : Nat) : Int))) (by
        rw [JA,if_pos (by omega),A5 hx,Option.bind_some,hq,Option.bind_some,if_pos h'.1,Option.bind_some,Wv,Option.bind_some,Option.bind_some,if_pos h'.2,Gt (by simp; omega),Option.bind_some,Option.bind_some]
        dsimp only
        rw [Option.bind_some,Gt (by simp; omega),Option.bind_some,hw])]
      rw [SH l x hl d (k + 1) _ true (by omega) (by simp; omega)]
      simp
    · rw [if_neg h]
      rw [A4 (s' := (o ++ [l[k]],(b || decide (l[k] = x)),((k + 1 : Nat) : Int))) (by
        rw [JA,if_pos (by omega),A5 hx,Option.bind_some,hq,Option.bind_some]
        by_cases h1 : (!(b || decide (l[k] = x))) = true
        · have h2 : ¬ AL x l[k] = true := fun g => h (by rw [h1,g]; rfl)
          rw [if_pos h1,Option.bind_some,Wv,Option.bind_some,Option.bind_some,if_neg h2,Option.bind_some]
          dsimp only
          rw [Option.bind_some,Gt (by simp; omega),Option.bind_some,hw]
        · rw [if_neg h1,Option.bind_some,if_neg (by decide),Option.bind_some]
          dsimp only
          rw [Option.bind_some,Gt (by simp; omega),Option.bind_some,hw])]
      rw [SH l x hl d (k + 1) _ _ (by omega) (by simp; omega)]
      simp
theorem oJ (l : List Se) (x : Se) (hl : l.length ≤ 1048576) : Q4 l x = some (F9 AL l x) := by
  unfold Q4
  rw [show ((([] : List Se),false,(0 : Int))) = ([],false,((0 : Nat) : Int)) from rfl,SH l x hl l.length 0 [] false (by omega) (by simp),Option.bind_some,List.drop_zero,List.nil_append, ← iF]
  dsimp only
  cases h : (pf x l false).2 with
  | true => rfl
  | false =>
    have hn : (pf x l false).1.length ≤ 2 * 1048576 := by
      have hg : ∀ (l : List Se) (b : Bool),(pf x l b).1.length ≤ 2 * l.length := by
        intro l
        induction l with
        | nil => intro b; simp [pf]
        | cons y l ih =>
          intro b
          unfold pf
          split
          · have := ih true; simp; omega
          · have := ih (b || decide (y = x)); simp; omega
      have := hg l false; omega
    rw [if_pos (by rfl),Gt (by simp; omega)]; rfl
theorem aM {t : Tr27} (hc : t.cnt ≤ 1048576) (f : Int) : LU t f = some (Mb f (pm t) ((Cg f).toNat + 1)) := by
  have htb := SR f
  unfold LU
  obtain ⟨o,h1,h2⟩ := Dk ((Cg f).toNat + 1) (fun (o : List Int) (i : Nat) => (o,(i : Int))) (Hh t f) id (fun o i => o = Mb f (pm t) i)
    (fun o i hi ho => by
      have hvl := Xj f (pm t) i
      refine ⟨Mb f (pm t) (i + 1), ?_,rfl⟩
      rw [Hh,if_pos (by omega),w28,w31,q6 hc,Option.bind_some,Ad (by omega),aC,ho]
      by_cases c : (i : Int) ∈ us f (pm t)
      · rw [decide_eq_true c,if_pos rfl,if_pos c,Gt (by simp; omega)]; rfl
      · rw [decide_eq_false c,if_neg (by decide),if_neg c,List.append_nil]; rfl)
    (fun o _ => by rw [Hh,if_neg (by omega)]; rfl) [] rfl
  have h2' : Ah (Hh t f) ([],0) = some o := h2
  rw [h2',h1]; rfl
abbrev Ca := Int × (Int × Int × Int × Int) × List Se
abbrev kn (c : Ca) : Se := (c.1,c.2.1)
def fA : Nat → Int | 0 => 4 | 1 => 0 | 2 => 1 | 3 => 2 | _ => 3
theorem Iq {i : Nat} (h : i < 5) : Bl (i : Int) = some (fA i) := by
  unfold Bl
  rw [show ix ([4,0,1,2,3] : List Int) (i : Int) = some (fA i) from A5 (by
    match i,h with
    | 0,_ => rfl | 1,_ => rfl | 2,_ => rfl | 3,_ => rfl | 4,_ => rfl)]
  rfl
def wA (s : Se) : Nat → Int → Se
  | 0,v => (v,s.2.1,s.2.2.1,s.2.2.2.1,s.2.2.2.2)
  | 1,v => (s.1,v,s.2.2.1,s.2.2.2.1,s.2.2.2.2)
  | 2,v => (s.1,s.2.1,v,s.2.2.2.1,s.2.2.2.2)
  | 3,v => (s.1,s.2.1,s.2.2.1,v,s.2.2.2.2)
  | _,v => (s.1,s.2.1,s.2.2.1,s.2.2.2.1,v)
def gA (s : Se) : Nat → Int
  | 0 => s.1 | 1 => s.2.1 | 2 => s.2.2.1 | 3 => s.2.2.2.1 | _ => s.2.2.2.2
theorem L6 (s : Se) {i : Nat} (h : i < 5) (v : Int) : C0 s (fA i) v = some (wA s i v) := by
  match i,h with
  | 0,_ => rfl
  | 1,_ => rfl
  | 2,_ => rfl
  | 3,_ => rfl
  | 4,_ => rfl
theorem cV (s : Se) {i j : Nat} (hi : i < 5) (hj : j < 5) (v : Int) : gA (wA s i v) j = if j = i then v else gA s j := by
  match i,hi with
  | 0,_ => match j,hj with | 0,_ => rfl | 1,_ => rfl | 2,_ => rfl | 3,_ => rfl | 4,_ => rfl
  | 1,_ => match j,hj with | 0,_ => rfl | 1,_ => rfl | 2,_ => rfl | 3,_ => rfl | 4,_ => rfl
  | 2,_ => match j,hj with | 0,_ => rfl | 1,_ => rfl | 2,_ => rfl | 3,_ => rfl | 4,_ => rfl
  | 3,_ => match j,hj with | 0,_ => rfl | 1,_ => rfl | 2,_ => rfl | 3,_ => rfl | 4,_ => rfl
  | 4,_ => match j,hj with | 0,_ => rfl | 1,_ => rfl | 2,_ => rfl | 3,_ => rfl | 4,_ => rfl
section
variable (R : Se → List Se) (V : Nat → List Int) (sm : Nat → List Ca → List Ca → Bool)
def fr : Nat → Nat → Se → List Ca
  | 0,_,k => [(k.1,k.2,R k)]
  | d + 1,i,k => ((V i).flatMap fun v => if sm i (fr d (i + 1) (wA k i v)) (fr d (i + 1) k) = true then [] else fr d (i + 1) (wA k i v)) ++ fr d (i + 1) k
def pr : Nat → Nat → Nat
  | 0,_ => 1
  | d + 1,i => ((V i).length + 1) * pr d (i + 1)
variable {R V sm}
theorem rF {d i : Nat} {k : Se} {c : Ca} (h : c ∈ fr R V sm (d + 1) i k) : (∃ v ∈ V i,c ∈ fr R V sm d (i + 1) (wA k i v)) ∨ c ∈ fr R V sm d (i + 1) k := by
  unfold fr at h
  rcases List.mem_append.1 h with h | h
  · obtain ⟨v,hv,hc⟩ := List.mem_flatMap.1 h
    split at hc
    · cases hc
    · exact .inl ⟨v,hv,hc⟩
  · exact .inr h
theorem Nv : ∀ (d i : Nat) (k : Se) (c : Ca),i + d = 5 → c ∈ fr R V sm d i k → (∀ j,j < i → gA (kn c) j = gA k j) ∧ c.2.2 = R (kn c)
  | 0,i,k,c,hi,h => by
    have : c = (k.1,k.2,R k) := List.mem_singleton.1 h
    subst this
    exact ⟨fun _ _ => rfl,rfl⟩
  | d + 1,i,k,c,hi,h => by
    rcases rF h with ⟨v,hv,hc⟩ | hc
    · obtain ⟨h1,h2⟩ := Nv d (i + 1) _ c (by omega) hc
      exact ⟨fun j hj => by rw [h1 j (by omega),cV k (by omega) (by omega),if_neg (by omega)],h2⟩
    · obtain ⟨h1,h2⟩ := Nv d (i + 1) _ c (by omega) hc
      exact ⟨fun j hj => h1 j (by omega),h2⟩
theorem Yw : ∀ (d i : Nat) (k : Se), ∃ X,fr R V sm d i k = X ++ [(k.1,k.2,R k)]
  | 0,i,k => ⟨[],rfl⟩
  | d + 1,i,k => by
    obtain ⟨X,h⟩ := Yw d (i + 1) k
    unfold fr
    exact ⟨_ ++ X,by rw [List.append_assoc, ← h]⟩
theorem sum_le' {l : List Int} {g : Int → Nat} {b : Nat} (h : ∀ v ∈ l,g v ≤ b) : (l.map g).sum ≤ l.length * b := by
  induction l with
  | nil => simp
  | cons x l ih =>
    have h1 := h x (List.mem_cons_self ..)
    have h2 := ih fun v hv => h v (List.mem_cons_of_mem _ hv)
    simp only [List.map_cons,List.sum_cons,List.length_cons,Nat.add_mul,Nat.one_mul]
    omega
theorem R3 : ∀ (d i : Nat) (k : Se),(fr R V sm d i k).length ≤ pr V d i
  | 0,i,k => Nat.le_refl _
  | d + 1,i,k => by
    unfold fr pr
    rw [List.length_append,List.length_flatMap,Nat.add_mul,Nat.one_mul]
    have h1 := R3 d (i + 1) k
    have h2 : ((V i).map fun v => (if sm i (fr R V sm d (i + 1) (wA k i v)) (fr R V sm d (i + 1) k) = true then [] else fr R V sm d (i + 1) (wA k i v)).length).sum ≤ (V i).length * pr V d (i + 1) := sum_le' fun v hv => by
      split
      · exact Nat.zero_le _
      · exact R3 d (i + 1) _
    omega
theorem VC : ∀ (d i : Nat) (k : Se),i + d = 5 → (∀ j,i ≤ j → j < 5 → gA k j = -1) → (∀ j,(V j).Nodup ∧ (-1 : Int) ∉ V j) → (fr R V sm d i k).Pairwise fun a b => kn a ≠ kn b
  | 0,i,k,_,_,_ => List.pairwise_singleton _ _
  | d + 1,i,k,hi,hk,hV => by
    have at_ : ∀ (v : Int) (c : Ca),c ∈ fr R V sm d (i + 1) (wA k i v) → gA (kn c) i = v := fun v c hc => by
      rw [(Nv d (i + 1) _ c (by omega) hc).1 i (by omega),cV k (by omega) (by omega),if_pos rfl]
    have at' : ∀ (c : Ca),c ∈ fr R V sm d (i + 1) k → gA (kn c) i = -1 := fun c hc => by
      rw [(Nv d (i + 1) _ c (by omega) hc).1 i (by omega),hk i (Nat.le_refl _) (by omega)]
    have sub : ∀ (v : Int) (c : Ca),c ∈ (if sm i (fr R V sm d (i + 1) (wA k i v)) (fr R V sm d (i + 1) k) = true then [] else fr R V sm d (i + 1) (wA k i v)) → c ∈ fr R V sm d (i + 1) (wA k i v) := fun v c hc => by
      split at hc
      · cases hc
      · exact hc
    unfold fr
    rw [List.pairwise_append]
    refine ⟨List.pairwise_flatMap.2 ⟨fun v hv => ?_,(hV i).1.imp fun {v w} hvw a ha b hb e => hvw ?_⟩,VC d (i + 1) k (by omega) (fun j h1 h2 => hk j (by omega) h2) hV,fun a ha b hb e => ?_⟩
    · split
      · exact List.Pairwise.nil
      · exact VC d (i + 1) _ (by omega) (fun j h1 h2 => by rw [cV k (by omega) h2,if_neg (by omega)]; exact hk j (by omega) h2) hV
    · rw [← at_ v a (sub v a ha), ← at_ w b (sub w b hb),e]
    · obtain ⟨v,hv,ha⟩ := List.mem_flatMap.1 ha
      have h1 := at_ v a (sub v a ha)
      rw [e,at' b hb] at h1
      exact (hV i).2 (h1 ▸ hv)
end
end Go.Proofs.YtkhiflmalgkjiaaGreat
