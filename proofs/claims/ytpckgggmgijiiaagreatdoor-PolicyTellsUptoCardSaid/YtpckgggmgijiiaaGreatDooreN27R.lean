/- Layer 27: what comes of a packet. Conditions: none. -/
import Derived.Test.YtpckgggmgijiiaaGreatDooreN27P
import Derived.Test.YtpckgggmgijiiaaGreatDooreMW
namespace Go.Proofs.YtpckgggmgijiiaaGreatDoor
set_option linter.unusedVariables false
set_option linter.unusedSimpArgs false
open Go Go.RowKit
abbrev rR (t : Tr34) : Prop := t.cnt ≤ 1048576
theorem lB {t : Tr34} (hc : rR t) (s q : Int) (p : PK) : Fe t s q p = some (Ld (s,q,p) t) := kO hc s q p
inductive Fi : Tr37 → Prop
  | mk (t : Tr37) : (1 ≤ t.un.1 ∧ t.un.1 ≤ 5) → (t.un.1 = 5 → t.un.2.2.2.2.length = 2) → t.un.2.2.2.2.length ≤ 8 → rR t.un.2.1 → (∀ x ∈ t.un.2.2.2.2,Fi x) → Fi t
section
variable {t : Tr37}
theorem Fi.kind (h : Fi t) : 1 ≤ t.un.1 ∧ t.un.1 ≤ 5 := by cases h; assumption
theorem Fi.two (h : Fi t) : t.un.1 = 5 → t.un.2.2.2.2.length = 2 := by cases h; assumption
theorem Fi.len (h : Fi t) : t.un.2.2.2.2.length ≤ 8 := by cases h; assumption
theorem Fi.q (h : Fi t) : rR t.un.2.1 := by cases h; assumption
theorem Fi.ch (h : Fi t) {x : Tr37} (hx : x ∈ t.un.2.2.2.2) : Fi x := by cases h with | mk _ _ _ _ _ h => exact h x hx
end
theorem lL : ∀ (n : Nat) (t : Tr37),SizeOf.sizeOf t < n → t.cnt ≤ 1048576 → Gn t = true → Fi t
  | 0,t,h,_,_ => absurd h (Nat.not_lt_zero _)
  | n + 1,t,h,hc,hf => by
    obtain ⟨⟨⟨h1,hz⟩,ho⟩,h2⟩ := (FJ t).1 hf
    unfold FN at h1
    have hq := qP t
    exact .mk t ⟨h1.1,h1.2.1⟩ (fun k => h1.2.2.2.2.2.1 k) (by omega) (by show t.un.2.1.cnt ≤ _; omega) fun x hx => lL n x (by have := Yr hx; omega) (Nat.le_trans (cP hx) hc) (h2 x hx)
def FH {α σ : Type} (F : α → σ → Option σ) : List α → σ → Option σ
  | [],c => some c
  | x :: l,c => (F x c).bind fun c' => FH F l c'
theorem R1 {α σ : Type} (l : List α) (hl : l.length ≤ 1048576) (F : α → σ → Option σ) (step : σ × Int → Option ((σ × Int) ⊕ σ))
    (hs : ∀ (i : Nat) (x : α) (c : σ),l[i]? = some x → step (c,(i : Int)) = (F x c).bind fun c' => some (.inl (c',Aq ((i : Int) + 1)))) (he : ∀ c,step (c,(l.length : Int)) = some (.inr c)) :
    ∀ (d k : Nat) (c r : σ),k + d = l.length → FH F (l.drop k) c = some r → Af step (c,(k : Int)) = some r
  | 0,k,c,r,hk,h => by
    have hk : k = l.length := by omega
    subst hk
    rw [List.drop_length] at h
    cases h
    exact An (he c)
  | d + 1,k,c,r,hk,h => by
    have hlt : k < l.length := by omega
    rw [List.drop_eq_getElem_cons hlt] at h
    obtain ⟨c',h1,h2⟩ := A1 (show (F l[k] c).bind (fun c' => FH F (l.drop (k + 1)) c') = some r from h)
    rw [A0 (s' := (c',((k + 1 : Nat) : Int))) (by rw [hs k l[k] c (List.getElem?_eq_getElem hlt),h1,Option.bind_some,Ad ⟨by omega,by omega⟩]; rfl)]
    exact R1 l hl F step hs he d (k + 1) c' r (by omega) h2
abbrev Rf := Tr37 → Int → Se → Option (List Se)
section
variable (f : Rf) {t : Tr37} (sw : Int) {s : Se} {r : List Se}
theorem st1 (hk : t.un.1 = 1) (hc : rR t.un.2.1) (s : Se) : AO f t sw s = some (if Ld (sw,s.1,s.2) t.un.2.1 = true then [s] else []) := by
  unfold AO
  rw [if_pos hk,NM,lB hc,Option.bind_some]
  by_cases h : Ld (sw,s.1,s.2) t.un.2.1 = true
  · rw [if_pos h,if_pos h]; rfl
  · rw [if_neg h,if_neg h]; rfl
theorem st2 (hk : t.un.1 = 2) {s' : Se} (ha : Cz s t.un.2.2.1 t.un.2.2.2.1 = some s') : AO f t sw s = some [s'] := by
  unfold AO
  rw [if_neg (by omega),if_pos hk,ha,Option.bind_some]; rfl
theorem tK (x : Tr37) : BR f sw x = f x sw := by
  funext k
  unfold BR
  rw [NM,Qc]
  cases f x sw k <;> rfl
theorem st3 (hk : t.un.1 = 3) (hl : t.un.2.2.2.2.length ≤ 1048576) (h : FH (fun x c => Gj AC (f x sw) c []) t.un.2.2.2.2 [s] = some r) : AO f t sw s = some r := by
  have e : B1 f t.un.2.2.2.2 sw s = some r := by
    unfold B1
    rw [show Af (Bc f t.un.2.2.2.2 sw) (EK AC [] s,0) = some r from R1 t.un.2.2.2.2 hl (fun x c => Gj AC (f x sw) c []) _ (fun i x c hx => by
        have hi : i < t.un.2.2.2.2.length := by
          rcases Nat.lt_or_ge i t.un.2.2.2.2.length with h | h
          · exact h
          · rw [List.getElem?_eq_none h] at hx; cases hx
        rw [Bc,if_pos (by omega),A7 hx,Option.bind_some,tK]) (fun c => by rw [Bc,if_neg (by omega)]) t.un.2.2.2.2.length 0 [s] r (by omega) h,Option.bind_some]
  unfold AO
  rw [if_neg (by omega),if_neg (by omega),if_pos hk,e,Option.bind_some]; rfl
theorem st4 (hk : t.un.1 = 4) (hl : t.un.2.2.2.2.length ≤ 1048576) (h : FH (fun x c => (f x sw s).bind fun r => some (Iw AC c r)) t.un.2.2.2.2 [] = some r) : AO f t sw s = some r := by
  unfold AO
  rw [if_neg (by omega),if_neg (by omega),if_neg (by omega),if_pos hk,show Af (BE f t sw s) ([],0) = some r from R1 t.un.2.2.2.2 hl (fun x c => (f x sw s).bind fun r => some (Iw AC c r)) _ (fun i x c hx => by
        have hi : i < t.un.2.2.2.2.length := by
          rcases Nat.lt_or_ge i t.un.2.2.2.2.length with h | h
          · exact h
          · rw [List.getElem?_eq_none h] at hx; cases hx
        rw [BE,if_pos (by omega),A7 hx,Option.bind_some,NM,Qc]
        cases f x sw s <;> rfl) (fun c => by rw [BE,if_neg (by omega)]) t.un.2.2.2.2.length 0 [] r (by omega) h,Option.bind_some]; rfl
theorem st5 (hk : t.un.1 = 5) (hc : rR t.un.2.1) {x : Tr37} (hlen : t.un.2.2.2.2.length = 2) (hx : t.un.2.2.2.2[if Ld (sw,s.1,s.2) t.un.2.1 = true then 0 else 1]? = some x) (hr : f x sw s = some r) : AO f t sw s = some r := by
  have e : EM t sw s = some x := by
    unfold EM
    rw [NM,lB hc,Option.bind_some]
    by_cases h : Ld (sw,s.1,s.2) t.un.2.1 = true
    · rw [if_pos h] at hx
      rw [if_pos h,Option.bind_some,if_neg (by omega),show ix t.un.2.2.2.2 0 = some x from A7 (k := 0) hx,Option.bind_some,NM,Qc]
    · rw [if_neg h] at hx
      rw [if_neg h,Option.bind_some,if_neg (by omega),show ix t.un.2.2.2.2 1 = some x from A7 (k := 1) hx,Option.bind_some,NM,Qc]
  unfold AO
  rw [if_neg (by omega),if_neg (by omega),if_neg (by omega),if_neg (by omega),if_pos hk,NM,Qc,e,Option.bind_some,NM,Qc,hr,Option.bind_some]; rfl
end
theorem bN (l : List Se) (x : Se) : (EK AC l x).length ≤ l.length + 1 := by
  induction l with
  | nil => simp [EK]
  | cons y l ih =>
    unfold EK
    split
    · simp
    · split
      · simp only [List.length_cons]; omega
      · simp
theorem T4 : ∀ (b a : List Se),(Iw AC a b).length ≤ a.length + b.length
  | [],a => by simp [Iw]
  | x :: b,a => by
    have h1 := T4 b (EK AC a x)
    have h2 := bN a x
    show (Iw AC (EK AC a x) b).length ≤ _
    simp only [List.length_cons]
    omega
theorem VK {g : Se → Option (List Se)} {m : Nat} : ∀ {l a b : List Se},(∀ x ∈ l, ∀ r,g x = some r → r.length ≤ m) → Gj AC g l a = some b → b.length ≤ a.length + l.length * m
  | [],a,b,_,h => by cases h; simp
  | x :: l,a,b,hm,h => by
    obtain ⟨r,h1,h2⟩ := A1 (show (g x).bind (fun r => Gj AC g l (Iw AC a r)) = some b from h)
    have h3 := VK (fun y hy => hm y (List.mem_cons_of_mem _ hy)) h2
    have h4 := hm x (List.mem_cons_self ..) r h1
    have h5 := T4 r a
    rw [List.length_cons,Nat.succ_mul]
    omega
abbrev Bd (S : List Se) (w : Int) : Prop := min (S.length : Int) 1000 ≤ w
theorem pY {a m b : Nat} {n w : Int} (hb : b ≤ a * m) (hn : min (a : Int) 1000 ≤ n) (hw : (m : Int) ≤ w ∧ m < 1000) : min (b : Int) 1000 ≤ min (n * w) 1000 := by
  have h1 : (b : Int) ≤ (a : Int) * (m : Int) := by exact_mod_cast hb
  rcases Nat.lt_or_ge 1000 a with ha | ha
  · rcases Nat.eq_zero_or_pos m with hm | hm
    · subst hm
      have : b = 0 := by omega
      subst this
      have : (0 : Int) ≤ n * w := Int.mul_nonneg (by omega) (by omega)
      omega
    · have h2 : (1000 : Int) * 1 ≤ n * w := Int.mul_le_mul (by omega) (by omega) (by omega) (by omega)
      omega
  · have h2 : (a : Int) * (m : Int) ≤ n * w := Int.mul_le_mul (by omega) hw.1 (by omega) (by omega)
    omega
section
variable {G : Tr37 → Se → Option (List Se)}
theorem mJ {s : Se} : ∀ (l : List Tr37) (c : List Se) (n : Int),(∀ x ∈ l, ∃ S,G x s = some S ∧ KY AC S ∧ Bd S (wd x)) → KY AC c → Bd c n →
    ∃ r,FH (fun x c => (G x s).bind fun r => some (Iw AC c r)) l c = some r ∧ KY AC r ∧ Bd r ((l.map wd).foldl (wf 4) n)
  | [],c,n,_,hc,hb => ⟨c,rfl,hc,hb⟩
  | x :: l,c,n,h,hc,hb => by
    obtain ⟨S,h1,h2,h3⟩ := h x (List.mem_cons_self ..)
    obtain ⟨r,g1,g2,g3⟩ := mJ l (Iw AC c S) (wf 4 n (wd x)) (fun y hy => h y (List.mem_cons_of_mem _ hy)) (NG KD hc) (by
      have := T4 S c
      show min _ _ ≤ wf 4 n (wd x)
      unfold wf
      rw [if_neg (by decide),if_pos rfl]
      unfold Bd at hb h3
      omega)
    exact ⟨r,by show ((G x s).bind fun r => some (Iw AC c r)).bind _ = _; rw [h1]; exact g1,g2,g3⟩
theorem lI : ∀ (l : List Tr37) (c : List Se) (n : Int),(∀ x ∈ l, ∀ s, ∃ S,G x s = some S ∧ KY AC S ∧ Bd S (wd x)) → KY AC c → Bd c n →
    ∃ r,FH (fun x c => Gj AC (G x) c []) l c = some r ∧ KY AC r ∧ Bd r ((l.map wd).foldl (wf 3) n)
  | [],c,n,_,hc,hb => ⟨c,rfl,hc,hb⟩
  | x :: l, c, n, h, hc, hb => by
    have hx := h x (List.mem_cons_self ..)
    obtain ⟨b,hb1⟩ := Ui (lt := AC) (f := G x) (l := c) (a := []) KD fun s _ => (hx s).imp fun S h => h.1
    have hA := (J0 KD (List.Pairwise.nil) hb1).1
    have hw := lQ x
    have hbd : Bd b (wf 3 n (wd x)) := by
      unfold wf
      rw [if_pos rfl]
      unfold Bd at hb
      by_cases h0 : c = []
      · subst h0
        cases hb1
        have : (0 : Int) ≤ n * wd x := Int.mul_nonneg (by simp at hb; omega) hw.1
        simp only [Bd,List.length_nil]; omega
      · have hc1 : 1 ≤ c.length := by
          cases c with
          | nil => exact absurd rfl h0
          | cons y c => simp
        by_cases h1 : wd x < 1000
        · have h2 := VK (m := (wd x).toNat) (fun s _ r hr => by
            obtain ⟨S,e1,_,e3⟩ := hx s
            rw [hr] at e1; cases e1
            unfold Bd at e3; omega) hb1
          exact pY (by simpa using h2) hb ⟨by omega,by omega⟩
        · have h2 : (1 : Int) * 1000 ≤ n * wd x := Int.mul_le_mul (by omega) (by omega) (by omega) (by omega)
          show min _ _ ≤ min _ _
          omega
    obtain ⟨r,g1,g2,g3⟩ := lI l b (wf 3 n (wd x)) (fun y hy => h y (List.mem_cons_of_mem _ hy)) hA hbd
    exact ⟨r,by show (Gj AC (G x) c []).bind _ = _; rw [hb1]; exact g1,g2,g3⟩
end
theorem jH (p : PK) (f v : Int) : ∃ q,D0 p f v = some q := by
  unfold D0
  by_cases h : Cv f = true
  · have hf : f = 0 ∨ f = 1 ∨ f = 2 ∨ f = 3 := by
      unfold Cv at h
      simp at h
      omega
    have ht : ∃ b,Ev f v = some b := by
      unfold Ev Ga Ge
      by_cases hv : 0 ≤ v
      · rw [if_pos hv]
        rcases hf with rfl | rfl | rfl | rfl <;> exact ⟨_,rfl⟩
      · rw [if_neg hv]; exact ⟨_,rfl⟩
    obtain ⟨b,hb⟩ := ht
    rw [if_pos h,hb]
    cases b with
    | false => exact ⟨_,rfl⟩
    | true => rcases hf with rfl | rfl | rfl | rfl <;> exact ⟨_,rfl⟩
  · rw [if_neg h]; exact ⟨_,rfl⟩
theorem VR (s : Se) (f v : Int) : ∃ q,Cz s f v = some q := by
  obtain ⟨q,hq⟩ := jH s.2 f v
  unfold Cz
  rw [hq]
  by_cases h : f = 4
  · rw [if_pos h]; exact ⟨_,rfl⟩
  · rw [if_neg h]; exact ⟨_,rfl⟩
theorem mV {n : Nat} {t : Tr37} {sw : Int} {s : Se} {S : List Se} (h : AQ n t sw s = some S) : El t sw s = some S := Bq (g := fun n => AQ n t sw s) (fun n r h => Gt n t sw s r h) h
theorem Y9 {W : List Se} (hl : W.length ≤ 1000000000) : J8 W W = some true := by
  have st : ∀ (k : Nat) (h : k < W.length),F9 W W (k : Int) = some (.inl ((k + 1 : Nat) : Int)) := fun k h => by
    have hk : W[k]? = some W[k] := List.getElem?_eq_getElem h
    rw [F9,if_pos (by omega),A7 hk,Option.bind_some,Option.bind_some,if_neg (by simp)]
    rw [Ad ⟨by omega,by omega⟩]; rfl
  have go : ∀ (d k : Nat),k + d = W.length → Af (F9 W W) (k : Int) = some (.inl ()) := fun d => by
    induction d with
    | zero => intro k h; exact An (by rw [F9,if_neg (by omega)])
    | succ d ih => intro k h; rw [A0 (st k (by omega))]; exact ih (k + 1) (by omega)
  unfold J8
  rw [if_neg (fun h => h rfl),show Af (F9 W W) 0 = some (.inl ()) from go W.length 0 (by omega)]
  rfl
end Go.Proofs.YtpckgggmgijiiaaGreatDoor
