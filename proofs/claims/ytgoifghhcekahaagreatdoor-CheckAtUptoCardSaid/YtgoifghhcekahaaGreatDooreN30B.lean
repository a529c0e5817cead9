/- Layer 30: what comes of a packet. Conditions: none. -/
import Derived.Test.YtgoifghhcekahaaGreatDooreN30T
import Derived.Test.YtgoifghhcekahaaGreatDooreMW
namespace Go.Proofs.YtgoifghhcekahaaGreatDoor
set_option linter.unusedVariables false
set_option linter.unusedSimpArgs false
open Go Go.RowKit
abbrev qW (t : Tr36) : Prop := t.cnt ≤ 1048576
theorem jF {t : Tr36} (hc : qW t) (s q : Int) (p : PK) : GG t s q p = some (HR (s,q,p) t) := eQ hc s q p
inductive Fi : Tr39 → Prop
  | mk (t : Tr39) : (1 ≤ t.un.1 ∧ t.un.1 ≤ 5) → (t.un.1 = 5 → t.un.2.2.2.2.length = 2) → t.un.2.2.2.2.length ≤ 8 → qW t.un.2.1 → (∀ x ∈ t.un.2.2.2.2,Fi x) → Fi t
section
variable {t : Tr39}
theorem Fi.kind (h : Fi t) : 1 ≤ t.un.1 ∧ t.un.1 ≤ 5 := by cases h; assumption
theorem Fi.two (h : Fi t) : t.un.1 = 5 → t.un.2.2.2.2.length = 2 := by cases h; assumption
theorem Fi.len (h : Fi t) : t.un.2.2.2.2.length ≤ 8 := by cases h; assumption
theorem Fi.q (h : Fi t) : qW t.un.2.1 := by cases h; assumption
theorem Fi.ch (h : Fi t) {x : Tr39} (hx : x ∈ t.un.2.2.2.2) : Fi x := by cases h with | mk _ _ _ _ _ h => exact h x hx
end
theorem bX : ∀ (n : Nat) (t : Tr39),SizeOf.sizeOf t < n → t.cnt ≤ 1048576 → Hh t = true → Fi t
  | 0,t,h,_,_ => absurd h (Nat.not_lt_zero _)
  | n + 1,t,h,hc,hf => by
    obtain ⟨⟨⟨h1,hz⟩,ho⟩,h2⟩ := (Fk t).1 hf
    unfold FX at h1
    have hq := qP t
    exact .mk t ⟨h1.1,h1.2.1⟩ (fun k => h1.2.2.2.2.2.1 k) (by omega) (by show t.un.2.1.cnt ≤ _; omega) fun x hx => bX n x (by have := Vy hx; omega) (Nat.le_trans (cP hx) hc) (h2 x hx)
def J1 {α σ : Type} (F : α → σ → Option σ) : List α → σ → Option σ
  | [],c => some c
  | x :: l,c => (F x c).bind fun c' => J1 F l c'
theorem Qx {α σ : Type} (l : List α) (hl : l.length ≤ 1048576) (F : α → σ → Option σ) (step : σ × Int → Option ((σ × Int) ⊕ σ))
    (hs : ∀ (i : Nat) (x : α) (c : σ),l[i]? = some x → step (c,(i : Int)) = (F x c).bind fun c' => some (.inl (c',Ae ((i : Int) + 1)))) (he : ∀ c,step (c,(l.length : Int)) = some (.inr c)) :
    ∀ (d k : Nat) (c r : σ),k + d = l.length → J1 F (l.drop k) c = some r → Ac step (c,(k : Int)) = some r
  | 0,k,c,r,hk,h => by
    have hk : k = l.length := by omega
    subst hk
    rw [List.drop_length] at h
    cases h
    exact Af (he c)
  | d + 1,k,c,r,hk,h => by
    have hlt : k < l.length := by omega
    rw [List.drop_eq_getElem_cons hlt] at h
    obtain ⟨c',h1,h2⟩ := Cc (show (F l[k] c).bind (fun c' => J1 F (l.drop (k + 1)) c') = some r from h)
    rw [AH (s' := (c',((k + 1 : Nat) : Int))) (by rw [hs k l[k] c (List.getElem?_eq_getElem hlt),h1,Option.bind_some,Ab ⟨by omega,by omega⟩]; rfl)]
    exact Qx l hl F step hs he d (k + 1) c' r (by omega) h2
abbrev Rf := Tr39 → Int → Se → Option (List Se)
section
variable (f : Rf) {t : Tr39} (sw : Int) {s : Se} {r : List Se}
theorem wO (hk : t.un.1 = 1) (hc : qW t.un.2.1) (s : Se) : AU f t sw s = some (if HR (sw,s.1,s.2) t.un.2.1 = true then [s] else []) := by
  unfold AU
  rw [if_pos hk,Lt,jF hc,Option.bind_some]
  by_cases h : HR (sw,s.1,s.2) t.un.2.1 = true
  · rw [if_pos h,if_pos h]; rfl
  · rw [if_neg h,if_neg h]; rfl
theorem sV (hk : t.un.1 = 2) {s' : Se} (ha : EO s t.un.2.2.1 t.un.2.2.2.1 = some s') : AU f t sw s = some [s'] := by
  unfold AU
  rw [if_neg (by omega),if_pos hk,ha,Option.bind_some]; rfl
theorem sC (x : Tr39) : C2 f sw x = f x sw := by
  funext k
  unfold C2
  rw [Lt,M4]
  cases f x sw k <;> rfl
theorem vD (hk : t.un.1 = 3) (hl : t.un.2.2.2.2.length ≤ 1048576) (h : J1 (fun x c => Jj A7 (f x sw) c []) t.un.2.2.2.2 [s] = some r) : AU f t sw s = some r := by
  have e : De f t.un.2.2.2.2 sw s = some r := by
    unfold De
    rw [show Ac (BK f t.un.2.2.2.2 sw) (He A7 [] s,0) = some r from Qx t.un.2.2.2.2 hl (fun x c => Jj A7 (f x sw) c []) _ (fun i x c hx => by
        have hi : i < t.un.2.2.2.2.length := by
          rcases Nat.lt_or_ge i t.un.2.2.2.2.length with h | h
          · exact h
          · rw [List.getElem?_eq_none h] at hx; cases hx
        rw [BK,if_pos (by omega),Bh hx,Option.bind_some,sC]) (fun c => by rw [BK,if_neg (by omega)]) t.un.2.2.2.2.length 0 [s] r (by omega) h,Option.bind_some]
  unfold AU
  rw [if_neg (by omega),if_neg (by omega),if_pos hk,e,Option.bind_some]; rfl
theorem tK (hk : t.un.1 = 4) (hl : t.un.2.2.2.2.length ≤ 1048576) (h : J1 (fun x c => (f x sw s).bind fun r => some (MS A7 c r)) t.un.2.2.2.2 [] = some r) : AU f t sw s = some r := by
  unfold AU
  rw [if_neg (by omega),if_neg (by omega),if_neg (by omega),if_pos hk,show Ac (Cr f t sw s) ([],0) = some r from Qx t.un.2.2.2.2 hl (fun x c => (f x sw s).bind fun r => some (MS A7 c r)) _ (fun i x c hx => by
        have hi : i < t.un.2.2.2.2.length := by
          rcases Nat.lt_or_ge i t.un.2.2.2.2.length with h | h
          · exact h
          · rw [List.getElem?_eq_none h] at hx; cases hx
        rw [Cr,if_pos (by omega),Bh hx,Option.bind_some,Lt,M4]
        cases f x sw s <;> rfl) (fun c => by rw [Cr,if_neg (by omega)]) t.un.2.2.2.2.length 0 [] r (by omega) h,Option.bind_some]; rfl
theorem sH (hk : t.un.1 = 5) (hc : qW t.un.2.1) {x : Tr39} (hlen : t.un.2.2.2.2.length = 2) (hx : t.un.2.2.2.2[if HR (sw,s.1,s.2) t.un.2.1 = true then 0 else 1]? = some x) (hr : f x sw s = some r) : AU f t sw s = some r := by
  have e : G7 t sw s = some x := by
    unfold G7
    rw [Lt,jF hc,Option.bind_some]
    by_cases h : HR (sw,s.1,s.2) t.un.2.1 = true
    · rw [if_pos h] at hx
      rw [if_pos h,Option.bind_some,if_neg (by omega),show ix t.un.2.2.2.2 0 = some x from Bh (k := 0) hx,Option.bind_some,Lt,M4]
    · rw [if_neg h] at hx
      rw [if_neg h,Option.bind_some,if_neg (by omega),show ix t.un.2.2.2.2 1 = some x from Bh (k := 1) hx,Option.bind_some,Lt,M4]
  unfold AU
  rw [if_neg (by omega),if_neg (by omega),if_neg (by omega),if_neg (by omega),if_pos hk,Lt,M4,e,Option.bind_some,Lt,M4,hr,Option.bind_some]; rfl
end
theorem cJ (l : List Se) (x : Se) : (He A7 l x).length ≤ l.length + 1 := by
  induction l with
  | nil => simp [He]
  | cons y l ih =>
    unfold He
    split
    · simp
    · split
      · simp only [List.length_cons]; omega
      · simp
theorem TJ : ∀ (b a : List Se),(MS A7 a b).length ≤ a.length + b.length
  | [],a => by simp [MS]
  | x :: b,a => by
    have h1 := TJ b (He A7 a x)
    have h2 := cJ a x
    show (MS A7 (He A7 a x) b).length ≤ _
    simp only [List.length_cons]
    omega
theorem Vr {g : Se → Option (List Se)} {m : Nat} : ∀ {l a b : List Se},(∀ x ∈ l, ∀ r,g x = some r → r.length ≤ m) → Jj A7 g l a = some b → b.length ≤ a.length + l.length * m
  | [],a,b,_,h => by cases h; simp
  | x :: l,a,b,hm,h => by
    obtain ⟨r,h1,h2⟩ := Cc (show (g x).bind (fun r => Jj A7 g l (MS A7 a r)) = some b from h)
    have h3 := Vr (fun y hy => hm y (List.mem_cons_of_mem _ hy)) h2
    have h4 := hm x (List.mem_cons_self ..) r h1
    have h5 := TJ r a
    rw [List.length_cons,Nat.succ_mul]
    omega
abbrev Bd (S : List Se) (w : Int) : Prop := min (S.length : Int) 1000 ≤ w
theorem kA {a m b : Nat} {n w : Int} (hb : b ≤ a * m) (hn : min (a : Int) 1000 ≤ n) (hw : (m : Int) ≤ w ∧ m < 1000) : min (b : Int) 1000 ≤ min (n * w) 1000 := by
  have h1 : (b : Int) ≤ (a : Int) * (m : Int) := by exact_mod_cast hb
  rcases Nat.lt_or_ge 1000 a with ha | ha
  · rcases Nat.eq_zero_or_pos m with hm | hm
    · subst hm
      have : b = 0 := by omega
      subst this
      have : (0 : Int) ≤ n * w := Int.mul_nonneg (by omega) (by omega)
      omega
    · have h2 : (1000 : Int) * 1 ≤ n * w := Int.mul_le_mul (by omega) (by omega) (by omega) (by omega)
      omega
  · have h2 : (a : Int) * (m : Int) ≤ n * w := Int.mul_le_mul (by omega) hw.1 (by omega) (by omega)
    omega
section
variable {G : Tr39 → Se → Option (List Se)}
theorem aW {s : Se} : ∀ (l : List Tr39) (c : List Se) (n : Int),(∀ x ∈ l, ∃ S,G x s = some S ∧ KF A7 S ∧ Bd S (wd x)) → KF A7 c → Bd c n →
    ∃ r,J1 (fun x c => (G x s).bind fun r => some (MS A7 c r)) l c = some r ∧ KF A7 r ∧ Bd r ((l.map wd).foldl (wf 4) n)
  | [],c,n,_,hc,hb => ⟨c,rfl,hc,hb⟩
  | x :: l,c,n,h,hc,hb => by
    obtain ⟨S,h1,h2,h3⟩ := h x (List.mem_cons_self ..)
    obtain ⟨r,g1,g2,g3⟩ := aW l (MS A7 c S) (wf 4 n (wd x)) (fun y hy => h y (List.mem_cons_of_mem _ hy)) (Ny LW hc) (by
      have := TJ S c
      show min _ _ ≤ wf 4 n (wd x)
      unfold wf
      rw [if_neg (by decide),if_pos rfl]
      unfold Bd at hb h3
      omega)
    exact ⟨r,by show ((G x s).bind fun r => some (MS A7 c r)).bind _ = _; rw [h1]; exact g1,g2,g3⟩
theorem aL : ∀ (l : List Tr39) (c : List Se) (n : Int),(∀ x ∈ l, ∀ s, ∃ S,G x s = some S ∧ KF A7 S ∧ Bd S (wd x)) → KF A7 c → Bd c n →
    ∃ r,J1 (fun x c => Jj A7 (G x) c []) l c = some r ∧ KF A7 r ∧ Bd r ((l.map wd).foldl (wf 3) n)
  | [],c,n,_,hc,hb => ⟨c,rfl,hc,hb⟩
  | x :: l, c, n, h, hc, hb => by
    have hx := h x (List.mem_cons_self ..)
    obtain ⟨b,hb1⟩ := SP (lt := A7) (f := G x) (l := c) (a := []) LW fun s _ => (hx s).imp fun S h => h.1
    have hA := (JC LW (List.Pairwise.nil) hb1).1
    have hw := m9 x
    have hbd : Bd b (wf 3 n (wd x)) := by
      unfold wf
      rw [if_pos rfl]
      unfold Bd at hb
      by_cases h0 : c = []
      · subst h0
        cases hb1
        have : (0 : Int) ≤ n * wd x := Int.mul_nonneg (by simp at hb; omega) hw.1
        simp only [Bd,List.length_nil]; omega
      · have hc1 : 1 ≤ c.length := by
          cases c with
          | nil => exact absurd rfl h0
          | cons y c => simp
        by_cases h1 : wd x < 1000
        · have h2 := Vr (m := (wd x).toNat) (fun s _ r hr => by
            obtain ⟨S,e1,_,e3⟩ := hx s
            rw [hr] at e1; cases e1
            unfold Bd at e3; omega) hb1
          exact kA (by simpa using h2) hb ⟨by omega,by omega⟩
        · have h2 : (1 : Int) * 1000 ≤ n * wd x := Int.mul_le_mul (by omega) (by omega) (by omega) (by omega)
          show min _ _ ≤ min _ _
          omega
    obtain ⟨r,g1,g2,g3⟩ := aL l b (wf 3 n (wd x)) (fun y hy => h y (List.mem_cons_of_mem _ hy)) hA hbd
    exact ⟨r,by show (Jj A7 (G x) c []).bind _ = _; rw [hb1]; exact g1,g2,g3⟩
end
theorem YU {x : Int} : ∀ (l : List Int) (n : Int),(x ∈ l ∨ x ≤ n) → x ≤ l.foldl (wf 5) n
  | [],n,h => h.resolve_left (by simp)
  | y :: l,n,h => by
    refine YU l _ ?_
    have : wf 5 n y = max n y := by unfold wf; rw [if_neg (by decide),if_neg (by decide)]
    rw [this]
    rcases h with h | h
    · rcases List.mem_cons.1 h with rfl | h
      · right; omega
      · exact .inl h
    · right; omega
theorem eX (p : PK) (f v : Int) : ∃ q,Hq p f v = some q := by
  unfold Hq
  by_cases h : DD f = true
  · have hf : f = 0 ∨ f = 1 ∨ f = 2 ∨ f = 3 := by
      unfold DD at h
      simp at h
      omega
    have ht : ∃ b,H7 f v = some b := by
      unfold H7 IR I5
      by_cases hv : 0 ≤ v
      · rw [if_pos hv]
        rcases hf with rfl | rfl | rfl | rfl <;> exact ⟨_,rfl⟩
      · rw [if_neg hv]; exact ⟨_,rfl⟩
    obtain ⟨b,hb⟩ := ht
    rw [if_pos h,hb]
    cases b with
    | false => exact ⟨_,rfl⟩
    | true => rcases hf with rfl | rfl | rfl | rfl <;> exact ⟨_,rfl⟩
  · rw [if_neg h]; exact ⟨_,rfl⟩
theorem Oo (s : Se) (f v : Int) : ∃ q,EO s f v = some q := by
  obtain ⟨q,hq⟩ := eX s.2 f v
  unfold EO
  rw [hq]
  by_cases h : f = 4
  · rw [if_pos h]; exact ⟨_,rfl⟩
  · rw [if_neg h]; exact ⟨_,rfl⟩
theorem aP : ∀ (n : Nat) (t : Tr39),SizeOf.sizeOf t < n → Fi t → ∀ (sw : Int) (s : Se), ∃ S,Ai n t sw s = some S ∧ KF A7 S ∧ Bd S (wd t)
  | 0,t,h,_,_,_ => absurd h (Nat.not_lt_zero _)
  | n + 1,t,h,hf,sw,s => by
    have hl := hf.len
    have ih : ∀ x ∈ t.un.2.2.2.2, ∀ s, ∃ S,Ai n x sw s = some S ∧ KF A7 S ∧ Bd S (wd x) := fun x hx s => aP n x (by have := Vy hx; omega) (hf.ch hx) sw s
    have hk := hf.kind
    have hwd := OD t
    show ∃ S,AU (Ai n) t sw s = some S ∧ _
    have hk5 : t.un.1 = 1 ∨ t.un.1 = 2 ∨ t.un.1 = 3 ∨ t.un.1 = 4 ∨ t.un.1 = 5 := by omega
    rcases hk5 with k | k | k | k | k
    · rw [if_neg (by omega)] at hwd
      refine ⟨_,wO _ sw k hf.q s, ?_⟩
      split
      · exact ⟨by simp [KF],by rw [hwd]; show min ((1 : Nat) : Int) 1000 ≤ 1; decide⟩
      · exact ⟨by simp [KF],by rw [hwd]; show min ((0 : Nat) : Int) 1000 ≤ 1; decide⟩
    · rw [if_neg (by omega)] at hwd
      obtain ⟨q,hq2⟩ := Oo s t.un.2.2.1 t.un.2.2.2.1
      exact ⟨[q],sV _ sw k hq2,by simp [KF],by rw [hwd]; show min ((1 : Nat) : Int) 1000 ≤ 1; decide⟩
    · rw [if_pos (by omega),k] at hwd
      obtain ⟨r,g1,g2,g3⟩ := aL (G := fun x s => Ai n x sw s) t.un.2.2.2.2 [s] 1 ih (by simp [KF]) (by show min ((1 : Nat) : Int) 1000 ≤ 1; decide)
      exact ⟨r,vD _ sw k (by omega) g1,g2,by rw [hwd]; exact g3⟩
    · rw [if_pos (by omega),k] at hwd
      obtain ⟨r,g1,g2,g3⟩ := aW (G := fun x s => Ai n x sw s) (s := s) t.un.2.2.2.2 [] 0 (fun x hx => ih x hx s) (by simp [KF]) (by show min ((0 : Nat) : Int) 1000 ≤ 0; decide)
      exact ⟨r,tK _ sw k (by omega) g1,g2,by rw [hwd]; exact g3⟩
    · rw [if_pos (by omega),k] at hwd
      have hlen : t.un.2.2.2.2.length = 2 := hf.two k
      have hi : (if HR (sw,s.1,s.2) t.un.2.1 = true then 0 else 1) < t.un.2.2.2.2.length := by split <;> omega
      obtain ⟨S,g1,g2,g3⟩ := ih _ (List.getElem_mem hi) s
      refine ⟨S,sH _ sw k hf.q hlen (List.getElem?_eq_getElem hi) g1,g2, ?_⟩
      have := YU (x := wd t.un.2.2.2.2[if HR (sw,s.1,s.2) t.un.2.1 = true then 0 else 1]) (t.un.2.2.2.2.map wd) (w0 5) (.inl (List.mem_map.2 ⟨_,List.getElem_mem hi,rfl⟩))
      rw [hwd]
      exact Int.le_trans g3 this
theorem Zc {n : Nat} {t : Tr39} {sw : Int} {s : Se} {S : List Se} (h : Ai n t sw s = some S) : Gw t sw s = some S := C7 (g := fun n => Ai n t sw s) (fun n r h => GO n t sw s r h) h
theorem XP {W : List Se} (hl : W.length ≤ 1000000000) : JP W W = some true := by
  have st : ∀ (k : Nat) (h : k < W.length),Gi W W (k : Int) = some (.inl ((k + 1 : Nat) : Int)) := fun k h => by
    have hk : W[k]? = some W[k] := List.getElem?_eq_getElem h
    rw [Gi,if_pos (by omega),Bh hk,Option.bind_some,Option.bind_some,if_neg (by simp)]
    rw [Ab ⟨by omega,by omega⟩]; rfl
  have go : ∀ (d k : Nat),k + d = W.length → Ac (Gi W W) (k : Int) = some (.inl ()) := fun d => by
    induction d with
    | zero => intro k h; exact Af (by rw [Gi,if_neg (by omega)])
    | succ d ih => intro k h; rw [AH (st k (by omega))]; exact ih (k + 1) (by omega)
  unfold JP
  rw [if_neg (fun h => h rfl),show Ac (Gi W W) 0 = some (.inl ()) from go W.length 0 (by omega)]
  rfl
end Go.Proofs.YtgoifghhcekahaaGreatDoor
namespace Go.Proofs.YtgoifghhcekahaaGreatDoor
set_option linter.unusedVariables false
set_option linter.unusedSimpArgs false
open Go Go.RowKit
abbrev Alk (t : Tr36) (a b : Int × Int × PK) (f : Int) : Prop := ∀ v ∈ E9 f t, ¬ (gt a f ≠ gt b f ∧ (gt a f = v ∨ gt b f = v))
theorem Sm {a b : Int × Int × PK} : ∀ (n : Nat) (t : Tr36),SizeOf.sizeOf t < n → (∀ f,0 ≤ f → f ≤ 5 → Alk t a b f) → HR a t = HR b t
  | 0,t,h,_ => absurd h (Nat.not_lt_zero _)
  | n + 1,t,h,H => by
    have hx : t.un.2.2.2.map (HR a) = t.un.2.2.2.map (HR b) := List.map_congr_left fun x hm => Sm n x (by have := OO hm; omega) fun f f0 f5 v hv => H f f0 f5 v (by
      rw [H2]
      exact List.mem_append_right _ (List.mem_flatten.2 ⟨_,List.mem_map.2 ⟨x,hm,rfl⟩,hv⟩))
    rw [Kl,Kl,hx]
    unfold Re
    by_cases c3 : t.un.1 = 3
    · have c1 : ¬ t.un.1 = 1 := by omega
      simp only [if_neg c1,if_pos c3]
      refine decide_eq_decide.2 ⟨fun ⟨k,e⟩ => ⟨k, ?_⟩,fun ⟨k,e⟩ => ⟨k, ?_⟩⟩
      · have hm : t.un.2.2.1 ∈ E9 t.un.2.1 t := by rw [H2,if_pos ⟨c3,rfl⟩]; simp
        have := H t.un.2.1 k.1 k.2 _ hm
        exact Classical.byContradiction fun hn => this ⟨fun e2 => hn (e2.symm.trans e),.inl e⟩
      · have hm : t.un.2.2.1 ∈ E9 t.un.2.1 t := by rw [H2,if_pos ⟨c3,rfl⟩]; simp
        have := H t.un.2.1 k.1 k.2 _ hm
        exact Classical.byContradiction fun hn => this ⟨fun e2 => hn (e2.trans e),.inr e⟩
    · rw [if_neg c3,if_neg c3]
theorem SJ {f v : Int} {t : Tr36} : v ∈ E9 f t ↔ (t.un.1 = 3 ∧ t.un.2.1 = f ∧ t.un.2.2.1 = v) ∨ ∃ x ∈ t.un.2.2.2,v ∈ E9 f x := by
  rw [H2,List.mem_append]
  refine or_congr ?_ ?_
  · by_cases c : t.un.1 = 3 ∧ t.un.2.1 = f
    · rw [if_pos c,List.mem_singleton]
      exact ⟨fun h => ⟨c.1,c.2,h.symm⟩,fun h => h.2.2.symm⟩
    · rw [if_neg c]
      exact ⟨fun h => absurd h (List.not_mem_nil),fun h => absurd ⟨h.1,h.2.1⟩ c⟩
  · rw [List.mem_flatten]
    constructor
    · rintro ⟨l,hl,hv⟩
      obtain ⟨x,hx,rfl⟩ := List.mem_map.1 hl
      exact ⟨x,hx,hv⟩
    · rintro ⟨x,hx,hv⟩
      exact ⟨_,List.mem_map.2 ⟨x,hx,rfl⟩,hv⟩
theorem Kk {f v k : Int} (hk : k ≠ 3) : v ∉ E9 f (Tr36.mk k 0 0 []) := fun h => by
  rcases SJ.1 h with h | ⟨x,hx,_⟩
  · exact hk h.1
  · exact absurd hx (List.not_mem_nil)
theorem Zp (f v sw : Int) : ∀ (n : Nat) (t : Tr36),SizeOf.sizeOf t < n → v ∈ E9 f (ct sw t) → v ∈ E9 f t
  | 0,t,h,_ => absurd h (Nat.not_lt_zero _)
  | n + 1, t, h, hv => by
    have ch : ∀ x ∈ t.un.2.2.2.map (ct sw),v ∈ E9 f x → v ∈ E9 f t := fun x hx hv => by
      obtain ⟨y,hy,rfl⟩ := List.mem_map.1 hx
      exact SJ.2 (.inr ⟨y,hy,Zp f v sw n y (by have := OO hy; omega) hv⟩)
    have mk : ∀ k f0 v0 L,(k = 3 → t.un.1 = 3 ∧ t.un.2.1 = f0 ∧ t.un.2.2.1 = v0) → (∀ x ∈ L,x ∈ t.un.2.2.2.map (ct sw)) → v ∈ E9 f (Tr36.mk k f0 v0 L) → v ∈ E9 f t := fun k f0 v0 L h1 h2 hv => by
      rcases SJ.1 hv with hv | ⟨x,hx,hv⟩
      · obtain ⟨a,b,c⟩ := h1 hv.1
        exact SJ.2 (.inl ⟨a,b.trans hv.2.1,c.trans hv.2.2⟩)
      · exact ch x (h2 x hx) hv
    have smp' : ∀ k a d : Int,k ≠ 3 → a ≠ 3 → d ≠ 3 → v ∈ E9 f (Yu k (t.un.2.2.2.map (ct sw)) a d) → v ∈ E9 f t := fun k a d hk ha hd hv => by
      unfold Yu at hv
      split at hv
      · exact absurd hv (Kk hd)
      · split at hv
        · exact absurd hv (Kk ha)
        · rename_i x hx
          exact ch x (List.mem_filter.1 (by rw [hx]; exact List.mem_cons_self .. : x ∈ (t.un.2.2.2.map (ct sw)).filter _)).1 hv
        · rename_i x y R hx
          exact mk _ _ _ _ (fun h => absurd h hk) (fun z hz => (List.mem_filter.1 (by rw [hx]; exact hz : z ∈ (t.un.2.2.2.map (ct sw)).filter _)).1) hv
    rw [Y7] at hv
    unfold pF at hv
    split at hv
    · rename_i k3
      split at hv
      · split at hv
        · exact absurd hv (Kk (by decide))
        · exact absurd hv (Kk (by decide))
      · exact mk _ _ _ _ (fun _ => ⟨k3,rfl,rfl⟩) (fun _ h => h) hv
    · split at hv
      · rename_i k3 k4
        unfold vZ at hv
        split at hv
        · rename_i c hc
          split at hv
          · exact absurd hv (Kk (by decide))
          · split at hv
            · exact absurd hv (Kk (by decide))
            · exact mk _ _ _ _ (fun h => absurd h k3) (fun x hx => by rw [hc]; exact hx) hv
        · exact mk _ _ _ _ (fun h => absurd h k3) (fun _ h => h) hv
      · split at hv
        · exact smp' _ _ _ (by omega) (by decide) (by decide) hv
        · split at hv
          · exact smp' _ _ _ (by omega) (by decide) (by decide) hv
          · rename_i k3 _ _ _
            exact mk _ _ _ _ (fun h => absurd h k3) (fun _ h => h) hv
theorem Wg {o sw q : Int} {p : PK} {x t : Tr36} (g : Gd q p sw x t) : HR (o,q,p) x = HR (sw,q,p) t := by
  rw [← g.same]
  refine Sm (SizeOf.sizeOf x + 1) x (by omega) fun f h0 h5 v hv => ?_
  by_cases c : f = 5
  · rw [c,g.none] at hv; exact absurd hv (List.not_mem_nil)
  · intro hh
    refine hh.1 ?_
    unfold gt
    simp only [if_neg c]
structure Pt (x t : Tr39) : Prop where
  fit : Hh x = true
  deep : dq x ≤ dq t
  size : sz x ≤ sz t
  wide : wd x ≤ wd t
  none : ∀ v,v ∉ us 5 x
  sub : ∀ f v,v ∈ us f x → v ∈ us f t
theorem wf_mono {k n m w w' : Int} (h0 : 0 ≤ n) (h : n ≤ m) (hw : 0 ≤ w) (h' : w ≤ w') : 0 ≤ wf k n w ∧ wf k n w ≤ wf k m w' := by
  unfold wf
  split
  · have h1 : 0 ≤ n * w := Int.mul_nonneg h0 hw
    have h2 : n * w ≤ m * w' := Int.mul_le_mul h h' hw (by omega)
    omega
  · split <;> omega
theorem Sn (k : Int) (g : Tr39 → Tr39) : ∀ (L : List Tr39) (n m : Int),0 ≤ n → n ≤ m → (∀ x ∈ L,wd (g x) ≤ wd x) → ((L.map g).map wd).foldl (wf k) n ≤ (L.map wd).foldl (wf k) m
  | [],n,m,_,h,_ => h
  | x :: L,n,m,h0,h,hx => by
    have := wf_mono (k := k) h0 h (m9 (g x)).1 (hx x (List.mem_cons_self ..))
    exact Sn k g L _ _ this.1 this.2 fun y hy => hx y (List.mem_cons_of_mem _ hy)
theorem Xs (sw : Int) : ∀ (n : Nat) (t : Tr39),SizeOf.sizeOf t < n → Hh t = true → Pt (at' sw t) t
  | 0,t,h,_ => absurd h (Nat.not_lt_zero _)
  | n + 1, t, h, hf => by
    obtain ⟨⟨⟨h1,hz⟩,ho⟩,h2⟩ := (Fk t).1 hf
    have IH : ∀ x ∈ t.un.2.2.2.2,Pt (at' sw x) x := fun x hx => Xs sw n x (by have := Vy hx; omega) (h2 x hx)
    have hl1 := h1
    unfold FX at h1
    have gd : t.un.1 = 1 ∨ t.un.1 = 5 → Gd 0 (0,0,0,0) sw (ct sw t.un.2.1) t.un.2.1 := fun c => Po 0 (0,0,0,0) sw (SizeOf.sizeOf t.un.2.1 + 1) t.un.2.1 (by omega) (ho c).1
    have hpO : t.un.1 = 1 ∨ t.un.1 = 5 → Mz (cp sw t.un.1 t.un.2.1) 64 8 := fun c => by
      unfold cp
      rw [if_pos c]
      have g := gd c
      have := (ho c).2
      exact ⟨g.fit,by have := g.deep; omega,by have := g.size; omega⟩
    have hpN : ¬ (t.un.1 = 1 ∨ t.un.1 = 5) → cp sw t.un.1 t.un.2.1 = ZP := fun c => by
      unfold cp
      rw [if_neg c]
      exact hz (by omega)
    have hpC : (if t.un.1 < 2 ∨ 4 < t.un.1 then (cp sw t.un.1 t.un.2.1).cnt else 0) ≤ (if t.un.1 < 2 ∨ 4 < t.un.1 then t.un.2.1.cnt else 0) := by
      by_cases c : t.un.1 = 1 ∨ t.un.1 = 5
      · rw [if_pos (by omega),if_pos (by omega)]
        unfold cp
        rw [if_pos c]
        exact (gd c).size
      · rw [if_neg (by omega),if_neg (by omega)]; exact Nat.le_refl _
    have hp5 : ∀ v,v ∉ E9 5 (cp sw t.un.1 t.un.2.1) := fun v hv => by
      by_cases c : t.un.1 = 1 ∨ t.un.1 = 5
      · unfold cp at hv
        rw [if_pos c,(gd c).none] at hv
        exact absurd hv (List.not_mem_nil)
      · rw [hpN c] at hv
        exact absurd hv (Kk (by decide))
    have hpS : ∀ f v,v ∈ E9 f (cp sw t.un.1 t.un.2.1) → v ∈ E9 f t.un.2.1 := fun f v hv => by
      unfold cp at hv
      split at hv
      · exact Zp f v sw (SizeOf.sizeOf t.un.2.1 + 1) t.un.2.1 (by omega) hv
      · exact hv
    have M : Pt (.mk t.un.1 (cp sw t.un.1 t.un.2.1) t.un.2.2.1 t.un.2.2.2.1 (t.un.2.2.2.2.map (at' sw))) t := by
      refine ⟨(Fk _).2 ⟨⟨⟨?_,fun c => hpN (by show ¬ (t.un.1 = 1 ∨ t.un.1 = 5); have c : t.un.1 = 2 ∨ t.un.1 = 3 ∨ t.un.1 = 4 := c; omega)⟩,hpO⟩,fun x hx => ?_⟩, ?_, ?_, ?_,fun v hv => ?_,fun f v hv => ?_⟩
      · show FX t.un.1 t.un.2.2.1 t.un.2.2.2.1 (t.un.2.2.2.2.map (at' sw)).length
        rw [List.length_map]; exact hl1
      · obtain ⟨y,hy,rfl⟩ := List.mem_map.1 (show x ∈ t.un.2.2.2.2.map (at' sw) from hx)
        exact (IH y hy).fit
      · rw [RV,RV t]
        refine Nat.add_le_add_left (PO fun a ha => ?_) 1
        obtain ⟨x,hx,rfl⟩ := List.mem_map.1 ha
        obtain ⟨y,hy,rfl⟩ := List.mem_map.1 (show x ∈ t.un.2.2.2.2.map (at' sw) from hx)
        exact Nat.le_trans (IH y hy).deep (RM (List.mem_map.2 ⟨y,hy,rfl⟩))
      · rw [Ox,Ox t]
        have hs := sum_mono' (g := fun x => sz (at' sw x)) (h := sz) t.un.2.2.2.2 fun x hx => (IH x hx).size
        have e : ((t.un.2.2.2.2.map (at' sw)).map sz).sum = (t.un.2.2.2.2.map fun x => sz (at' sw x)).sum := by rw [List.map_map]; rfl
        show 1 + (if t.un.1 < 2 ∨ 4 < t.un.1 then (cp sw t.un.1 t.un.2.1).cnt else 0) + ((t.un.2.2.2.2.map (at' sw)).map sz).sum ≤ _
        rw [e]
        omega
      · rw [OD,OD t]
        show (if 3 ≤ t.un.1 ∧ t.un.1 ≤ 5 then ((t.un.2.2.2.2.map (at' sw)).map wd).foldl (wf t.un.1) (w0 t.un.1) else 1) ≤ _
        by_cases c : 3 ≤ t.un.1 ∧ t.un.1 ≤ 5
        · rw [if_pos c,if_pos c]
          exact Sn t.un.1 (at' sw) t.un.2.2.2.2 _ _ (by unfold w0; split <;> decide) (Int.le_refl _) fun x hx => (IH x hx).wide
        · rw [if_neg c,if_neg c]; exact Int.le_refl _
      · rcases Lb.1 hv with hv | hv | ⟨x,hx,hv⟩
        · exact hp5 v hv
        · have hv : t.un.1 = 2 ∧ t.un.2.2.1 = 5 ∧ t.un.2.2.2.1 = v := hv
          have := (h1.2.2.2.1 hv.1)
          omega
        · obtain ⟨y,hy,rfl⟩ := List.mem_map.1 (show x ∈ t.un.2.2.2.2.map (at' sw) from hx)
          exact (IH y hy).none v hv
      · rcases Lb.1 hv with hv | hv | ⟨x,hx,hv⟩
        · exact Lb.2 (.inl (hpS f v hv))
        · exact Lb.2 (.inr (.inl hv))
        · obtain ⟨y,hy,rfl⟩ := List.mem_map.1 (show x ∈ t.un.2.2.2.2.map (at' sw) from hx)
          exact Lb.2 (.inr (.inr ⟨y,hy,(IH y hy).sub f v hv⟩))
    have one : ∀ x ∈ t.un.2.2.2.2,t.un.1 = 5 → Pt (at' sw x) t := fun x hx k => by
      have p := IH x hx
      refine ⟨p.fit, ?_, ?_, ?_,p.none,fun f v hv => Lb.2 (.inr (.inr ⟨x,hx,p.sub f v hv⟩))⟩
      · rw [RV t]
        have := RM (List.mem_map.2 ⟨x,hx,rfl⟩ : dq x ∈ t.un.2.2.2.2.map dq)
        have := p.deep
        omega
      · rw [Ox t]
        have := Kh (g := sz) hx
        have := p.size
        omega
      · rw [OD t,if_pos (by omega),k]
        exact Int.le_trans p.wide (YU _ _ (.inl (List.mem_map.2 ⟨x,hx,rfl⟩)))
    rw [Xi]
    unfold cR
    split
    · rename_i a b hab
      obtain ⟨x,y,hxy⟩ : ∃ x y,t.un.2.2.2.2 = [x,y] := Wa (by have := congrArg List.length hab; rw [List.length_map] at this; exact this)
      rw [hxy] at hab
      obtain ⟨e1,e2⟩ := List.cons.inj (show at' sw x :: [at' sw y] = [a,b] from hab)
      obtain ⟨e2,_⟩ := List.cons.inj e2
      subst e1 e2
      split
      · rename_i c; exact one x (by rw [hxy]; exact List.mem_cons_self ..) c.1
      · split
        · rename_i c; exact one y (by rw [hxy]; exact List.mem_cons_of_mem _ (List.mem_cons_self ..)) c.1
        · rw [hxy] at M; exact M
    · exact M
theorem Oe {α β σ : Type} (g : β → α) (F : α → σ → Option σ) : ∀ (l : List β) (c : σ),J1 F (l.map g) c = J1 (fun x => F (g x)) l c
  | [],c => rfl
  | x :: l,c => by
    show (F (g x) c).bind _ = (F (g x) c).bind _
    congr 1
    funext c'
    exact Oe g F l c'
theorem KW {α σ : Type} {F F' : α → σ → Option σ} : ∀ (l : List α) (c : σ),(∀ x ∈ l, ∀ c,F x c = F' x c) → J1 F l c = J1 F' l c
  | [],c,_ => rfl
  | x :: l,c,h => by
    show (F x c).bind _ = (F' x c).bind _
    rw [h x (List.mem_cons_self ..)]
    congr 1
    funext c'
    exact KW l c' fun y hy => h y (List.mem_cons_of_mem _ hy)
theorem YX (sw o : Int) : ∀ (n : Nat) (t : Tr39),SizeOf.sizeOf t < n → t.cnt ≤ 1048576 → Hh t = true → Ai n (at' sw t) o = Ai n t sw
  | 0,t,h,_,_ => absurd h (Nat.not_lt_zero _)
  | n + 1, t, h, hc, hf => by
    obtain ⟨⟨⟨h1,hz⟩,ho⟩,h2⟩ := (Fk t).1 hf
    unfold FX at h1
    have hfi := bX (SizeOf.sizeOf t + 1) t (by omega) hc hf
    have E : ∀ x ∈ t.un.2.2.2.2,Ai n (at' sw x) o = Ai n x sw := fun x hx => YX sw o n x (by have := Vy hx; omega) (Nat.le_trans (cP hx) hc) (h2 x hx)
    have tot : ∀ x ∈ t.un.2.2.2.2, ∀ s, ∃ S,Ai n x sw s = some S ∧ KF A7 S ∧ Bd S (wd x) := fun x hx s => aP n x (by have := Vy hx; omega) (hfi.ch hx) sw s
    have hq := qP t
    have hll := lP t
    have gd : ∀ s : Se,t.un.1 = 1 ∨ t.un.1 = 5 → Gd s.1 s.2 sw (ct sw t.un.2.1) t.un.2.1 := fun s c => Po s.1 s.2 sw (SizeOf.sizeOf t.un.2.1 + 1) t.un.2.1 (by omega) (ho c).1
    have hcp : (cp sw t.un.1 t.un.2.1).cnt ≤ 1048576 := by
      unfold cp
      by_cases c : t.un.1 = 1 ∨ t.un.1 = 5
      · rw [if_pos c]
        have := (gd (0,0,0,0,0) c).size
        omega
      · rw [if_neg c]; omega
    funext s
    rw [Xi]
    by_cases k5 : t.un.1 = 5
    · obtain ⟨x,y,hxy⟩ := Wa (hfi.two k5)
      have hx : x ∈ t.un.2.2.2.2 := by rw [hxy]; exact List.mem_cons_self ..
      have hy : y ∈ t.un.2.2.2.2 := by rw [hxy]; exact List.mem_cons_of_mem _ (List.mem_cons_self ..)
      have hh := Wg (o := o) (gd s (.inr k5))
      have hcp1 : cp sw t.un.1 t.un.2.1 = ct sw t.un.2.1 := if_pos (.inr k5)
      have T : ∀ (i : Nat) (z : Tr39),(if HR (sw,s.1,s.2) t.un.2.1 = true then 0 else 1) = i → t.un.2.2.2.2[i]? = some z → z ∈ t.un.2.2.2.2 → Ai (n + 1) t sw s = Ai n z sw s := fun i z hi hz hm => by
        obtain ⟨S,g1,_⟩ := tot z hm s
        rw [g1]
        exact sH (Ai n) (t := t) sw k5 hfi.q (hfi.two k5) (by rw [hi]; exact hz) g1
      have up : ∀ z ∈ t.un.2.2.2.2,Ai (n + 1) (at' sw z) o s = Ai n z sw s := fun z hz => by
        obtain ⟨S,g1,_⟩ := tot z hz s
        rw [g1]
        exact GO n (at' sw z) o s S (by rw [E z hz]; exact g1)
      rw [hxy,hcp1]
      show Ai (n + 1) (if t.un.1 = 5 ∧ (ct sw t.un.2.1).un.1 = 1 then at' sw x else if t.un.1 = 5 ∧ (ct sw t.un.2.1).un.1 = 2 then at' sw y else .mk t.un.1 (ct sw t.un.2.1) t.un.2.2.1 t.un.2.2.2.1 [at' sw x,at' sw y]) o s = _
      split
      · rename_i c
        have hl := Km (gd s (.inr k5)).fit (.inl rfl) c.2
        rw [hl,Ol] at hh
        rw [up x hx,T 0 x (by rw [if_pos hh.symm]) (by rw [hxy]; rfl) hx]
      · split
        · rename_i c
          have hl := Km (gd s (.inr k5)).fit (.inr rfl) c.2
          rw [hl,Oy] at hh
          rw [up y hy,T 1 y (by rw [← hh]; rfl) (by rw [hxy]; rfl) hy]
        · by_cases hv : HR (sw,s.1,s.2) t.un.2.1 = true
          · obtain ⟨S,g1,_⟩ := tot x hx s
            rw [T 0 x (if_pos hv) (by rw [hxy]; rfl) hx,g1]
            exact sH (Ai n) (t := .mk t.un.1 (ct sw t.un.2.1) t.un.2.2.1 t.un.2.2.2.1 [at' sw x,at' sw y]) (x := at' sw x) o k5 (by rw [← hcp1]; exact hcp) rfl (by
              show ([at' sw x,at' sw y] : List Tr39)[if HR (o,s.1,s.2) (ct sw t.un.2.1) = true then 0 else 1]? = _
              rw [hh,if_pos hv]; rfl) (by rw [E x hx]; exact g1)
          · obtain ⟨S,g1,_⟩ := tot y hy s
            rw [T 1 y (if_neg hv) (by rw [hxy]; rfl) hy,g1]
            exact sH (Ai n) (t := .mk t.un.1 (ct sw t.un.2.1) t.un.2.2.1 t.un.2.2.2.1 [at' sw x,at' sw y]) (x := at' sw y) o k5 (by rw [← hcp1]; exact hcp) rfl (by
              show ([at' sw x,at' sw y] : List Tr39)[if HR (o,s.1,s.2) (ct sw t.un.2.1) = true then 0 else 1]? = _
              rw [hh,if_neg hv]; rfl) (by rw [E y hy]; exact g1)
    · rw [Ug k5]
      have hk : t.un.1 = 1 ∨ t.un.1 = 2 ∨ t.un.1 = 3 ∨ t.un.1 = 4 := by omega
      show AU (Ai n) (.mk t.un.1 (cp sw t.un.1 t.un.2.1) t.un.2.2.1 t.un.2.2.2.1 (t.un.2.2.2.2.map (at' sw))) o s = AU (Ai n) t sw s
      rcases hk with k | k | k | k
      · rw [wO (Ai n) sw k hfi.q s,wO (Ai n) (t := .mk t.un.1 (cp sw t.un.1 t.un.2.1) t.un.2.2.1 t.un.2.2.2.1 (t.un.2.2.2.2.map (at' sw))) o k hcp s]
        have hh := Wg (o := o) (gd s (.inl k))
        have hcp1 : cp sw t.un.1 t.un.2.1 = ct sw t.un.2.1 := if_pos (.inl k)
        show some (if HR (o,s.1,s.2) (cp sw t.un.1 t.un.2.1) = true then [s] else []) = _
        rw [hcp1,hh]
      · obtain ⟨q,hq2⟩ := Oo s t.un.2.2.1 t.un.2.2.2.1
        rw [sV (Ai n) sw k hq2,sV (Ai n) (t := .mk t.un.1 (cp sw t.un.1 t.un.2.1) t.un.2.2.1 t.un.2.2.2.1 (t.un.2.2.2.2.map (at' sw))) o k hq2]
      · obtain ⟨r,g1,_⟩ := aL (G := fun x s => Ai n x sw s) t.un.2.2.2.2 [s] 1 tot (by simp [KF]) (by show min ((1 : Nat) : Int) 1000 ≤ 1; decide)
        rw [vD (Ai n) sw k (by omega) g1]
        exact vD (Ai n) (t := .mk t.un.1 (cp sw t.un.1 t.un.2.1) t.un.2.2.1 t.un.2.2.2.1 (t.un.2.2.2.2.map (at' sw))) o k (by show (t.un.2.2.2.2.map (at' sw)).length ≤ _; rw [List.length_map]; omega) (by
          show J1 _ (t.un.2.2.2.2.map (at' sw)) [s] = _
          rw [Oe, ← g1]
          exact KW _ _ fun x hx c => by rw [E x hx])
      · obtain ⟨r,g1,_⟩ := aW (G := fun x s => Ai n x sw s) (s := s) t.un.2.2.2.2 [] 0 (fun x hx => tot x hx s) (by simp [KF]) (by show min ((0 : Nat) : Int) 1000 ≤ 0; decide)
        rw [tK (Ai n) sw k (by omega) g1]
        exact tK (Ai n) (t := .mk t.un.1 (cp sw t.un.1 t.un.2.1) t.un.2.2.1 t.un.2.2.2.1 (t.un.2.2.2.2.map (at' sw))) o k (by show (t.un.2.2.2.2.map (at' sw)).length ≤ _; rw [List.length_map]; omega) (by
          show J1 _ (t.un.2.2.2.2.map (at' sw)) [] = _
          rw [Oe, ← g1]
          exact KW _ _ fun x hx c => by rw [E x hx])
theorem Om {p q : Int → Bool} (h : ∀ x,p x = true → q x = true) : ∀ l : List Int,(l.filter p).length ≤ (l.filter q).length
  | [] => Nat.le_refl _
  | x :: l => by
    have ih := Om h l
    by_cases c : p x = true
    · rw [List.filter_cons_of_pos c,List.filter_cons_of_pos (h x c),List.length_cons,List.length_cons]; omega
    · rw [List.filter_cons_of_neg c]
      by_cases c' : q x = true
      · rw [List.filter_cons_of_pos c',List.length_cons]; omega
      · rw [List.filter_cons_of_neg c']; exact ih
theorem WX {x t : Tr39} (h : ∀ f v,v ∈ us f x → v ∈ us f t) : ∀ i,cl x i ≤ cl t i
  | 0 => Int.le_refl _
  | i + 1 => by
    have ih := WX h i
    have b1 := Xf x i
    have hl : len (i : Int) x ≤ len (i : Int) t := Om (fun v hv => by
      simp only [decide_eq_true_eq] at hv ⊢
      exact h _ _ hv) _
    have hm : cl x i * ((len i x : Nat) + 1 : Int) ≤ cl t i * ((len i t : Nat) + 1 : Int) := Int.mul_le_mul ih (by omega) (by omega) (by have := Xf t i; omega)
    show min (cl x i * ((len i x : Nat) + 1 : Int)) 100000 ≤ min (cl t i * ((len i t : Nat) + 1 : Int)) 100000
    omega
theorem SH (p0 : Tr31) (ok0 : p0.cnt ≤ 1048576) (p1 : Int) {A : Prop} (_ : A) (p2 : Int) {B : Prop} (_ : B) (p3 : Int) {C : Prop} (_ : C) (p4 : PK) {D : Prop} (_ : D) : Je p0 p1 p2 p3 p4 = some true := by
  have hm := s8 p0
  unfold Je
  rw [Zi,jH,ZR ok0,Option.bind_some]
  by_cases ok : nP (pm p0)
  case neg => rw [@decide_eq_false _ (_) ok,if_pos (by decide),WC]; rfl
  case pos =>
    have hc := e8 ok
    have hf := ok.1.1
    have g := Xs p1 (SizeOf.sizeOf (pm p0) + 1) (pm p0) (by omega) hf
    have hca := ZH p1 (SizeOf.sizeOf (pm p0) + 1) (pm p0) (by omega) hf
    have may : nP (at' p1 (pm p0)) := ⟨⟨g.fit,by have := g.deep; have := ok.1.2.1; omega,by have := g.size; have := ok.1.2.2; omega⟩,Int.le_trans g.wide ok.2⟩
    obtain ⟨S,s1,s2,s3⟩ := aP (SizeOf.sizeOf (pm p0) + 1) (pm p0) (by omega) (bX (SizeOf.sizeOf (pm p0) + 1) (pm p0) (by omega) (by omega) hf) p1 (p3,p4)
    have hlen : S.length ≤ 1000000000 := by
      have := ok.2
      unfold Bd at s3
      omega
    have s1' : Ai (SizeOf.sizeOf (pm p0) + 1) (at' p1 (pm p0)) p2 (p3,p4) = some S := by
      rw [YX p1 p2 (SizeOf.sizeOf (pm p0) + 1) (pm p0) (by omega) (by omega) hf]; exact s1
    obtain ⟨V,v1,v2,v3⟩ := Pg (t := at' p1 (pm p0)) (by omega) 5
    have hV : V = [] := List.eq_nil_iff_forall_not_mem.2 fun v hv => g.none v ((v3 v).1 hv)
    rw [@decide_eq_true _ (_) ok,if_neg (by decide),cO ok0,Option.bind_some,Lt,M4,oF (by omega),Option.bind_some,Lt,M4,Ze (Zc s1') s2 hlen,Option.bind_some,Ze (Zc s1) s2 hlen,Option.bind_some,XP hlen,Option.bind_some,if_pos rfl,UC (by omega),Option.bind_some, @decide_eq_true _ (_) may,if_pos rfl,v1,Option.bind_some,hV,if_pos (show ((([] : List Int).length : Nat) : Int) = 0 from rfl),S5 (by omega) g.fit,Option.bind_some,S5 (by omega) hf,Option.bind_some,if_pos (WX g.sub 5),WC]
    rfl
end Go.Proofs.YtgoifghhcekahaaGreatDoor
