/- Layer 27: the document's lists of packets. Conditions: none. -/
import Derived.Test.YtpckgggmgijiiaaGreatDooreN27R
namespace Go.Proofs.YtpckgggmgijiiaaGreatDoor
set_option linter.unusedVariables false
set_option linter.unusedSimpArgs false
open Go Go.RowKit
theorem WW (p q : Se) : Kp p q = some (AC p q) := by
  have st : ∀ (i : Nat) (u v : Int) (s : Int),s = (i : Int) → i < 4 → [p.2.1,p.2.2.1,p.2.2.2.1,p.2.2.2.2][i]? = some u → [q.2.1,q.2.2.1,q.2.2.2.1,q.2.2.2.2][i]? = some v → Hl p q s = if u ≠ v then some (.inr (.inr (decide (u < v)))) else some (.inl (s + 1)) := by
    intro i u v s hs hi hu hv
    subst hs
    rw [Hl,if_pos (by omega),A7 hu,Option.bind_some,A7 hv,Option.bind_some]
    have : Aq ((i : Int) + 1) = (i : Int) + 1 := Ad ⟨by omega,by omega⟩
    rw [this]; rfl
  unfold Kp
  by_cases h0 : p.1 ≠ q.1
  · rw [if_pos h0]; simp [GI,h0]
  rw [if_neg h0]
  have e0 := Decidable.not_not.1 h0
  by_cases h1 : p.2.1 ≠ q.2.1
  · rw [An (by rw [st 0 p.2.1 q.2.1 0 rfl (by decide) rfl rfl,if_pos h1])]
    show some _ = _; simp [GI,e0,h1]
  rw [A0 (s' := 1) (by rw [st 0 p.2.1 q.2.1 0 rfl (by decide) rfl rfl,if_neg h1]; rfl)]
  have e1 := Decidable.not_not.1 h1
  by_cases h2 : p.2.2.1 ≠ q.2.2.1
  · rw [An (by rw [st 1 p.2.2.1 q.2.2.1 1 rfl (by decide) rfl rfl,if_pos h2])]
    show some _ = _; simp [GI,e0,e1,h2]
  rw [A0 (s' := 2) (by rw [st 1 p.2.2.1 q.2.2.1 1 rfl (by decide) rfl rfl,if_neg h2]; rfl)]
  have e2 := Decidable.not_not.1 h2
  by_cases h3 : p.2.2.2.1 ≠ q.2.2.2.1
  · rw [An (by rw [st 2 p.2.2.2.1 q.2.2.2.1 2 rfl (by decide) rfl rfl,if_pos h3])]
    show some _ = _; simp [GI,e0,e1,e2,h3]
  rw [A0 (s' := 3) (by rw [st 2 p.2.2.2.1 q.2.2.2.1 2 rfl (by decide) rfl rfl,if_neg h3]; rfl)]
  have e3 := Decidable.not_not.1 h3
  by_cases h4 : p.2.2.2.2 ≠ q.2.2.2.2
  · rw [An (by rw [st 3 p.2.2.2.2 q.2.2.2.2 3 rfl (by decide) rfl rfl,if_pos h4])]
    show some _ = _; simp [GI,e0,e1,e2,e3,h4]
  rw [A0 (s' := 4) (by rw [st 3 p.2.2.2.2 q.2.2.2.2 3 rfl (by decide) rfl rfl,if_neg h4]; rfl)]
  have e4 := Decidable.not_not.1 h4
  rw [An (e := .inl ()) (by rw [Hl,if_neg (by omega)])]
  show some _ = _; simp [GI,e0,e1,e2,e3,e4]
def pf (x : Se) : List Se → Bool → List Se × Bool
  | [],b => ([],b)
  | y :: l,b => if (!(b || decide (y = x)) && AC x y) = true then (x :: y :: (pf x l true).1,(pf x l true).2) else (y :: (pf x l (b || decide (y = x))).1,(pf x l (b || decide (y = x))).2)
theorem UY (x : Se) : ∀ l : List Se,pf x l true = (l,true)
  | [] => rfl
  | y :: l => by
    have ih := UY x l
    simp [pf,ih]
theorem fP (x : Se) : ∀ l : List Se,(if (pf x l false).2 = true then (pf x l false).1 else (pf x l false).1 ++ [x]) = EK AC l x
  | [] => rfl
  | y :: l => by
    have ih := fP x l
    unfold pf EK
    by_cases h1 : AC x y = true
    · have hne : y ≠ x := fun h => by rw [h,KD.irr x] at h1; cases h1
      rw [if_pos h1]
      have hc : (!(false || decide (y = x)) && AC x y) = true := by rw [h1]; simp [hne]
      rw [if_pos hc,UY]
      rfl
    · have hc : ¬ (!(false || decide (y = x)) && AC x y) = true := by
        intro h; rw [Bool.and_eq_true] at h; exact h1 h.2
      rw [if_neg h1,if_neg hc]
      by_cases h2 : AC y x = true
      · have hne : y ≠ x := fun h => by rw [h,KD.irr x] at h2; cases h2
        have hb : (false || decide (y = x)) = false := by simp [hne]
        rw [if_pos h2,hb, ← ih]
        split <;> simp
      · have he : y = x := KD.tot (by simpa using h2) (by simpa using h1)
        have hb : (false || decide (y = x)) = true := by simp [he]
        rw [if_neg h2,hb,UY]
        rfl
theorem QN (l : List Se) (x : Se) (hl : l.length ≤ 1048576) : ∀ (d k : Nat) (o : List Se) (b : Bool),k + d = l.length → o.length ≤ 2 * k + 1 → Af (HI l x) (o,b,(k : Int)) = some (o ++ (pf x (l.drop k) b).1,(pf x (l.drop k) b).2)
  | 0,k,o,b,hk,ho => by
    have hk : k = l.length := by omega
    subst hk
    rw [List.drop_length]
    show _ = some (o ++ [],b)
    rw [An (e := (o,b)) (by rw [HI,if_neg (by omega)]),List.append_nil]
  | d + 1, k, o, b, hk, ho => by
    have hlt : k < l.length := by omega
    have hx : l[k]? = some l[k] := List.getElem?_eq_getElem hlt
    have hw : Aq ((k : Int) + 1) = ((k + 1 : Nat) : Int) := by rw [Ad ⟨by omega,by omega⟩]; omega
    rw [List.drop_eq_getElem_cons hlt]
    have hq : (if l[k].1 = x.1 ∧ l[k].2.1 = x.2.1 ∧ l[k].2.2.1 = x.2.2.1 ∧ l[k].2.2.2.1 = x.2.2.2.1 ∧ l[k].2.2.2.2 = x.2.2.2.2 then some true else some b) = some (b || decide (l[k] = x)) := by
      by_cases h : l[k] = x
      · rw [if_pos (by rw [h]; exact ⟨rfl,rfl,rfl,rfl,rfl⟩)]; simp [h]
      · rw [if_neg (fun g => h (by simp only [Prod.ext_iff]; exact g))]; simp [h]
    unfold pf
    by_cases h : (!(b || decide (l[k] = x)) && AC x l[k]) = true
    · rw [if_pos h]
      have h' := h; rw [Bool.and_eq_true] at h'
      rw [A0 (s' := ((o ++ [x]) ++ [l[k]],true,((k + 1 : Nat) : Int))) (by
        rw [HI,if_pos (by omega),A7 hx,Option.bind_some,hq,Option.bind_some,if_pos h'.1,Option.bind_some,WW,Option.bind_some,Option.bind_some,if_pos h'.2,Bv (by simp; omega),Option.bind_some,Option.bind_some]
        dsimp only
        rw [Option.bind_some,Bv (by simp; omega),Option.bind_some,hw])]
      rw [QN l x hl d (k + 1) _ true (by omega) (by simp; omega)]
      simp
    · rw [if_neg h]
      rw [A0 (s' := (o ++ [l[k]],(b || decide (l[k] = x)),((k + 1 : Nat) : Int))) (by
        rw [HI,if_pos (by omega),A7 hx,Option.bind_some,hq,Option.bind_some]
        by_cases h1 : (!(b || decide (l[k] = x))) = true
        · have h2 : ¬ AC x l[k] = true := fun g => h (by rw [h1,g]; rfl)
          rw [if_pos h1,Option.bind_some,WW,Option.bind_some,Option.bind_some,if_neg h2,Option.bind_some]
          dsimp only
          rw [Option.bind_some,Bv (by simp; omega),Option.bind_some,hw]
        · rw [if_neg h1,Option.bind_some,if_neg (by decide),Option.bind_some]
          dsimp only
          rw [Option.bind_some,Bv (by simp; omega),Option.bind_some,hw])]
      rw [QN l x hl d (k + 1) _ _ (by omega) (by simp; omega)]
      simp
theorem nQ (l : List Se) (x : Se) (hl : l.length ≤ 1048576) : Mj l x = some (EK AC l x) := by
  unfold Mj
  rw [show ((([] : List Se),false,(0 : Int))) = ([],false,((0 : Nat) : Int)) from rfl,QN l x hl l.length 0 [] false (by omega) (by simp),Option.bind_some,List.drop_zero,List.nil_append, ← fP]
  dsimp only
  cases h : (pf x l false).2 with
  | true => rfl
  | false =>
    have hn : (pf x l false).1.length ≤ 2 * 1048576 := by
      have hg : ∀ (l : List Se) (b : Bool),(pf x l b).1.length ≤ 2 * l.length := by
        intro l
        induction l with
        | nil => intro b; simp [pf]
        | cons y l ih =>
          intro b
          unfold pf
          split
          · have := ih true; simp; omega
          · have := ih (b || decide (y = x)); simp; omega
      have := hg l false; omega
    rw [if_pos (by rfl),Bv (by simp; omega)]; rfl
theorem RV (x : Se) : ∀ l : List Se,(EK AC l x).length ≤ l.length + 1
  | [] => by simp [EK]
  | y :: l => by
    have := RV x l
    unfold EK
    split
    · simp
    · split
      · simp; omega
      · simp
theorem YF : ∀ (b a : List Se),(Iw AC a b).length ≤ a.length + b.length
  | [],a => by simp [Iw]
  | x :: b,a => by
    have h1 := YF b (EK AC a x)
    have h2 := RV x a
    show (Iw AC (EK AC a x) b).length ≤ _
    simp only [List.length_cons]
    omega
theorem TJ (b : List Se) : ∀ (d k : Nat) (c : List Se),k + d = b.length → b.length ≤ 1048576 → c.length + d ≤ 1048576 → Af (Jm b) (c,(k : Int)) = some (Iw AC c (b.drop k))
  | 0,k,c,hk,hb,hc => by
    have hk : k = b.length := by omega
    subst hk
    rw [List.drop_length,An (e := c) (by rw [Jm,if_neg (by omega)])]; rfl
  | d + 1,k,c,hk,hb,hc => by
    have hlt : k < b.length := by omega
    have hw : Aq ((k : Int) + 1) = ((k + 1 : Nat) : Int) := by rw [Ad ⟨by omega,by omega⟩]; omega
    have hl := RV b[k] c
    rw [List.drop_eq_getElem_cons hlt,A0 (s' := (EK AC c b[k],((k + 1 : Nat) : Int))) (by
      rw [Jm,if_pos (by omega),A7 (List.getElem?_eq_getElem hlt),Option.bind_some,nQ _ _ (by omega),Option.bind_some,hw]),TJ b d (k + 1) _ (by omega) hb (by omega)]
    rfl
theorem Ye {a b : List Se} (h : a.length + b.length ≤ 1048576) : Me a b = some (Iw AC a b) := by
  unfold Me
  rw [show ((a,(0 : Int))) = (a,((0 : Nat) : Int)) from rfl,TJ b b.length 0 a (by omega) (by omega) (by omega)]; rfl
theorem ZV (p : Int × Int × Int × Int) (f v : Int) : D0 p f v = H3 p f v := by
  unfold D0 H3 Cv
  by_cases h : 0 ≤ f ∧ f < 4
  · have hf : f = 0 ∨ f = 1 ∨ f = 2 ∨ f = 3 := by omega
    have ht : Ev f v = some (decide (0 ≤ v) && decide (v ≤ E4 f)) := by
      unfold Ev Ga Ge E4
      by_cases hv : 0 ≤ v
      · rw [if_pos hv]
        have e : ∀ a : Int,(decide (0 ≤ v) && decide (v ≤ a)) = decide (v ≤ a) := fun a => by simp [hv]
        rw [e]
        rcases hf with rfl | rfl | rfl | rfl <;> rfl
      · rw [if_neg hv]
        have e : ∀ a : Int,(decide (0 ≤ v) && decide (v ≤ a)) = false := fun a => by simp [hv]
        rw [e]; rfl
    rw [if_pos (by simp [h.1,h.2]),ht,Option.bind_some,Option.bind_some]
    have e : (decide (0 ≤ f) && (decide (f < 4) && (decide (0 ≤ v) && decide (v ≤ E4 f)))) = (decide (0 ≤ v) && decide (v ≤ E4 f)) := by simp [h.1,h.2]
    rw [e]
  · have h1 : (decide (0 ≤ f) && decide (f < 4)) = false := by
      rw [Bool.eq_false_iff]; intro g; rw [Bool.and_eq_true,decide_eq_true_eq,decide_eq_true_eq] at g; exact h g
    have h2 : (decide (0 ≤ f) && (decide (f < 4) && (decide (0 ≤ v) && decide (v ≤ E4 f)))) = false := by rw [← Bool.and_assoc,h1]; rfl
    simp only [h1,h2,Bool.false_eq_true,if_false,Option.bind_some]
theorem wR (x : Tr27) : Tr27.of (x.un.1,f24 x.un.2.1,x.un.2.2.1,x.un.2.2.2.1,x.un.2.2.2.2) = x := by
  obtain ⟨a,⟨b,c,d,e⟩,g,h,i⟩ := x; rfl
theorem WN {f : Tr27 → Int → Int → (Int × Int × Int × Int) → Option (List Se)} {t ch : Tr27} {sw : Int} {l : List Se} {i : Int} {m : Nat} (hch : ix t.un.2.2.2.2 i = some ch) (hl : l.length ≤ 1048576)
    (hm : ∀ s ∈ l, ∀ r,f ch sw s.1 s.2 = some r → r.length ≤ m) : ∀ (d k : Nat) (c S : List Se),k + d = l.length → c.length + d * m ≤ 1048576 → Gj AC (fun s => f ch sw s.1 s.2) (l.drop k) c = some S → Af (FE f t sw l i) (c,(k : Int)) = some S
  | 0,k,c,S,hk,hc,h => by
    have hk : k = l.length := by omega
    subst hk
    rw [List.drop_length] at h
    have h : some c = some S := h
    rw [An (e := c) (by rw [FE,if_neg (by omega)]),h]
  | d + 1,k,c,S,hk,hc,h => by
    have hlt : k < l.length := by omega
    have hw : Aq ((k : Int) + 1) = ((k + 1 : Nat) : Int) := by rw [Ad ⟨by omega,by omega⟩]; omega
    rw [List.drop_eq_getElem_cons hlt] at h
    have h : (f ch sw l[k].1 l[k].2).bind (fun r => Gj AC (fun s => f ch sw s.1 s.2) (l.drop (k + 1)) (Iw AC c r)) = some S := h
    cases hr : f ch sw l[k].1 l[k].2 with
    | none => rw [hr] at h; cases h
    | some r =>
      rw [hr,Option.bind_some] at h
      have hrl := hm _ (List.getElem_mem hlt) r hr
      have hx := A7 (List.getElem?_eq_getElem hlt)
      rw [Nat.succ_mul] at hc
      have hs : (Iw AC c r).length ≤ c.length + r.length := YF r c
      rw [A0 (s' := (Iw AC c r,((k + 1 : Nat) : Int))) (by
        rw [FE,if_pos (by omega),hch,Option.bind_some,hx,Option.bind_some,Option.bind_some,wR,hr,Option.bind_some,Ye (by omega),Option.bind_some,hw])]
      exact WN hch hl hm d (k + 1) _ S (by omega) (by omega) h
theorem Wq {f : Tr27 → Int → Int → (Int × Int × Int × Int) → Option (List Se)} {t : Tr27} {sw : Int} (hl : t.un.2.2.2.2.length ≤ 1048576)
    (hm : ∀ x ∈ t.un.2.2.2.2, ∀ (s : Se) r,f x sw s.1 s.2 = some r → r.length ≤ 1000) : ∀ (d k : Nat) (c S : List Se),k + d = t.un.2.2.2.2.length → (∀ j c',FH (fun x c => Gj AC (fun s => f x sw s.1 s.2) c []) ((t.un.2.2.2.2.drop k).take j) c = some c' → c'.length ≤ 1000) →
      FH (fun x c => Gj AC (fun s => f x sw s.1 s.2) c []) (t.un.2.2.2.2.drop k) c = some S → Af (EV f t sw) (c,(k : Int)) = some (.inl S)
  | 0,k,c,S,hk,hb,h => by
    have hk : k = t.un.2.2.2.2.length := by omega
    rw [hk,List.drop_length] at h
    have h : some c = some S := h
    cases h
    rw [An (e := .inl c) (by rw [EV,if_neg (by omega)])]
  | d + 1,k,c,S,hk,hb,h => by
    have hlt : k < t.un.2.2.2.2.length := by omega
    have hw : Aq ((k : Int) + 1) = ((k + 1 : Nat) : Int) := by rw [Ad ⟨by omega,by omega⟩]; omega
    have hd := List.drop_eq_getElem_cons hlt
    rw [hd] at h hb
    have h : (Gj AC (fun s => f t.un.2.2.2.2[k] sw s.1 s.2) c []).bind (fun c' => FH (fun x c => Gj AC (fun s => f x sw s.1 s.2) c []) (t.un.2.2.2.2.drop (k + 1)) c') = some S := h
    cases hr : Gj AC (fun s => f t.un.2.2.2.2[k] sw s.1 s.2) c [] with
    | none => rw [hr] at h; cases h
    | some c' =>
      rw [hr,Option.bind_some] at h
      have hc : c.length ≤ 1000 := hb 0 c rfl
      rw [A0 (s' := (c',((k + 1 : Nat) : Int))) (by
        rw [EV,if_pos (by omega),show ((([] : List Se),(0 : Int))) = ([],((0 : Nat) : Int)) from rfl,WN (m := 1000) (A7 (List.getElem?_eq_getElem hlt)) (by omega) (fun s _ r => hm _ (List.getElem_mem hlt) s r) c.length 0 [] c' (by omega) (by simp only [List.length_nil]; omega) hr,Option.bind_some,Option.bind_some,hw])]
      refine Wq hl hm d (k + 1) c' S (by omega) (fun j c'' hj => hb (j + 1) c'' ?_) h
      rw [List.take_succ_cons]
      show (Gj AC (fun s => f t.un.2.2.2.2[k] sw s.1 s.2) c []).bind _ = _
      rw [hr]; exact hj
theorem WJ {f : Tr27 → Int → Int → (Int × Int × Int × Int) → Option (List Se)} {t : Tr27} {sw pt : Int} {pk : Int × Int × Int × Int} (hl : t.un.2.2.2.2.length ≤ 1048576)
    (hm : ∀ x ∈ t.un.2.2.2.2, ∀ r,f x sw pt pk = some r → r.length ≤ 1000) : ∀ (d k : Nat) (c S : List Se),k + d = t.un.2.2.2.2.length → (∀ j c',FH (fun x c => (f x sw pt pk).bind fun r => some (Iw AC c r)) ((t.un.2.2.2.2.drop k).take j) c = some c' → c'.length ≤ 1000) →
      FH (fun x c => (f x sw pt pk).bind fun r => some (Iw AC c r)) (t.un.2.2.2.2.drop k) c = some S → Af (EN f t sw pt pk) (c,(k : Int)) = some (.inl S)
  | 0,k,c,S,hk,hb,h => by
    have hk : k = t.un.2.2.2.2.length := by omega
    rw [hk,List.drop_length] at h
    have h : some c = some S := h
    cases h
    rw [An (e := .inl c) (by rw [EN,if_neg (by omega)])]
  | d + 1,k,c,S,hk,hb,h => by
    have hlt : k < t.un.2.2.2.2.length := by omega
    have hw : Aq ((k : Int) + 1) = ((k + 1 : Nat) : Int) := by rw [Ad ⟨by omega,by omega⟩]; omega
    have hd := List.drop_eq_getElem_cons hlt
    rw [hd] at h hb
    have h : ((f t.un.2.2.2.2[k] sw pt pk).bind fun r => some (Iw AC c r)).bind (fun c' => FH (fun x c => (f x sw pt pk).bind fun r => some (Iw AC c r)) (t.un.2.2.2.2.drop (k + 1)) c') = some S := h
    cases hr : f t.un.2.2.2.2[k] sw pt pk with
    | none => rw [hr] at h; cases h
    | some r =>
      rw [hr,Option.bind_some,Option.bind_some] at h
      have hc : c.length ≤ 1000 := hb 0 c rfl
      have hr1 := hm _ (List.getElem_mem hlt) r hr
      rw [A0 (s' := (Iw AC c r,((k + 1 : Nat) : Int))) (by
        rw [EN,if_pos (by omega),A7 (List.getElem?_eq_getElem hlt),Option.bind_some,wR,hr,Option.bind_some,Ye (by omega),Option.bind_some,hw])]
      refine WJ hl hm d (k + 1) _ S (by omega) (fun j c'' hj => hb (j + 1) c'' ?_) h
      rw [List.take_succ_cons]
      show ((f t.un.2.2.2.2[k] sw pt pk).bind fun r => some (Iw AC c r)).bind _ = _
      rw [hr]; exact hj
theorem wU (x : Tr24) : f24 x = x := by cases x; rfl
section
variable {f : Tr27 → Int → Int → (Int × Int × Int × Int) → Option (List Se)} {t : Tr27} {sw : Int} {s : Se} {hv : Bool} (hh : OT t.un.2.1 sw s.1 s.2 = some hv)
include hh
theorem dr1 (hk : t.un.1 = 1) : CI f t sw s.1 s.2 = some (if hv = true then [s] else []) := by
  unfold CI
  rw [wU,hh,Option.bind_some,if_pos hk]
  cases hv with
  | false => rfl
  | true => rw [if_pos rfl,if_pos rfl,Bv (by simp)]; rfl
theorem dr2 (hk : t.un.1 = 2) {q : Se} (ha : Cz s t.un.2.2.1 t.un.2.2.2.1 = some q) : CI f t sw s.1 s.2 = some [q] := by
  unfold CI
  rw [wU,hh,Option.bind_some,if_neg (by omega),if_pos hk]
  unfold Cz at ha
  rw [ZV] at ha
  by_cases h4 : t.un.2.2.1 = 4
  · rw [if_pos h4,Option.bind_some] at ha
    rw [if_pos h4,Option.bind_some]
    cases hw : H3 s.2 t.un.2.2.1 t.un.2.2.2.1 with
    | none => rw [hw] at ha; cases ha
    | some x =>
      rw [hw,Option.bind_some] at ha
      cases ha
      rw [Option.bind_some,Bv (by simp)]; rfl
  · rw [if_neg h4,Option.bind_some] at ha
    rw [if_neg h4,Option.bind_some]
    cases hw : H3 s.2 t.un.2.2.1 t.un.2.2.2.1 with
    | none => rw [hw] at ha; cases ha
    | some x =>
      rw [hw,Option.bind_some] at ha
      cases ha
      rw [Option.bind_some,Bv (by simp)]; rfl
theorem dr3 (hk : t.un.1 = 3) (hl : t.un.2.2.2.2.length ≤ 1048576) (hm : ∀ x ∈ t.un.2.2.2.2, ∀ (s : Se) r,f x sw s.1 s.2 = some r → r.length ≤ 1000)
    (hb : ∀ j c',FH (fun x c => Gj AC (fun s => f x sw s.1 s.2) c []) (t.un.2.2.2.2.take j) [s] = some c' → c'.length ≤ 1000) {S : List Se}
    (h : FH (fun x c => Gj AC (fun s => f x sw s.1 s.2) c []) t.un.2.2.2.2 [s] = some S) : CI f t sw s.1 s.2 = some S := by
  unfold CI
  rw [wU,hh,Option.bind_some,if_neg (by omega),if_neg (by omega),if_pos hk,Bv (by simp),Option.bind_some]
  show Hw (Af (EV f t sw) ([s],((0 : Nat) : Int))) _ = _
  rw [Wq hl hm t.un.2.2.2.2.length 0 [s] S (by omega) (by rw [List.drop_zero]; exact hb) (by rw [List.drop_zero]; exact h)]; rfl
theorem dr4 (hk : t.un.1 = 4) (hl : t.un.2.2.2.2.length ≤ 1048576) (hm : ∀ x ∈ t.un.2.2.2.2, ∀ r,f x sw s.1 s.2 = some r → r.length ≤ 1000)
    (hb : ∀ j c',FH (fun x c => (f x sw s.1 s.2).bind fun r => some (Iw AC c r)) (t.un.2.2.2.2.take j) [] = some c' → c'.length ≤ 1000) {S : List Se}
    (h : FH (fun x c => (f x sw s.1 s.2).bind fun r => some (Iw AC c r)) t.un.2.2.2.2 [] = some S) : CI f t sw s.1 s.2 = some S := by
  unfold CI
  rw [wU,hh,Option.bind_some,if_neg (by omega),if_neg (by omega),if_neg (by omega),if_pos hk]
  show Hw (Af (EN f t sw s.1 s.2) ([],((0 : Nat) : Int))) _ = _
  rw [WJ hl hm t.un.2.2.2.2.length 0 [] S (by omega) (by rw [List.drop_zero]; exact hb) (by rw [List.drop_zero]; exact h)]; rfl
theorem dr5 (hk : t.un.1 = 5) {x : Tr27} (hx : t.un.2.2.2.2[if hv = true then 0 else 1]? = some x) {S : List Se} (hr : f x sw s.1 s.2 = some S) : CI f t sw s.1 s.2 = some S := by
  unfold CI
  rw [wU,hh,Option.bind_some,if_neg (by omega),if_neg (by omega),if_neg (by omega),if_neg (by omega),if_pos hk]
  cases hv with
  | false =>
    rw [if_neg (by decide)] at hx
    rw [if_neg (by decide),show ((1 : Int)) = ((1 : Nat) : Int) from rfl,A7 hx,Option.bind_some,wR,hr]; rfl
  | true =>
    rw [if_pos rfl] at hx
    rw [if_pos rfl,show ((0 : Int)) = ((0 : Nat) : Int) from rfl,A7 hx,Option.bind_some,wR,hr]; rfl
end
end Go.Proofs.YtpckgggmgijiiaaGreatDoor
