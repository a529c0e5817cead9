/- Layer 30: the chapter's example. Conditions: none. -/
import Derived.Test.YtgoifghhcekahaaGreatDooreN30Q
import Derived.Test.YtgoifghhcekahaaGreatDooreN17
namespace Go.Proofs.YtgoifghhcekahaaGreatDoor
set_option linter.unusedVariables false
set_option linter.unusedSimpArgs false
open Go Go.RowKit
def named (t : Tp) (p : Int) : Bool := t.2.1.any (fun l => F2 l p) || t.2.2.any (fun h => G5 h p)
theorem lY {t : Tp} (hl : t.2.1.length ≤ 1000) (hh : t.2.2.length ≤ 1000) (p : Int) : Jb t p = some (named t p) := by
  obtain ⟨i,i1,i2⟩ := Ki t.2.1 (fun l => F2 l p) (B6 t.2.1 p) (fun k hk => by
    rw [B6,if_pos (by omega),Bh (List.getElem?_eq_getElem hk),Option.bind_some,Ab (by omega)]; rfl) (by rw [B6,if_neg (by omega)])
  obtain ⟨j,j1,j2⟩ := Ki t.2.2 (fun h => G5 h p) (Cf t.2.2 p) (fun k hk => by
    rw [Cf,if_pos (by omega),Bh (List.getElem?_eq_getElem hk),Option.bind_some,Ab (by omega)]; rfl) (by rw [Cf,if_neg (by omega)])
  unfold Jb CX Dc C6 Ds named
  rw [i1,j1]
  simp only [Option.bind_some]
  rw [i2,j2]
  cases t.2.1.any fun l => F2 l p with
  | true => rfl
  | false => rfl
abbrev o7 (t : Tp) (x : Tr39) : Prop := (∃ v,v ∈ us 4 x ∧ named t v = false) ∨ ∃ v,v ∈ us 5 x ∧ t.1 ≤ v
theorem oP {t : Tp} (hl : t.2.1.length ≤ 1000) (hh : t.2.2.length ≤ 1000) {x : Tr39} (hc : x.cnt ≤ 1000) (hf : Hh x = true) : ∃ b,G8 t x = some b ∧ (b = true ↔ o7 t x) := by
  obtain ⟨V,v1,v2,v3⟩ := Pg hc 4
  obtain ⟨U,u1,u2,u3⟩ := Pg hc 5
  have lV : V.length ≤ 1000 := by rw [LB hf 4 v2 v3]; exact Nat.le_trans (SY 4 x) (by omega)
  have lU : U.length ≤ 1000 := by rw [LB hf 5 u2 u3]; exact Nat.le_trans (SY 5 x) (by omega)
  obtain ⟨i,i1,i2⟩ := Ki V (fun v => !named t v) (Dw V t) (fun k hk => by
    rw [Dw,if_pos (by omega),Bh (List.getElem?_eq_getElem hk),Option.bind_some]
    unfold HC
    rw [lY hl hh,Option.bind_some,Option.bind_some,Ab (by omega)]; rfl) (by rw [Dw,if_neg (by omega)])
  obtain ⟨j,j1,j2⟩ := Ki U (fun v => E0 v t) (Dd U t) (fun k hk => by
    rw [Dd,if_pos (by omega),Bh (List.getElem?_eq_getElem hk),Option.bind_some,Ab (by omega)]; rfl) (by rw [Dd,if_neg (by omega)])
  refine ⟨(V.any fun v => !named t v) || U.any fun v => E0 v t, ?_, ?_⟩
  · unfold G8 En Fa Eb ED
    rw [Lt,M4,v1,u1]
    simp only [Option.bind_some]
    rw [i1,j1]
    simp only [Option.bind_some]
    rw [i2,j2]
    cases V.any fun v => !named t v with
    | true => rfl
    | false => rfl
  · rw [Bool.or_eq_true,List.any_eq_true,List.any_eq_true]
    refine or_congr ?_ ?_
    · exact ⟨fun ⟨v,h1,h2⟩ => ⟨v,(v3 v).1 h1,by simpa using h2⟩,fun ⟨v,h1,h2⟩ => ⟨v,(v3 v).2 h1,by simpa using h2⟩⟩
    · exact ⟨fun ⟨v,h1,h2⟩ => ⟨v,(u3 v).1 h1,of_decide_eq_true h2⟩,fun ⟨v,h1,h2⟩ => ⟨v,(u3 v).2 h1,decide_eq_true h2⟩⟩
theorem Xe {α : Type} {g h : α → Nat} : ∀ (l : List α),(∀ x ∈ l,g x ≤ 2 * h x) → (l.map g).sum ≤ 2 * (l.map h).sum
  | [],_ => Nat.le_refl _
  | x :: l,hx => by
    have h1 := hx x (List.mem_cons_self ..)
    have h2 := Xe (g := g) (h := h) l fun y hy => hx y (List.mem_cons_of_mem _ hy)
    rw [List.map_cons,List.sum_cons,List.map_cons,List.sum_cons]; omega
theorem YW : ∀ (n : Nat) (t : Tr39),SizeOf.sizeOf t < n → Hh t = true → t.cnt ≤ 2 * sz t
  | 0,t,h,_ => absurd h (Nat.not_lt_zero _)
  | n + 1,t,h,hf => by
    obtain ⟨⟨⟨h1,hz⟩,ho⟩,h2⟩ := (Fk t).1 hf
    unfold FX at h1
    have hs := Xe (g := Tr39.cnt) (h := sz) t.un.2.2.2.2 fun x hx => YW n x (by have := Vy hx; omega) (h2 x hx)
    rw [Qj,Ox]
    by_cases k : t.un.1 < 2 ∨ 4 < t.un.1
    · rw [if_pos k]; omega
    · rw [if_neg k,hz (by omega)]
      have : (ZP).cnt = 1 := by rw [Ja]; rfl
      omega
theorem e8 {t : Tr39} (h : nP t) : t.cnt ≤ 128 := by
  have := YW (SizeOf.sizeOf t + 1) t (by omega) h.1.1
  have := h.1.2.2
  omega
open Classical in
theorem Wa {α : Type} {l : List α} (h : l.length = 2) : ∃ a b,l = [a,b] := by
  match l,h with
  | [a,b],_ => exact ⟨a,b,rfl⟩
def cR (k : Int) (p : Tr36) (f v : Int) (L : List Tr39) : Tr39 :=
  match L with
  | [a,b] => if k = 5 ∧ p.un.1 = 1 then a else if k = 5 ∧ p.un.1 = 2 then b else .mk k p f v [a,b]
  | L => .mk k p f v L
def at' (sw : Int) : Tr39 → Tr39
  | .mk k p f v l => cR k (if k = 1 ∨ k = 5 then ct sw p else p) f v (l.map (at' sw))
abbrev cp (sw : Int) (k : Int) (p : Tr36) : Tr36 := if k = 1 ∨ k = 5 then ct sw p else p
theorem Xi (sw : Int) (t : Tr39) : at' sw t = cR t.un.1 (cp sw t.un.1 t.un.2.1) t.un.2.2.1 t.un.2.2.2.1 (t.un.2.2.2.2.map (at' sw)) := by cases t; rw [at']; rfl
theorem Ug {k : Int} {p : Tr36} {f v : Int} {L : List Tr39} (h : k ≠ 5) : cR k p f v L = .mk k p f v L := by
  unfold cR
  split
  · rw [if_neg (fun hh => h hh.1),if_neg (fun hh => h hh.1)]
  · rfl
theorem r8 (sw : Int) : ∀ (n : Nat) (t : Tr39),SizeOf.sizeOf t < n → t.cnt ≤ 1048576 → Dr n t sw = some (at' sw t)
  | 0,t,h,_ => absurd h (Nat.not_lt_zero _)
  | n + 1, t, h, hc => by
    have hl := lP t
    have hq := qP t
    have hx : ∀ x ∈ t.un.2.2.2.2,Dr n x sw = some (at' sw x) := fun x hm => r8 sw n x (by have := Vy hm; omega) (Nat.le_trans (cP hm) hc)
    have hall : Ac (DK (Dr n) t sw) ([],0) = some (t.un.2.2.2.2.map (at' sw)) := R8 t.un.2.2.2.2 (by omega) (at' sw) (DK (Dr n) t sw) (fun k hk out ho => by
      rw [DK,if_pos (by omega),Bh (List.getElem?_eq_getElem hk),Option.bind_some,Lt,M4,hx _ (List.getElem_mem hk),Option.bind_some,Lt,M4]) (fun out => by rw [DK,if_neg (by omega)])
    show ER (Dr n) t sw = _
    unfold ER
    rw [hall,Xi]
    have e1 : (if (decide (t.un.1 = 1) || decide (t.un.1 = 5)) = true then (J3 (f36 t.un.2.1) sw).bind fun x5 => some (x5.un.1,x5.un.2.1,x5.un.2.2.1,x5.un.2.2.2) else some (t.un.2.1.un.1,t.un.2.1.un.2.1,t.un.2.1.un.2.2.1,t.un.2.1.un.2.2.2)) = some (cp sw t.un.1 t.un.2.1).un := by
      rw [Lt,fA (by omega),Option.bind_some]
      unfold cp
      by_cases c : t.un.1 = 1 ∨ t.un.1 = 5
      · rw [if_pos (by simpa using c),if_pos c]
      · rw [if_neg (by simpa using c),if_neg c]
    rw [e1,Option.bind_some]
    show (if (decide (t.un.1 = 5) && (decide ((t.un.2.2.2.2.length : Int) = 2) && decide ((cp sw t.un.1 t.un.2.1).un.1 = 1))) = true then _ else if (decide (t.un.1 = 5) && (decide ((t.un.2.2.2.2.length : Int) = 2) && decide ((cp sw t.un.1 t.un.2.1).un.1 = 2))) = true then _ else _) = _
    have ofc : Tr36.of ((cp sw t.un.1 t.un.2.1).un.1,(cp sw t.un.1 t.un.2.1).un.2.1,(cp sw t.un.1 t.un.2.1).un.2.2.1,(cp sw t.un.1 t.un.2.1).un.2.2.2) = cp sw t.un.1 t.un.2.1 := Lt _
    generalize cp sw t.un.1 t.un.2.1 = P at ofc ⊢
    by_cases c5 : t.un.1 = 5 ∧ t.un.2.2.2.2.length = 2
    · obtain ⟨a,b,hab⟩ := Wa c5.2
      have ha : Dr n a sw = some (at' sw a) := hx a (by rw [hab]; simp)
      have hb : Dr n b sw = some (at' sw b) := hx b (by rw [hab]; simp)
      rw [hab,show ix [a,b] 0 = some a from Bh (k := 0) rfl,show ix [a,b] 1 = some b from Bh (k := 1) rfl]
      simp only [Option.bind_some]
      rw [Lt,M4,Lt,M4,ha,hb]
      simp only [Option.bind_some]
      show _ = some (cR t.un.1 P t.un.2.2.1 t.un.2.2.2.1 [at' sw a,at' sw b])
      unfold cR
      dsimp only
      by_cases p1 : P.un.1 = 1
      · rw [if_pos (by simp [c5.1,p1]),if_pos ⟨c5.1,p1⟩,Lt,M4]
      rw [if_neg (by simp [p1]),if_neg (show ¬ (t.un.1 = 5 ∧ P.un.1 = 1) from fun h => p1 h.2)]
      by_cases p2 : P.un.1 = 2
      · rw [if_pos (by simp [c5.1,p2]),if_pos (show t.un.1 = 5 ∧ P.un.1 = 2 from ⟨c5.1,p2⟩),Lt,M4]
      rw [if_neg (by simp [p2]),if_neg (show ¬ (t.un.1 = 5 ∧ P.un.1 = 2) from fun h => p2 h.2)]
      show some (Tr39.of (t.un.1,Tr36.of (P.un.1,P.un.2.1,P.un.2.2.1,P.un.2.2.2),t.un.2.2.1,t.un.2.2.2.1,_)) = _
      rw [ofc]; rfl
    · have e5 : cR t.un.1 P t.un.2.2.1 t.un.2.2.2.1 (t.un.2.2.2.2.map (at' sw)) = .mk t.un.1 P t.un.2.2.1 t.un.2.2.2.1 (t.un.2.2.2.2.map (at' sw)) := by
        by_cases k : t.un.1 = 5
        · have hlen : (t.un.2.2.2.2.map (at' sw)).length ≠ 2 := by rw [List.length_map]; exact fun h => c5 ⟨k,h⟩
          unfold cR
          split
          · rename_i a b hh
            rw [hh] at hlen; exact absurd rfl hlen
          · rfl
        · exact Ug k
      rw [if_neg (by simp only [Bool.and_eq_true,decide_eq_true_eq]; omega),if_neg (by simp only [Bool.and_eq_true,decide_eq_true_eq]; omega),Option.bind_some,e5]
      show some (Tr39.of (t.un.1,Tr36.of (P.un.1,P.un.2.1,P.un.2.2.1,P.un.2.2.2),t.un.2.2.1,t.un.2.2.2.1,_)) = _
      rw [ofc]
theorem oF {t : Tr39} (hc : t.cnt ≤ 1048576) (sw : Int) : GZ t sw = some (at' sw t) := C7 (g := fun n => Dr n t sw) (fun n r h => Jt n t sw r h) (r8 sw (SizeOf.sizeOf t + 1) t (by omega) hc)
theorem ZH (sw : Int) : ∀ (n : Nat) (t : Tr39),SizeOf.sizeOf t < n → Hh t = true → (at' sw t).cnt ≤ t.cnt
  | 0,t,h,_ => absurd h (Nat.not_lt_zero _)
  | n + 1,t,h,hf => by
    obtain ⟨⟨⟨h1,hz⟩,ho⟩,h2⟩ := (Fk t).1 hf
    have hs := sum_mono' (g := fun x => (at' sw x).cnt) (h := Tr39.cnt) t.un.2.2.2.2 fun x hx => ZH sw n x (by have := Vy hx; omega) (h2 x hx)
    have hP : (cp sw t.un.1 t.un.2.1).cnt ≤ t.un.2.1.cnt := by
      unfold cp
      by_cases c : t.un.1 = 1 ∨ t.un.1 = 5
      · rw [if_pos c]
        exact (Po 0 (0,0,0,0) sw (SizeOf.sizeOf t.un.2.1 + 1) t.un.2.1 (by omega) (ho c).1).size
      · rw [if_neg c]; exact Nat.le_refl _
    have mk : ∀ (k : Int) (p : Tr36) (f v : Int) (l : List Tr39),(Tr39.mk k p f v l).cnt = 1 + (p.cnt + (l.map Tr39.cnt).sum) := fun k p f v l => Qj (.mk k p f v l)
    have hmap : ((t.un.2.2.2.2.map (at' sw)).map Tr39.cnt).sum ≤ (t.un.2.2.2.2.map Tr39.cnt).sum := by rw [List.map_map]; exact hs
    rw [Xi,Qj t]
    unfold cR
    split
    · rename_i a b hab
      rw [hab] at hmap
      simp only [List.map_cons,List.map_nil,List.sum_cons,List.sum_nil] at hmap
      split
      · omega
      · split
        · omega
        · rw [mk]; simp only [List.map_cons,List.map_nil,List.sum_cons,List.sum_nil]; omega
    · rw [mk]; omega
abbrev PA : Tr36 := Tr36.of (3,5,2,[])
abbrev PB : Tr36 := Tr36.of (3,1,1,[])
abbrev PC : Tr36 := Tr36.of (5,0,0,[PA,PB])
abbrev T0 : Tr39 := Tr39.of (1,PC,0,0,[])
theorem fA0 : Hu PC = true := by
  refine (Gn _).2 ⟨by decide,fun x hx => ?_⟩
  rcases List.mem_cons.1 hx with rfl | hx
  · exact (Gn _).2 ⟨by decide,fun x hx => by cases hx⟩
  · rw [List.mem_singleton.1 hx]; exact (Gn _).2 ⟨by decide,fun x hx => by cases hx⟩
theorem rW : T0.cnt = 4 := by simp [T0,PC,PA,PB,Tr39.of,Tr36.of,Tr39.cnt,Tr36.cnt]
theorem qC : PC.cnt = 3 := by simp [PC,PA,PB,Tr36.of,Tr36.cnt]
theorem dpC : dp PC = 2 := by simp [PC,PA,PB,Tr36.of,dp,mx]
theorem dq0 : dq T0 = 1 := by simp [T0,Tr39.of,dq,mx]
theorem sz0 : sz T0 = 4 := by
  rw [Ox]
  show 1 + (if (1 : Int) < 2 ∨ 4 < (1 : Int) then PC.cnt else 0) + 0 = 4
  rw [if_pos (by decide),qC]
theorem vR : wd T0 = 1 := by
  rw [OD]
  exact if_neg (by decide)
theorem jA (f : Int) : us f T0 = (if (3 : Int) = 3 ∧ (5 : Int) = f then [2] else []) ++ (if (3 : Int) = 3 ∧ (1 : Int) = f then [1] else []) := by
  simp [T0,PC,PA,PB,Tr39.of,Tr36.of,us,E9]
theorem dH : nP T0 := ⟨⟨(Fk _).2 ⟨⟨⟨by decide,fun h => (by rcases h with h | h | h <;> cases h)⟩,fun _ => ⟨fA0,by show (dp PC : Int) ≤ 8; rw [dpC]; decide,by show (PC.cnt : Int) ≤ 64; rw [qC]; decide⟩⟩,fun x hx => (by cases hx)⟩,by rw [dq0]; decide,by rw [sz0]; decide⟩,by rw [vR]; decide⟩
theorem ZC (f : Int) (L : List Int) (h : us f T0 = L) : len f T0 = (((List.range ((Df f).toNat + 1)).map fun (j : Nat) => (j : Int)).filter fun x => decide (x ∈ L)).length := by subst h; rfl
theorem zP : cl T0 5 = 2 := by
  have l0 : len 0 T0 = 0 := (ZC 0 [] (jA 0)).trans (by decide +kernel)
  have l1 : len 1 T0 = 1 := (ZC 1 [1] (jA 1)).trans (by decide +kernel)
  have l2 : len 2 T0 = 0 := (ZC 2 [] (jA 2)).trans (by decide +kernel)
  have l3 : len 3 T0 = 0 := (ZC 3 [] (jA 3)).trans (by decide +kernel)
  have l4 : len 4 T0 = 0 := (ZC 4 [] (jA 4)).trans (by decide +kernel)
  have e : ∀ i : Nat,cl T0 (i + 1) = min (cl T0 i * ((len i T0 : Nat) + 1 : Int)) 100000 := fun _ => rfl
  rw [e 4,e 3,e 2,e 1,e 0,show ((4 : Nat) : Int) = 4 from rfl,show ((3 : Nat) : Int) = 3 from rfl,show ((2 : Nat) : Int) = 2 from rfl,show ((1 : Nat) : Int) = 1 from rfl,show ((0 : Nat) : Int) = 0 from rfl,l0,l1,l2,l3,l4,show cl T0 0 = 1 from rfl]
  decide
theorem Zj (n : Int) (h : 1 ≤ n ∧ n ≤ 8) : Gm (n,[],[]) T0 = some (if n ≤ 2 then 13 else 0) := by
  have hO : vK (n,[],[]) := ⟨⟨h.1,h.2,Nat.zero_le _,Nat.zero_le _⟩,fun l hl => (by cases hl),fun l hl => (by cases hl)⟩
  have hc : T0.cnt ≤ 1000 := by rw [rW]; decide
  obtain ⟨b,b1,b2⟩ := oP (t := (n,[],[])) (Nat.zero_le _) (Nat.zero_le _) hc dH.1.1
  have hL : o7 (n,[],[]) T0 ↔ n ≤ 2 := by
    constructor
    · rintro (⟨v,hv,_⟩ | ⟨v,hv,hn⟩)
      · exact absurd hv (by rw [show us 4 T0 = [] from jA 4]; simp)
      · rw [show us 5 T0 = [2] from jA 5,List.mem_singleton] at hv
        subst hv; exact hn
    · exact fun hn => .inr ⟨2,by rw [show us 5 T0 = [2] from jA 5]; simp,hn⟩
  unfold Gm
  rw [dS,decide_eq_true hO,Option.bind_some,if_neg (by decide),Lt,M4,UC (by omega), @decide_eq_true _ (_) dH,Option.bind_some,if_neg (by decide),b1,Option.bind_some]
  by_cases c : n ≤ 2
  · rw [if_pos (b2.2 (hL.2 c)),if_pos c]
  · rw [if_neg (fun h => c (hL.1 (b2.1 h))),if_neg c,S5 hc dH.1.1,zP]; rfl
theorem WC : JY = some true := by
  have a1 : GZ T0 2 = some (Tr39.of (1,PB,0,0,[])) := Ou 100 T0 2 _ (by kernel_rfl)
  have a2 : GZ T0 1 = some (Tr39.of (1,Tr36.of (2,0,0,[]),0,0,[])) := Ou 100 T0 1 _ (by kernel_rfl)
  have b1 : FD (Tr39.of (1,PB,0,0,[])) = some [119,104,101,110,32,100,115,116,32,61,32,49] := Lv 100 _ _ (by kernel_rfl)
  have b2 : FD (Tr39.of (1,Tr36.of (2,0,0,[]),0,0,[])) = some [100,114,111,112] := Lv 100 _ _ (by kernel_rfl)
  have c1 : EU T0 = some 2 := by rw [S5 (by rw [rW]; decide) dH.1.1,zP]
  unfold JY
  rw [show GZ _ 2 = _ from a1,Option.bind_some,Lt,M4,show FD _ = _ from b1,Option.bind_some,if_pos rfl,show GZ _ 1 = _ from a2,Option.bind_some,Lt,M4,show FD _ = _ from b2,Option.bind_some,if_pos rfl,show EU _ = _ from c1,Option.bind_some,if_pos rfl,show Gm (3,[],[]) _ = _ from Zj 3 (by decide),Option.bind_some,if_pos (by decide),show Gm (2,[],[]) _ = _ from Zj 2 (by decide),Option.bind_some]
  rfl
end Go.Proofs.YtgoifghhcekahaaGreatDoor
