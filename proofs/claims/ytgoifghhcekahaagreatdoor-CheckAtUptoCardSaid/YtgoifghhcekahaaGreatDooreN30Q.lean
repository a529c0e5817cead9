/- Layer 30: policies: which may be, what they ask for. Conditions: none. -/
import Derived.Test.YtgoifghhcekahaaGreatDooreN30
namespace Go.Proofs.YtgoifghhcekahaaGreatDoor
set_option linter.unusedVariables false
set_option linter.unusedSimpArgs false
open Go Go.RowKit
abbrev ZP : Tr36 := Tr36.of (0,0,0,([] : List Tr36))
abbrev ZD : Tr28 := Tr28.of (0,0,0,([] : List Tr28))
theorem oJ : mi ZD = ZP := by show mi (.mk 0 0 0 []) = _; rw [mi]; rfl
theorem mi_Z' {p : Tr28} : mi p = ZP ↔ p = ZD := ⟨fun h => jY (h.trans oJ.symm),fun h => by rw [h,oJ]⟩
abbrev FX (k f v : Int) (n : Nat) : Prop := 1 ≤ k ∧ k ≤ 5 ∧ (k ≠ 2 → f = 0 ∧ v = 0) ∧ (k = 2 → 0 ≤ f ∧ f ≤ 4 ∧ 0 ≤ v ∧ v ≤ Df f) ∧ (k ≤ 2 → n = 0) ∧ (k = 5 → n = 2) ∧ (k = 3 ∨ k = 4 → 2 ≤ n ∧ n ≤ 8)
abbrev Uq (k : Int) (p : Tr36) (f v : Int) (n : Nat) : Prop := FX k f v n ∧ (k = 2 ∨ k = 3 ∨ k = 4 → p = ZP)
open Classical in
theorem gK {t : Tr39} (hc : t.cnt ≤ 1048576) : Jf t = some (decide (Uq t.un.1 t.un.2.1 t.un.2.2.1 t.un.2.2.2.1 t.un.2.2.2.2.length)) := by
  have hq := qP t
  unfold Jf F1
  rw [Lt,bM (by omega)]
  simp only [Option.bind_some]
  by_cases hz : t.un.2.1 = ZP
  · rw [decide_eq_true hz,show decide (Uq t.un.1 t.un.2.1 t.un.2.2.1 t.un.2.2.2.1 t.un.2.2.2.2.length) = decide (FX t.un.1 t.un.2.2.1 t.un.2.2.2.1 t.un.2.2.2.2.length) from decide_eq_decide.2 ⟨fun h => h.1,fun h => ⟨h,fun _ => hz⟩⟩]
    have no : ¬ FX t.un.1 t.un.2.2.1 t.un.2.2.2.1 t.un.2.2.2.2.length → some false = some (decide (FX t.un.1 t.un.2.2.1 t.un.2.2.2.1 t.un.2.2.2.2.length)) := fun h => by rw [decide_eq_false h]
    have yes : ∀ {P : Prop} [Decidable P],(P ↔ FX t.un.1 t.un.2.2.1 t.un.2.2.2.1 t.un.2.2.2.2.length) → some (decide P) = some (decide (FX t.un.1 t.un.2.2.1 t.un.2.2.2.1 t.un.2.2.2.2.length)) := fun h => congrArg some (decide_eq_decide.2 h)
    by_cases c2 : t.un.1 = 2
    · rw [if_pos c2,if_pos rfl]
      by_cases a1 : (t.un.2.2.2.2.length : Int) = 0
      · rw [if_pos a1]
        by_cases a2 : 0 ≤ t.un.2.2.1
        · rw [if_pos a2]
          by_cases a3 : t.un.2.2.1 ≤ 4
          · rw [if_pos a3]
            by_cases a4 : 0 ≤ t.un.2.2.2.1
            · rw [if_pos a4,Z9,Option.bind_some,Option.bind_some]
              exact yes ⟨fun h => by unfold FX; omega,fun h => by unfold FX at h; omega⟩
            · rw [if_neg a4]; exact no (fun h => by unfold FX at h; omega)
          · rw [if_neg a3]; exact no (fun h => by unfold FX at h; omega)
        · rw [if_neg a2]; exact no (fun h => by unfold FX at h; omega)
      · rw [if_neg a1]; exact no (fun h => by unfold FX at h; omega)
    · rw [if_neg c2]
      by_cases z : t.un.2.2.1 = 0 ∧ t.un.2.2.2.1 = 0
      · rw [if_neg (by simp [z.1,z.2])]
        by_cases c1 : t.un.1 = 1
        · rw [if_pos c1]
          exact yes ⟨fun h => by unfold FX; omega,fun h => by unfold FX at h; omega⟩
        · rw [if_neg c1]
          by_cases c34 : t.un.1 = 3 ∨ t.un.1 = 4
          · have e : (if t.un.1 = 3 then some true else some (decide (t.un.1 = 4)) : Option Bool) = some true := by
              rcases c34 with h | h
              · rw [if_pos h]
              · rw [if_neg (by omega),decide_eq_true h]
            rw [e,Option.bind_some,if_pos rfl,if_pos rfl]
            by_cases a : 2 ≤ (t.un.2.2.2.2.length : Int)
            · rw [if_pos a,Option.bind_some]
              exact yes ⟨fun h => by unfold FX; omega,fun h => by unfold FX at h; omega⟩
            · rw [if_neg a]; exact no (fun h => by unfold FX at h; omega)
          · rw [if_neg (by omega),decide_eq_false (by omega),Option.bind_some,if_neg (by decide)]
            by_cases c5 : t.un.1 = 5
            · rw [if_pos c5]
              exact yes ⟨fun h => by unfold FX; omega,fun h => by unfold FX at h; omega⟩
            · rw [if_neg c5]; exact no (fun h => by unfold FX at h; omega)
      · rw [if_pos (by simp only [Bool.or_eq_true,decide_eq_true_eq]; omega)]
        exact no (fun h => by unfold FX at h; omega)
  · rw [decide_eq_false hz]
    have no : ¬ Uq t.un.1 t.un.2.1 t.un.2.2.1 t.un.2.2.2.1 t.un.2.2.2.2.length → some false = some (decide (Uq t.un.1 t.un.2.1 t.un.2.2.1 t.un.2.2.2.1 t.un.2.2.2.2.length)) := fun h => by rw [decide_eq_false h]
    have yes : ∀ {P : Prop} [Decidable P],(P ↔ Uq t.un.1 t.un.2.1 t.un.2.2.1 t.un.2.2.2.1 t.un.2.2.2.2.length) → some (decide P) = some (decide (Uq t.un.1 t.un.2.1 t.un.2.2.1 t.un.2.2.2.1 t.un.2.2.2.2.length)) := fun h => congrArg some (decide_eq_decide.2 h)
    by_cases c2 : t.un.1 = 2
    · rw [if_pos c2,if_neg (by decide)]; exact no (fun h => hz (h.2 (.inl c2)))
    · rw [if_neg c2]
      by_cases z : t.un.2.2.1 = 0 ∧ t.un.2.2.2.1 = 0
      · rw [if_neg (by simp [z.1,z.2])]
        by_cases c1 : t.un.1 = 1
        · rw [if_pos c1]
          exact yes ⟨fun h => ⟨by unfold FX; omega,fun h => by omega⟩,fun h => by have := h.1; unfold FX at this; omega⟩
        · rw [if_neg c1]
          by_cases c34 : t.un.1 = 3 ∨ t.un.1 = 4
          · have e : (if t.un.1 = 3 then some true else some (decide (t.un.1 = 4)) : Option Bool) = some true := by
              rcases c34 with h | h
              · rw [if_pos h]
              · rw [if_neg (by omega),decide_eq_true h]
            rw [e,Option.bind_some,if_pos rfl,if_neg (by decide)]; exact no (fun h => hz (h.2 (.inr c34)))
          · rw [if_neg (by omega),decide_eq_false (by omega),Option.bind_some,if_neg (by decide)]
            by_cases c5 : t.un.1 = 5
            · rw [if_pos c5]
              exact yes ⟨fun h => ⟨by unfold FX; omega,fun h => by omega⟩,fun h => by have := h.1; unfold FX at this; omega⟩
            · rw [if_neg c5]; exact no (fun h => by have := h.1; unfold FX at this; omega)
      · rw [if_pos (by simp only [Bool.or_eq_true,decide_eq_true_eq]; omega)]
        exact no (fun h => by have := h.1; unfold FX at this; omega)
abbrev aZ (k : Int) (p : Tr36) (f v : Int) (n : Nat) : Prop := Uq k p f v n ∧ (k = 1 ∨ k = 5 → Mz p 64 8)
open Classical in
noncomputable def Hh : Tr39 → Bool
  | .mk k p f v l => @decide (aZ k p f v l.length) (propDecidable _) && (l.map Hh).all id
theorem Fk (t : Tr39) : Hh t = true ↔ aZ t.un.1 t.un.2.1 t.un.2.2.1 t.un.2.2.2.1 t.un.2.2.2.2.length ∧ ∀ x ∈ t.un.2.2.2.2,Hh x = true := by
  cases t with
  | mk k p f v l =>
    rw [Hh,Bool.and_eq_true, @decide_eq_true_eq _ (Classical.propDecidable _),List.all_map,List.all_eq_true]; rfl
theorem S8 (t : Tr31) : Hh (pm t) = true ↔ aZ t.un.1 (mi t.un.2.1) t.un.2.2.1 t.un.2.2.2.1 t.un.2.2.2.2.length ∧ ∀ x ∈ t.un.2.2.2.2,Hh (pm x) = true := by
  rw [Fk,Vo]
  show aZ _ _ _ _ (t.un.2.2.2.2.map pm).length ∧ _ ↔ _
  rw [List.length_map]
  refine and_congr_right fun _ => ⟨fun h x hx => h _ (List.mem_map.2 ⟨x,hx,rfl⟩),fun h x hx => ?_⟩
  obtain ⟨y,hy,rfl⟩ := List.mem_map.1 hx
  exact h y hy
abbrev RE (t : Tr39) (b d : Int) : Prop := Hh t = true ∧ (dq t : Int) ≤ d ∧ (sz t : Int) ≤ b
open Classical in
theorem R6 : ∀ (n : Nat) (t : Tr39),SizeOf.sizeOf t < n → t.cnt ≤ 1048576 → ∀ b d : Int, -1000 ≤ b → b ≤ 1000 → 0 ≤ d → d ≤ 1000 →
    (RE t b d → AF n b t d = some (true,b - sz t)) ∧ (¬ RE t b d → ∃ b',AF n b t d = some (false,b'))
  | 0,t,h,_ => absurd h (Nat.not_lt_zero _)
  | n + 1, t, h, hc => by
    intro b d b0 b1 d0 d1
    have hl := lP t
    have hq := qP t
    have hse := Ox t
    have hde := RV t
    have hst : AF (n + 1) b t d = Cm (AF n) b t d := rfl
    rw [hst]
    unfold Cm
    by_cases g1 : b < 1
    · rw [if_pos g1,Option.bind_some,if_pos rfl]
      exact ⟨fun hk => by have := hk.2.2; omega,fun _ => ⟨_,rfl⟩⟩
    rw [if_neg g1]
    by_cases g2 : d < 1
    · rw [if_pos g2,Option.bind_some,if_pos rfl]
      exact ⟨fun hk => by have := hk.2.1; omega,fun _ => ⟨_,rfl⟩⟩
    rw [if_neg g2,Lt,M4,gK hc,Option.bind_some,Option.bind_some]
    by_cases g3 : Uq t.un.1 t.un.2.1 t.un.2.2.1 t.un.2.2.2.1 t.un.2.2.2.2.length
    case neg =>
      rw [decide_eq_false g3,if_pos (by decide)]
      exact ⟨fun hk => absurd ((Fk t).1 hk.1).1.1 g3,fun _ => ⟨_,rfl⟩⟩
    case pos =>
      rw [decide_eq_true g3,if_neg (show ¬ (!true) = true by decide),Ab (by omega)]
      by_cases g4 : t.un.1 = 1 ∨ t.un.1 = 5 → Mz t.un.2.1 64 8
      case neg =>
        have hk : t.un.1 = 1 ∨ t.un.1 = 5 := Classical.byContradiction fun hn => g4 fun h => absurd h hn
        rw [if_pos (by simpa using hk),RO (by omega),Option.bind_some,decide_eq_false (fun h => g4 fun _ => h),if_pos (by decide)]
        exact ⟨fun h => absurd ((Fk t).1 h.1).1.2 g4,fun _ => ⟨_,rfl⟩⟩
      case pos =>
        have hpz : ∃ P : Nat,P ≤ 64 ∧ sz t = 1 + P + (t.un.2.2.2.2.map sz).sum ∧ (if (decide (t.un.1 = 1) || decide (t.un.1 = 5)) = true then (Hl t.un.2.1).bind fun x4 => (if (!x4) = true then some (.inr (false,b - 1)) else (LP t.un.2.1).bind fun x5 => some (.inl (Ae ((b - 1) - x5)))) else some (.inl (b - 1)) : Option (Int ⊕ (Bool × Int))) = some (.inl (b - 1 - P)) := by
          have hlin := g3.1
          unfold FX at hlin
          by_cases hk : t.un.1 = 1 ∨ t.un.1 = 5
          · have ho := g4 hk
            have ho3 := ho.2.2
            refine ⟨t.un.2.1.cnt,by omega,by rw [hse,if_pos (by omega)], ?_⟩
            rw [if_pos (by simpa using hk),RO (by omega),Option.bind_some,decide_eq_true ho,if_neg (by decide),Y4 (by omega),Option.bind_some,Ab (by omega)]
          · refine ⟨0,by omega,by rw [hse,if_neg (by omega)], ?_⟩
            rw [if_neg (by simpa using hk)]; simp
        obtain ⟨P,hP,hsz,e1⟩ := hpz
        rw [e1]
        show (RE t b d → Hc (Ac (AM (AF n) t d) (0,b - 1 - (P : Int))) (fun x6 => some (decide (0 ≤ x6),x6)) = some (true,b - sz t)) ∧ (¬ RE t b d → ∃ b',Hc (Ac (AM (AF n) t d) (0,b - 1 - (P : Int))) (fun x6 => some (decide (0 ≤ x6),x6)) = some (false,b'))
        have key : ∀ (m i : Nat),i + m = t.un.2.2.2.2.length → (∀ x ∈ t.un.2.2.2.2.take i,Hh x = true ∧ (dq x : Int) ≤ d - 1) → (i = 0 ∨ (((t.un.2.2.2.2.take i).map sz).sum : Int) ≤ b - 1 - P) →
            (RE t b d → Hc (Ac (AM (AF n) t d) ((i : Int),b - 1 - P - (((t.un.2.2.2.2.take i).map sz).sum : Nat))) (fun x6 => some (decide (0 ≤ x6),x6)) = some (true,b - sz t)) ∧ (¬ RE t b d → ∃ b',Hc (Ac (AM (AF n) t d) ((i : Int),b - 1 - P - (((t.un.2.2.2.2.take i).map sz).sum : Nat))) (fun x6 => some (decide (0 ≤ x6),x6)) = some (false,b')) := by
          intro m
          induction m with
          | zero =>
            intro i hi hx hs
            have e0 : t.un.2.2.2.2.take i = t.un.2.2.2.2 := List.take_of_length_le (by omega)
            rw [e0] at hx hs ⊢
            rw [Af (e := .inl (b - 1 - P - ((t.un.2.2.2.2.map sz).sum : Nat))) (by rw [AM,if_neg (by omega)])]
            have hd : (dq t : Int) ≤ d := by
              have : mx (t.un.2.2.2.2.map dq) ≤ (d - 1).toNat := PO fun a ha => by
                obtain ⟨x,hm,rfl⟩ := List.mem_map.1 ha
                have := (hx x hm).2
                omega
              omega
            show (_ → some (decide (0 ≤ b - 1 - (P : Int) - ((t.un.2.2.2.2.map sz).sum : Nat)),b - 1 - (P : Int) - ((t.un.2.2.2.2.map sz).sum : Nat)) = _) ∧ (_ → ∃ b',some (decide (0 ≤ b - 1 - (P : Int) - ((t.un.2.2.2.2.map sz).sum : Nat)),b - 1 - (P : Int) - ((t.un.2.2.2.2.map sz).sum : Nat)) = _)
            by_cases q : 0 ≤ b - 1 - (P : Int) - ((t.un.2.2.2.2.map sz).sum : Nat)
            · rw [decide_eq_true q]
              refine ⟨fun _ => by congr 2; omega,fun hn => absurd ⟨(Fk t).2 ⟨⟨g3,g4⟩,fun x hm => (hx x hm).1⟩,hd,by omega⟩ hn⟩
            · rw [decide_eq_false q]
              exact ⟨fun hk => by have := hk.2.2; omega,fun _ => ⟨_,rfl⟩⟩
          | succ m ih =>
            intro i hi hx hs
            have hil : i < t.un.2.2.2.2.length := by omega
            have hm := List.getElem_mem hil
            have hsum : ((t.un.2.2.2.2.take (i + 1)).map sz).sum = ((t.un.2.2.2.2.take i).map sz).sum + sz t.un.2.2.2.2[i] := by
              rw [List.take_succ_eq_append_getElem hil,List.map_append,List.sum_append]; simp
            have hle := Iw (g := sz) t.un.2.2.2.2 (i + 1)
            have h0 : i = 0 → ((t.un.2.2.2.2.take i).map sz).sum = 0 := fun h => by rw [h]; rfl
            obtain ⟨r1,r2⟩ := R6 n t.un.2.2.2.2[i] (by have := Vy hm; omega) (Nat.le_trans (cP hm) hc) (b - 1 - P - (((t.un.2.2.2.2.take i).map sz).sum : Nat)) (d - 1) (by omega) (by omega) (by omega) (by omega)
            by_cases g : RE t.un.2.2.2.2[i] (b - 1 - P - (((t.un.2.2.2.2.take i).map sz).sum : Nat)) (d - 1)
            · have hg2 := g.2.2
              have hstep : AM (AF n) t d ((i : Int),b - 1 - P - (((t.un.2.2.2.2.take i).map sz).sum : Nat)) = some (.inl (((i + 1 : Nat) : Int),b - 1 - P - (((t.un.2.2.2.2.take (i + 1)).map sz).sum : Nat))) := by
                rw [AM,if_pos (by omega),Bh (List.getElem?_eq_getElem hil),Option.bind_some,Lt,M4,Ab (by omega),r1 g,Option.bind_some,if_neg (show ¬ (!true) = true by decide),Ab (by omega),hsum]
                show some (Sum.inl (_,_)) = _
                congr 3; omega
              rw [AH hstep]
              refine ih (i + 1) (by omega) (fun x hxm => ?_) (by omega)
              rw [List.take_succ_eq_append_getElem hil] at hxm
              rcases List.mem_append.1 hxm with hh | hh
              · exact hx x hh
              · rw [List.mem_singleton.1 hh]; exact ⟨g.1,g.2.1⟩
            · obtain ⟨b',hb'⟩ := r2 g
              have hno : ¬ RE t b d := fun hk => g ⟨((Fk t).1 hk.1).2 _ hm,by
                have h1 := RM (List.mem_map.2 ⟨_,hm,rfl⟩ : dq t.un.2.2.2.2[i] ∈ t.un.2.2.2.2.map dq)
                have := hk.2.1
                omega,by have := hk.2.2; omega⟩
              refine ⟨fun hk => absurd hk hno,fun _ => ⟨b', ?_⟩⟩
              rw [Af (e := .inr (false,b')) (by
                rw [AM,if_pos (by omega),Bh (List.getElem?_eq_getElem hil),Option.bind_some,Lt,M4,Ab (by omega),hb',Option.bind_some,if_pos (by rfl)])]
              rfl
        have := key t.un.2.2.2.2.length 0 (by omega) (by simp) (.inl rfl)
        simpa using this
abbrev nP (t : Tr39) : Prop := RE t 64 8 ∧ wd t ≤ 64
open Classical in
theorem UC {t : Tr39} (hc : t.cnt ≤ 1048576) : HF t = some (decide (nP t)) := by
  obtain ⟨h1,h2⟩ := R6 (SizeOf.sizeOf t + 1) t (by omega) hc 64 8 (by omega) (by omega) (by omega) (by omega)
  unfold HF
  rw [Lt,M4]
  by_cases g : RE t 64 8
  · rw [show EQ 64 t 8 = some (true,(64 - sz t : Int)) from C7 (g := fun n => AF n 64 t 8) (fun n r h => EM n 64 t 8 r h) (h1 g),Option.bind_some,if_pos rfl,YM hc,Option.bind_some,Option.bind_some]
    exact congrArg some (decide_eq_decide.2 ⟨fun h => ⟨g,h⟩,fun h => h.2⟩)
  · obtain ⟨b',hb⟩ := h2 g
    rw [show EQ 64 t 8 = some (false,b') from C7 (g := fun n => AF n 64 t 8) (fun n r h => EM n 64 t 8 r h) hb,Option.bind_some,if_neg (show ¬ false = true by decide),Option.bind_some,decide_eq_false (fun h => g h.1)]
theorem Sa : ∀ (n : Nat) (t : Tr31),SizeOf.sizeOf t < n → t.cnt ≤ 1048576 → EB n t = some (Hh (pm t))
  | 0,t,h,_ => absurd h (Nat.not_lt_zero _)
  | n + 1, t, h, hc => by
    have hl := lD t
    have hq := qD t
    have htb := S9 t.un.2.2.1
    show FF (EB n) t = _
    unfold FF
    have no : ¬ aZ t.un.1 (mi t.un.2.1) t.un.2.2.1 t.un.2.2.2.1 t.un.2.2.2.2.length → Hh (pm t) = false := fun hn => by
      cases hh : Hh (pm t) with
      | false => rfl
      | true => exact absurd ((S8 t).1 hh).1 hn
    by_cases g1 : (decide (t.un.1 < 1) || (decide (5 < t.un.1) || (decide (t.un.1 ≠ 2) && (decide (t.un.2.2.1 ≠ 0) || decide (t.un.2.2.2.1 ≠ 0))))) = true
    · rw [if_pos g1,no (fun hf => by
        have := hf.1.1
        unfold FX at this
        simp only [Bool.and_eq_true,Bool.or_eq_true,decide_eq_true_eq] at g1
        omega)]
    rw [if_neg g1]
    simp only [Bool.and_eq_true,Bool.or_eq_true,decide_eq_true_eq,not_or,not_and] at g1
    have hask : ∃ x : Bool,(if (decide (t.un.1 = 1) || decide (t.un.1 = 5)) = true then (Ho (f28 t.un.2.1)).bind fun x2 => (if (!x2) = true then some true else some false) else (KI (f28 t.un.2.1) (Tr28.of (0,0,0,([] : List Tr28)))).bind fun x3 => some (!x3)) = some x ∧ (x = false ↔ (t.un.1 = 2 ∨ t.un.1 = 3 ∨ t.un.1 = 4 → mi t.un.2.1 = ZP) ∧ (t.un.1 = 1 ∨ t.un.1 = 5 → Mz (mi t.un.2.1) 64 8)) := by
      rw [Zi,XL (by omega),ZO (by omega)]
      by_cases hk : t.un.1 = 1 ∨ t.un.1 = 5
      · rw [if_pos (by simpa using hk),Option.bind_some]
        by_cases ho : Mz (mi t.un.2.1) 64 8
        · rw [decide_eq_true ho,if_neg (by decide)]
          exact ⟨false,rfl,⟨fun _ => ⟨fun h => by omega,fun _ => ho⟩,fun _ => rfl⟩⟩
        · rw [decide_eq_false ho,if_pos (by decide)]
          exact ⟨true,rfl,⟨(fun h => nomatch h),fun h => absurd (h.2 hk) ho⟩⟩
      · rw [if_neg (by simpa using hk),Option.bind_some]
        by_cases hz : t.un.2.1 = ZD
        · refine ⟨false, ?_, ?_⟩
          · rw [@decide_eq_true _ (_) hz]; rfl
          · exact ⟨fun _ => ⟨fun _ => mi_Z'.2 hz,fun h => absurd h hk⟩,fun _ => rfl⟩
        · refine ⟨true, ?_, ?_⟩
          · rw [@decide_eq_false _ (_) hz]; rfl
          · exact ⟨(fun h => nomatch h),fun h => absurd (mi_Z'.1 (h.1 (by omega))) hz⟩
    obtain ⟨x,hx1,hx2⟩ := hask
    rw [hx1,Option.bind_some]
    cases x with
    | true =>
      rw [if_pos rfl,no (fun hf => by have := hx2.2 ⟨hf.1.2,hf.2⟩; cases this)]
    | false =>
      obtain ⟨ha,hb⟩ := hx2.1 rfl
      rw [if_neg (by decide)]
      by_cases g2 : (decide (t.un.1 = 2) && (decide (t.un.2.2.1 < 0) || (decide (4 < t.un.2.2.1) || (decide (t.un.2.2.2.1 < 0) || decide ((Df t.un.2.2.1) < t.un.2.2.2.1))))) = true
      · rw [if_pos g2,no (fun hf => by
          have := hf.1.1
          unfold FX at this
          simp only [Bool.and_eq_true,Bool.or_eq_true,decide_eq_true_eq] at g2
          omega)]
      rw [if_neg g2]
      simp only [Bool.and_eq_true,Bool.or_eq_true,decide_eq_true_eq,not_or,not_and] at g2
      have hlen : ∃ y : Bool,(bif decide (t.un.1 ≤ 2) then (decide ((t.un.2.2.2.2.length : Int) ≠ 0) || (bif decide (t.un.1 = 5) then (decide ((t.un.2.2.2.2.length : Int) ≠ 2) || (bif decide (t.un.1 = 3) then (decide ((t.un.2.2.2.2.length : Int) < 2) || decide (8 < (t.un.2.2.2.2.length : Int))) else (decide (t.un.1 = 4) && (decide ((t.un.2.2.2.2.length : Int) < 2) || decide (8 < (t.un.2.2.2.2.length : Int)))))) else (bif decide (t.un.1 = 3) then (decide ((t.un.2.2.2.2.length : Int) < 2) || decide (8 < (t.un.2.2.2.2.length : Int))) else (decide (t.un.1 = 4) && (decide ((t.un.2.2.2.2.length : Int) < 2) || decide (8 < (t.un.2.2.2.2.length : Int))))))) else (bif decide (t.un.1 = 5) then (decide ((t.un.2.2.2.2.length : Int) ≠ 2) || (bif decide (t.un.1 = 3) then (decide ((t.un.2.2.2.2.length : Int) < 2) || decide (8 < (t.un.2.2.2.2.length : Int))) else (decide (t.un.1 = 4) && (decide ((t.un.2.2.2.2.length : Int) < 2) || decide (8 < (t.un.2.2.2.2.length : Int)))))) else (bif decide (t.un.1 = 3) then (decide ((t.un.2.2.2.2.length : Int) < 2) || decide (8 < (t.un.2.2.2.2.length : Int))) else (decide (t.un.1 = 4) && (decide ((t.un.2.2.2.2.length : Int) < 2) || decide (8 < (t.un.2.2.2.2.length : Int))))))) = y ∧ (y = false ↔ FX t.un.1 t.un.2.2.1 t.un.2.2.2.1 t.un.2.2.2.2.length) := by
        refine ⟨_,rfl, ?_⟩
        have hk : t.un.1 = 1 ∨ t.un.1 = 2 ∨ t.un.1 = 3 ∨ t.un.1 = 4 ∨ t.un.1 = 5 := by omega
        unfold FX
        rcases hk with h | h | h | h | h <;> rw [h] at g1 g2 ⊢ <;> simp <;> omega
      obtain ⟨y,hy1,hy2⟩ := hlen
      rw [hy1]
      cases y with
      | true => rw [if_pos rfl,no (fun hf => by have := hy2.2 hf.1.1; cases this)]
      | false =>
        have hlin := hy2.1 rfl
        rw [if_neg (by decide)]
        have hx : ∀ x ∈ t.un.2.2.2.2,EB n x = some (Hh (pm x)) := fun x hm => Sa n x (by have := nI hm; omega) (Nat.le_trans (cD hm) hc)
        rw [XT t.un.2.2.2.2 (by omega) (FG (EB n) t) (fun x => Hh (pm x) = false) false (fun k hk => by
          rw [FG,if_pos (by omega),Bh (List.getElem?_eq_getElem hk),Option.bind_some,Zi,jH,hx _ (List.getElem_mem hk),Option.bind_some]
          cases hq : Hh (pm t.un.2.2.2.2[k]) with
          | true => rw [if_neg (by decide),if_neg (by decide)]
          | false => rw [if_pos (by decide),if_pos rfl]) (by rw [FG,if_neg (by omega)])]
        by_cases e : ∃ e ∈ t.un.2.2.2.2,Hh (pm e) = false
        · rw [if_pos e]
          obtain ⟨x,hxm,hxf⟩ := e
          have : Hh (pm t) = false := by
            cases hh : Hh (pm t) with
            | false => rfl
            | true => rw [((S8 t).1 hh).2 x hxm] at hxf; cases hxf
          rw [this]; rfl
        · rw [if_neg e]
          have : Hh (pm t) = true := (S8 t).2 ⟨⟨⟨hlin,ha⟩,hb⟩,fun x hxm => by
            cases hh : Hh (pm x) with
            | true => rfl
            | false => exact absurd ⟨x,hxm,hh⟩ e⟩
          rw [this]; rfl
open Classical in
theorem ZR {t : Tr31} (hc : t.cnt ≤ 1048576) : LK t = some (decide (nP (pm t))) := by
  unfold LK
  rw [Zi,jH,show NS t = some (Hh (pm t)) from C7 (g := fun n => EB n t) (fun n r h => My n t r h) (Sa (SizeOf.sizeOf t + 1) t (by omega) hc),Option.bind_some,VD hc,Wb hc,Zd hc]
  simp only [Option.bind_some]
  by_cases hf : Hh (pm t) = true
  case neg => rw [if_neg hf,Option.bind_some,decide_eq_false (fun h => hf h.1.1)]
  case pos =>
    rw [if_pos hf]
    by_cases c : (dq (pm t) : Int) ≤ 8
    · rw [if_pos c]
      by_cases c2 : (sz (pm t) : Int) ≤ 64
      · rw [if_pos c2,Option.bind_some]
        exact congrArg some (decide_eq_decide.2 ⟨fun h => ⟨⟨hf,c,c2⟩,h⟩,fun h => h.2⟩)
      · rw [if_neg c2,Option.bind_some,decide_eq_false (fun h => c2 h.1.2.2)]
    · rw [if_neg c,Option.bind_some,decide_eq_false (fun h => c h.1.2.1)]
end Go.Proofs.YtgoifghhcekahaaGreatDoor
namespace Go.Proofs.YtgoifghhcekahaaGreatDoor
set_option linter.unusedVariables false
set_option linter.unusedSimpArgs false
open Go Go.RowKit
theorem dA {t : Tr36} (hc : t.cnt ≤ 1000000) (f : Int) : ∃ V,Hs t f = some V ∧ V.Pairwise (· < ·) ∧ V.length ≤ t.cnt ∧ ∀ v,v ∈ V ↔ v ∈ E9 f t := by
  have hlen := Nl f (SizeOf.sizeOf t + 1) t (by omega)
  obtain ⟨S,s1,s2,s3⟩ := Xm (L := E9 f t) (by omega)
  obtain ⟨R,r1,r2,r3⟩ := QR (L := S) (by rw [s2.length_eq]; omega) s3
  have hRl : R.length ≤ S.length := by
    have hnd : R.Nodup := r2.imp fun h => by omega
    exact RU R S hnd fun x hx => (r3 x).1 hx
  refine ⟨R, ?_,r2,by rw [s2.length_eq] at hRl; omega,fun v => (r3 v).trans s2.mem_iff⟩
  unfold Hs
  rw [UU (by omega),Option.bind_some,s1,Option.bind_some,r1]; rfl
def us (f : Int) : Tr39 → List Int
  | .mk k p g v l => E9 f p ++ (if k = 2 ∧ g = f then [v] else []) ++ (l.map (us f)).flatten
theorem sA (f : Int) (t : Tr39) : us f t = E9 f t.un.2.1 ++ (if t.un.1 = 2 ∧ t.un.2.2.1 = f then [t.un.2.2.2.1] else []) ++ (t.un.2.2.2.2.map (us f)).flatten := by cases t; rw [us]; rfl
theorem Lb {f v : Int} {t : Tr39} : v ∈ us f t ↔ v ∈ E9 f t.un.2.1 ∨ (t.un.1 = 2 ∧ t.un.2.2.1 = f ∧ t.un.2.2.2.1 = v) ∨ ∃ x ∈ t.un.2.2.2.2,v ∈ us f x := by
  rw [sA,List.mem_append,List.mem_append,or_assoc]
  refine or_congr Iff.rfl (or_congr ?_ ?_)
  · by_cases c : t.un.1 = 2 ∧ t.un.2.2.1 = f
    · rw [if_pos c,List.mem_singleton]
      exact ⟨fun h => ⟨c.1,c.2,h.symm⟩,fun h => h.2.2.symm⟩
    · rw [if_neg c]
      exact ⟨fun h => absurd h (List.not_mem_nil),fun h => absurd ⟨h.1,h.2.1⟩ c⟩
  · rw [List.mem_flatten]
    constructor
    · rintro ⟨l,hl,hv⟩
      obtain ⟨x,hx,rfl⟩ := List.mem_map.1 hl
      exact ⟨x,hx,hv⟩
    · rintro ⟨x,hx,hv⟩
      exact ⟨_,List.mem_map.2 ⟨x,hx,rfl⟩,hv⟩
theorem YT (f : Int) : ∀ (n : Nat) (t : Tr39),SizeOf.sizeOf t < n → t.cnt ≤ 1000 → ∃ U,DA n t f = some U ∧ U.length ≤ t.cnt ∧ ∀ v,v ∈ U ↔ v ∈ us f t
  | 0,t,h,_ => absurd h (Nat.not_lt_zero _)
  | n + 1, t, h, hc => by
    have hl := lP t
    have hq := qP t
    have hcc := Qj t
    obtain ⟨V,v1,_,v3,v4⟩ := dA (t := t.un.2.1) (by omega) f
    have e1 : ∃ W : List Int,(if (decide (t.un.1 = 2) && decide (t.un.2.2.1 = f)) = true then (Fy V ([t.un.2.2.2.1] : List Int)).bind fun x3 => some x3 else some V) = some W ∧ W.length ≤ t.un.2.1.cnt + 1 ∧ ∀ v,v ∈ W ↔ v ∈ E9 f t.un.2.1 ∨ (t.un.1 = 2 ∧ t.un.2.2.1 = f ∧ t.un.2.2.2.1 = v) := by
      by_cases c : t.un.1 = 2 ∧ t.un.2.2.1 = f
      · refine ⟨V ++ [t.un.2.2.2.1],by rw [if_pos (by simp [c.1,c.2]),IA (by simp; omega)]; rfl,by simp; omega,fun v => ?_⟩
        rw [List.mem_append,List.mem_singleton,v4]
        exact or_congr Iff.rfl ⟨fun h => ⟨c.1,c.2,h.symm⟩,fun h => h.2.2.symm⟩
      · refine ⟨V,by rw [if_neg (by simpa using c)],by omega,fun v => ?_⟩
        rw [v4]
        exact ⟨.inl,fun h => h.elim id fun h => absurd ⟨h.1,h.2.1⟩ c⟩
    obtain ⟨W,w1,w2,w3⟩ := e1
    obtain ⟨o,⟨h1,h1'⟩,h2⟩ := DW t.un.2.2.2.2.length (fun (o : List Int) (i : Nat) => (o,(i : Int))) (Di (DA n) t f) id (fun o i => o.length ≤ t.un.2.1.cnt + 1 + ((t.un.2.2.2.2.take i).map Tr39.cnt).sum ∧ ∀ v,v ∈ o ↔ (v ∈ E9 f t.un.2.1 ∨ (t.un.1 = 2 ∧ t.un.2.2.1 = f ∧ t.un.2.2.2.1 = v)) ∨ ∃ x ∈ t.un.2.2.2.2.take i,v ∈ us f x)
      (fun o i hi ho => by
        have hm := List.getElem_mem hi
        obtain ⟨U,u1,u2,u3⟩ := YT f n t.un.2.2.2.2[i] (by have := Vy hm; omega) (Nat.le_trans (cP hm) hc)
        have hs2 : ((t.un.2.2.2.2.take (i + 1)).map Tr39.cnt).sum = ((t.un.2.2.2.2.take i).map Tr39.cnt).sum + t.un.2.2.2.2[i].cnt := by
          rw [List.take_succ_eq_append_getElem hi,List.map_append,List.sum_append]; simp
        have hle := Iw (g := Tr39.cnt) t.un.2.2.2.2 (i + 1)
        have ho1 := ho.1
        refine ⟨o ++ U, ?_,by rw [List.length_append]; omega,fun v => ?_⟩
        · rw [Di,if_pos (by omega),Bh (List.getElem?_eq_getElem hi),Option.bind_some,Lt,M4,u1,Option.bind_some,IA (by omega),Option.bind_some,Ab (by omega)]; rfl
        · rw [List.mem_append,ho.2,u3,or_assoc]
          refine or_congr Iff.rfl ?_
          rw [List.take_succ_eq_append_getElem hi]
          constructor
          · rintro (⟨x,hx,hv⟩ | hv)
            · exact ⟨x,List.mem_append.2 (.inl hx),hv⟩
            · exact ⟨_,List.mem_append.2 (.inr (List.mem_singleton.2 rfl)),hv⟩
          · rintro ⟨x,hx,hv⟩
            rcases List.mem_append.1 hx with h | h
            · exact .inl ⟨x,h,hv⟩
            · rw [List.mem_singleton.1 h] at hv; exact .inr hv)
      (fun o _ => by rw [Di,if_neg (by omega)]; rfl) W ⟨by simpa using w2,fun v => by rw [w3]; simp⟩
    rw [List.take_length] at h1 h1'
    have h2' : Ac (Di (DA n) t f) (W,0) = some o := h2
    refine ⟨o, ?_,by omega,fun v => ?_⟩
    · show EF (DA n) t f = _
      unfold EF
      rw [Lt,v1,Option.bind_some,w1,Option.bind_some,h2']; rfl
    · rw [h1',Lb,or_assoc]
theorem Pg {t : Tr39} (hc : t.cnt ≤ 1000) (f : Int) : ∃ V,Fg t f = some V ∧ V.Pairwise (· < ·) ∧ ∀ v,v ∈ V ↔ v ∈ us f t := by
  obtain ⟨U,u1,u2,u3⟩ := YT f (SizeOf.sizeOf t + 1) t (by omega) hc
  obtain ⟨S,s1,s2,s3⟩ := Xm (L := U) (by omega)
  obtain ⟨R,r1,r2,r3⟩ := QR (L := S) (by rw [s2.length_eq]; omega) s3
  refine ⟨R, ?_,r2,fun v => (r3 v).trans (s2.mem_iff.trans (u3 v))⟩
  unfold Fg
  rw [Lt,M4,show KQ t f = some U from C7 (g := fun n => DA n t f) (fun n r h => JQ n t f r h) u1,Option.bind_some,s1,Option.bind_some,r1]; rfl
theorem Xt {f v : Int} : ∀ (n : Nat) (t : Tr36),SizeOf.sizeOf t < n → Hu t = true → v ∈ E9 f t → 0 ≤ v ∧ v ≤ Df f
  | 0,t,h,_,_ => absurd h (Nat.not_lt_zero _)
  | n + 1,t,h,hf,hv => by
    obtain ⟨h1,h2⟩ := (Gn t).1 hf
    rw [H2] at hv
    rcases List.mem_append.1 hv with hh | hh
    · by_cases c : t.un.1 = 3 ∧ t.un.2.1 = f
      · rw [if_pos c] at hh
        have h3 := h1.2.2.2.1 c.1
        rw [c.2] at h3
        rw [List.mem_singleton.1 hh]; exact h3.2.2
      · rw [if_neg c] at hh; exact absurd hh (List.not_mem_nil)
    · obtain ⟨l,hl,hvl⟩ := List.mem_flatten.1 hh
      obtain ⟨x,hx,rfl⟩ := List.mem_map.1 hl
      exact Xt n x (by have := OO hx; omega) (h2 x hx) hvl
theorem jG {f v : Int} : ∀ (n : Nat) (t : Tr39),SizeOf.sizeOf t < n → Hh t = true → v ∈ us f t → 0 ≤ v ∧ v ≤ Df f
  | 0,t,h,_,_ => absurd h (Nat.not_lt_zero _)
  | n + 1,t,h,hf,hv => by
    obtain ⟨⟨⟨h1,hz⟩,ho⟩,h2⟩ := (Fk t).1 hf
    unfold FX at h1
    rcases Lb.1 hv with hh | ⟨a,b,c⟩ | ⟨x,hx,hxv⟩
    · by_cases k : t.un.1 = 1 ∨ t.un.1 = 5
      · exact Xt (SizeOf.sizeOf t.un.2.1 + 1) t.un.2.1 (by omega) (ho k).1 hh
      · rw [hz (by omega)] at hh
        have e : E9 f ZP = [] := by rw [H2]; rfl
        rw [e] at hh
        exact absurd hh (List.not_mem_nil)
    · have := h1.2.2.2.1 a
      rw [b,c] at this
      omega
    · exact jG n x (by have := Vy hx; omega) (h2 x hx) hxv
def Vz (f : Int) (t : Tr39) (i : Nat) : List Int := ((List.range i).map fun (j : Nat) => (j : Int)).filter fun x => decide (x ∈ us f t)
theorem Zq (f : Int) (t : Tr39) (i : Nat) : (Vz f t i).length ≤ i := by
  unfold Vz
  have := List.length_filter_le (fun x => decide (x ∈ us f t)) ((List.range i).map fun (j : Nat) => (j : Int))
  simpa using this
abbrev len (f : Int) (t : Tr39) : Nat := (Vz f t ((Df f).toNat + 1)).length
theorem SY (f : Int) (t : Tr39) : len f t ≤ 256 := by
  have := Zq f t ((Df f).toNat + 1)
  have := S9 f
  show (Vz f t _).length ≤ _
  omega
theorem LB {t : Tr39} (hf : Hh t = true) (f : Int) {V : List Int} (h1 : V.Pairwise (· < ·)) (h2 : ∀ v,v ∈ V ↔ v ∈ us f t) : V = Vz f t ((Df f).toNat + 1) := by
  have htb := S9 f
  refine UO h1 ?_ fun x => ?_
  · unfold Vz
    refine List.Pairwise.filter _ ?_
    rw [List.pairwise_map]
    exact List.pairwise_lt_range.imp fun h => by omega
  · unfold Vz
    rw [h2,List.mem_filter,decide_eq_true_eq]
    refine ⟨fun h => ⟨?_,h⟩,fun h => h.2⟩
    have := jG (SizeOf.sizeOf t + 1) t (by omega) hf h
    exact List.mem_map.2 ⟨x.toNat,List.mem_range.2 (by omega),by omega⟩
def cl (t : Tr39) : Nat → Int
  | 0 => 1
  | i + 1 => min (cl t i * ((len i t : Nat) + 1 : Int)) 100000
theorem qY {a b : Int} (ha : 0 ≤ a ∧ a ≤ 100000) (hb : 0 ≤ b ∧ b ≤ 257) : 0 ≤ a * b ∧ a * b ≤ 25700000 := by
  refine ⟨Int.mul_nonneg ha.1 hb.1, ?_⟩
  have h1 : a * b ≤ 100000 * b := Int.mul_le_mul_of_nonneg_right ha.2 hb.1
  omega
theorem Xf (t : Tr39) : ∀ i,0 ≤ cl t i ∧ cl t i ≤ 100000
  | 0 => by unfold cl; omega
  | i + 1 => by
    have h1 := Xf t i
    have h2 := SY i t
    have h3 := qY h1 (b := ((len i t : Nat) + 1 : Int)) (by omega)
    show 0 ≤ min (cl t i * ((len i t : Nat) + 1 : Int)) 100000 ∧ min (cl t i * ((len i t : Nat) + 1 : Int)) 100000 ≤ 100000
    omega
theorem S5 {t : Tr39} (hc : t.cnt ≤ 1000) (hf : Hh t = true) : EU t = some (cl t 5) := by
  unfold EU
  obtain ⟨o,h1,h2⟩ := DW 5 (fun (o : Int) (i : Nat) => (o,(i : Int))) (Gv t) id (fun o i => o = cl t i)
    (fun o i hi ho => by
      obtain ⟨V,v1,v2,v3⟩ := Pg hc (i : Int)
      have hV := LB hf i v2 v3
      have h1 := Xf t i
      have h2 := SY i t
      have h3 := qY h1 (b := ((len i t : Nat) + 1 : Int)) (by omega)
      refine ⟨cl t (i + 1), ?_,rfl⟩
      rw [Gv,if_pos (by omega),Lt,M4,v1,Option.bind_some,hV]
      show some (Sum.inl (min (Ae (o * Ae ((len i t : Int) + 1))) 100000,_)) = _
      rw [Ab (x := (len i t : Int) + 1) (by omega),ho,Ab (by omega),Ab (by omega)]; rfl)
    (fun o _ => by rw [Gv,if_neg (by omega)]; rfl) 1 rfl
  have h2' : Ac (Gv t) (1,0) = some o := h2
  rw [h2',h1]; rfl
end Go.Proofs.YtgoifghhcekahaaGreatDoor
