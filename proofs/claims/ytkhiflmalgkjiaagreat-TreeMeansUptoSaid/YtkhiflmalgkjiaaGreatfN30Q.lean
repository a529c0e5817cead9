/- Layer 31: policies: which may be, what they ask for. Conditions: none. -/
import Derived.Test.YtkhiflmalgkjiaaGreatfN30
set_option linter.unusedVariables false
set_option linter.unusedSimpArgs false
open Go Go.RowKit
namespace Go.Proofs.YtkhiflmalgkjiaaGreat
abbrev ZP : Tr38 := Tr38.of (0,0,0,([] : List Tr38))
abbrev ZD : Tr24 := Tr24.of (0,0,0,([] : List Tr24))
theorem uR : mi ZD = ZP := by show mi (.mk 0 0 0 []) = _; rw [mi]; rfl
theorem mi_Z' {p : Tr24} : mi p = ZP ↔ p = ZD := ⟨fun h => pK (h.trans uR.symm),fun h => by rw [h,uR]⟩
abbrev FR (k f v : Int) (n : Nat) : Prop := 1 ≤ k ∧ k ≤ 5 ∧ (k ≠ 2 → f = 0 ∧ v = 0) ∧ (k = 2 → 0 ≤ f ∧ f ≤ 4 ∧ 0 ≤ v ∧ v ≤ Ci f) ∧ (k ≤ 2 → n = 0) ∧ (k = 5 → n = 2) ∧ (k = 3 ∨ k = 4 → 2 ≤ n ∧ n ≤ 8)
abbrev XF (k : Int) (p : Tr38) (f v : Int) (n : Nat) : Prop := FR k f v n ∧ (k = 2 ∨ k = 3 ∨ k = 4 → p = ZP)
open Classical in
theorem jP {t : Tr41} (hc : t.cnt ≤ 1048576) : HH t = some (decide (XF t.un.1 t.un.2.1 t.un.2.2.1 t.un.2.2.2.1 t.un.2.2.2.2.length)) := by
  have hq := qP t
  unfold HH Eu
  rw [w36,fZ (by omega)]
  simp only [za]
  by_cases hz : t.un.2.1 = ZP
  · rw [decide_eq_true hz,show decide (XF t.un.1 t.un.2.1 t.un.2.2.1 t.un.2.2.2.1 t.un.2.2.2.2.length) = decide (FR t.un.1 t.un.2.2.1 t.un.2.2.2.1 t.un.2.2.2.2.length) from decide_eq_decide.2 ⟨fun h => h.1,fun h => ⟨h,fun _ => hz⟩⟩]
    have no : ¬ FR t.un.1 t.un.2.2.1 t.un.2.2.2.1 t.un.2.2.2.2.length → some false = some (decide (FR t.un.1 t.un.2.2.1 t.un.2.2.2.1 t.un.2.2.2.2.length)) := fun h => by rw [decide_eq_false h]
    have yes : ∀ {P : Prop} [Decidable P],(P ↔ FR t.un.1 t.un.2.2.1 t.un.2.2.2.1 t.un.2.2.2.2.length) → some (decide P) = some (decide (FR t.un.1 t.un.2.2.1 t.un.2.2.2.1 t.un.2.2.2.2.length)) := fun h => congrArg some (decide_eq_decide.2 h)
    by_cases c2 : t.un.1 = 2
    · rw [if_pos c2,if_pos rfl]
      by_cases a1 : (t.un.2.2.2.2.length : Int) = 0
      · rw [if_pos a1]
        by_cases a2 : 0 ≤ t.un.2.2.1
        · rw [if_pos a2]
          by_cases a3 : t.un.2.2.1 ≤ 4
          · rw [if_pos a3]
            by_cases a4 : 0 ≤ t.un.2.2.2.1
            · rw [if_pos a4,eJ,za,za]
              exact yes ⟨fun h => by unfold FR; omega,fun h => by unfold FR at h; omega⟩
            · rw [if_neg a4]; exact no (fun h => by unfold FR at h; omega)
          · rw [if_neg a3]; exact no (fun h => by unfold FR at h; omega)
        · rw [if_neg a2]; exact no (fun h => by unfold FR at h; omega)
      · rw [if_neg a1]; exact no (fun h => by unfold FR at h; omega)
    · rw [if_neg c2]
      by_cases z : t.un.2.2.1 = 0 ∧ t.un.2.2.2.1 = 0
      · rw [if_neg (by simp [z.1,z.2])]
        by_cases c1 : t.un.1 = 1
        · rw [if_pos c1]
          exact yes ⟨fun h => by unfold FR; omega,fun h => by unfold FR at h; omega⟩
        · rw [if_neg c1]
          by_cases c34 : t.un.1 = 3 ∨ t.un.1 = 4
          · have e : (if t.un.1 = 3 then some true else some (decide (t.un.1 = 4)) : Option Bool) = some true := by
              rcases c34 with h | h
              · rw [if_pos h]
              · rw [if_neg (by omega),decide_eq_true h]
            rw [e,za,if_pos rfl,if_pos rfl]
            by_cases a : 2 ≤ (t.un.2.2.2.2.length : Int)
            · rw [if_pos a,za]
              exact yes ⟨fun h => by unfold FR; omega,fun h => by unfold FR at h; omega⟩
            · rw [if_neg a]; exact no (fun h => by unfold FR at h; omega)
          · rw [if_neg (by omega),decide_eq_false (by omega),za,if_neg (by decide)]
            by_cases c5 : t.un.1 = 5
            · rw [if_pos c5]
              exact yes ⟨fun h => by unfold FR; omega,fun h => by unfold FR at h; omega⟩
            · rw [if_neg c5]; exact no (fun h => by unfold FR at h; omega)
      · rw [if_pos (by simp only [Bool.or_eq_true,decide_eq_true_eq]; omega)]
        exact no (fun h => by unfold FR at h; omega)
  · rw [decide_eq_false hz]
    have no : ¬ XF t.un.1 t.un.2.1 t.un.2.2.1 t.un.2.2.2.1 t.un.2.2.2.2.length → some false = some (decide (XF t.un.1 t.un.2.1 t.un.2.2.1 t.un.2.2.2.1 t.un.2.2.2.2.length)) := fun h => by rw [decide_eq_false h]
    have yes : ∀ {P : Prop} [Decidable P],(P ↔ XF t.un.1 t.un.2.1 t.un.2.2.1 t.un.2.2.2.1 t.un.2.2.2.2.length) → some (decide P) = some (decide (XF t.un.1 t.un.2.1 t.un.2.2.1 t.un.2.2.2.1 t.un.2.2.2.2.length)) := fun h => congrArg some (decide_eq_decide.2 h)
    by_cases c2 : t.un.1 = 2
    · rw [if_pos c2,if_neg (by decide)]; exact no (fun h => hz (h.2 (.inl c2)))
    · rw [if_neg c2]
      by_cases z : t.un.2.2.1 = 0 ∧ t.un.2.2.2.1 = 0
      · rw [if_neg (by simp [z.1,z.2])]
        by_cases c1 : t.un.1 = 1
        · rw [if_pos c1]
          exact yes ⟨fun h => ⟨by unfold FR; omega,fun h => by omega⟩,fun h => by have := h.1; unfold FR at this; omega⟩
        · rw [if_neg c1]
          by_cases c34 : t.un.1 = 3 ∨ t.un.1 = 4
          · have e : (if t.un.1 = 3 then some true else some (decide (t.un.1 = 4)) : Option Bool) = some true := by
              rcases c34 with h | h
              · rw [if_pos h]
              · rw [if_neg (by omega),decide_eq_true h]
            rw [e,za,if_pos rfl,if_neg (by decide)]; exact no (fun h => hz (h.2 (.inr c34)))
          · rw [if_neg (by omega),decide_eq_false (by omega),za,if_neg (by decide)]
            by_cases c5 : t.un.1 = 5
            · rw [if_pos c5]
              exact yes ⟨fun h => ⟨by unfold FR; omega,fun h => by omega⟩,fun h => by have := h.1; unfold FR at this; omega⟩
            · rw [if_neg c5]; exact no (fun h => by have := h.1; unfold FR at this; omega)
      · rw [if_pos (by simp only [Bool.or_eq_true,decide_eq_true_eq]; omega)]
        exact no (fun h => by have := h.1; unfold FR at this; omega)
abbrev hJ (k : Int) (p : Tr38) (f v : Int) (n : Nat) : Prop := XF k p f v n ∧ (k = 1 ∨ k = 5 → Od p 64 8)
open Classical in
noncomputable def GR : Tr41 → Bool
  | .mk k p f v l => @decide (hJ k p f v l.length) (propDecidable _) && (l.map GR).all id
theorem Fx (t : Tr41) : GR t = true ↔ hJ t.un.1 t.un.2.1 t.un.2.2.1 t.un.2.2.2.1 t.un.2.2.2.2.length ∧ ∀ x ∈ t.un.2.2.2.2,GR x = true := by
  cases t with
  | mk k p f v l =>
    rw [GR,zg, @decide_eq_true_eq _ (Classical.propDecidable _),List.all_map,List.all_eq_true]; rfl
theorem Vz (t : Tr27) : GR (pm t) = true ↔ hJ t.un.1 (mi t.un.2.1) t.un.2.2.1 t.un.2.2.2.1 t.un.2.2.2.2.length ∧ ∀ x ∈ t.un.2.2.2.2,GR (pm x) = true := by
  rw [Fx,UJ]
  show hJ _ _ _ _ (t.un.2.2.2.2.map pm).length ∧ _ ↔ _
  rw [zh]
  refine and_congr_right fun _ => ⟨fun h x hx => h _ (List.mem_map.2 ⟨x,hx,rfl⟩),fun h x hx => ?_⟩
  obtain ⟨y,hy,rfl⟩ := List.mem_map.1 hx
  exact h y hy
abbrev TU (t : Tr41) (b d : Int) : Prop := GR t = true ∧ (dq t : Int) ≤ d ∧ (sz t : Int) ≤ b
open Classical in
theorem Un : ∀ (n : Nat) (t : Tr41),SizeOf.sizeOf t < n → t.cnt ≤ 1048576 → ∀ b d : Int, -1000 ≤ b → b ≤ 1000 → 0 ≤ d → d ≤ 1000 →
    (TU t b d → AD n b t d = some (true,b - sz t)) ∧ (¬ TU t b d → ∃ b',AD n b t d = some (false,b'))
  | 0,t,h,_ => absurd h (Nat.not_lt_zero _)
  | n + 1, t, h, hc => by
    intro b d b0 b1 d0 d1
    have hl := lP t
    have hq := qP t
    have hse := SX t
    have hde := Uy t
    have hst : AD (n + 1) b t d = BP (AD n) b t d := rfl
    rw [hst]
    unfold BP
    by_cases g1 : b < 1
    · rw [if_pos g1,za,if_pos rfl]
      exact ⟨fun hk => by have := hk.2.2; omega,fun _ => ⟨_,rfl⟩⟩
    rw [if_neg g1]
    by_cases g2 : d < 1
    · rw [if_pos g2,za,if_pos rfl]
      exact ⟨fun hk => by have := hk.2.1; omega,fun _ => ⟨_,rfl⟩⟩
    rw [if_neg g2,w36,w39,jP hc,za,za]
    by_cases g3 : XF t.un.1 t.un.2.1 t.un.2.2.1 t.un.2.2.2.1 t.un.2.2.2.2.length
    case neg =>
      rw [decide_eq_false g3,if_pos (by decide)]
      exact ⟨fun hk => absurd ((Fx t).1 hk.1).1.1 g3,fun _ => ⟨_,rfl⟩⟩
    case pos =>
      rw [decide_eq_true g3,if_neg (show ¬ (!true) = true by decide),Ah (by omega)]
      by_cases g4 : t.un.1 = 1 ∨ t.un.1 = 5 → Od t.un.2.1 64 8
      case neg =>
        have hk : t.un.1 = 1 ∨ t.un.1 = 5 := Classical.byContradiction fun hn => g4 fun h => absurd h hn
        rw [if_pos (by simpa using hk),UQ (by omega),za,decide_eq_false (fun h => g4 fun _ => h),if_pos (by decide)]
        exact ⟨fun h => absurd ((Fx t).1 h.1).1.2 g4,fun _ => ⟨_,rfl⟩⟩
      case pos =>
        have hpz : ∃ P : Nat,P ≤ 64 ∧ sz t = 1 + P + (t.un.2.2.2.2.map sz).sum ∧ (if (decide (t.un.1 = 1) || decide (t.un.1 = 5)) = true then (FM t.un.2.1).bind fun x4 => (if (!x4) = true then some (.inr (false,b - 1)) else (LB t.un.2.1).bind fun x5 => some (.inl (w64 ((b - 1) - x5)))) else some (.inl (b - 1)) : Option (Int ⊕ (Bool × Int))) = some (.inl (b - 1 - P)) := by
          have hlin := g3.1
          unfold FR at hlin
          by_cases hk : t.un.1 = 1 ∨ t.un.1 = 5
          · have ho := g4 hk
            have ho3 := ho.2.2
            refine ⟨t.un.2.1.cnt,by omega,by rw [hse,if_pos (by omega)], ?_⟩
            rw [if_pos (by simpa using hk),UQ (by omega),za,decide_eq_true ho,if_neg (by decide),iP (by omega),za,Ah (by omega)]
          · refine ⟨0,by omega,by rw [hse,if_neg (by omega)], ?_⟩
            rw [if_neg (by simpa using hk)]; simp
        obtain ⟨P,hP,hsz,e1⟩ := hpz
        rw [e1]
        show (TU t b d → GN (Aj (AK (AD n) t d) (0,b - 1 - (P : Int))) (fun x6 => some (decide (0 ≤ x6),x6)) = some (true,b - sz t)) ∧ (¬ TU t b d → ∃ b',GN (Aj (AK (AD n) t d) (0,b - 1 - (P : Int))) (fun x6 => some (decide (0 ≤ x6),x6)) = some (false,b'))
        have key : ∀ (m i : Nat),i + m = t.un.2.2.2.2.length → (∀ x ∈ t.un.2.2.2.2.take i,GR x = true ∧ (dq x : Int) ≤ d - 1) → (i = 0 ∨ (((t.un.2.2.2.2.take i).map sz).sum : Int) ≤ b - 1 - P) →
            (TU t b d → GN (Aj (AK (AD n) t d) ((i : Int),b - 1 - P - (((t.un.2.2.2.2.take i).map sz).sum : Nat))) (fun x6 => some (decide (0 ≤ x6),x6)) = some (true,b - sz t)) ∧ (¬ TU t b d → ∃ b',GN (Aj (AK (AD n) t d) ((i : Int),b - 1 - P - (((t.un.2.2.2.2.take i).map sz).sum : Nat))) (fun x6 => some (decide (0 ≤ x6),x6)) = some (false,b')) := by
          intro m
          induction m with
          | zero =>
            intro i hi hx hs
            have e0 : t.un.2.2.2.2.take i = t.un.2.2.2.2 := List.take_of_length_le (by omega)
            rw [e0] at hx hs ⊢
            rw [Ap (e := .inl (b - 1 - P - ((t.un.2.2.2.2.map sz).sum : Nat))) (by rw [AK,if_neg (by omega)])]
            have hd : (dq t : Int) ≤ d := by
              have : mx (t.un.2.2.2.2.map dq) ≤ (d - 1).toNat := Tf fun a ha => by
                obtain ⟨x,hm,rfl⟩ := List.mem_map.1 ha
                have := (hx x hm).2
                omega
              omega
            show (_ → some (decide (0 ≤ b - 1 - (P : Int) - ((t.un.2.2.2.2.map sz).sum : Nat)),b - 1 - (P : Int) - ((t.un.2.2.2.2.map sz).sum : Nat)) = _) ∧ (_ → ∃ b',some (decide (0 ≤ b - 1 - (P : Int) - ((t.un.2.2.2.2.map sz).sum : Nat)),b - 1 - (P : Int) - ((t.un.2.2.2.2.map sz).sum : Nat)) = _)
            by_cases q : 0 ≤ b - 1 - (P : Int) - ((t.un.2.2.2.2.map sz).sum : Nat)
            · rw [decide_eq_true q]
              refine ⟨fun _ => by congr 2; omega,fun hn => absurd ⟨(Fx t).2 ⟨⟨g3,g4⟩,fun x hm => (hx x hm).1⟩,hd,by omega⟩ hn⟩
            · rw [decide_eq_false q]
              exact ⟨fun hk => by have := hk.2.2; omega,fun _ => ⟨_,rfl⟩⟩
          | succ m ih =>
            intro i hi hx hs
            have hil : i < t.un.2.2.2.2.length := by omega
            have hm := List.getElem_mem hil
            have hsum : ((t.un.2.2.2.2.take (i + 1)).map sz).sum = ((t.un.2.2.2.2.take i).map sz).sum + sz t.un.2.2.2.2[i] := by
              rw [List.take_succ_eq_append_getElem hil,List.map_append,List.sum_append]; simp
            have hle := JE (g := sz) t.un.2.2.2.2 (i + 1)
            have h0 : i = 0 → ((t.un.2.2.2.2.take i).map sz).sum = 0 := fun h => by rw [h]; rfl
            obtain ⟨r1,r2⟩ := Un n t.un.2.2.2.2[i] (by have := XI hm; omega) (Nat.le_trans (cP hm) hc) (b - 1 - P - (((t.un.2.2.2.2.take i).map sz).sum : Nat)) (d - 1) (by omega) (by omega) (by omega) (by omega)
            by_cases g : TU t.un.2.2.2.2[i] (b - 1 - P - (((t.un.2.2.2.2.take i).map sz).sum : Nat)) (d - 1)
            · have hg2 := g.2.2
              have hstep : AK (AD n) t d ((i : Int),b - 1 - P - (((t.un.2.2.2.2.take i).map sz).sum : Nat)) = some (.inl (((i + 1 : Nat) : Int),b - 1 - P - (((t.un.2.2.2.2.take (i + 1)).map sz).sum : Nat))) := by
                rw [AK,if_pos (by omega),A9 (zb hil),za,w36,w39,Ah (by omega),r1 g,za,if_neg (show ¬ (!true) = true by decide),Ah (by omega),hsum]
                show some (Sum.inl (_,_)) = _
                congr 3; omega
              rw [Bi hstep]
              refine ih (i + 1) (by omega) (fun x hxm => ?_) (by omega)
              rw [List.take_succ_eq_append_getElem hil] at hxm
              rcases List.mem_append.1 hxm with hh | hh
              · exact hx x hh
              · rw [List.mem_singleton.1 hh]; exact ⟨g.1,g.2.1⟩
            · obtain ⟨b',hb'⟩ := r2 g
              have hno : ¬ TU t b d := fun hk => g ⟨((Fx t).1 hk.1).2 _ hm,by
                have h1 := UN (List.mem_map.2 ⟨_,hm,rfl⟩ : dq t.un.2.2.2.2[i] ∈ t.un.2.2.2.2.map dq)
                have := hk.2.1
                omega,by have := hk.2.2; omega⟩
              refine ⟨fun hk => absurd hk hno,fun _ => ⟨b', ?_⟩⟩
              rw [Ap (e := .inr (false,b')) (by
                rw [AK,if_pos (by omega),A9 (zb hil),za,w36,w39,Ah (by omega),hb',za,if_pos (by rfl)])]
              rfl
        have := key t.un.2.2.2.2.length 0 (by omega) (by simp) (.inl rfl)
        simpa using this
abbrev xU (t : Tr41) : Prop := TU t 64 8 ∧ wd t ≤ 64
open Classical in
theorem f9 {t : Tr41} (hc : t.cnt ≤ 1048576) : GC t = some (decide (xU t)) := by
  obtain ⟨h1,h2⟩ := Un (SizeOf.sizeOf t + 1) t (by omega) hc 64 8 (by omega) (by omega) (by omega) (by omega)
  unfold GC
  rw [w36,w39]
  by_cases g : TU t 64 8
  · rw [show D8 64 t 8 = some (true,(64 - sz t : Int)) from B6 (g := fun n => AD n 64 t 8) (fun n r h => DL n 64 t 8 r h) (h1 g),za,if_pos rfl,g9 hc,za,za]
    exact congrArg some (decide_eq_decide.2 ⟨fun h => ⟨g,h⟩,fun h => h.2⟩)
  · obtain ⟨b',hb⟩ := h2 g
    rw [show D8 64 t 8 = some (false,b') from B6 (g := fun n => AD n 64 t 8) (fun n r h => DL n 64 t 8 r h) hb,za,if_neg (show ¬ false = true by decide),za,decide_eq_false (fun h => g h.1)]
theorem UL : ∀ (n : Nat) (t : Tr27),SizeOf.sizeOf t < n → t.cnt ≤ 1048576 → E8 n t = some (GR (pm t))
  | 0,t,h,_ => absurd h (Nat.not_lt_zero _)
  | n + 1, t, h, hc => by
    have hl := lD t
    have hq := qD t
    have htb := SY t.un.2.2.1
    show ER (E8 n) t = _
    unfold ER
    have no : ¬ hJ t.un.1 (mi t.un.2.1) t.un.2.2.1 t.un.2.2.2.1 t.un.2.2.2.2.length → GR (pm t) = false := fun hn => by
      cases hh : GR (pm t) with
      | false => rfl
      | true => exact absurd ((Vz t).1 hh).1 hn
    by_cases g1 : (decide (t.un.1 < 1) || (decide (5 < t.un.1) || (decide (t.un.1 ≠ 2) && (decide (t.un.2.2.1 ≠ 0) || decide (t.un.2.2.2.1 ≠ 0))))) = true
    · rw [if_pos g1,no (fun hf => by
        have := hf.1.1
        unfold FR at this
        simp only [zg,Bool.or_eq_true,decide_eq_true_eq] at g1
        omega)]
    rw [if_neg g1]
    simp only [zg,Bool.or_eq_true,decide_eq_true_eq,not_or,not_and] at g1
    have hask : ∃ x : Bool,(if (decide (t.un.1 = 1) || decide (t.un.1 = 5)) = true then (HC (f24 t.un.2.1)).bind fun x2 => (if (!x2) = true then some true else some false) else (La (f24 t.un.2.1) (Tr24.of (0,0,0,([] : List Tr24)))).bind fun x3 => some (!x3)) = some x ∧ (x = false ↔ (t.un.1 = 2 ∨ t.un.1 = 3 ∨ t.un.1 = 4 → mi t.un.2.1 = ZP) ∧ (t.un.1 = 1 ∨ t.un.1 = 5 → Od (mi t.un.2.1) 64 8)) := by
      rw [w28,bP (by omega),gG (by omega)]
      by_cases hk : t.un.1 = 1 ∨ t.un.1 = 5
      · rw [if_pos (by simpa using hk),za]
        by_cases ho : Od (mi t.un.2.1) 64 8
        · rw [decide_eq_true ho,if_neg (by decide)]
          exact ⟨false,rfl,⟨fun _ => ⟨fun h => by omega,fun _ => ho⟩,fun _ => rfl⟩⟩
        · rw [decide_eq_false ho,if_pos (by decide)]
          exact ⟨true,rfl,⟨(fun h => nomatch h),fun h => absurd (h.2 hk) ho⟩⟩
      · rw [if_neg (by simpa using hk),za]
        by_cases hz : t.un.2.1 = ZD
        · refine ⟨false, ?_, ?_⟩
          · rw [@decide_eq_true _ (_) hz]; rfl
          · exact ⟨fun _ => ⟨fun _ => mi_Z'.2 hz,fun h => absurd h hk⟩,fun _ => rfl⟩
        · refine ⟨true, ?_, ?_⟩
          · rw [@decide_eq_false _ (_) hz]; rfl
          · exact ⟨(fun h => nomatch h),fun h => absurd (mi_Z'.1 (h.1 (by omega))) hz⟩
    obtain ⟨x,hx1,hx2⟩ := hask
    rw [hx1,za]
    cases x with
    | true =>
      rw [if_pos rfl,no (fun hf => by have := hx2.2 ⟨hf.1.2,hf.2⟩; cases this)]
    | false =>
      obtain ⟨ha,hb⟩ := hx2.1 rfl
      rw [if_neg (by decide)]
      by_cases g2 : (decide (t.un.1 = 2) && (decide (t.un.2.2.1 < 0) || (decide (4 < t.un.2.2.1) || (decide (t.un.2.2.2.1 < 0) || decide ((Ci t.un.2.2.1) < t.un.2.2.2.1))))) = true
      · rw [if_pos g2,no (fun hf => by
          have := hf.1.1
          unfold FR at this
          simp only [zg,Bool.or_eq_true,decide_eq_true_eq] at g2
          omega)]
      rw [if_neg g2]
      simp only [zg,Bool.or_eq_true,decide_eq_true_eq,not_or,not_and] at g2
      have hlen : ∃ y : Bool,(bif decide (t.un.1 ≤ 2) then (decide ((t.un.2.2.2.2.length : Int) ≠ 0) || (bif decide (t.un.1 = 5) then (decide ((t.un.2.2.2.2.length : Int) ≠ 2) || (bif decide (t.un.1 = 3) then (decide ((t.un.2.2.2.2.length : Int) < 2) || decide (8 < (t.un.2.2.2.2.length : Int))) else (decide (t.un.1 = 4) && (decide ((t.un.2.2.2.2.length : Int) < 2) || decide (8 < (t.un.2.2.2.2.length : Int)))))) else (bif decide (t.un.1 = 3) then (decide ((t.un.2.2.2.2.length : Int) < 2) || decide (8 < (t.un.2.2.2.2.length : Int))) else (decide (t.un.1 = 4) && (decide ((t.un.2.2.2.2.length : Int) < 2) || decide (8 < (t.un.2.2.2.2.length : Int))))))) else (bif decide (t.un.1 = 5) then (decide ((t.un.2.2.2.2.length : Int) ≠ 2) || (bif decide (t.un.1 = 3) then (decide ((t.un.2.2.2.2.length : Int) < 2) || decide (8 < (t.un.2.2.2.2.length : Int))) else (decide (t.un.1 = 4) && (decide ((t.un.2.2.2.2.length : Int) < 2) || decide (8 < (t.un.2.2.2.2.length : Int)))))) else (bif decide (t.un.1 = 3) then (decide ((t.un.2.2.2.2.length : Int) < 2) || decide (8 < (t.un.2.2.2.2.length : Int))) else (decide (t.un.1 = 4) && (decide ((t.un.2.2.2.2.length : Int) < 2) || decide (8 < (t.un.2.2.2.2.length : Int))))))) = y ∧ (y = false ↔ FR t.un.1 t.un.2.2.1 t.un.2.2.2.1 t.un.2.2.2.2.length) := by
        refine ⟨_,rfl, ?_⟩
        have hk : t.un.1 = 1 ∨ t.un.1 = 2 ∨ t.un.1 = 3 ∨ t.un.1 = 4 ∨ t.un.1 = 5 := by omega
        unfold FR
        rcases hk with h | h | h | h | h <;> rw [h] at g1 g2 ⊢ <;> simp <;> omega
      obtain ⟨y,hy1,hy2⟩ := hlen
      rw [hy1]
      cases y with
      | true => rw [if_pos rfl,no (fun hf => by have := hy2.2 hf.1.1; cases this)]
      | false =>
        have hlin := hy2.1 rfl
        rw [if_neg (by decide)]
        have hx : ∀ x ∈ t.un.2.2.2.2,E8 n x = some (GR (pm x)) := fun x hm => UL n x (by have := p8 hm; omega) (Nat.le_trans (cD hm) hc)
        rw [PV t.un.2.2.2.2 (by omega) (Gs (E8 n) t) (fun x => GR (pm x) = false) false (fun k hk => by
          rw [Gs,if_pos (by omega),A9 (zb hk),za,w28,w31,hx _ (List.getElem_mem hk),za]
          cases hq : GR (pm t.un.2.2.2.2[k]) with
          | true => rw [if_neg (by decide),if_neg (by decide)]
          | false => rw [if_pos (by decide),if_pos rfl]) (by rw [Gs,if_neg (by omega)])]
        by_cases e : ∃ e ∈ t.un.2.2.2.2,GR (pm e) = false
        · rw [if_pos e]
          obtain ⟨x,hxm,hxf⟩ := e
          have : GR (pm t) = false := by
            cases hh : GR (pm t) with
            | false => rfl
            | true => rw [((Vz t).1 hh).2 x hxm] at hxf; cases hxf
          rw [this]; rfl
        · rw [if_neg e]
          have : GR (pm t) = true := (Vz t).2 ⟨⟨⟨hlin,ha⟩,hb⟩,fun x hxm => by
            cases hh : GR (pm x) with
            | true => rfl
            | false => exact absurd ⟨x,hxm,hh⟩ e⟩
          rw [this]; rfl
open Classical in
theorem f8 {t : Tr27} (hc : t.cnt ≤ 1048576) : M9 t = some (decide (xU (pm t))) := by
  unfold M9
  rw [w28,w31,show Rq t = some (GR (pm t)) from B6 (g := fun n => E8 n t) (fun n r h => NH n t r h) (UL (SizeOf.sizeOf t + 1) t (by omega) hc),za,Ya hc,Te hc,cF hc]
  simp only [za]
  by_cases hf : GR (pm t) = true
  case neg => rw [if_neg hf,za,decide_eq_false (fun h => hf h.1.1)]
  case pos =>
    rw [if_pos hf]
    by_cases c : (dq (pm t) : Int) ≤ 8
    · rw [if_pos c]
      by_cases c2 : (sz (pm t) : Int) ≤ 64
      · rw [if_pos c2,za]
        exact congrArg some (decide_eq_decide.2 ⟨fun h => ⟨⟨hf,c,c2⟩,h⟩,fun h => h.2⟩)
      · rw [if_neg c2,za,decide_eq_false (fun h => c2 h.1.2.2)]
    · rw [if_neg c,za,decide_eq_false (fun h => c h.1.2.1)]
end Go.Proofs.YtkhiflmalgkjiaaGreat
namespace Go.Proofs.YtkhiflmalgkjiaaGreat
theorem j0 (f : Int) (t : Tr24) : Dl f (mi t) = (if t.un.1 = 3 ∧ t.un.2.1 = f then [t.un.2.2.1] else []) ++ ((t.un.2.2.2.map fun x => Dl f (mi x)).flatten) := by rw [HY,WW]; show _ ++ ((t.un.2.2.2.map mi).map (Dl f)).flatten = _; rw [List.map_map]; rfl
theorem Th {f v : Int} {t : Tr24} : v ∈ Dl f (mi t) ↔ (t.un.1 = 3 ∧ t.un.2.1 = f ∧ t.un.2.2.1 = v) ∨ ∃ x ∈ t.un.2.2.2,v ∈ Dl f (mi x) := by
  rw [j0,List.mem_append]
  refine or_congr ?_ ?_
  · by_cases c : t.un.1 = 3 ∧ t.un.2.1 = f
    · rw [if_pos c,List.mem_singleton]
      exact ⟨fun h => ⟨c.1,c.2,h.symm⟩,fun h => h.2.2.symm⟩
    · rw [if_neg c]
      exact ⟨fun h => absurd h (List.not_mem_nil),fun h => absurd ⟨h.1,h.2.1⟩ c⟩
  · rw [List.mem_flatten]
    constructor
    · rintro ⟨l,hl,hv⟩
      obtain ⟨x,hx,rfl⟩ := List.mem_map.1 hl
      exact ⟨x,hx,hv⟩
    · rintro ⟨x,hx,hv⟩
      exact ⟨_,List.mem_map.2 ⟨x,hx,rfl⟩,hv⟩
theorem gQ (f v : Int) : ∀ (n : Nat) (t : Tr24),SizeOf.sizeOf t < n → t.cnt ≤ 1048576 → FI n t f v = some (decide (v ∈ Dl f (mi t)))
  | 0,t,h,_ => absurd h (Nat.not_lt_zero _)
  | n + 1,t,h,hc => by
    have hl := tH t
    show ET (FI n) t f v = _
    unfold ET
    by_cases g : t.un.1 = 3 ∧ t.un.2.1 = f ∧ t.un.2.2.1 = v
    · rw [if_pos (by simp [g.1,g.2.1,g.2.2]),decide_eq_true (Th.2 (.inl g))]
    · rw [if_neg (by simpa using g),PV t.un.2.2.2 (by omega) (EP (FI n) t f v) (fun x => v ∈ Dl f (mi x)) true (fun k hk => by
        have hm := List.getElem_mem hk
        rw [EP,if_pos (by omega),A9 (zb hk),za,gQ f v n _ (by have := Xk hm; omega) (Nat.le_trans (rT hm) hc),za]
        by_cases q : v ∈ Dl f (mi t.un.2.2.2[k])
        · rw [decide_eq_true q,if_pos q]; rfl
        · rw [decide_eq_false q,if_neg q]; rfl) (by rw [EP,if_neg (by omega)])]
      by_cases q : ∃ x ∈ t.un.2.2.2,v ∈ Dl f (mi x)
      · rw [if_pos q,decide_eq_true (Th.2 (.inr q))]; rfl
      · rw [if_neg q,decide_eq_false (fun hh => (Th.1 hh).elim g q)]; rfl
theorem lL {t : Tr24} (hc : t.cnt ≤ 1048576) (f v : Int) : M8 t f v = some (decide (v ∈ Dl f (mi t))) := B6 (g := fun n => FI n t f v) (fun n r h => NC n t f v r h) (gQ f v (SizeOf.sizeOf t + 1) t (by omega) hc)
theorem kQ {t : Tr38} (hc : t.cnt ≤ 1000000) (f : Int) : ∃ V,FG t f = some V ∧ V.Pairwise (· < ·) ∧ V.length ≤ t.cnt ∧ ∀ v,v ∈ V ↔ v ∈ Dl f t := by
  have hlen := Pg f (SizeOf.sizeOf t + 1) t (by omega)
  obtain ⟨S,s1,s2,s3⟩ := YY (L := Dl f t) (by omega)
  obtain ⟨R,r1,r2,r3⟩ := RG (L := S) (by rw [s2.length_eq]; omega) s3
  have hRl : R.length ≤ S.length := by
    have hnd : R.Nodup := r2.imp fun h => by omega
    exact UP R S hnd fun x hx => (r3 x).1 hx
  refine ⟨R, ?_,r2,by rw [s2.length_eq] at hRl; omega,fun v => (r3 v).trans s2.mem_iff⟩
  unfold FG
  rw [W3 (by omega),za,s1,za,r1]; rfl
def us (f : Int) : Tr41 → List Int
  | .mk k p g v l => Dl f p ++ (if k = 2 ∧ g = f then [v] else []) ++ (l.map (us f)).flatten
theorem xO (f : Int) (t : Tr41) : us f t = Dl f t.un.2.1 ++ (if t.un.1 = 2 ∧ t.un.2.2.1 = f then [t.un.2.2.2.1] else []) ++ (t.un.2.2.2.2.map (us f)).flatten := by cases t; rw [us]; rfl
theorem I4 {f v : Int} {t : Tr41} : v ∈ us f t ↔ v ∈ Dl f t.un.2.1 ∨ (t.un.1 = 2 ∧ t.un.2.2.1 = f ∧ t.un.2.2.2.1 = v) ∨ ∃ x ∈ t.un.2.2.2.2,v ∈ us f x := by
  rw [xO,List.mem_append,List.mem_append,or_assoc]
  refine or_congr Iff.rfl (or_congr ?_ ?_)
  · by_cases c : t.un.1 = 2 ∧ t.un.2.2.1 = f
    · rw [if_pos c,List.mem_singleton]
      exact ⟨fun h => ⟨c.1,c.2,h.symm⟩,fun h => h.2.2.symm⟩
    · rw [if_neg c]
      exact ⟨fun h => absurd h (List.not_mem_nil),fun h => absurd ⟨h.1,h.2.1⟩ c⟩
  · rw [List.mem_flatten]
    constructor
    · rintro ⟨l,hl,hv⟩
      obtain ⟨x,hx,rfl⟩ := List.mem_map.1 hl
      exact ⟨x,hx,hv⟩
    · rintro ⟨x,hx,hv⟩
      exact ⟨_,List.mem_map.2 ⟨x,hx,rfl⟩,hv⟩
theorem dA (f : Int) : ∀ (n : Nat) (t : Tr41),SizeOf.sizeOf t < n → t.cnt ≤ 1000 → ∃ U,C5 n t f = some U ∧ U.length ≤ t.cnt ∧ ∀ v,v ∈ U ↔ v ∈ us f t
  | 0,t,h,_ => absurd h (Nat.not_lt_zero _)
  | n + 1, t, h, hc => by
    have hl := lP t
    have hq := qP t
    have hcc := ST t
    obtain ⟨V,v1,_,v3,v4⟩ := kQ (t := t.un.2.1) (by omega) f
    have e1 : ∃ W : List Int,(if (decide (t.un.1 = 2) && decide (t.un.2.2.1 = f)) = true then (HU V ([t.un.2.2.2.1] : List Int)).bind fun x3 => some x3 else some V) = some W ∧ W.length ≤ t.un.2.1.cnt + 1 ∧ ∀ v,v ∈ W ↔ v ∈ Dl f t.un.2.1 ∨ (t.un.1 = 2 ∧ t.un.2.2.1 = f ∧ t.un.2.2.2.1 = v) := by
      by_cases c : t.un.1 = 2 ∧ t.un.2.2.1 = f
      · refine ⟨V ++ [t.un.2.2.2.1],by rw [if_pos (by simp [c.1,c.2]),I5 (by simp; omega)]; rfl,by simp; omega,fun v => ?_⟩
        rw [List.mem_append,List.mem_singleton,v4]
        exact or_congr Iff.rfl ⟨fun h => ⟨c.1,c.2,h.symm⟩,fun h => h.2.2.symm⟩
      · refine ⟨V,by rw [if_neg (by simpa using c)],by omega,fun v => ?_⟩
        rw [v4]
        exact ⟨.inl,fun h => h.elim id fun h => absurd ⟨h.1,h.2.1⟩ c⟩
    obtain ⟨W,w1,w2,w3⟩ := e1
    obtain ⟨o,⟨h1,h1'⟩,h2⟩ := DU t.un.2.2.2.2.length (fun (o : List Int) (i : Nat) => (o,(i : Int))) (CH (C5 n) t f) id (fun o i => o.length ≤ t.un.2.1.cnt + 1 + ((t.un.2.2.2.2.take i).map Tr41.cnt).sum ∧ ∀ v,v ∈ o ↔ (v ∈ Dl f t.un.2.1 ∨ (t.un.1 = 2 ∧ t.un.2.2.1 = f ∧ t.un.2.2.2.1 = v)) ∨ ∃ x ∈ t.un.2.2.2.2.take i,v ∈ us f x)
      (fun o i hi ho => by
        have hm := List.getElem_mem hi
        obtain ⟨U,u1,u2,u3⟩ := dA f n t.un.2.2.2.2[i] (by have := XI hm; omega) (Nat.le_trans (cP hm) hc)
        have hs2 : ((t.un.2.2.2.2.take (i + 1)).map Tr41.cnt).sum = ((t.un.2.2.2.2.take i).map Tr41.cnt).sum + t.un.2.2.2.2[i].cnt := by
          rw [List.take_succ_eq_append_getElem hi,List.map_append,List.sum_append]; simp
        have hle := JE (g := Tr41.cnt) t.un.2.2.2.2 (i + 1)
        have ho1 := ho.1
        refine ⟨o ++ U, ?_,by rw [List.length_append]; omega,fun v => ?_⟩
        · rw [CH,if_pos (by omega),A9 (zb hi),za,w36,w39,u1,za,I5 (by omega),za,Ah (by omega)]; rfl
        · rw [List.mem_append,ho.2,u3,or_assoc]
          refine or_congr Iff.rfl ?_
          rw [List.take_succ_eq_append_getElem hi]
          constructor
          · rintro (⟨x,hx,hv⟩ | hv)
            · exact ⟨x,List.mem_append.2 (.inl hx),hv⟩
            · exact ⟨_,List.mem_append.2 (.inr (List.mem_singleton.2 rfl)),hv⟩
          · rintro ⟨x,hx,hv⟩
            rcases List.mem_append.1 hx with h | h
            · exact .inl ⟨x,h,hv⟩
            · rw [List.mem_singleton.1 h] at hv; exact .inr hv)
      (fun o _ => by rw [CH,if_neg (by omega)]; rfl) W ⟨by simpa using w2,fun v => by rw [w3]; simp⟩
    rw [List.take_length] at h1 h1'
    have h2' : Aj (CH (C5 n) t f) (W,0) = some o := h2
    refine ⟨o, ?_,by omega,fun v => ?_⟩
    · show Ds (C5 n) t f = _
      unfold Ds
      rw [w36,v1,za,w1,za,h2']; rfl
    · rw [h1',I4,or_assoc]
theorem Nh {t : Tr41} (hc : t.cnt ≤ 1000) (f : Int) : ∃ V,Dc t f = some V ∧ V.Pairwise (· < ·) ∧ ∀ v,v ∈ V ↔ v ∈ us f t := by
  obtain ⟨U,u1,u2,u3⟩ := dA f (SizeOf.sizeOf t + 1) t (by omega) hc
  obtain ⟨S,s1,s2,s3⟩ := YY (L := U) (by omega)
  obtain ⟨R,r1,r2,r3⟩ := RG (L := S) (by rw [s2.length_eq]; omega) s3
  refine ⟨R, ?_,r2,fun v => (r3 v).trans (s2.mem_iff.trans (u3 v))⟩
  unfold Dc
  rw [w36,w39,show Kk t f = some U from B6 (g := fun n => C5 n t f) (fun n r h => Ir n t f r h) u1,za,s1,za,r1]; rfl
theorem YR {f v : Int} : ∀ (n : Nat) (t : Tr38),SizeOf.sizeOf t < n → HM t = true → v ∈ Dl f t → 0 ≤ v ∧ v ≤ Ci f
  | 0,t,h,_,_ => absurd h (Nat.not_lt_zero _)
  | n + 1,t,h,hf,hv => by
    obtain ⟨h1,h2⟩ := (IW t).1 hf
    rw [HY] at hv
    rcases List.mem_append.1 hv with hh | hh
    · by_cases c : t.un.1 = 3 ∧ t.un.2.1 = f
      · rw [if_pos c] at hh
        have h3 := h1.2.2.2.1 c.1
        rw [c.2] at h3
        rw [List.mem_singleton.1 hh]; exact h3.2.2
      · rw [if_neg c] at hh; exact absurd hh (List.not_mem_nil)
    · obtain ⟨l,hl,hvl⟩ := List.mem_flatten.1 hh
      obtain ⟨x,hx,rfl⟩ := List.mem_map.1 hl
      exact YR n x (by have := QK hx; omega) (h2 x hx) hvl
theorem iA {f v : Int} : ∀ (n : Nat) (t : Tr41),SizeOf.sizeOf t < n → GR t = true → v ∈ us f t → 0 ≤ v ∧ v ≤ Ci f
  | 0,t,h,_,_ => absurd h (Nat.not_lt_zero _)
  | n + 1,t,h,hf,hv => by
    obtain ⟨⟨⟨h1,hz⟩,ho⟩,h2⟩ := (Fx t).1 hf
    unfold FR at h1
    rcases I4.1 hv with hh | ⟨a,b,c⟩ | ⟨x,hx,hxv⟩
    · by_cases k : t.un.1 = 1 ∨ t.un.1 = 5
      · exact YR (SizeOf.sizeOf t.un.2.1 + 1) t.un.2.1 (by omega) (ho k).1 hh
      · rw [hz (by omega)] at hh
        have e : Dl f ZP = [] := by rw [HY]; rfl
        rw [e] at hh
        exact absurd hh (List.not_mem_nil)
    · have := h1.2.2.2.1 a
      rw [b,c] at this
      omega
    · exact iA n x (by have := XI hx; omega) (h2 x hx) hxv
theorem iB {f v : Int} {t : Tr27} : v ∈ us f (pm t) ↔ v ∈ Dl f (mi t.un.2.1) ∨ (t.un.1 = 2 ∧ t.un.2.2.1 = f ∧ t.un.2.2.2.1 = v) ∨ ∃ x ∈ t.un.2.2.2.2,v ∈ us f (pm x) := by
  rw [I4,UJ]
  refine or_congr Iff.rfl (or_congr Iff.rfl ?_)
  constructor
  · rintro ⟨x,hx,hv⟩
    obtain ⟨y,hy,rfl⟩ := List.mem_map.1 (show x ∈ t.un.2.2.2.2.map pm from hx)
    exact ⟨y,hy,hv⟩
  · rintro ⟨x,hx,hv⟩
    exact ⟨pm x,List.mem_map.2 ⟨x,hx,rfl⟩,hv⟩
theorem n9 (f v : Int) : ∀ (n : Nat) (t : Tr27),SizeOf.sizeOf t < n → t.cnt ≤ 1048576 → GB n t f v = some (decide (v ∈ us f (pm t)))
  | 0,t,h,_ => absurd h (Nat.not_lt_zero _)
  | n + 1, t, h, hc => by
    have hl := lD t
    have hq := qD t
    show Hr (GB n) t f v = _
    unfold Hr
    rw [w28,lL (by omega)]
    simp only [za]
    have e1 : ∃ b : Bool,(if t.un.1 = 2 then (if t.un.2.2.1 = f then (if t.un.2.2.2.1 = v then some true else some (decide (v ∈ Dl f (mi t.un.2.1)))) else some (decide (v ∈ Dl f (mi t.un.2.1)))) else some (decide (v ∈ Dl f (mi t.un.2.1)))) = some b ∧ (b = true ↔ v ∈ Dl f (mi t.un.2.1) ∨ (t.un.1 = 2 ∧ t.un.2.2.1 = f ∧ t.un.2.2.2.1 = v)) := by
      by_cases c : t.un.1 = 2 ∧ t.un.2.2.1 = f ∧ t.un.2.2.2.1 = v
      · exact ⟨true,by rw [if_pos c.1,if_pos c.2.1,if_pos c.2.2],⟨fun _ => .inr c,fun _ => rfl⟩⟩
      · refine ⟨decide (v ∈ Dl f (mi t.un.2.1)), ?_,by rw [decide_eq_true_eq]; exact ⟨.inl,fun h => h.elim id fun h => absurd h c⟩⟩
        by_cases c1 : t.un.1 = 2
        · rw [if_pos c1]
          by_cases c2 : t.un.2.2.1 = f
          · rw [if_pos c2,if_neg (fun h => c ⟨c1,c2,h⟩)]
          · rw [if_neg c2]
        · rw [if_neg c1]
    obtain ⟨b,b1,b2⟩ := e1
    rw [b1,za]
    cases b with
    | true => rw [if_pos rfl,decide_eq_true (iB.2 (or_assoc.1 (.inl (b2.1 rfl))))]
    | false =>
      have hno : ¬ (v ∈ Dl f (mi t.un.2.1) ∨ (t.un.1 = 2 ∧ t.un.2.2.1 = f ∧ t.un.2.2.2.1 = v)) := fun h => by have := b2.2 h; cases this
      rw [if_neg (by decide),PV t.un.2.2.2.2 (by omega) (Hh (GB n) t f v) (fun x => v ∈ us f (pm x)) true (fun k hk => by
        have hm := List.getElem_mem hk
        rw [Hh,if_pos (by omega),A9 (zb hk),za,w28,w31,n9 f v n _ (by have := p8 hm; omega) (Nat.le_trans (cD hm) hc),za]
        by_cases q : v ∈ us f (pm t.un.2.2.2.2[k])
        · rw [decide_eq_true q,if_pos q]; rfl
        · rw [decide_eq_false q,if_neg q]; rfl) (by rw [Hh,if_neg (by omega)])]
      by_cases q : ∃ x ∈ t.un.2.2.2.2,v ∈ us f (pm x)
      · rw [if_pos q,decide_eq_true (iB.2 (.inr (.inr q)))]; rfl
      · rw [if_neg q,decide_eq_false (fun hh => (or_assoc.2 (iB.1 hh)).elim hno q)]; rfl
theorem sR {t : Tr27} (hc : t.cnt ≤ 1048576) (f v : Int) : Vm t f v = some (decide (v ∈ us f (pm t))) := B6 (g := fun n => GB n t f v) (fun n r h => Pu n t f v r h) (n9 f v (SizeOf.sizeOf t + 1) t (by omega) hc)
def LV (f : Int) (t : Tr41) (i : Nat) : List Int := ((List.range i).map fun (j : Nat) => (j : Int)).filter fun x => decide (x ∈ us f t)
theorem aL (f : Int) (t : Tr41) (i : Nat) : LV f t (i + 1) = LV f t i ++ if (i : Int) ∈ us f t then [(i : Int)] else [] := by
  unfold LV
  rw [List.range_succ,List.map_append,List.filter_append]
  congr 1
  show List.filter _ [(i : Int)] = _
  by_cases c : (i : Int) ∈ us f t
  · rw [if_pos c,List.filter_cons_of_pos (by simpa using c)]; rfl
  · rw [if_neg c,List.filter_cons_of_neg (by simpa using c)]; rfl
theorem WS (f : Int) (t : Tr41) (i : Nat) : (LV f t i).length ≤ i := by
  unfold LV
  have := List.length_filter_le (fun x => decide (x ∈ us f t)) ((List.range i).map fun (j : Nat) => (j : Int))
  simpa using this
abbrev len (f : Int) (t : Tr41) : Nat := (LV f t ((Ci f).toNat + 1)).length
theorem XQ (f : Int) (t : Tr41) : len f t ≤ 256 := by
  have := WS f t ((Ci f).toNat + 1)
  have := SY f
  show (LV f t _).length ≤ _
  omega
theorem HI {t : Tr41} (hf : GR t = true) (f : Int) {V : List Int} (h1 : V.Pairwise (· < ·)) (h2 : ∀ v,v ∈ V ↔ v ∈ us f t) : V = LV f t ((Ci f).toNat + 1) := by
  have htb := SY f
  refine Xd h1 ?_ fun x => ?_
  · unfold LV
    refine List.Pairwise.filter _ ?_
    rw [List.pairwise_map]
    exact List.pairwise_lt_range.imp fun h => by omega
  · unfold LV
    rw [h2,List.mem_filter,decide_eq_true_eq]
    refine ⟨fun h => ⟨?_,h⟩,fun h => h.2⟩
    have := iA (SizeOf.sizeOf t + 1) t (by omega) hf h
    exact List.mem_map.2 ⟨x.toNat,List.mem_range.2 (by omega),by omega⟩
def cl (t : Tr41) : Nat → Int
  | 0 => 1
  | i + 1 => min (cl t i * ((len i t : Nat) + 1 : Int)) 100000
theorem sU {a b : Int} (ha : 0 ≤ a ∧ a ≤ 100000) (hb : 0 ≤ b ∧ b ≤ 257) : 0 ≤ a * b ∧ a * b ≤ 25700000 := by
  refine ⟨Int.mul_nonneg ha.1 hb.1, ?_⟩
  have h1 : a * b ≤ 100000 * b := Int.mul_le_mul_of_nonneg_right ha.2 hb.1
  omega
theorem UU (t : Tr41) : ∀ i,0 ≤ cl t i ∧ cl t i ≤ 100000
  | 0 => by unfold cl; omega
  | i + 1 => by
    have h1 := UU t i
    have h2 := XQ i t
    have h3 := sU h1 (b := ((len i t : Nat) + 1 : Int)) (by omega)
    show 0 ≤ min (cl t i * ((len i t : Nat) + 1 : Int)) 100000 ∧ min (cl t i * ((len i t : Nat) + 1 : Int)) 100000 ≤ 100000
    omega
theorem sC {t : Tr41} (hc : t.cnt ≤ 1000) (hf : GR t = true) : Hz t = some (cl t 5) := by
  unfold Hz
  obtain ⟨o,h1,h2⟩ := DU 5 (fun (o : Int) (i : Nat) => (o,(i : Int))) (ED t) id (fun o i => o = cl t i)
    (fun o i hi ho => by
      obtain ⟨V,v1,v2,v3⟩ := Nh hc (i : Int)
      have hV := HI hf i v2 v3
      have h1 := UU t i
      have h2 := XQ i t
      have h3 := sU h1 (b := ((len i t : Nat) + 1 : Int)) (by omega)
      refine ⟨cl t (i + 1), ?_,rfl⟩
      rw [ED,if_pos (by omega),w36,w39,v1,za,hV]
      show some (Sum.inl (min (w64 (o * w64 ((len i t : Int) + 1))) 100000,_)) = _
      rw [Ah (x := (len i t : Int) + 1) (by omega),ho,Ah (by omega),Ah (by omega)]; rfl)
    (fun o _ => by rw [ED,if_neg (by omega)]; rfl) 1 rfl
  have h2' : Aj (ED t) (1,0) = some o := h2
  rw [h2',h1]; rfl
end Go.Proofs.YtkhiflmalgkjiaaGreat
namespace Go.Proofs.YtkhiflmalgkjiaaGreat
theorem YK {α : Type} {g h : α → Nat} : ∀ (l : List α),(∀ x ∈ l,g x ≤ 2 * h x) → (l.map g).sum ≤ 2 * (l.map h).sum
  | [],_ => Nat.le_refl _
  | x :: l,hx => by
    have h1 := hx x (List.mem_cons_self ..)
    have h2 := YK (g := g) (h := h) l fun y hy => hx y (zd _ hy)
    rw [zj,List.sum_cons,zj,List.sum_cons]; omega
theorem dI : ∀ (n : Nat) (t : Tr41),SizeOf.sizeOf t < n → GR t = true → t.cnt ≤ 2 * sz t
  | 0,t,h,_ => absurd h (Nat.not_lt_zero _)
  | n + 1,t,h,hf => by
    obtain ⟨⟨⟨h1,hz⟩,ho⟩,h2⟩ := (Fx t).1 hf
    unfold FR at h1
    have hs := YK (g := Tr41.cnt) (h := sz) t.un.2.2.2.2 fun x hx => dI n x (by have := XI hx; omega) (h2 x hx)
    rw [ST,SX]
    by_cases k : t.un.1 < 2 ∨ 4 < t.un.1
    · rw [if_pos k]; omega
    · rw [if_neg k,hz (by omega)]
      have : (ZP).cnt = 1 := by rw [Kd]; rfl
      omega
theorem jU {t : Tr41} (h : xU t) : t.cnt ≤ 128 := by
  have := dI (SizeOf.sizeOf t + 1) t (by omega) h.1.1
  have := h.1.2.2
  omega
theorem Yn {α : Type} {l : List α} (h : l.length = 2) : ∃ a b,l = [a,b] := by
  match l,h with
  | [a,b],_ => exact ⟨a,b,rfl⟩
def jA (k : Int) (p : Tr38) (f v : Int) (L : List Tr41) : Tr41 :=
  match L with
  | [a,b] => if k = 5 ∧ p.un.1 = 1 then a else if k = 5 ∧ p.un.1 = 2 then b else .mk k p f v [a,b]
  | L => .mk k p f v L
def at' (sw : Int) : Tr41 → Tr41
  | .mk k p f v l => jA k (if k = 1 ∨ k = 5 then ct sw p else p) f v (l.map (at' sw))
abbrev cp (sw : Int) (k : Int) (p : Tr38) : Tr38 := if k = 1 ∨ k = 5 then ct sw p else p
theorem YT (sw : Int) (t : Tr41) : at' sw t = jA t.un.1 (cp sw t.un.1 t.un.2.1) t.un.2.2.1 t.un.2.2.2.1 (t.un.2.2.2.2.map (at' sw)) := by cases t; rw [at']; rfl
theorem Wg {k : Int} {p : Tr38} {f v : Int} {L : List Tr41} (h : k ≠ 5) : jA k p f v L = .mk k p f v L := by
  unfold jA
  split
  · rw [if_neg (fun hh => h hh.1),if_neg (fun hh => h hh.1)]
  · rfl
theorem yS (sw : Int) : ∀ (n : Nat) (t : Tr41),SizeOf.sizeOf t < n → t.cnt ≤ 1048576 → Dg n t sw = some (at' sw t)
  | 0,t,h,_ => absurd h (Nat.not_lt_zero _)
  | n + 1, t, h, hc => by
    have hl := lP t
    have hq := qP t
    have hx : ∀ x ∈ t.un.2.2.2.2,Dg n x sw = some (at' sw x) := fun x hm => yS sw n x (by have := XI hm; omega) (Nat.le_trans (cP hm) hc)
    have hall : Aj (DE (Dg n) t sw) ([],0) = some (t.un.2.2.2.2.map (at' sw)) := PZ t.un.2.2.2.2 (by omega) (at' sw) (DE (Dg n) t sw) (fun k hk out ho => by
      rw [DE,if_pos (by omega),A9 (zb hk),za,w36,w39,hx _ (List.getElem_mem hk),za,w36,w39]) (fun out => by rw [DE,if_neg (by omega)])
    show EO (Dg n) t sw = _
    unfold EO
    rw [hall,YT]
    have e1 : (if (decide (t.un.1 = 1) || decide (t.un.1 = 5)) = true then (LA (f38 t.un.2.1) sw).bind fun x5 => some (x5.un.1,x5.un.2.1,x5.un.2.2.1,x5.un.2.2.2) else some (t.un.2.1.un.1,t.un.2.1.un.2.1,t.un.2.1.un.2.2.1,t.un.2.1.un.2.2.2)) = some (cp sw t.un.1 t.un.2.1).un := by
      rw [w36,jM (by omega),za]
      unfold cp
      by_cases c : t.un.1 = 1 ∨ t.un.1 = 5
      · rw [if_pos (by simpa using c),if_pos c]
      · rw [if_neg (by simpa using c),if_neg c]
    rw [e1,za]
    show (if (decide (t.un.1 = 5) && (decide ((t.un.2.2.2.2.length : Int) = 2) && decide ((cp sw t.un.1 t.un.2.1).un.1 = 1))) = true then _ else if (decide (t.un.1 = 5) && (decide ((t.un.2.2.2.2.length : Int) = 2) && decide ((cp sw t.un.1 t.un.2.1).un.1 = 2))) = true then _ else _) = _
    have ofc : Tr38.of ((cp sw t.un.1 t.un.2.1).un.1,(cp sw t.un.1 t.un.2.1).un.2.1,(cp sw t.un.1 t.un.2.1).un.2.2.1,(cp sw t.un.1 t.un.2.1).un.2.2.2) = cp sw t.un.1 t.un.2.1 := w36 _
    generalize cp sw t.un.1 t.un.2.1 = P at ofc ⊢
    by_cases c5 : t.un.1 = 5 ∧ t.un.2.2.2.2.length = 2
    · obtain ⟨a,b,hab⟩ := Yn c5.2
      have ha : Dg n a sw = some (at' sw a) := hx a (by rw [hab]; simp)
      have hb : Dg n b sw = some (at' sw b) := hx b (by rw [hab]; simp)
      rw [hab,show ix [a,b] 0 = some a from A9 (k := 0) rfl,show ix [a,b] 1 = some b from A9 (k := 1) rfl]
      simp only [za]
      rw [w36,w39,w36,w39,ha,hb]
      simp only [za]
      show _ = some (jA t.un.1 P t.un.2.2.1 t.un.2.2.2.1 [at' sw a,at' sw b])
      unfold jA
      dsimp only
      by_cases p1 : P.un.1 = 1
      · rw [if_pos (by simp [c5.1,p1]),if_pos ⟨c5.1,p1⟩,w36,w39]
      rw [if_neg (by simp [p1]),if_neg (show ¬ (t.un.1 = 5 ∧ P.un.1 = 1) from fun h => p1 h.2)]
      by_cases p2 : P.un.1 = 2
      · rw [if_pos (by simp [c5.1,p2]),if_pos (show t.un.1 = 5 ∧ P.un.1 = 2 from ⟨c5.1,p2⟩),w36,w39]
      rw [if_neg (by simp [p2]),if_neg (show ¬ (t.un.1 = 5 ∧ P.un.1 = 2) from fun h => p2 h.2)]
      show some (Tr41.of (t.un.1,Tr38.of (P.un.1,P.un.2.1,P.un.2.2.1,P.un.2.2.2),t.un.2.2.1,t.un.2.2.2.1,_)) = _
      rw [ofc]; rfl
    · have e5 : jA t.un.1 P t.un.2.2.1 t.un.2.2.2.1 (t.un.2.2.2.2.map (at' sw)) = .mk t.un.1 P t.un.2.2.1 t.un.2.2.2.1 (t.un.2.2.2.2.map (at' sw)) := by
        by_cases k : t.un.1 = 5
        · have hlen : (t.un.2.2.2.2.map (at' sw)).length ≠ 2 := by rw [zh]; exact fun h => c5 ⟨k,h⟩
          unfold jA
          split
          · rename_i a b hh
            rw [hh] at hlen; exact absurd rfl hlen
          · rfl
        · exact Wg k
      rw [if_neg (by simp only [zg,decide_eq_true_eq]; omega),if_neg (by simp only [zg,decide_eq_true_eq]; omega),za,e5]
      show some (Tr41.of (t.un.1,Tr38.of (P.un.1,P.un.2.1,P.un.2.2.1,P.un.2.2.2),t.un.2.2.1,t.un.2.2.2.1,_)) = _
      rw [ofc]
theorem uN {t : Tr41} (hc : t.cnt ≤ 1048576) (sw : Int) : Ot t sw = some (at' sw t) := B6 (g := fun n => Dg n t sw) (fun n r h => KJ n t sw r h) (yS sw (SizeOf.sizeOf t + 1) t (by omega) hc)
theorem iQ (sw : Int) : ∀ (n : Nat) (t : Tr41),SizeOf.sizeOf t < n → GR t = true → (at' sw t).cnt ≤ t.cnt
  | 0,t,h,_ => absurd h (Nat.not_lt_zero _)
  | n + 1,t,h,hf => by
    obtain ⟨⟨⟨h1,hz⟩,ho⟩,h2⟩ := (Fx t).1 hf
    have hs := sum_mono' (g := fun x => (at' sw x).cnt) (h := Tr41.cnt) t.un.2.2.2.2 fun x hx => iQ sw n x (by have := XI hx; omega) (h2 x hx)
    have hP : (cp sw t.un.1 t.un.2.1).cnt ≤ t.un.2.1.cnt := by
      unfold cp
      by_cases c : t.un.1 = 1 ∨ t.un.1 = 5
      · rw [if_pos c]
        exact (Rd 0 (0,0,0,0) sw (SizeOf.sizeOf t.un.2.1 + 1) t.un.2.1 (by omega) (ho c).1).size
      · rw [if_neg c]; exact Nat.le_refl _
    have mk : ∀ (k : Int) (p : Tr38) (f v : Int) (l : List Tr41),(Tr41.mk k p f v l).cnt = 1 + (p.cnt + (l.map Tr41.cnt).sum) := fun k p f v l => ST (.mk k p f v l)
    have hmap : ((t.un.2.2.2.2.map (at' sw)).map Tr41.cnt).sum ≤ (t.un.2.2.2.2.map Tr41.cnt).sum := by rw [List.map_map]; exact hs
    rw [YT,ST t]
    unfold jA
    split
    · rename_i a b hab
      rw [hab] at hmap
      simp only [zj,List.map_nil,List.sum_cons,List.sum_nil] at hmap
      split
      · omega
      · split
        · omega
        · rw [mk]; simp only [zj,List.map_nil,List.sum_cons,List.sum_nil]; omega
    · rw [mk]; omega
end Go.Proofs.YtkhiflmalgkjiaaGreat
