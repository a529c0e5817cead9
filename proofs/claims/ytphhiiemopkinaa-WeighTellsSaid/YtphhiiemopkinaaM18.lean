/- Layer 18: paths. Conditions: none. -/
import Derived.Test.YtphhiiemopkinaaM18F
namespace Go.Proofs.Ytphhiiemopkinaa
set_option linter.unusedVariables false
set_option linter.unusedSimpArgs false
open Go Go.RowKit
/-! ### Loops -/
theorem foldW_app {α σ ε : Type} (step : α → σ → Option (σ ⊕ ε)) (B : List α) : ∀ (A : List α) (s : σ), foldW step (A ++ B) s = (foldW step A s).bind fun o => match o with | .inl s' => foldW step B s' | .inr e => some (.inr e)
  | [], s => rfl
  | x :: A, s => by
    show (step x s).bind _ = ((step x s).bind _).bind _
    cases step x s with
    | none => rfl
    | some o =>
      cases o with
      | inl s' => exact foldW_app step B A s'
      | inr e => rfl
theorem foldW_snd {α β σ ε : Type} (step : (β × α) → σ → Option (σ ⊕ ε)) (g : α → σ → Option (σ ⊕ ε)) (h : ∀ x s, step x s = g x.2 s) : ∀ (L : List (β × α)) (s : σ), foldW step L s = foldW g (L.map (·.2)) s
  | [], s => rfl
  | x :: L, s => by
    show (step x s).bind _ = (g x.2 s).bind _
    rw [h]
    congr 1
    funext o
    cases o with
    | inl s' => exact foldW_snd step g h L s'
    | inr e => rfl
/-! ### Ways -/
abbrev In (w : List Nat) (i : Int) : Prop := 0 ≤ i ∧ i < (w.length : Int)
abbrev wg (w : List Nat) (i : Int) : Nat := w.getD i.toNat 0
abbrev INF : Nat := 9218868437227405312
def pl (a b : Nat) : Nat := float_Plus a b
def sumW (w : List Nat) (l : List Int) : Nat := l.foldr (fun i c => pl (wg w i) c) 0
def valW (w : List Nat) (l : List Int) : Nat := if ∀ i ∈ l, In w i then sumW w l else INF
theorem ix_in {w : List Nat} {i : Int} (h : In w i) : ix w i = some (wg w i) := by
  have h2 : i.toNat < w.length := by omega
  rw [show i = ((i.toNat : Nat) : Int) by omega]
  refine (ix_nat (List.getElem?_eq_getElem h2)).trans ?_
  congr 1
  unfold wg
  rw [Int.toNat_natCast, List.getD_eq_getElem?_getD, List.getElem?_eq_getElem h2]; rfl
theorem exists_eq (w : List Nat) (i : Int) : weigh_exists w i = decide (In w i) := by unfold weigh_exists; rw [← Bool.decide_and]
def stepW (w : List Nat) (i : Int) (c : Nat) : Option (Nat ⊕ Nat) := if In w i then some (.inl (pl (wg w i) c)) else some (.inr INF)
theorem step_eq (w : List Nat) (x : Int × Int) (c : Nat) : weigh_Walk_l1 w x c = stepW w x.2 c := by
  rw [weigh_Walk_l1, exists_eq]
  unfold stepW
  by_cases h : In w x.2
  · rw [decide_eq_true h, if_neg (by decide), if_pos h, ix_in h]; rfl
  · rw [decide_eq_false h, if_pos (by decide), if_neg h, inf_eq.1]; rfl
theorem fold_walk (w : List Nat) : ∀ (l : List Int), foldW (stepW w) l.reverse 0 = some (if ∀ i ∈ l, In w i then .inl (sumW w l) else .inr INF)
  | [] => by rw [if_pos (by simp)]; rfl
  | i :: l => by
    rw [List.reverse_cons, foldW_app, fold_walk w l]
    by_cases h : ∀ i ∈ l, In w i
    · rw [if_pos h]
      show (stepW w i (sumW w l)).bind _ = _
      unfold stepW
      by_cases hi : In w i
      · rw [if_pos hi, if_pos (by simpa using ⟨hi, h⟩)]; rfl
      · rw [if_neg hi, if_neg (fun hc => hi (hc i (by simp)))]; rfl
    · rw [if_neg h, if_neg (fun hc => h fun x hx => hc x (by simp [hx]))]; rfl
theorem walk_eq (w : List Nat) {l : List Int} (hl : l.length ≤ 1000000000) : weigh_Walk w l = some (valW w l) := by
  unfold weigh_Walk
  rw [if_pos hl |> (fun h => show back l = some (bwd l) from h), Option.bind_some, foldW_snd (weigh_Walk_l1 w) (stepW w) (step_eq w), bwd_map, fold_walk]
  unfold valW
  by_cases h : ∀ i ∈ l, In w i
  · rw [if_pos h, if_pos h]; rfl
  · rw [if_neg h, if_neg h]; rfl
theorem pl_eq (a b : Nat) : pl a b = if cfn (fadd a b) = 9223372036854775808 then 0 else cfn (fadd a b) := plus_eq a b
theorem plw (a b : Nat) : W64 (pl a b) := by
  rw [pl_eq]
  split
  · unfold W64; decide
  · exact cfn_lt (fadd_lt a b)
theorem cfn_zero : cfn 0 = 0 := by decide
theorem pl_cfn (a b : Nat) : cfn (pl a b) = pl a b := by
  rw [pl_eq]
  split
  · exact cfn_zero
  · exact cfn_cfn _
theorem pl_left (a b : Nat) : pl (cfn a) b = pl a b := by
  by_cases h : nanB a
  · rw [pl_eq, pl_eq, fadd_nan (.inl h), fadd_nan (.inl (by rw [cfn_nan h]; decide))]
  · rw [cfn_ok h]
theorem valW_w (w : List Nat) (l : List Int) : W64 (valW w l) ∧ cfn (valW w l) = valW w l := by
  unfold valW
  split
  · cases l with
    | nil => exact ⟨show (0 : Nat) < 18446744073709551616 by decide, cfn_zero⟩
    | cons i l => exact ⟨plw _ _, pl_cfn _ _⟩
  · exact ⟨by unfold W64; decide, by decide⟩
/-! ### The document's walk -/
abbrev nz (L : List Nat) : List Int := L.map (fun n : Nat => (n : Int))
theorem nz_ix {L : List Nat} {i : Int} (h : In L i) : ix (nz L) i = some ((wg L i : Nat) : Int) := by
  have h2 : i.toNat < L.length := by omega
  rw [show i = ((i.toNat : Nat) : Int) by omega]
  refine (ix_nat (x := ((L[i.toNat]'h2 : Nat) : Int)) (by rw [List.getElem?_map, List.getElem?_eq_getElem h2]; rfl)).trans ?_
  congr 2
  unfold wg
  rw [Int.toNat_natCast, List.getD_eq_getElem?_getD, List.getElem?_eq_getElem h2]; rfl
theorem rplus_eq {a b : Nat} : r18_Plus (a : Int) (b : Int) = ((pl a b : Nat) : Int) := by
  unfold r18_Plus
  simp only [Int.toNat_natCast]
  rw [rclean_eq (fadd_lt a b), pl_eq]
  split
  · rename_i h
    rw [if_pos (by omega)]; rfl
  · rename_i h
    rw [if_neg (by omega)]
theorem wg_map (L : List Nat) (i : Int) : wg (L.map cfn) i = cfn (wg L i) := by
  unfold wg
  rw [List.getD_eq_getElem?_getD, List.getD_eq_getElem?_getD, List.getElem?_map]
  cases L[i.toNat]? with
  | none => exact cfn_zero.symm
  | some x => rfl
theorem in_map (L : List Nat) (i : Int) : In (L.map cfn) i ↔ In L i := by unfold In; rw [List.length_map]
theorem sum_map (L : List Nat) : ∀ l : List Int, sumW (L.map cfn) l = sumW L l
  | [] => rfl
  | i :: l => by
    show pl (wg (L.map cfn) i) (sumW (L.map cfn) l) = pl (wg L i) (sumW L l)
    rw [sum_map L l, wg_map, pl_left]
theorem val_map (L : List Nat) (l : List Int) : valW (L.map cfn) l = valW L l := by
  unfold valW
  by_cases h : ∀ i ∈ l, In L i
  · rw [if_pos h, if_pos (fun i hi => (in_map L i).2 (h i hi)), sum_map]
  · rw [if_neg h, if_neg (fun hc => h fun i hi => (in_map L i).1 (hc i hi))]
theorem loop_bad (l : List Int) (hl : l.length ≤ 100000) (L : List Nat) : loopW (r18_Walk_l1 (nz L) l) 0 = some (if ∃ x ∈ l, ¬ In L x then .inr 9218868437227405312 else .inl ()) := by
  have hd : DecidablePred fun k : Nat => ∃ x, l[k]? = some x ∧ ¬ In L x := fun _ => Classical.propDecidable _
  rw [search l.length (r18_Walk_l1 (nz L) l) (fun k => if ∃ x, l[k]? = some x ∧ ¬ In L x then some 9218868437227405312 else none) (fun k hk => by
    rw [r18_Walk_l1, if_pos (by omega), ix_nat (List.getElem?_eq_getElem hk), Option.bind_some, w64_id (by omega)]
    have hx : (∃ x, l[k]? = some x ∧ ¬ In L x) ↔ ¬ In L l[k] := by
      rw [List.getElem?_eq_getElem hk]
      exact ⟨fun ⟨x, h1, h2⟩ => by cases h1; exact h2, fun h => ⟨_, rfl, h⟩⟩
    by_cases h0 : l[k] < 0
    · rw [if_pos h0, if_pos (hx.2 (fun h => by omega))]; rfl
    · rw [if_neg h0]
      by_cases h1 : ((nz L).length : Int) ≤ l[k]
      · rw [if_pos (hx.2 (fun h => by simp at h1; omega)), Option.bind_some, Option.bind_some, decide_eq_true h1]; rfl
      · rw [if_neg (fun h => hx.1 h ⟨by omega, by simp at h1; omega⟩), Option.bind_some, Option.bind_some, decide_eq_false h1]; rfl) (by rw [r18_Walk_l1, if_neg (by omega)])]
  by_cases h : ∃ x ∈ l, ¬ In L x
  · rw [if_pos h]
    obtain ⟨x, hx, hn⟩ := h
    cases e : (List.range l.length).findSome? (fun k => if ∃ x, l[k]? = some x ∧ ¬ In L x then some (9218868437227405312 : Int) else none) with
    | none =>
      rw [List.findSome?_eq_none_iff] at e
      obtain ⟨k, hk, rfl⟩ := List.getElem_of_mem hx
      have := e k (List.mem_range.2 hk)
      rw [if_pos ⟨l[k], List.getElem?_eq_getElem hk, hn⟩] at this
      cases this
    | some c =>
      obtain ⟨k, _, hk⟩ := List.exists_of_findSome?_eq_some e
      split at hk
      · cases hk; rfl
      · cases hk
  · rw [if_neg h, find_none (fun k hk => if_neg fun ⟨x, h1, h2⟩ => h ⟨x, List.mem_of_getElem? h1, h2⟩)]
theorem rwalk_eq (L : List Nat) (l : List Int) (hl : l.length ≤ 100000) : r18_Walk (nz L) l = some ((valW L l : Nat) : Int) := by
  have key : ∀ (n : Nat) (l : List Int), l.length ≤ 100000 → (l.length < n → r18_Walk_n n (nz L) l = some ((valW L l : Nat) : Int)) ∧ ∀ r, r18_Walk_n n (nz L) l = some r → r = ((valW L l : Nat) : Int) := by
    intro n
    induction n with
    | zero => exact fun l hl => ⟨fun h => by omega, fun r h => nomatch h⟩
    | succ n ih =>
      intro l hl
      have hst : r18_Walk_n (n + 1) (nz L) l = r18_Walk_st (r18_Walk_n n) (nz L) l := rfl
      rw [hst]
      unfold r18_Walk_st
      cases l with
      | nil => exact ⟨fun _ => by rw [if_pos (by simp)]; rfl, fun r h => by rw [if_pos (by simp)] at h; exact (Option.some.inj h).symm⟩
      | cons i l =>
        rw [if_neg (by simp; omega), loop_bad (i :: l) (by omega) L]
        by_cases h : ∀ x ∈ i :: l, In L x
        · have hi := h i (by simp)
          have hx : ix (i :: l) 0 = some i := rfl
          have hs : subl (i :: l) 1 ((i :: l).length : Int) = some l := by
            rw [subl_is (by simp; omega)]
            simp
          have hl2 : l.length ≤ 100000 := by simp at hl; omega
          have hv : valW L l = sumW L l := if_pos fun x hx => h x (by simp [hx])
          have hv2 : valW L (i :: l) = pl (wg L i) (sumW L l) := if_pos h
          rw [if_neg (fun ⟨x, hx, hn⟩ => hn (h x hx)), orR_inl, hx, Option.bind_some, nz_ix hi, Option.bind_some, hs, Option.bind_some]
          refine ⟨fun hn => ?_, fun r hr => ?_⟩
          · rw [(ih l hl2).1 (by simp at hn; omega), Option.bind_some, rplus_eq, hv, hv2]
          · obtain ⟨x, h1, h2⟩ := bindE hr
            rw [(ih l hl2).2 x h1, rplus_eq, hv] at h2
            rw [hv2]
            exact (Option.some.inj h2).symm
        · have hv : valW L (i :: l) = INF := if_neg h
          rw [if_pos (Classical.byContradiction fun hc => h fun x hx => Classical.byContradiction fun hn => hc ⟨x, hx, hn⟩), hv]
          exact ⟨fun _ => rfl, fun r hr => (Option.some.inj hr).symm⟩
  unfold r18_Walk
  exact limF_is (l.length + 1) ((key _ l hl).1 (by omega)) fun n r h => (key n l hl).2 r h
/-! ### The weights -/
theorem of_list {L : List Nat} (hl : L.length ≤ 1000000) : weigh_Of (nz L) = some (L.map cfn) := by
  unfold weigh_Of
  rw [loop_copy (nz L) (by simp; omega) (fun x => float_Of x) (weigh_Of_l1 (nz L)) (fun k hk out ho => by
    rw [weigh_Of_l1, if_pos (by omega), ix_nat (List.getElem?_eq_getElem hk), Option.bind_some]) (fun out => by rw [weigh_Of_l1, if_neg (by omega)]), Option.bind_some, List.map_map]
  congr 1
  refine List.map_congr_left fun x _ => ?_
  exact of_eq x
theorem bits_list {w : List Nat} (hl : w.length ≤ 1000000) : weigh_Bits w = some (nz (w.map cfn)) := by
  unfold weigh_Bits
  rw [loop_copy w (by omega) (fun x => float_Bits x) (weigh_Bits_l1 w) (fun k hk out ho => by
    rw [weigh_Bits_l1, if_pos (by omega), ix_nat (List.getElem?_eq_getElem hk), Option.bind_some]) (fun out => by rw [weigh_Bits_l1, if_neg (by omega)]), Option.bind_some]
  show some (w.map _) = some ((w.map cfn).map _)
  rw [List.map_map]
  congr 1
  refine List.map_congr_left fun x _ => ?_
  exact fbits_eq x
theorem cost_cfn {x : Nat} (h : W64 x) : costB (cfn x) ↔ costB x := by
  by_cases hn : nanB x
  · rw [cfn_nan hn]
    have hw := (nan_word h).1 hn
    unfold costB
    omega
  · rw [cfn_ok hn]
abbrev OkW (L : List Nat) : Prop := ∀ x ∈ L, costB x
noncomputable instance (L : List Nat) : Decidable (OkW L) := Classical.propDecidable _
theorem rright_eq {L : List Nat} (hl : L.length ≤ 1000000) (links : Int) : r18_Right (nz L) links = some (decide (OkW L ∧ (L.length : Int) = links)) := by
  have hd : DecidablePred fun x : Int => ¬ r03_Cost x = true := fun _ => inferInstance
  unfold r18_Right
  rw [search_in (nz L) (by simp; omega) (r18_Right_l1 (nz L)) (fun x => ¬ r03_Cost x = true) false (fun k hk => by
    rw [r18_Right_l1, if_pos (by omega), ix_nat (List.getElem?_eq_getElem hk), Option.bind_some]
    by_cases c : r03_Cost (nz L)[k] = true
    · rw [if_neg (by rw [c]; decide), if_neg (fun h => h c)]
    · rw [if_pos (by rw [Bool.eq_false_iff.2 c]; rfl), if_pos c]) (by rw [r18_Right_l1, if_neg (by omega)])]
  by_cases h : OkW L
  · rw [if_neg (fun ⟨x, hx, hn⟩ => by
      obtain ⟨y, hy, rfl⟩ := List.mem_map.1 hx
      exact hn (cost_iff.2 (h y hy))), orR_inl]
    congr 1
    exact decide_eq_decide.2 ⟨fun h1 => ⟨h, by simpa using h1⟩, fun h1 => by simpa using h1.2⟩
  · have hx : ∃ x ∈ L, ¬ costB x := Classical.byContradiction fun hc => h fun x hx => Classical.byContradiction fun hn => hc ⟨x, hx, hn⟩
    obtain ⟨x, hx, hn⟩ := hx
    rw [if_pos ⟨(x : Int), List.mem_map.2 ⟨x, hx, rfl⟩, fun hc => hn (cost_iff.1 hc)⟩]
    show some false = _
    rw [decide_eq_false (fun hc => h hc.1)]
theorem right_eq {L : List Nat} (hL : ∀ x ∈ L, W64 x) (hl : L.length ≤ 1000000) (links : Int) : weigh_Right (L.map cfn) links = some (decide (OkW L ∧ (L.length : Int) = links)) := by
  unfold weigh_Right
  by_cases he : ((L.map cfn).length : Int) ≠ links
  · rw [if_pos he, decide_eq_false (fun h => he (by rw [List.length_map]; exact h.2))]
  · have he' : (L.length : Int) = links := by
      have := Classical.byContradiction he
      rw [List.length_map] at this; exact this
    rw [if_neg he, search_in (L.map cfn) (by simp; omega) (weigh_Right_l1 (L.map cfn)) (fun x => ¬ float_Cost x = true) false (fun k hk => by
      rw [weigh_Right_l1, if_pos (by omega), ix_nat (List.getElem?_eq_getElem hk), Option.bind_some]
      by_cases c : float_Cost (L.map cfn)[k] = true
      · rw [if_neg (by rw [c]; decide), if_neg (fun h => h c)]
      · rw [if_pos (by rw [Bool.eq_false_iff.2 c]; rfl), if_pos c]) (by rw [weigh_Right_l1, if_neg (by omega)])]
    have hc : ∀ x ∈ L, float_Cost (cfn x) = true ↔ costB x := fun x hx => by
      rw [cost_eq (cfn_lt (hL x hx)), cost_iff, cost_cfn (hL x hx)]
    by_cases h : OkW L
    · rw [if_neg (fun ⟨x, hx, hn⟩ => by
        obtain ⟨y, hy, rfl⟩ := List.mem_map.1 hx
        exact hn ((hc y hy).2 (h y hy))), decide_eq_true ⟨h, he'⟩]; rfl
    · have hx : ∃ x ∈ L, ¬ costB x := Classical.byContradiction fun hc => h fun x hx => Classical.byContradiction fun hn => hc ⟨x, hx, hn⟩
      obtain ⟨x, hx, hn⟩ := hx
      rw [if_pos ⟨cfn x, List.mem_map.2 ⟨x, hx, rfl⟩, fun h2 => hn ((hc x hx).1 h2)⟩, decide_eq_false (fun hc => h hc.1)]; rfl
def upB (x : Nat) : Bool := decide (¬ nanB x ∧ keyB x < 9218868437227405312)
theorem up_val (x : Nat) : fLt x 9218868437227405312 = upB x := by
  rw [fLt_eq]
  unfold upB
  have h1 : ¬ nanB 9218868437227405312 := by decide
  have h2 : keyB 9218868437227405312 = 9218868437227405312 := by decide
  rw [h2]
  exact decide_eq_decide.2 ⟨fun h => ⟨h.1, h.2.2⟩, fun h => ⟨h.1, h1, h.2⟩⟩
theorem upB_cfn {x : Nat} (h : W64 x) : upB (cfn x) = upB x := by
  by_cases hn : nanB x
  · rw [cfn_nan hn]
    unfold upB
    rw [decide_eq_false (fun hc => hc.1 (by decide)), decide_eq_false (fun hc => hc.1 hn)]
  · rw [cfn_ok hn]
theorem up_eq (w : List Nat) (i : Int) : weigh_Up w i = some (decide (In w i) && upB (wg w i)) := by
  unfold weigh_Up
  rw [exists_eq]
  by_cases h : In w i
  · rw [decide_eq_true h, if_pos rfl, ix_in h, Option.bind_some, inf_eq.1, Option.bind_some, up_val]; rfl
  · rw [decide_eq_false h]; rfl
theorem cls_up {x : Nat} (h : W64 x) : (decide (0 < cls x) && decide (cls x < 6)) = upB x := by
  rw [← Bool.decide_and]
  unfold upB
  refine decide_eq_decide.2 ?_
  have hr := rk_cases h
  unfold rk at hr
  by_cases h0 : cls x ≠ 0
  · rw [if_pos h0] at hr
    rcases hr with ⟨hn, h1, _⟩ | ⟨hn, h1⟩
    · exact absurd ((cls_zero).2 hn) h0
    · constructor
      · rintro ⟨h2, h3⟩
        refine ⟨hn, ?_⟩
        rcases h1 with h1 | h1 | h1 | h1 | h1 | h1 <;> omega
      · rintro ⟨_, h3⟩
        rcases h1 with h1 | h1 | h1 | h1 | h1 | h1 <;> omega
  · have h0 : cls x = 0 := Classical.byContradiction h0
    have hn := cls_zero.1 h0
    exact ⟨fun hc => by omega, fun hc => absurd hn hc.1⟩
theorem rup_eq {L : List Nat} (hL : ∀ x ∈ L, W64 x) (i : Int) : r18_Up (nz L) i = some (decide (In L i) && upB (wg L i)) := by
  unfold r18_Up
  by_cases h : In L i
  · rw [if_neg (by simp; omega), nz_ix h, Option.bind_some]
    have hw : W64 (wg L i) := hL _ (by
      have h2 : i.toNat < L.length := by omega
      unfold wg
      rw [List.getD_eq_getElem?_getD, List.getElem?_eq_getElem h2]
      exact List.getElem_mem h2)
    rw [rclass_eq hw, cls_up hw, decide_eq_true h]; rfl
  · rw [if_pos (by simp; omega), decide_eq_false h]; rfl
/-! ### The example -/
set_option maxRecDepth 100000 in
theorem awake18 : L18_awake = some true := by
  unfold L18_awake
  have e1 : valW [4609434218613702656, 4611686018427387904] [0, 1] = 4615063718147915776 := by
    unfold valW
    rw [if_pos (by intro i hi; rcases (by simpa using hi : i = 0 ∨ i = 1) with rfl | rfl <;> decide)]
    decide +kernel
  have e2 : valW [4609434218613702656, 4611686018427387904] [1] = 4611686018427387904 := by
    unfold valW
    rw [if_pos (by intro i hi; rcases (by simpa using hi : i = 1) with rfl; decide)]
    decide +kernel
  have e3 : valW [4609434218613702656, 4611686018427387904] [0] = 4609434218613702656 := by
    unfold valW
    rw [if_pos (by intro i hi; rcases (by simpa using hi : i = 0) with rfl; decide)]
    decide +kernel
  have hl : weigh_Least [4609434218613702656, 4611686018427387904] [[1], [0]] = some 1 := by
    unfold weigh_Least
    rw [loopW_go (s' := (0, 4611686018427387904, 1)) (by
      rw [weigh_Least_l1, if_pos (by decide), show ix ([([1] : List Int), ([0] : List Int)] : List (List Int)) 0 = some [1] from rfl, Option.bind_some, walk_eq _ (by decide), e2]; rfl), loopW_go (s' := (1, 4609434218613702656, 2)) (by
      rw [weigh_Least_l1, if_pos (by decide), show ix ([([1] : List Int), ([0] : List Int)] : List (List Int)) 1 = some [0] from rfl, Option.bind_some, walk_eq _ (by decide), e3, Option.bind_some, if_neg (by decide), compare_eq (by unfold W64; decide) (by unfold W64; decide), Option.bind_some, show cmpP (plc 4609434218613702656) (plc 4611686018427387904) = -1 by decide +kernel]; rfl), loopW_end (e := 1) (by rw [weigh_Least_l1, if_neg (by decide)])]; rfl
  rw [walk_eq _ (by decide), e1, Option.bind_some, if_pos (by decide +kernel), up_eq, Option.bind_some, if_pos (by decide +kernel), up_eq, Option.bind_some, if_pos (by decide +kernel), hl]
  rfl
theorem WeighTells_core (L : List Nat) (hL : ∀ x ∈ L, W64 x) (links link : Int) (way : List Int) : L18_WeighTells (nz L) links link way = some true := by
  unfold L18_WeighTells
  rw [awake18]
  by_cases h : 40 < ((nz L).length : Int) ∨ 40 < (way.length : Int)
  · rw [if_pos (by simpa using h)]; rfl
  · rw [if_neg (by simpa using h)]
    have hl : L.length ≤ 40 := by simp at h; omega
    have hw : way.length ≤ 40 := by simp at h; omega
    rw [of_list (by omega), Option.bind_some, bits_list (by simp; omega), Option.bind_some, List.map_map, show cfn ∘ cfn = cfn from funext cfn_cfn, if_neg (by simp), right_eq hL (by omega), rright_eq (by omega)]
    simp only [Option.bind_some]
    rw [if_neg (by simp), up_eq, rup_eq hL]
    simp only [Option.bind_some]
    have hup : (decide (In (L.map cfn) link) && upB (wg (L.map cfn) link)) = (decide (In L link) && upB (wg L link)) := by
      by_cases hi : In L link
      · rw [decide_eq_true hi, decide_eq_true ((in_map L link).2 hi), wg_map, upB_cfn]
        have h2 : link.toNat < L.length := by omega
        unfold wg
        rw [List.getD_eq_getElem?_getD, List.getElem?_eq_getElem h2]
        exact hL _ (List.getElem_mem h2)
      · rw [decide_eq_false hi, decide_eq_false (fun hc => hi ((in_map L link).1 hc))]; rfl
    rw [hup, if_neg (by simp), walk_eq _ (by omega), rwalk_eq L way (by omega)]
    simp only [Option.bind_some]
    rw [val_map, fbits_eq, (valW_w L way).2, decide_eq_false (by simp), if_neg (by decide)]
    rw [search_in (nz (L.map cfn)) (by simp; omega) (L18_WeighTells_l1 (nz L) (nz (L.map cfn))) (fun _ => False) false (fun k hk => by
      have hk2 : k < L.length := by simpa using hk
      rw [L18_WeighTells_l1, if_pos (by omega), ix_nat (x := ((cfn L[k] : Nat) : Int)) (by simp [hk2]), Option.bind_some, ix_nat (x := ((L[k] : Nat) : Int)) (by simp [hk2]), Option.bind_some, rclean_eq (hL _ (List.getElem_mem hk2)), if_neg (by simp), if_neg (by simp)]) (by rw [L18_WeighTells_l1, if_neg (by omega)]), if_neg (by simp), orR_inl]
end Go.Proofs.Ytphhiiemopkinaa
