/- Layer 25: where nothing is found. Conditions: none. -/
import Derived.Test.YthhoflfhegfmcaacM25H
namespace Go.Proofs.Ythhoflfhegfmcaa
set_option linter.unusedVariables false
set_option linter.unusedSimpArgs false
open Go Go.RowKit
theorem Pv {n : Nat} {l : Es} (ok : Ok (n : Int) l) {s k : Nat} (h : wk n l (k + 1) s s = true) : s < n ∧ wy n l s s ≠ 0 := by
  obtain ⟨i, h1, h2⟩ := (Ev ok).1 h
  have hs := (J9 ok h1).1
  obtain ⟨e, _, he⟩ := Mv h2
  have hlt := KP ok hs he
  refine ⟨hs, fun h0 => ?_⟩
  rcases JI n l s s with ⟨_, h3⟩ | ⟨k, h3, _, h4, _⟩
  · have := h3 (e + 1) (by omega) (by omega)
    rw [(Ev ok).2 ⟨i, h1, he.1⟩] at this; cases this
  · omega
theorem Ft {σ β : Type} {f : σ → β → σ} {Q : σ → Prop} (hk : ∀ x b, Q x → Q (f x b)) : ∀ (l : List β) (x : σ), Q x → Q (l.foldl f x)
  | [], _, h => h
  | b :: l, x, h => Ft hk l (f x b) (hk x b h)
theorem Hr {σ β : Type} {f : σ → β → σ} {Q : σ → Prop} (hk : ∀ x b, Q x → Q (f x b)) {b : β} (hb : ∀ x, Q (f x b)) : ∀ (l : List β) (x : σ), b ∈ l → Q (l.foldl f x)
  | [], _, h => nomatch h
  | c :: l, x, h => by
    rcases List.mem_cons.1 h with rfl | h
    · exact Ft hk l _ (hb x)
    · exact Hr hk hb l _ h
theorem M4 {α β : Type} {q : β} {c : α → Bool} {f : β → α → β} : ∀ (l : List α) (x : β), (∀ a ∈ l, ∀ x, f x a = if c a = true then q else x) → l.foldl f x = if l.any c = true then q else x
  | [], x, _ => rfl
  | a :: l, x, h => by
    rw [List.foldl_cons, M4 l (f x a) fun b hb => h b (List.mem_cons_of_mem _ hb), h a (List.mem_cons_self ..), List.any_cons]
    by_cases d : c a = true
    · rw [if_pos d, d, Bool.true_or, if_pos rfl]; split <;> rfl
    · rw [if_neg d]
      rw [Bool.not_eq_true] at d
      rw [d, Bool.false_or]
theorem PZ {n : Nat} {l : Es} (ok : Ok (n : Int) l) {Q : Nat → Prop} {q : Nat} (hq : Q q) (hQ : ∀ i, Q i → ∃ k, Q k ∧ J l i k) : ∃ s k, wk n l (k + 1) s s = true := by
  refine Classical.byContradiction fun hno => ?_
  have key : ∀ m : Nat, ∃ (a : Nat) (L : List Int), Q a ∧ L.length = m ∧ L.Nodup ∧ ∀ x ∈ L, ∃ c j : Nat, x = (c : Int) ∧ c < n ∧ wk n l (j + 1) c a = true := by
    intro m
    induction m with
    | zero => exact ⟨q, [], hq, rfl, by simp, by simp⟩
    | succ m ih =>
      obtain ⟨a, L, h1, h2, h3, h4⟩ := ih
      obtain ⟨k, h5, h6⟩ := hQ a h1
      refine ⟨k, (a : Int) :: L, h5, by rw [List.length_cons, h2], ?_, fun x hx => ?_⟩
      · rw [List.nodup_cons]
        refine ⟨fun hm => ?_, h3⟩
        obtain ⟨c, j, h7, _, h8⟩ := h4 _ hm
        obtain rfl : a = c := by omega
        exact hno ⟨a, j, h8⟩
      · rcases List.mem_cons.1 hx with rfl | hx
        · exact ⟨a, 0, rfl, (J9 ok h6).1, (Ev ok).2 ⟨k, h6, Fe.2 rfl⟩⟩
        · obtain ⟨c, j, h7, h8, h9⟩ := h4 x hx
          exact ⟨c, j + 1, h7, h8, (P6 ok).2 ⟨a, h9, h6⟩⟩
  obtain ⟨a, L, _, h2, h3, h4⟩ := key (n + 1)
  have := JZ (n := n) n L h3 (fun x hx => by obtain ⟨c, _, rfl, h, _⟩ := h4 x hx; omega)
  omega
theorem RT {n : Nat} {l : Es} (ok : Ok (n : Int) l) (h : Ls n l = []) (s k : Nat) : ¬ wk n l (k + 1) s s = true := fun hw => by
  obtain ⟨hs, h0⟩ := Pv ok hw
  unfold Ls at h
  cases e : (List.range n).findSome? (IW n l) with
  | none =>
    have := List.findSome?_eq_none_iff.1 e s (List.mem_range.2 hs)
    unfold IW at this
    rw [if_neg h0] at this; cases this
  | some o =>
    rw [e] at h
    obtain ⟨a, _, ha⟩ := List.exists_of_findSome?_eq_some e
    unfold IW at ha
    split at ha
    · cases ha
    · have := Option.some.inj ha
      subst this; cases h
section
variable {t : Tp} {old now : Rt} {P : Pn}
theorem RF {M : Nat → Nat → List Int} {h : Nat} (hc : (LG t h M).2 = false) {s : Nat} (hs : s < t.1.toNat) {p : Int} (hp : p ∈ M s h) : (pe t s p).2.2.2 = true ∨ t.2.2[h]? = some ((s : Int), p) := by
  refine Classical.byContradiction fun hno => ?_
  have h1 : ¬ (pe t s p).2.2.2 = true := fun e => hno (.inl e)
  have h2 : ¬ t.2.2[h]? = some ((s : Int), p) := fun e => hno (.inr e)
  have k1 : ∀ (s' : Int) (x : List (Int × Int) × Bool) (q : Int), x.2 = true → (Fk t h s' x q).2 = true := fun s' x q hx => by
    unfold Fk
    split
    · exact hx
    · split
      · exact hx
      · rfl
  have : (LG t h M).2 = true := Hr (f := Ri t h M) (Q := fun x => x.2 = true) (fun x b hx => Ft (k1 (b : Int)) _ x hx) (b := s) (fun x => Hr (k1 (s : Int)) (b := p) (fun x => by
    unfold Fk
    rw [if_neg h1, Int.toNat_natCast, if_neg h2]) _ x (by rw [Int.toNat_natCast]; exact hp)) _ _ (List.mem_range.2 hs)
  rw [hc] at this; cases this
theorem S6 {M : Nat → Nat → List Int} {h : Nat} {s : Nat} (hs : s < t.1.toNat) {p : Int} (hp : p ∈ M s h) (h1 : (pe t s p).2.2.2 = true) : ((s : Int), (pe t s p).1) ∈ (LG t h M).1 := by
  have k1 : ∀ (s' : Int) (x : List (Int × Int) × Bool) (q : Int), ((s : Int), (pe t s p).1) ∈ x.1 → ((s : Int), (pe t s p).1) ∈ (Fk t h s' x q).1 := fun s' x q hx => by
    unfold Fk
    split
    · exact List.mem_append_left _ hx
    · split <;> exact hx
  exact Hr (f := Ri t h M) (Q := fun x => ((s : Int), (pe t s p).1) ∈ x.1) (fun x b hx => Ft (Q := fun x => ((s : Int), (pe t s p).1) ∈ x.1) (k1 (b : Int)) _ x hx) (b := s) (fun x => Hr (Q := fun x => ((s : Int), (pe t s p).1) ∈ x.1) (k1 (s : Int)) (b := p) (fun x => by
    unfold Fk
    rw [if_pos h1]; exact List.mem_append_right _ (List.mem_singleton.2 rfl)) _ x (by rw [Int.toNat_natCast]; exact hp)) _ _ (List.mem_range.2 hs)
theorem Ue {M : Nat → Nat → List Int} (ht : La t) {h : Nat} : Ok (t.1.toNat : Int) (LG t h M).1 := by
  have h8 := ht.1
  refine ⟨by omega, by omega, ?_⟩
  have k1 : ∀ (s' : Int) (x : List (Int × Int) × Bool) (q : Int), (∀ e ∈ x.1, 0 ≤ e.1 ∧ e.1 < (t.1.toNat : Int) ∧ 0 ≤ e.2 ∧ e.2 < (t.1.toNat : Int)) → ∀ e ∈ (Fk t h s' x q).1, 0 ≤ e.1 ∧ e.1 < (t.1.toNat : Int) ∧ 0 ≤ e.2 ∧ e.2 < (t.1.toNat : Int) := fun s' x q hx => by
    unfold Fk
    split
    · rename_i c
      have := Q4 ht c
      intro e he
      rcases List.mem_append.1 he with he | he
      · exact hx e he
      · rw [List.mem_singleton.1 he]
        exact ⟨by show 0 ≤ s'; omega, by show s' < _; omega, by show 0 ≤ (pe t s' q).1; omega, by show (pe t s' q).1 < _; omega⟩
    · split <;> exact hx
  exact Ft (f := Ri t h M) (Q := fun x => ∀ e ∈ x.1, 0 ≤ e.1 ∧ e.1 < (t.1.toNat : Int) ∧ 0 ≤ e.2 ∧ e.2 < (t.1.toNat : Int)) (fun x b hx => Ft (Q := fun x => ∀ e ∈ x.1, 0 ≤ e.1 ∧ e.1 < (t.1.toNat : Int) ∧ 0 ≤ e.2 ∧ e.2 < (t.1.toNat : Int)) (k1 (b : Int)) _ x hx) _ _ (by intro e he; cases he)
theorem Tx (ht : La t) {M : Nat → Nat → List Int} (hM : ∀ a b, (M a b).length ≤ 41) {k h : Nat} (hw : PX t M k h = []) {r : Rt} (hr : ∀ s : Nat, (s : Int) < t.1 → Fm r s h ∈ M s h) (s : Nat) (hs : (s : Int) < t.1) : ∃ l, Wy t r h ((s : Int) :: l) := by
  have h8 := ht.1
  unfold PX at hw
  obtain ⟨w1, w2⟩ := List.append_eq_nil_iff.1 hw
  have hc : (LG t h M).2 = false := by
    cases c : (LG t h M).2 with
    | false => rfl
    | true => rw [c, if_pos rfl] at w1; cases w1
  have hl : Rw t.1 (LG t h M).1 = [] := by
    by_cases c : 0 < (Rw t.1 (LG t h M).1).length
    · rw [if_pos c] at w2; cases w2
    · exact List.eq_nil_of_length_eq_zero (by omega)
  have ok := Ue (t := t) (M := M) ht (h := h)
  have hl' : Ls t.1.toNat (LG t h M).1 = [] := by
    have hlen := OE (t := t) hM (h : Int)
    have hq := N5 ok (show (LG t h M).1.length ≤ 1000000000 by omega)
    rw [show ((t.1.toNat : Nat) : Int) = t.1 by omega] at hq
    unfold Rw at hl
    rw [hq] at hl; exact hl
  refine Classical.byContradiction fun hno => ?_
  obtain ⟨a, k, hk⟩ := PZ ok (Q := fun i => (i : Int) < t.1 ∧ ∀ l, ¬ Wy t r h ((i : Int) :: l)) (q := s) ⟨hs, fun l hl => hno ⟨l, hl⟩⟩ (fun i ⟨hi, hno⟩ => by
    have hn : ¬ Od t r h i := fun hh => hno [] (.last hh)
    have hp : (pe t i (Fm r i h)).2.2.2 = true := by
      rcases RF hc (show i < t.1.toNat by omega) (hr i hi) with h1 | h1
      · exact h1
      · exact absurd (show Od t r h i by unfold Od; rw [Int.toNat_natCast]; exact h1) hn
    have hin := Q4 ht hp
    have hm := S6 (h := h) (show i < t.1.toNat by omega) (hr i hi) hp
    obtain ⟨v, hv⟩ : ∃ v : Nat, (pe t i (Fm r i h)).1 = (v : Int) := ⟨(pe t i (Fm r i h)).1.toNat, by omega⟩
    rw [hv] at hm hin
    refine ⟨v, ⟨hin.2.2, fun l hl => hno (v :: l) (.go hn ?_ hl)⟩, hm⟩
    unfold nx
    rw [if_pos hp, hv])
  exact RT ok hl' a k hk
theorem Q5 (hx : Rj t old now P = []) {m : MS} (hm : m ∈ P.1) : EQ t m = true ∧ m.2.2.1 = Fm now m.1 m.2.1 ∧ m.2.2.1 ≠ Fm old m.1 m.2.1 ∧ Tq P.2.1 m = true := by
  obtain ⟨k, hk, rfl⟩ := List.getElem_of_mem hm
  have h1 := List.flatMap_eq_nil_iff.1 hx k (List.mem_range'_1.2 ⟨by omega, by omega⟩)
  unfold exF at h1
  rw [List.getElem?_eq_getElem hk] at h1
  have h2 : TC t old now P P.1[k] = false := by
    cases c : TC t old now P P.1[k] with
    | false => rfl
    | true => simp only [c, if_true] at h1; cases h1
  unfold TC at h2
  simp only [Bool.or_eq_false_iff, Bool.not_eq_false', decide_eq_false_iff_not, ne_eq, Classical.not_not] at h2
  exact h2
theorem ND (hx : Rj t old now P = []) {r : M8} {s h : Nat} {m : MS} (hm : m ∈ P.1) (hh : EW r s h m = true) : m.2.2.1 = Fm now s h := by
  have := (Q5 hx hm).2.1
  unfold EW at hh
  simp only [Bool.and_eq_true, decide_eq_true_eq] at hh
  rw [this, hh.1, hh.2.1]
theorem QS (hx : Rj t old now P = []) (r : M8) (s h : Nat) (x : Int) : Sg r P.1 s h x = if P.1.any (EW r s h) = true then Fm now s h else x := by
  unfold Sg
  exact M4 _ _ fun m hm x => by
    by_cases c : EW r s h m = true
    · rw [if_pos c, if_pos c, ND hx hm c]
    · rw [if_neg c, if_neg c]
theorem QZ (hx : Rj t old now P = []) (k s h : Nat) : HB P old k s h = if (P.2.1.take k).any (fun r => P.1.any (EW r s h)) = true then Fm now s h else Fm old s h := by
  unfold HB
  exact M4 _ _ fun r _ x => QS hx r s h x
theorem T5 (hx : Rj t old now P = []) {k : Nat} (hk : k < P.2.1.length) (s h j : Nat) (hj : j = k ∨ j = k + 1) : HB P old j s h ∈ JS P old k s h := by
  have hr := List.getElem?_eq_getElem hk
  generalize P.2.1[k] = r at hr
  have hm : JS P old k s h = HB P old k s h :: (P.1.filter (EW r s h)).map (·.2.2.1) := by unfold JS; rw [hr]; rfl
  rw [hm]
  rcases hj with rfl | rfl
  · exact List.mem_cons_self ..
  · have e : HB P old (k + 1) s h = Sg r P.1 s h (HB P old k s h) := by
      unfold HB
      rw [List.take_add_one, hr, List.foldl_append]; rfl
    rw [e, QS hx]
    by_cases c : P.1.any (EW r s h) = true
    · rw [if_pos c]
      obtain ⟨m, h1, h2⟩ := List.any_eq_true.1 c
      exact List.mem_cons_of_mem _ (List.mem_map.2 ⟨m, List.mem_filter.2 ⟨h1, h2⟩, ND hx h1 h2⟩)
    · rw [if_neg c]; exact List.mem_cons_self ..
theorem SF (hx : Rj t old now P = []) (hm : Um t old now P = []) {s h : Nat} (hs : (s : Int) < t.1) (hh : h < t.2.2.length) : HB P old P.2.1.length s h = Fm now s h := by
  rw [QZ hx, List.take_length]
  by_cases c : P.2.1.any (fun r => P.1.any (EW r s h)) = true
  · rw [if_pos c]
  · rw [if_neg c]
    refine Classical.byContradiction fun hne => ?_
    have h1 := List.flatMap_eq_nil_iff.1 hm s (List.mem_range'_1.2 ⟨by omega, by omega⟩)
    have h2 := List.flatMap_eq_nil_iff.1 h1 h (List.mem_range'_1.2 ⟨by omega, by omega⟩)
    unfold TI at h2
    have h3 : ¬ TD old now P s h = true := fun e => by rw [if_pos e] at h2; cases h2
    have h4 : Uu P s h (Fm now s h) = 1 := by
      refine Classical.byContradiction fun h4 => h3 ?_
      unfold TD
      rw [decide_eq_true (show Fm now s h ≠ Fm old s h from fun e => hne e.symm), decide_eq_true (show ((Uu P s h (Fm now s h) : Nat) : Int) ≠ 1 by omega)]; rfl
    unfold Uu at h4
    obtain ⟨m, h5⟩ : ∃ m, m ∈ P.1.filter (Tm P.2.1 s h (Fm now s h)) := List.exists_mem_of_length_pos (by omega)
    obtain ⟨h6, h7⟩ := List.mem_filter.1 h5
    unfold Tm at h7
    simp only [Bool.and_eq_true, decide_eq_true_eq] at h7
    obtain ⟨e1, e2, _, r, hr, e3⟩ := h7
    refine c (List.any_eq_true.2 ⟨r, hr, List.any_eq_true.2 ⟨m, h6, ?_⟩⟩)
    unfold EW
    rw [decide_eq_true e1, decide_eq_true e2, e3]; rfl
theorem Tk {n H : Nat} {R : Nat → Nat → Int} {s h : Nat} (hs : s < n) (hh : h < H) : Fm (Kk n H R) s h = R s h := by
  unfold Fm
  rw [Int.toNat_natCast, Int.toNat_natCast, List.getD_eq_getElem?_getD, List.getD_eq_getElem?_getD]
  unfold Kk
  rw [ER hs]
  show Option.getD (((List.range H).map (R s))[h]?) 0 = _
  rw [ER hh]; rfl
theorem Un (ht : La t) {R : Nat → Nat → Int} (hR : ∀ s h, s < t.1.toNat → h < t.2.2.length → 0 ≤ R s h ∧ R s h ≤ 7) : GG t (Kk t.1.toNat t.2.2.length R) := by
  have h8 := ht.1
  refine ⟨ht, by unfold Kk; rw [List.length_map, List.length_range]; omega, fun row hr => ?_⟩
  obtain ⟨s, hs, rfl⟩ := List.mem_map.1 hr
  refine ⟨by simp, fun p hp => ?_⟩
  obtain ⟨h, hh, rfl⟩ := List.mem_map.1 hp
  exact hR s h (List.mem_range.1 hs) (List.mem_range.1 hh)
abbrev JR (S : List Int) (k s : Nat) : Nat := if (s : Int) ∈ S then k + 1 else k
theorem Qt (ho : GG t old) (ok : Np P) {S : List Int} (hS : S.length ≤ 20) {k : Nat} (hk : ∀ s, JR S k s ≤ P.2.1.length) : Hx old P (k : Int) S = some (Kk t.1.toNat t.2.2.length fun s h => HB P old (JR S k s) s h) := by
  have h8 := ho.1.1
  have hol := ho.2.1
  have h12 := ok.2.1
  unfold Hx
  obtain ⟨x, h1, h2⟩ := Cl t.1.toNat (fun (x : List (List Int)) (j : Nat) => (x, (j : Int))) (FQ old P (k : Int) S) id (fun x j => x = (List.range j).map fun s => (List.range t.2.2.length).map fun (h : Nat) => HB P old (JR S k s) s h) (fun x s hs hI => by
    have hs' : (s : Int) < t.1 := by omega
    have hxl : x.length ≤ 8 := by rw [hI, List.length_map, List.length_range]; omega
    refine ⟨x ++ [(List.range t.2.2.length).map fun (h : Nat) => HB P old (JR S k s) s h], ?_, by rw [hI, List.range_succ, List.map_append]; rfl⟩
    have q := Fv S (fun (b : Bool) (j : Nat) => (b, (j : Int))) (fun b y => if b = true then true else decide (y = (s : Int))) (EX S (s : Int)) id (fun _ _ => True) false trivial (fun b j hj _ => ⟨by
      rw [EX, if_pos (by omega), AV (List.getElem?_eq_getElem hj), AL (by omega)]
      cases b
      · rw [if_neg (by decide), Option.bind_some]; rfl
      · rw [if_pos rfl]; rfl, trivial⟩) (fun b => by rw [EX, if_neg (by omega)]; rfl)
    have hb : S.foldl (fun b y => if b = true then true else decide (y = (s : Int))) false = decide ((s : Int) ∈ S) := by
      have key : ∀ (L : List Int) (b : Bool), L.foldl (fun b y => if b = true then true else decide (y = (s : Int))) b = (b || decide ((s : Int) ∈ L)) := by
        intro L
        induction L with
        | nil => intro b; cases b <;> rfl
        | cons a L ih =>
          intro b
          rw [List.foldl_cons, ih]
          cases b
          · by_cases c : a = (s : Int)
            · subst c; simp
            · have c' : ¬ (s : Int) = a := fun e => c e.symm
              simp [c, c', List.mem_cons]
          · rfl
      rw [key, Bool.false_or]
    have hsk := hk s
    obtain ⟨row, e1, _, e3, _, _⟩ := ho.row (sw := s) ⟨by omega, hs'⟩
    obtain ⟨y, g1, g2⟩ := Cl t.2.2.length (fun (y : List Int) (j : Nat) => (decide ((s : Int) ∈ S), y, (j : Int))) (EY old P (k : Int) (s : Int)) id (fun y j => y = (List.range j).map fun (h : Nat) => HB P old (JR S k s) s h) (fun y h hh hI' => by
      have hyl : y.length ≤ 8 := by rw [hI', List.length_map, List.length_range]; omega
      refine ⟨y ++ [HB P old (JR S k s) s h], ?_, by rw [hI', List.range_succ, List.map_append]; rfl⟩
      rw [EY, e1, Option.bind_some, if_pos (by omega)]
      by_cases c : (s : Int) ∈ S
      · unfold JR at hsk ⊢
        rw [if_pos c] at hsk ⊢
        rw [decide_eq_true c, if_pos rfl, AL (by omega), show (k : Int) + 1 = ((k + 1 : Nat) : Int) from rfl, Ub ho ok hsk hs' hh, Option.bind_some, Du (by simp; omega), Option.bind_some, AL (by omega)]; rfl
      · unfold JR at hsk ⊢
        rw [if_neg c] at hsk ⊢
        rw [decide_eq_false c, if_neg (by decide), Ub ho ok hsk hs' hh, Option.bind_some, Du (by simp; omega), Option.bind_some, AL (by omega)]; rfl) (fun y _ => by rw [EY, e1, Option.bind_some, if_neg (by omega)]; rfl) [] rfl
    have q1 : An (EX S (s : Int)) (false, 0) = some (decide ((s : Int) ∈ S)) := by
      have := q.1
      rw [hb] at this; exact this
    have g3 : An (EY old P (k : Int) (s : Int)) (decide ((s : Int) ∈ S), [], 0) = some y := g2
    rw [FQ, if_pos (by omega), q1, Option.bind_some, g3, Option.bind_some, Du (by simp; omega), g1, AL (by omega)]; rfl) (fun x _ => by rw [FQ, if_neg (by omega)]; rfl) [] rfl
  rw [show (([] : List (List Int)), (0 : Int)) = ([], ((0 : Nat) : Int)) from rfl, h2, Option.bind_some, h1]; rfl
theorem S1 {l : List Int} (hl : l.length ≤ 1000000000) : Iu l l = some true := by
  have key : ∀ (d k : Nat), k + d = l.length → An (Eg l l) (k : Int) = some (.inl ()) := by
    intro d
    induction d with
    | zero => intro k hk; exact Bv (by rw [Eg, if_neg (by omega)])
    | succ d ih =>
      intro k hk
      have hg := List.getElem?_eq_getElem (l := l) (i := k) (by omega)
      have hst : Eg l l (k : Int) = some (.inl ((k + 1 : Nat) : Int)) := by
        rw [Eg, if_pos (by omega), AV hg, Option.bind_some, Option.bind_some, if_neg (fun h => h rfl), AL (by omega)]; rfl
      rw [B6 hst, ih (k + 1) (by omega)]
  have h0 : An (Eg l l) 0 = some (.inl ()) := key l.length 0 (by omega)
  unfold Iu
  rw [if_neg (fun h => h rfl), h0]; rfl
theorem Ta {l : Rt} (hl : l.length ≤ 1000000000) (hr : ∀ row ∈ l, row.length ≤ 1000000000) : Ir l l = some true := by
  have key : ∀ (d k : Nat), k + d = l.length → An (Eo l l) (k : Int) = some (.inl ()) := by
    intro d
    induction d with
    | zero => intro k hk; exact Bv (by rw [Eo, if_neg (by omega)])
    | succ d ih =>
      intro k hk
      have hg := List.getElem?_eq_getElem (l := l) (i := k) (by omega)
      have hst : Eo l l (k : Int) = some (.inl ((k + 1 : Nat) : Int)) := by
        rw [Eo, if_pos (by omega), AV hg, Option.bind_some, Option.bind_some, S1 (hr _ (List.getElem_mem ..)), Option.bind_some, if_neg (by decide), AL (by omega)]; rfl
      rw [B6 hst, ih (k + 1) (by omega)]
  have h0 : An (Eo l l) 0 = some (.inl ()) := key l.length 0 (by omega)
  unfold Ir
  rw [if_neg (fun h => h rfl), h0]; rfl
theorem Mr (h : NY t old now P = []) : (Hv t old ∧ Hv t now) ∧ Um t old now P = [] ∧ Rj t old now P = [] ∧ UH t old P = [] := by
  unfold NY at h
  by_cases c : Hv t old ∧ Hv t now
  · rw [if_pos c] at h
    obtain ⟨h1, h2⟩ := List.append_eq_nil_iff.1 h
    obtain ⟨h3, _⟩ := List.append_eq_nil_iff.1 h1
    obtain ⟨h5, h6⟩ := List.append_eq_nil_iff.1 h3
    exact ⟨c, h5, h6, h2⟩
  · rw [if_neg c] at h; cases h
theorem SW (GD : Np P) (h : NY t old now P = []) {S : List Int} {k : Nat} (hk : k < P.2.1.length) : Hv t (Kk t.1.toNat t.2.2.length fun s h => HB P old (JR S k s) s h) := by
  obtain ⟨⟨go, gn⟩, _, hx, hw⟩ := Mr h
  have ht := go.1.1
  have h8 := ht.1
  refine ⟨Un ht fun s b hs hb => ?_, fun sw b ⟨h0, h1⟩ ⟨h2, h3⟩ => ?_⟩
  · obtain ⟨_, _, _, _, o1, o2⟩ := go.1.port (sw := s) (h := b) ⟨by omega, by omega⟩ ⟨by omega, by omega⟩
    obtain ⟨_, _, _, _, n1, n2⟩ := gn.1.port (sw := s) (h := b) ⟨by omega, by omega⟩ ⟨by omega, by omega⟩
    rw [QZ hx]
    split
    · exact ⟨n1, n2⟩
    · exact ⟨o1, o2⟩
  · obtain ⟨s, rfl⟩ : ∃ s : Nat, sw = (s : Int) := ⟨sw.toNat, by omega⟩
    obtain ⟨b', rfl⟩ : ∃ b' : Nat, b = (b' : Int) := ⟨b.toNat, by omega⟩
    have w1 := List.flatMap_eq_nil_iff.1 hw k (List.mem_range'_1.2 ⟨by omega, by omega⟩)
    unfold Sf at w1
    have w2 := List.flatMap_eq_nil_iff.1 w1 b' (List.mem_range'_1.2 ⟨by omega, by omega⟩)
    exact Tx ht (NO GD k) w2 (fun s hs => by
      rw [Tk (by omega) (by omega)]
      exact T5 hx hk s b' _ (by unfold JR; split <;> simp)) s h1
theorem UA (h : NY t old now P = []) : (Kk t.1.toNat t.2.2.length fun s h => HB P old (JR [] P.2.1.length s) s h) = now := by
  obtain ⟨⟨go, gn⟩, hm, hx, _⟩ := Mr h
  have h8 := go.1.1.1
  rw [Sy gn.1]
  unfold Kk
  refine EO fun s hs => EO fun b hb => ?_
  show HB P old (if (s : Int) ∈ ([] : List Int) then _ else _) s b = _
  rw [if_neg (by simp)]
  exact SF hx hm (by omega) hb
end
theorem KA {t : Tp} {old now : Rt} {P : Pn} (ho : old.length ≤ 9223372036854775807) (hn : now.length ≤ 9223372036854775807) (hr : P.2.1.length ≤ 9223372036854775807) (k : Int) (S : List Int) : Ek t old now P k S = some true := by
  obtain ⟨b, e, hb⟩ := R1 (t := t) ho hn hr
  unfold Ek
  rw [e, Option.bind_some]
  cases b with
  | false => rw [if_pos (show (!false) = true from rfl), Option.bind_some, if_pos rfl, IM]; rfl
  | true =>
    obtain ⟨so, sn, ok⟩ := hb rfl
    rw [if_neg (show ¬ (!true) = true by decide)]
    by_cases c1 : 20 < (S.length : Int)
    · rw [if_pos c1, Option.bind_some, if_pos rfl, IM]; rfl
    rw [if_neg c1]
    by_cases c2 : k < 0
    · rw [if_pos c2, Option.bind_some, if_pos rfl, IM]; rfl
    rw [if_neg c2]
    by_cases c3 : (P.2.1.length : Int) ≤ k
    · rw [if_pos c3, Option.bind_some, if_pos rfl, IM]; rfl
    rw [if_neg c3, SQ ok, Option.bind_some, RB so sn ok, Option.bind_some, Option.bind_some]
    by_cases c4 : 0 < ((NY t old now P).length : Int)
    · rw [decide_eq_true c4, if_pos rfl, IM]; rfl
    rw [decide_eq_false c4, if_neg (by decide)]
    have hnil : NY t old now P = [] := List.eq_nil_of_length_eq_zero (by omega)
    obtain ⟨k, rfl⟩ : ∃ k' : Nat, k = (k' : Int) := ⟨k.toNat, by omega⟩
    have hkl : k < P.2.1.length := by omega
    have ho' := (Mr hnil).1.1.1
    have h8 := ho'.1.1
    have hn' := (Mr hnil).1.2.1
    have hg := SW ok hnil (S := S) hkl
    rw [Qt ho' ok (S := S) (by omega) (k := k) (fun s => by unfold JR; split <;> omega), Option.bind_some, Ou (by unfold Kk; rw [List.length_map, List.length_range]; omega) (fun row hrow => by
      have := (hg.1.2.2 row hrow).1
      omega), decide_eq_true hg, Option.bind_some, if_pos rfl, Qt ho' ok (S := []) (by simp) (k := P.2.1.length) (fun s => by unfold JR; rw [if_neg (by simp)]; exact Nat.le_refl _), Option.bind_some, UA hnil, Ta (by have := sn.2.2.2; omega) (fun row hrow => by have := sn.1 row hrow; omega), Option.bind_some, if_pos rfl, IM]; rfl
theorem KC (p0 : Tp) {A : Prop} (_ : A) (p1 : Rt) {K1 : _ → Prop} (ok1 : Na K1 p1) (p2 : Rt) {K2 : _ → Prop} (ok2 : Na K2 p2) (p3 : Pn) {K3 K4 K5 : _ → Prop} (ok3 : GD K3 (GD (Na K4) K5) p3) (p4 : Int) {C : Prop} (_ : C) (p5 : List Int) {D : Prop} (_ : D) : Ek p0 p1 p2 p3 p4 p5 = some true := KA ok1.1 ok2.1 ok3.2.1.1 p4 p5
end Go.Proofs.Ythhoflfhegfmcaa
