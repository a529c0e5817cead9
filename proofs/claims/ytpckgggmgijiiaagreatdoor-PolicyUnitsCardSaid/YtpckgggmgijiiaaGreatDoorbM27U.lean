/- Layer 27: what is neutral. Conditions: none. -/
import Derived.Test.YtpckgggmgijiiaaGreatDoorbM27R
namespace Go.Proofs.YtpckgggmgijiiaaGreatDoor
set_option linter.unusedVariables false
set_option linter.unusedSimpArgs false
open Go Go.RowKit
theorem RK {S : List Se} (h : Ih Bi S) : Jg Bi [] S = S := Jm H2 (Kk H2 List.Pairwise.nil) h fun x => by rw [LQ H2]; simp
theorem Nh {g : Se → Option (List Se)} {s : Se} {R : List Se} (h : g s = some R) (hA : Ih Bi R) : GC Bi g [s] [] = some R := by
  show (g s).bind (fun r => some (Jg Bi [] r)) = some R
  rw [h, Option.bind_some, RK hA]
theorem Sy {g : Se → Option (List Se)} {S : List Se} (h : ∀ x, g x = some [x]) (hA : Ih Bi S) : GC Bi g S [] = some S := by
  obtain ⟨b, hb⟩ := Nd (lt := Bi) (f := g) (l := S) (a := []) H2 fun x _ => ⟨_, h x⟩
  obtain ⟨h1, _, h3⟩ := Hy H2 List.Pairwise.nil hb
  rw [hb]
  refine congrArg some (Jm H2 h1 hA fun z => ?_)
  rw [h3]
  constructor
  · rintro (h4 | ⟨x, hx, r, hr, hz⟩)
    · cases h4
    · rw [h x] at hr; cases hr
      rw [List.mem_singleton] at hz; rw [hz]; exact hx
  · intro hz
    exact .inr ⟨z, hz, _, h z, by simp⟩
theorem O6 {g : Se → Option (List Se)} (h : ∀ x, g x = some []) : ∀ S : List Se, GC Bi g S [] = some []
  | [] => rfl
  | x :: S => by
    show (g x).bind (fun r => GC Bi g S (Jg Bi [] r)) = _
    rw [h, Option.bind_some]
    exact O6 h S
abbrev ZQ : Tr34 := Tr34.of (0, 0, 0, ([] : List Tr34))
abbrev Vu : Tr37 := Tr37.of (1, Tr34.of (1, 0, 0, ([] : List Tr34)), 0, 0, ([] : List Tr37))
abbrev Uw : Tr37 := Tr37.of (1, Tr34.of (2, 0, 0, ([] : List Tr34)), 0, 0, ([] : List Tr37))
abbrev Sa (a b : Tr37) : Tr37 := Tr37.of (3, ZQ, 0, 0, [a, b])
abbrev WS (a b : Tr37) : Tr37 := Tr37.of (4, ZQ, 0, 0, [a, b])
abbrev TJ (f v : Int) : Tr37 := Tr37.of (2, ZQ, f, v, ([] : List Tr37))
theorem Nb (k : Int) : SmC (Tr34.of (k, 0, 0, ([] : List Tr34))) := .mk _ (Nat.zero_le _) fun x hx => nomatch hx
theorem TD (k : Int) : (Tr34.of (k, 0, 0, ([] : List Tr34))).cnt = 1 := by rw [Tr34.cnt]; rfl
theorem WL (n : Nat) (sw : Int) (s : Se) : Az (n + 1) Vu sw s = some [s] := by
  show Be (Az n) Vu sw s = _
  rw [Xh (t := Vu) _ sw rfl (Nb 1) s, if_pos (by rw [Rc]; rfl)]
theorem U9 (n : Nat) (sw : Int) (s : Se) : Az (n + 1) Uw sw s = some [] := by
  show Be (Az n) Uw sw s = _
  rw [Xh (t := Uw) _ sw rfl (Nb 2) s, if_neg (by rw [Rc]; exact Bool.false_ne_true)]
theorem SW (n : Nat) (f v sw : Int) {s q : Se} (h : Cd s f v = some q) : Az (n + 1) (TJ f v) sw s = some [q] := Yc (Az n) (t := TJ f v) sw rfl h
section
variable {n : Nat} {a b : Tr37} {sw : Int} {s : Se} {X Y : List Se}
theorem Qj (h1 : Az n a sw s = some X) (hX : Ih Bi X) (h2 : GC Bi (Az n b sw) X [] = some Y) : Az (n + 1) (Sa a b) sw s = some Y :=
  Yk (Az n) (t := Sa a b) sw rfl (by show (2 : Nat) ≤ 1048576; decide) (by
    show (GC Bi (Az n a sw) [s] []).bind (fun c => (GC Bi (Az n b sw) c []).bind fun c => some c) = some Y
    rw [Nh h1 hX, Option.bind_some, h2]; rfl)
theorem Xm (h1 : Az n a sw s = some X) (h2 : Az n b sw s = some Y) : Az (n + 1) (WS a b) sw s = some (Jg Bi (Jg Bi [] X) Y) :=
  X2 (Az n) (t := WS a b) sw rfl (by show (2 : Nat) ≤ 1048576; decide) (by
    show ((Az n a sw s).bind fun r => some (Jg Bi [] r)).bind (fun c => ((Az n b sw s).bind fun r => some (Jg Bi c r)).bind fun c => some c) = _
    rw [h1, h2]; rfl)
end
theorem Pf {W : List Se} (hl : W.length ≤ 1000000000) : IP W W = some true := by
  have st : ∀ (k : Nat) (h : k < W.length), FG W W (k : Int) = some (.inl ((k + 1 : Nat) : Int)) := fun k h => by
    have hk : W[k]? = some W[k] := List.getElem?_eq_getElem h
    rw [FG, if_pos (by omega), Dv hk, Option.bind_some, Option.bind_some, if_neg (by simp)]
    rw [AF ⟨by omega, by omega⟩]; rfl
  have go : ∀ (d k : Nat), k + d = W.length → AW (FG W W) (k : Int) = some (.inl ()) := fun d => by
    induction d with
    | zero => intro k h; exact A9 (by rw [FG, if_neg (by omega)])
    | succ d ih => intro k h; rw [BV (st k (by omega))]; exact ih (k + 1) (by omega)
  unfold IP
  rw [if_neg (fun h => h rfl), show AW (FG W W) 0 = some (.inl ()) from go W.length 0 (by omega)]
  rfl
theorem WK : D5 0 = some 255 ∧ D5 1 = some 255 ∧ D5 2 = some 15 ∧ D5 3 = some 255 := ⟨by kernel_rfl, by kernel_rfl, by kernel_rfl, by kernel_rfl⟩
theorem R5 (p : PK) {f v : Int} (hf : 0 ≤ f ∧ f ≤ 3) (hv : 0 ≤ v ∧ v ≤ DQ f) : C9 p f v = some ((if f = 0 then v else p.1), (if f = 1 then v else p.2.1), (if f = 2 then v else p.2.2.1), (if f = 3 then v else p.2.2.2)) := by
  have hk : CD f = true := by unfold CD; simp; omega
  have ht : DF f v = some true := by
    unfold DF
    rw [if_pos hv.1]
    obtain ⟨h0, h1, h2, h3⟩ := WK
    have hf4 : f = 0 ∨ f = 1 ∨ f = 2 ∨ f = 3 := by omega
    rcases hf4 with rfl | rfl | rfl | rfl
    · rw [h0, Option.bind_some]; have : v ≤ 255 := hv.2; simp [this]
    · rw [h1, Option.bind_some]; have : v ≤ 255 := hv.2; simp [this]
    · rw [h2, Option.bind_some]; have : v ≤ 15 := hv.2; simp [this]
    · rw [h3, Option.bind_some]; have : v ≤ 255 := hv.2; simp [this]
  unfold C9
  rw [if_pos hk, ht]
  have hf4 : f = 0 ∨ f = 1 ∨ f = 2 ∨ f = 3 := by omega
  rcases hf4 with rfl | rfl | rfl | rfl <;> rfl
theorem SJ (p : PK) (f v : Int) : ∃ q, C9 p f v = some q ∧ (f ≠ 0 → q.1 = p.1) ∧ (f ≠ 1 → q.2.1 = p.2.1) ∧ (f ≠ 2 → q.2.2.1 = p.2.2.1) ∧ (f ≠ 3 → q.2.2.2 = p.2.2.2) := by
  unfold C9
  by_cases h : CD f = true
  · have hf : f = 0 ∨ f = 1 ∨ f = 2 ∨ f = 3 := by
      unfold CD at h
      simp at h
      omega
    obtain ⟨b, hb⟩ : ∃ b, DF f v = some b := by
      unfold DF
      obtain ⟨h0, h1, h2, h3⟩ := WK
      by_cases hv : 0 ≤ v
      · rw [if_pos hv]
        rcases hf with rfl | rfl | rfl | rfl
        · rw [h0]; exact ⟨_, rfl⟩
        · rw [h1]; exact ⟨_, rfl⟩
        · rw [h2]; exact ⟨_, rfl⟩
        · rw [h3]; exact ⟨_, rfl⟩
      · rw [if_neg hv]; exact ⟨_, rfl⟩
    rw [if_pos h, hb]
    cases b with
    | false => exact ⟨_, rfl, fun _ => rfl, fun _ => rfl, fun _ => rfl, fun _ => rfl⟩
    | true => rcases hf with rfl | rfl | rfl | rfl <;> exact ⟨_, rfl, fun h => by first | rfl | exact absurd rfl h, fun h => by first | rfl | exact absurd rfl h, fun h => by first | rfl | exact absurd rfl h, fun h => by first | rfl | exact absurd rfl h⟩
  · rw [if_neg h]; exact ⟨_, rfl, fun _ => rfl, fun _ => rfl, fun _ => rfl, fun _ => rfl⟩
theorem Gu (s : Se) (f v : Int) {q : PK} (h : C9 s.2 f v = some q) : Cd s f v = some ((if f = 4 then v else s.1), q) := by
  unfold Cd
  rw [h]
  by_cases hf : f = 4
  · rw [if_pos hf, if_pos hf]; rfl
  · rw [if_neg hf, if_neg hf]; rfl
theorem RB (p : PK) (v : Int) : C9 p 4 v = some p := by
  unfold C9
  rw [if_neg (by decide)]; rfl
theorem V2 {f w : Int} (hf : 0 ≤ f ∧ f ≤ 4) (hw : 0 ≤ w ∧ w ≤ DQ f) (s : Se) (v : Int) : ∃ s' q, Cd s f v = some s' ∧ Cd s' f w = some q ∧ Cd s f w = some q := by
  by_cases h4 : f = 4
  · subst h4
    exact ⟨_, _, Gu s 4 v (RB _ v), Gu _ 4 w (RB _ w), Gu s 4 w (RB _ w)⟩
  · obtain ⟨q1, e1, a0, a1, a2, a3⟩ := SJ s.2 f v
    refine ⟨_, _, Gu s f v e1, Gu _ f w (R5 _ ⟨hf.1, by omega⟩ hw), ?_⟩
    rw [Gu s f w (R5 _ ⟨hf.1, by omega⟩ hw)]
    show some _ = some _
    have hf4 : f = 0 ∨ f = 1 ∨ f = 2 ∨ f = 3 := by omega
    rcases hf4 with rfl | rfl | rfl | rfl
    · simp [a1, a2, a3]
    · simp [a0, a2, a3]
    · simp [a0, a1, a3]
    · simp [a0, a1, a2]
theorem UE : ∀ (n : Nat) (t : Tr34), SizeOf.sizeOf t < n → mi (th t) = t
  | 0, t, h => absurd h (Nat.not_lt_zero _)
  | n + 1, t, h => by
    rw [UH, V0]
    show Tr34.of (t.un.1, t.un.2.1, t.un.2.2.1, (t.un.2.2.2.map th).map mi) = t
    have e2 : (t.un.2.2.2.map th).map mi = t.un.2.2.2 := by
      rw [List.map_map]
      refine (List.map_congr_left fun x hx => UE n x (by have := TP hx; omega)).trans (List.map_id _)
    rw [e2, Q7]
theorem UT : ∀ (n : Nat) (t : Tr37), SizeOf.sizeOf t < n → pm (pt t) = t
  | 0, t, h => absurd h (Nat.not_lt_zero _)
  | n + 1, t, h => by
    rw [UW, We]
    show Tr37.of (t.un.1, mi (th t.un.2.1), t.un.2.2.1, t.un.2.2.2.1, (t.un.2.2.2.2.map pt).map pm) = t
    have e1 : mi (th t.un.2.1) = t.un.2.1 := UE (SizeOf.sizeOf t.un.2.1 + 1) _ (by omega)
    have e2 : (t.un.2.2.2.2.map pt).map pm = t.un.2.2.2.2 := by
      rw [List.map_map]
      refine (List.map_congr_left fun x hx => UT n x (by have := WM hx; omega)).trans (List.map_id _)
    rw [e1, e2, SS]
theorem TI : ZQ.cnt = 1 := TD 0
theorem R7 (f v : Int) : (TJ f v).cnt = 2 := by rw [Sv]; show 1 + (ZQ.cnt + 0) = 2; rw [TI]
theorem Uk (a b : Tr37) : (Sa a b).cnt = 2 + a.cnt + b.cnt := by rw [Sv]; show 1 + (ZQ.cnt + (a.cnt + (b.cnt + 0))) = _; rw [TI]; omega
theorem Vb {t : Tr37} (hf : Fi t) : ∃ y b, FE t = some y ∧ FO y = some b := by
  obtain ⟨b, h, _⟩ := Mh (pt t)
  exact ⟨pt t, b, TX hf, h⟩
theorem tright' {t : Tr37} (hc : t.cnt ≤ 1048576) : ∃ y b, FE t = some y ∧ FO y = some b ∧ (b = true → Fi t) := by
  obtain ⟨b, h, h2⟩ := Mh (pt t)
  refine ⟨pt t, b, Rl hc, h, fun hb => ?_⟩
  have := (h2 hb).1
  rwa [UT (SizeOf.sizeOf t + 1) t (by omega)] at this
theorem RV (k : Int) (hk : k = 1 ∨ k = 2) : Fi (Tr37.of (1, Tr34.of (k, 0, 0, ([] : List Tr34)), 0, 0, ([] : List Tr37))) :=
  .mk _ ⟨by show (1 : Int) ≤ 1; decide, by show (1 : Int) ≤ 5; decide⟩ (fun h => by have h' : (1 : Int) = 2 := h; omega) (fun h => by have h' : (1 : Int) = 5 := h; omega) (Nat.zero_le _) (Nb k) fun x hx => nomatch hx
theorem NS {a b : Tr37} (ha : Fi a) (hb : Fi b) (k : Int) (hk : k = 3 ∨ k = 4) : Fi (Tr37.of (k, ZQ, 0, 0, [a, b])) :=
  .mk _ ⟨by show 1 ≤ k; omega, by show k ≤ 5; omega⟩ (fun h => by have h' : k = 2 := h; omega) (fun h => by have h' : k = 5 := h; omega) (by show 2 ≤ 8; decide) (Nb 0) fun x hx => by
    rcases List.mem_cons.1 (show x ∈ [a, b] from hx) with rfl | hx
    · exact ha
    · rw [List.mem_singleton.1 hx]; exact hb
abbrev XA : Tr37 := Sa (TJ 1 3) (TJ 4 1)
theorem PD : GZ = some true := by
  have a1 : Eb XA 0 (5, (7, 2, 0, 0)) = some [(1, (7, 3, 0, 0))] := Lh 100 XA 0 (5, (7, 2, 0, 0)) _ (by kernel_rfl)
  have a2 : Ct XA 0 5 (7, 2, 0, 0) = some [(1, (7, 3, 0, 0))] := Jk a1 (by simp [Ih]) (by decide)
  have a3 : Hd XA = some [100, 115, 116, 32, 58, 61, 32, 51, 59, 32, 112, 111, 114, 116, 32, 58, 61, 32, 49] := NY 100 XA _ (by kernel_rfl)
  have a4 : E4 XA = some true := MN 100 XA _ (by kernel_rfl)
  have a5 : Gp XA = some 1 := JX 100 XA _ (by kernel_rfl)
  unfold GZ
  have i0 : ix ([(1, 7, 3, 0, 0)] : List Se) 0 = some (1, 7, 3, 0, 0) := rfl
  rw [show Ct _ 0 5 (7, 2, 0, 0) = _ from a2, Option.bind_some, if_pos (by rfl), i0, Option.bind_some, if_pos ⟨rfl, rfl, rfl, rfl, rfl⟩, show Hd _ = _ from a3, Option.bind_some, if_pos rfl, show E4 _ = _ from a4, Option.bind_some, if_pos rfl, show Gp _ = _ from a5, Option.bind_some]
  rfl
abbrev Y2 (m : Tr37) : List Tr37 := [Sa Vu m, Sa m Vu, WS Uw m, Sa Uw m, Sa m Uw]
theorem Lv {m x : Tr37} {S W : List Se} {p4 p5 : Int} {p6 : PK} (i : Nat) (hi : i < 5) (hx : (Y2 m)[i]? = some x) (hW : (if 3 ≤ (i : Int) then some [] else some S) = some W) (hc : Fi x) (hl : W.length ≤ 1000000000) (hr : Ct x p4 p5 p6 = some W) :
    Cf p4 p5 p6 m S (i : Int) = some (.inl ((i : Int) + 1)) := by
  obtain ⟨y, b, y1, y2⟩ := Vb hc
  rw [Cf]
  simp only [Q7, SS]
  rw [if_pos (by show (i : Int) < 5; omega), hW, Option.bind_some, show ix _ (i : Int) = some x from Dv hx, Option.bind_some, y1, Option.bind_some, Q9, SN, y2, Option.bind_some]
  have hw : AO ((i : Int) + 1) = (i : Int) + 1 := AF ⟨by omega, by omega⟩
  cases b with
  | true => rw [if_pos rfl, Option.bind_some, hr, Option.bind_some, Pf hl, Option.bind_some, Option.bind_some, if_neg (by decide), hw]
  | false => rw [if_neg (by decide), Option.bind_some, if_neg (by decide), hw]
theorem Mq (p0 : Tr27) {A0 : Prop} (_ : A0) (p1 : Int) {A1 : Prop} (_ : A1) (p2 : Int) {A2 : Prop} (_ : A2) (p3 : Int) {A3 : Prop} (_ : A3) (p4 : Int) {A4 : Prop} (_ : A4) (p5 : Int) {A5 : Prop} (_ : A5) (p6 : PK) {A6 : Prop} (_ : A6) : Ga p0 p1 p2 p3 p4 p5 p6 = some true := by
  unfold Ga
  obtain ⟨b, r1, r2⟩ := Mh p0
  rw [Q9, SN, r1, Option.bind_some]
  cases b with
  | false => rw [if_pos (by decide), PD]; rfl
  | true =>
    obtain ⟨hfi, hwd⟩ := r2 rfl
    rw [if_neg (by decide), Vt hfi, Option.bind_some, Q7, SS]
    generalize pm p0 = m at hfi hwd
    have hid := RV 1 (.inl rfl)
    have hdr := RV 2 (.inr rfl)
    have hres := UZ (SizeOf.sizeOf m + 1) m (by omega) hfi p4
    obtain ⟨S, s1, s2, s3⟩ := hres (p5, p6)
    have hlen : S.length ≤ 1000000000 := by unfold Bd at s3; omega
    have hn : ([] : List Se).length ≤ 1000000000 := by decide
    have hA0 : Ih Bi ([] : List Se) := List.Pairwise.nil
    rw [Jk (JB s1) s2 hlen, Option.bind_some]
    have u1 : Ct (Sa Vu m) p4 p5 p6 = some S := Jk (JB (Qj (WL (SizeOf.sizeOf m) p4 _) (by simp [Ih]) (Nh s1 s2))) s2 hlen
    have u2 : Ct (Sa m Vu) p4 p5 p6 = some S := Jk (JB (Qj s1 s2 (Sy (fun x => WL (SizeOf.sizeOf m) p4 x) s2))) s2 hlen
    have u3 : Ct (WS Uw m) p4 p5 p6 = some S := Jk (JB ((Xm (U9 (SizeOf.sizeOf m) p4 _) s1).trans (by show some (Jg Bi [] S) = _; rw [RK s2]))) s2 hlen
    have u4 : Ct (Sa Uw m) p4 p5 p6 = some [] := Jk (JB (Qj (U9 (SizeOf.sizeOf m) p4 _) hA0 rfl)) hA0 hn
    have u5 : Ct (Sa m Uw) p4 p5 p6 = some [] := Jk (JB (Qj s1 s2 (O6 (fun x => U9 (SizeOf.sizeOf m) p4 x) S))) hA0 hn
    have hloop : AW (Cf p4 p5 p6 m S) 0 = some (.inl ()) := by
      rw [BV (s' := 1) (show Cf p4 p5 p6 m S 0 = some (.inl 1) from Lv 0 (by decide) rfl (if_neg (by decide)) (NS hid hfi 3 (.inl rfl)) hlen u1), BV (s' := 2) (show Cf p4 p5 p6 m S 1 = some (.inl 2) from Lv 1 (by decide) rfl (if_neg (by decide)) (NS hfi hid 3 (.inl rfl)) hlen u2), BV (s' := 3) (show Cf p4 p5 p6 m S 2 = some (.inl 3) from Lv 2 (by decide) rfl (if_neg (by decide)) (NS hdr hfi 4 (.inr rfl)) hlen u3), BV (s' := 4) (show Cf p4 p5 p6 m S 3 = some (.inl 4) from Lv 3 (by decide) rfl (if_pos (by decide)) (NS hdr hfi 3 (.inl rfl)) hn u4), BV (s' := 5) (show Cf p4 p5 p6 m S 4 = some (.inl 5) from Lv 4 (by decide) rfl (if_pos (by decide)) (NS hfi hdr 3 (.inl rfl)) hn u5)]
      exact A9 (by rw [Cf, if_neg (by show ¬ (5 : Int) < 5; decide)])
    rw [hloop]
    show (Option.bind (Option.bind _ _) _ : Option Bool) = _
    obtain ⟨y, b, y1, y2, y3⟩ := tright' (t := Sa (TJ p1 p2) (TJ p1 p3)) (by rw [Uk, R7, R7]; decide)
    rw [show FE _ = some y from y1, Option.bind_some, Q9, SN, y2, Option.bind_some]
    cases b with
    | false => rw [if_pos (by decide), PD]; rfl
    | true =>
      rw [if_neg (by decide)]
      have hk := ((y3 rfl).ch (x := TJ p1 p3) (by show _ ∈ [_, _]; simp)).set rfl
      obtain ⟨s', q, e1, e2, e3⟩ := V2 (f := p1) (w := p3) hk.1 hk.2 ((p5, p6) : Se) p2
      have v1 : Ct (Sa (TJ p1 p2) (TJ p1 p3)) p4 p5 p6 = some [q] := Jk (JB (n := 2) (Qj (SW 0 p1 p2 p4 e1) (by simp [Ih]) (Nh (SW 0 p1 p3 p4 e2) (by simp [Ih])))) (by simp [Ih]) (by show 1 ≤ _; decide)
      have v2 : Ct (TJ p1 p3) p4 p5 p6 = some [q] := Jk (JB (n := 1) (SW 0 p1 p3 p4 e3)) (by simp [Ih]) (by show 1 ≤ _; decide)
      rw [show Ct _ p4 p5 p6 = _ from v1, Option.bind_some, show Ct _ p4 p5 p6 = _ from v2, Option.bind_some, Pf (by show 1 ≤ _; decide), Option.bind_some, if_pos rfl, PD]; rfl
end Go.Proofs.YtpckgggmgijiiaaGreatDoor
