/- Layer 27: what is neutral. Conditions: none. -/
import Derived.Test.YtpckgggmgijiiaaGreatDoorbM27R
namespace Go.Proofs.YtpckgggmgijiiaaGreatDoor
set_option linter.unusedVariables false
set_option linter.unusedSimpArgs false
open Go Go.RowKit
theorem Us : ∀ (n : Nat) (t : Tr34), SizeOf.sizeOf t < n → (th t).cnt = t.cnt
  | 0, t, h => absurd h (Nat.not_lt_zero _)
  | n + 1, t, h => by
    rw [N7, O2, Vx]
    show 1 + ((t.un.2.2.2.map th).map Tr24.cnt).sum = _
    rw [List.map_map]
    congr 2
    exact List.map_congr_left fun x hx => Us n x (by have := TT hx; omega)
theorem R5 {α : Type} {g h : α → Nat} : ∀ (l : List α), (∀ x ∈ l, g x ≤ 2 * h x) → (l.map g).sum ≤ 2 * (l.map h).sum
  | [], _ => Nat.le_refl _
  | x :: l, hx => by
    have h1 := hx x (List.mem_cons_self ..)
    have h2 := R5 (g := g) (h := h) l fun y hy => hx y (List.mem_cons_of_mem _ hy)
    rw [List.map_cons, List.sum_cons, List.map_cons, List.sum_cons]; omega
theorem TU : ∀ (n : Nat) (t : Tr37), SizeOf.sizeOf t < n → H0 t = true → t.cnt ≤ 2 * sz t
  | 0, t, h, _ => absurd h (Nat.not_lt_zero _)
  | n + 1, t, h, hf => by
    obtain ⟨⟨⟨h1, hz⟩, ho⟩, h2⟩ := (JL t).1 hf
    unfold SC at h1
    have hs := R5 (g := Tr37.cnt) (h := sz) t.un.2.2.2.2 fun x hx => TU n x (by have := Vk hx; omega) (h2 x hx)
    rw [LQ, TZ]
    by_cases k : t.un.1 < 2 ∨ 4 < t.un.1
    · rw [if_pos k]; omega
    · rw [if_neg k, hz (by omega)]
      have : (ZP).cnt = 1 := by rw [N7]; rfl
      omega
theorem UR {t : Tr37} (h : Wk t) : t.cnt ≤ 128 := by
  have := TU (SizeOf.sizeOf t + 1) t (by omega) h.1.1
  have := h.1.2.2
  omega
theorem Tr : ∀ (n : Nat) (t : Tr37), SizeOf.sizeOf t < n → (pt t).cnt = t.cnt
  | 0, t, h => absurd h (Nat.not_lt_zero _)
  | n + 1, t, h => by
    rw [LQ, SP, Vj]
    show 1 + ((th t.un.2.1).cnt + ((t.un.2.2.2.2.map pt).map Tr27.cnt).sum) = _
    rw [List.map_map, Us (SizeOf.sizeOf t.un.2.1 + 1) _ (by omega)]
    congr 3
    exact List.map_congr_left fun x hx => Tr n x (by have := Vk hx; omega)
theorem R4 {S : List Se} (h : H4 Bh S) : Jf Bh [] S = S := Jj H2 (Ko H2 List.Pairwise.nil) h fun x => by rw [Lj H2]; simp
theorem NQ {g : Se → Option (List Se)} {s : Se} {R : List Se} (h : g s = some R) (hA : H4 Bh R) : GG Bh g [s] [] = some R := by
  show (g s).bind (fun r => some (Jf Bh [] r)) = some R
  rw [h, Option.bind_some, R4 hA]
theorem Sw {g : Se → Option (List Se)} {S : List Se} (h : ∀ x, g x = some [x]) (hA : H4 Bh S) : GG Bh g S [] = some S := by
  obtain ⟨b, hb⟩ := Nh (lt := Bh) (f := g) (l := S) (a := []) H2 fun x _ => ⟨_, h x⟩
  obtain ⟨h1, _, h3⟩ := Hw H2 List.Pairwise.nil hb
  rw [hb]
  refine congrArg some (Jj H2 h1 hA fun z => ?_)
  rw [h3]
  constructor
  · rintro (h4 | ⟨x, hx, r, hr, hz⟩)
    · cases h4
    · rw [h x] at hr; cases hr
      rw [List.mem_singleton] at hz; rw [hz]; exact hx
  · intro hz
    exact .inr ⟨z, hz, _, h z, by simp⟩
theorem Pk {g : Se → Option (List Se)} (h : ∀ x, g x = some []) : ∀ S : List Se, GG Bh g S [] = some []
  | [] => rfl
  | x :: S => by
    show (g x).bind (fun r => GG Bh g S (Jf Bh [] r)) = _
    rw [h, Option.bind_some]
    exact Pk h S
abbrev ZQ : Tr34 := Tr34.of (0, 0, 0, ([] : List Tr34))
abbrev VU : Tr37 := Tr37.of (1, Tr34.of (1, 0, 0, ([] : List Tr34)), 0, 0, ([] : List Tr37))
abbrev UK : Tr37 := Tr37.of (1, Tr34.of (2, 0, 0, ([] : List Tr34)), 0, 0, ([] : List Tr37))
abbrev Rl (a b : Tr37) : Tr37 := Tr37.of (3, ZQ, 0, 0, [a, b])
abbrev WW (a b : Tr37) : Tr37 := Tr37.of (4, ZQ, 0, 0, [a, b])
abbrev SM (f v : Int) : Tr37 := Tr37.of (2, ZQ, f, v, ([] : List Tr37))
theorem J4 (k : Int) : (Tr34.of (k, 0, 0, ([] : List Tr34))).cnt = 1 := by rw [Tr34.cnt]; rfl
theorem Wp (n : Nat) (sw : Int) (s : Se) : Az (n + 1) VU sw s = some [s] := by
  show Ba (Az n) VU sw s = _
  rw [XO _ sw rfl (by show (Tr34.of (1, 0, 0, ([] : List Tr34))).cnt ≤ _; rw [J4]; decide) s, if_pos (by rw [Rw]; rfl)]
theorem VI (n : Nat) (sw : Int) (s : Se) : Az (n + 1) UK sw s = some [] := by
  show Ba (Az n) UK sw s = _
  rw [XO _ sw rfl (by show (Tr34.of (2, 0, 0, ([] : List Tr34))).cnt ≤ _; rw [J4]; decide) s, if_neg (by rw [Rw]; exact Bool.false_ne_true)]
theorem Uq (n : Nat) (f v sw : Int) {s q : Se} (h : Cd s f v = some q) : Az (n + 1) (SM f v) sw s = some [q] := YV (Az n) (t := SM f v) sw rfl h
section
variable {n : Nat} {a b : Tr37} {sw : Int} {s : Se} {X Y : List Se}
theorem QR (h1 : Az n a sw s = some X) (hX : H4 Bh X) (h2 : GG Bh (Az n b sw) X [] = some Y) : Az (n + 1) (Rl a b) sw s = some Y :=
  Y0 (Az n) (t := Rl a b) sw rfl (by show (2 : Nat) ≤ 1048576; decide) (by
    show (GG Bh (Az n a sw) [s] []).bind (fun c => (GG Bh (Az n b sw) c []).bind fun c => some c) = some Y
    rw [NQ h1 hX, Option.bind_some, h2]; rfl)
theorem Yj (h1 : Az n a sw s = some X) (h2 : Az n b sw s = some Y) : Az (n + 1) (WW a b) sw s = some (Jf Bh (Jf Bh [] X) Y) :=
  YW (Az n) (t := WW a b) sw rfl (by show (2 : Nat) ≤ 1048576; decide) (by
    show ((Az n a sw s).bind fun r => some (Jf Bh [] r)).bind (fun c => ((Az n b sw s).bind fun r => some (Jf Bh c r)).bind fun c => some c) = _
    rw [h1, h2]; rfl)
end
theorem O8 {W : List Se} (hl : W.length ≤ 1000000000) : IG W W = some true := by
  have st : ∀ (k : Nat) (h : k < W.length), FH W W (k : Int) = some (.inl ((k + 1 : Nat) : Int)) := fun k h => by
    have hk : W[k]? = some W[k] := List.getElem?_eq_getElem h
    rw [FH, if_pos (by omega), Ds hk, Option.bind_some, Option.bind_some, if_neg (by simp)]
    rw [AC ⟨by omega, by omega⟩]; rfl
  have go : ∀ (d k : Nat), k + d = W.length → AY (FH W W) (k : Int) = some (.inl ()) := fun d => by
    induction d with
    | zero => intro k h; exact Be (by rw [FH, if_neg (by omega)])
    | succ d ih => intro k h; rw [BX (st k (by omega))]; exact ih (k + 1) (by omega)
  unfold IG
  rw [if_neg (fun h => h rfl), show AY (FH W W) 0 = some (.inl ()) from go W.length 0 (by omega)]
  rfl
theorem Xd : D5 0 = some 255 ∧ D5 1 = some 255 ∧ D5 2 = some 15 ∧ D5 3 = some 255 := ⟨by kernel_rfl, by kernel_rfl, by kernel_rfl, by kernel_rfl⟩
theorem Sa (p : PK) {f v : Int} (hf : 0 ≤ f ∧ f ≤ 3) (hv : 0 ≤ v ∧ v ≤ Eo f) : C4 p f v = some ((if f = 0 then v else p.1), (if f = 1 then v else p.2.1), (if f = 2 then v else p.2.2.1), (if f = 3 then v else p.2.2.2)) := by
  have hk : CB f = true := by unfold CB; simp; omega
  have ht : DC f v = some true := by
    unfold DC
    rw [if_pos hv.1]
    obtain ⟨h0, h1, h2, h3⟩ := Xd
    have hf4 : f = 0 ∨ f = 1 ∨ f = 2 ∨ f = 3 := by omega
    rcases hf4 with rfl | rfl | rfl | rfl
    · rw [h0, Option.bind_some]; have : v ≤ 255 := hv.2; simp [this]
    · rw [h1, Option.bind_some]; have : v ≤ 255 := hv.2; simp [this]
    · rw [h2, Option.bind_some]; have : v ≤ 15 := hv.2; simp [this]
    · rw [h3, Option.bind_some]; have : v ≤ 255 := hv.2; simp [this]
  unfold C4
  rw [if_pos hk, ht]
  have hf4 : f = 0 ∨ f = 1 ∨ f = 2 ∨ f = 3 := by omega
  rcases hf4 with rfl | rfl | rfl | rfl <;> rfl
theorem SG (p : PK) (f v : Int) : ∃ q, C4 p f v = some q ∧ (f ≠ 0 → q.1 = p.1) ∧ (f ≠ 1 → q.2.1 = p.2.1) ∧ (f ≠ 2 → q.2.2.1 = p.2.2.1) ∧ (f ≠ 3 → q.2.2.2 = p.2.2.2) := by
  unfold C4
  by_cases h : CB f = true
  · have hf : f = 0 ∨ f = 1 ∨ f = 2 ∨ f = 3 := by
      unfold CB at h
      simp at h
      omega
    obtain ⟨b, hb⟩ : ∃ b, DC f v = some b := by
      unfold DC
      obtain ⟨h0, h1, h2, h3⟩ := Xd
      by_cases hv : 0 ≤ v
      · rw [if_pos hv]
        rcases hf with rfl | rfl | rfl | rfl
        · rw [h0]; exact ⟨_, rfl⟩
        · rw [h1]; exact ⟨_, rfl⟩
        · rw [h2]; exact ⟨_, rfl⟩
        · rw [h3]; exact ⟨_, rfl⟩
      · rw [if_neg hv]; exact ⟨_, rfl⟩
    rw [if_pos h, hb]
    cases b with
    | false => exact ⟨_, rfl, fun _ => rfl, fun _ => rfl, fun _ => rfl, fun _ => rfl⟩
    | true => rcases hf with rfl | rfl | rfl | rfl <;> exact ⟨_, rfl, fun h => by first | rfl | exact absurd rfl h, fun h => by first | rfl | exact absurd rfl h, fun h => by first | rfl | exact absurd rfl h, fun h => by first | rfl | exact absurd rfl h⟩
  · rw [if_neg h]; exact ⟨_, rfl, fun _ => rfl, fun _ => rfl, fun _ => rfl, fun _ => rfl⟩
theorem Gu (s : Se) (f v : Int) {q : PK} (h : C4 s.2 f v = some q) : Cd s f v = some ((if f = 4 then v else s.1), q) := by
  unfold Cd
  rw [h]
  by_cases hf : f = 4
  · rw [if_pos hf, if_pos hf]; rfl
  · rw [if_neg hf, if_neg hf]; rfl
theorem RK (p : PK) (v : Int) : C4 p 4 v = some p := by
  unfold C4
  rw [if_neg (by decide)]; rfl
theorem Xh {f w : Int} (hf : 0 ≤ f ∧ f ≤ 4) (hw : 0 ≤ w ∧ w ≤ Eo f) (s : Se) (v : Int) : ∃ s' q, Cd s f v = some s' ∧ Cd s' f w = some q ∧ Cd s f w = some q := by
  by_cases h4 : f = 4
  · subst h4
    exact ⟨_, _, Gu s 4 v (RK _ v), Gu _ 4 w (RK _ w), Gu s 4 w (RK _ w)⟩
  · obtain ⟨q1, e1, a0, a1, a2, a3⟩ := SG s.2 f v
    refine ⟨_, _, Gu s f v e1, Gu _ f w (Sa _ ⟨hf.1, by omega⟩ hw), ?_⟩
    rw [Gu s f w (Sa _ ⟨hf.1, by omega⟩ hw)]
    show some _ = some _
    have hf4 : f = 0 ∨ f = 1 ∨ f = 2 ∨ f = 3 := by omega
    rcases hf4 with rfl | rfl | rfl | rfl
    · simp [a1, a2, a3]
    · simp [a0, a2, a3]
    · simp [a0, a1, a3]
    · simp [a0, a1, a2]
theorem Vp : ∀ (n : Nat) (t : Tr34), SizeOf.sizeOf t < n → mi (th t) = t
  | 0, t, h => absurd h (Nat.not_lt_zero _)
  | n + 1, t, h => by
    rw [U4, Vx]
    show Tr34.of (t.un.1, t.un.2.1, t.un.2.2.1, (t.un.2.2.2.map th).map mi) = t
    have e2 : (t.un.2.2.2.map th).map mi = t.un.2.2.2 := by
      rw [List.map_map]
      refine (List.map_congr_left fun x hx => Vp n x (by have := TT hx; omega)).trans (List.map_id _)
    rw [e2, R2]
theorem VC : ∀ (n : Nat) (t : Tr37), SizeOf.sizeOf t < n → pm (pt t) = t
  | 0, t, h => absurd h (Nat.not_lt_zero _)
  | n + 1, t, h => by
    rw [Va, Vj]
    show Tr37.of (t.un.1, mi (th t.un.2.1), t.un.2.2.1, t.un.2.2.2.1, (t.un.2.2.2.2.map pt).map pm) = t
    have e1 : mi (th t.un.2.1) = t.un.2.1 := Vp (SizeOf.sizeOf t.un.2.1 + 1) _ (by omega)
    have e2 : (t.un.2.2.2.2.map pt).map pm = t.un.2.2.2.2 := by
      rw [List.map_map]
      refine (List.map_congr_left fun x hx => VC n x (by have := Vk hx; omega)).trans (List.map_id _)
    rw [e1, e2, Up]
theorem Rh : ZQ.cnt = 1 := J4 0
theorem Sm : VU.cnt = 2 := by rw [LQ]; show 1 + ((Tr34.of (1, 0, 0, ([] : List Tr34))).cnt + 0) = 2; rw [J4]
theorem Pq : UK.cnt = 2 := by rw [LQ]; show 1 + ((Tr34.of (2, 0, 0, ([] : List Tr34))).cnt + 0) = 2; rw [J4]
theorem So (f v : Int) : (SM f v).cnt = 2 := by rw [LQ]; show 1 + (ZQ.cnt + 0) = 2; rw [Rh]
theorem LC (a b : Tr37) : (Rl a b).cnt = 2 + a.cnt + b.cnt := by rw [LQ]; show 1 + (ZQ.cnt + (a.cnt + (b.cnt + 0))) = _; rw [Rh]; omega
theorem UO (a b : Tr37) : (WW a b).cnt = 2 + a.cnt + b.cnt := by rw [LQ]; show 1 + (ZQ.cnt + (a.cnt + (b.cnt + 0))) = _; rw [Rh]; omega
open Classical in
theorem TC {t : Tr37} (hc : t.cnt ≤ 1048576) : ∃ y, GN t = some y ∧ Gt y = some (decide (Wk t)) := by
  refine ⟨pt t, Ro hc, ?_⟩
  have h := Q2 (t := pt t) (by rw [Tr (SizeOf.sizeOf t + 1) t (by omega)]; exact hc)
  rw [VC (SizeOf.sizeOf t + 1) t (by omega)] at h
  rw [h]
abbrev XA : Tr37 := Rl (SM 1 3) (SM 4 1)
theorem PB : GU = some true := by
  have a1 : D4 XA 0 (5, (7, 2, 0, 0)) = some [(1, (7, 3, 0, 0))] := LV 100 XA 0 (5, (7, 2, 0, 0)) _ (by kernel_rfl)
  have a2 : Ct XA 0 5 (7, 2, 0, 0) = some [(1, (7, 3, 0, 0))] := Jk a1 (by simp [H4]) (by decide)
  have a3 : Hh XA = some [100, 115, 116, 32, 58, 61, 32, 51, 59, 32, 112, 111, 114, 116, 32, 58, 61, 32, 49] := Oo 100 XA _ (by kernel_rfl)
  have a4 : E8 XA = some true := M7 100 XA _ (by kernel_rfl)
  have a5 : Gn XA = some 1 := JT 100 XA _ (by kernel_rfl)
  unfold GU
  have i0 : ix ([(1, 7, 3, 0, 0)] : List Se) 0 = some (1, 7, 3, 0, 0) := rfl
  rw [show Ct _ 0 5 (7, 2, 0, 0) = _ from a2, Option.bind_some, if_pos (by rfl), i0, Option.bind_some, if_pos ⟨rfl, rfl, rfl, rfl, rfl⟩, show Hh _ = _ from a3, Option.bind_some, if_pos rfl, show E8 _ = _ from a4, Option.bind_some, if_pos rfl, show Gn _ = _ from a5, Option.bind_some]
  rfl
abbrev Zt (m : Tr37) : List Tr37 := [Rl VU m, Rl m VU, WW UK m, Rl UK m, Rl m UK]
open Classical in
theorem Lx {m x : Tr37} {S W : List Se} {p4 p5 : Int} {p6 : PK} (i : Nat) (hi : i < 5) (hx : (Zt m)[i]? = some x) (hW : (if 3 ≤ (i : Int) then some [] else some S) = some W) (hc : x.cnt ≤ 1048576) (hl : W.length ≤ 1000000000) (hr : Ct x p4 p5 p6 = some W) :
    Ce p4 p5 p6 m S (i : Int) = some (.inl ((i : Int) + 1)) := by
  obtain ⟨y, y1, y2⟩ := TC hc
  rw [Ce]
  simp only [R2, Up]
  rw [if_pos (by show (i : Int) < 5; omega), hW, Option.bind_some, show ix _ (i : Int) = some x from Ds hx, Option.bind_some, y1, Option.bind_some, RP, TM, y2, Option.bind_some]
  have hw : AO ((i : Int) + 1) = (i : Int) + 1 := AC ⟨by omega, by omega⟩
  by_cases h : Wk x
  · rw [decide_eq_true h, if_pos rfl, Option.bind_some, hr, Option.bind_some, O8 hl, Option.bind_some, Option.bind_some, if_neg (by decide), hw]
  · rw [decide_eq_false h, if_neg (by decide), Option.bind_some, if_neg (by decide), hw]
open Classical in
theorem Mc (p0 : Tr27) (ok0 : p0.cnt ≤ 1048576) (p1 : Int) {A1 : Prop} (_ : A1) (p2 : Int) {A2 : Prop} (_ : A2) (p3 : Int) {A3 : Prop} (_ : A3) (p4 : Int) {A4 : Prop} (_ : A4) (p5 : Int) {A5 : Prop} (_ : A5) (p6 : PK) {A6 : Prop} (_ : A6) : F8 p0 p1 p2 p3 p4 p5 p6 = some true := by
  unfold F8
  rw [RP, TM, Q2 ok0, Option.bind_some]
  by_cases ok : Wk (pm p0)
  case neg => rw [@decide_eq_false _ (_) ok, if_pos (by decide), PB]; rfl
  case pos =>
    rw [@decide_eq_true _ (_) ok, if_neg (by decide), TH ok0, Option.bind_some, R2, Up]
    generalize pm p0 = m at ok
    have hcnt : m.cnt ≤ 128 := UR ok
    have hres := Vy (SizeOf.sizeOf m + 1) m (by omega) ok.1.1 (by omega) p4
    obtain ⟨S, s1, s2, s3⟩ := hres (p5, p6)
    have hlen : S.length ≤ 1000000000 := by have := ok.2; unfold Bd at s3; omega
    have hn : ([] : List Se).length ≤ 1000000000 := by decide
    have hA0 : H4 Bh ([] : List Se) := List.Pairwise.nil
    rw [Jk (J6 s1) s2 hlen, Option.bind_some]
    have u1 : Ct (Rl VU m) p4 p5 p6 = some S := Jk (J6 (QR (Wp (SizeOf.sizeOf m) p4 _) (by simp [H4]) (NQ s1 s2))) s2 hlen
    have u2 : Ct (Rl m VU) p4 p5 p6 = some S := Jk (J6 (QR s1 s2 (Sw (fun x => Wp (SizeOf.sizeOf m) p4 x) s2))) s2 hlen
    have u3 : Ct (WW UK m) p4 p5 p6 = some S := Jk (J6 ((Yj (VI (SizeOf.sizeOf m) p4 _) s1).trans (by show some (Jf Bh [] S) = _; rw [R4 s2]))) s2 hlen
    have u4 : Ct (Rl UK m) p4 p5 p6 = some [] := Jk (J6 (QR (VI (SizeOf.sizeOf m) p4 _) hA0 rfl)) hA0 hn
    have u5 : Ct (Rl m UK) p4 p5 p6 = some [] := Jk (J6 (QR s1 s2 (Pk (fun x => VI (SizeOf.sizeOf m) p4 x) S))) hA0 hn
    have hloop : AY (Ce p4 p5 p6 m S) 0 = some (.inl ()) := by
      rw [BX (s' := 1) (show Ce p4 p5 p6 m S 0 = some (.inl 1) from Lx 0 (by decide) rfl (if_neg (by decide)) (by rw [LC, Sm]; omega) hlen u1), BX (s' := 2) (show Ce p4 p5 p6 m S 1 = some (.inl 2) from Lx 1 (by decide) rfl (if_neg (by decide)) (by rw [LC, Sm]; omega) hlen u2), BX (s' := 3) (show Ce p4 p5 p6 m S 2 = some (.inl 3) from Lx 2 (by decide) rfl (if_neg (by decide)) (by rw [UO, Pq]; omega) hlen u3), BX (s' := 4) (show Ce p4 p5 p6 m S 3 = some (.inl 4) from Lx 3 (by decide) rfl (if_pos (by decide)) (by rw [LC, Pq]; omega) hn u4), BX (s' := 5) (show Ce p4 p5 p6 m S 4 = some (.inl 5) from Lx 4 (by decide) rfl (if_pos (by decide)) (by rw [LC, Pq]; omega) hn u5)]
      exact Be (by rw [Ce, if_neg (by show ¬ (5 : Int) < 5; decide)])
    rw [hloop]
    show (Option.bind (Option.bind _ _) _ : Option Bool) = _
    obtain ⟨y, y1, y2⟩ := TC (t := Rl (SM p1 p2) (SM p1 p3)) (by rw [LC, So, So]; decide)
    rw [show GN _ = some y from y1, Option.bind_some, RP, TM, y2, Option.bind_some]
    by_cases h : Wk (Rl (SM p1 p2) (SM p1 p3))
    case neg => rw [decide_eq_false h, if_pos (by decide), PB]; rfl
    case pos =>
      rw [decide_eq_true h, if_neg (by decide)]
      have hf := ((JL _).1 h.1.1).2 (SM p1 p3) (by show _ ∈ [_, _]; simp)
      have hk := ((JL _).1 hf).1.1.1.2.2.2.1 rfl
      obtain ⟨s', q, e1, e2, e3⟩ := Xh (f := p1) (w := p3) ⟨hk.1, hk.2.1⟩ hk.2.2 ((p5, p6) : Se) p2
      have v1 : Ct (Rl (SM p1 p2) (SM p1 p3)) p4 p5 p6 = some [q] := Jk (J6 (n := 2) (QR (Uq 0 p1 p2 p4 e1) (by simp [H4]) (NQ (Uq 0 p1 p3 p4 e2) (by simp [H4])))) (by simp [H4]) (by show 1 ≤ _; decide)
      have v2 : Ct (SM p1 p3) p4 p5 p6 = some [q] := Jk (J6 (n := 1) (Uq 0 p1 p3 p4 e3)) (by simp [H4]) (by show 1 ≤ _; decide)
      rw [show Ct _ p4 p5 p6 = _ from v1, Option.bind_some, show Ct _ p4 p5 p6 = _ from v2, Option.bind_some, O8 (by show 1 ≤ _; decide), Option.bind_some, if_pos rfl, PB]; rfl
end Go.Proofs.YtpckgggmgijiiaaGreatDoor
