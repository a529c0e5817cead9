/- Layer 27: texts. Conditions: none. -/
import Derived.Test.YtpckgggmgijiiaaGreatDooreN27P
import Derived.Test.YtpckgggmgijiiaaGreatDooreLD
namespace Go.Proofs.YtpckgggmgijiiaaGreatDoor
set_option linter.unusedVariables false
set_option linter.unusedSimpArgs false
open Go Go.RowKit
def wr (k : Int) (s : List UInt8) : List UInt8 := if k = 5 ∨ k = 6 then [40] ++ s ++ [41] else s
def r8 (k f v : Int) (L : List (List UInt8)) : List UInt8 :=
  if k = 1 then [116,114,117,101] else if k = 2 then [102,97,108,115,101] else if k = 3 then CQ f ++ [32,61,32] ++ Lib.itoa v else if k = 4 then [110,111,116,32] ++ Lib.join L []
  else if k = 5 then Lib.join L [32,97,110,100,32] else if k = 6 then Lib.join L [32,111,114,32] else [63]
def px : Tr34 → List UInt8
  | .mk k f v l => r8 k f v (l.map fun x => wr x.un.1 (px x))
abbrev O0 (x : Tr34) : List UInt8 := wr x.un.1 (px x)
theorem cG (t : Tr34) : px t = r8 t.un.1 t.un.2.1 t.un.2.2.1 (t.un.2.2.2.map O0) := by cases t; rw [px]; rfl
theorem Pt (sep : List UInt8) (hs : sep.length ≤ 5) : ∀ (r : List (List UInt8)),(Lib.joinTail sep r).length ≤ (r.map fun s => s.length + 5).sum
  | [] => Nat.le_refl _
  | y :: r => by
    have := Pt sep hs r
    unfold Lib.joinTail at this ⊢
    rw [List.map_cons,List.flatten_cons,List.length_append,List.length_append,List.map_cons,List.sum_cons]; omega
theorem YU {sep : List UInt8} (hs : sep.length ≤ 5) : ∀ (r : List (List UInt8)),(Lib.join r sep).length ≤ (r.map fun s => s.length + 5).sum
  | [] => by rw [Lib.join_nil]; exact Nat.zero_le _
  | y :: r => by
    have := Pt sep hs r
    rw [Lib.join_cons,List.length_append,List.map_cons,List.sum_cons]; omega
theorem Xt : ∀ (l : List Tr34),(∀ x ∈ l,(px x).length + 8 ≤ 40 * x.cnt) → ((l.map O0).map fun s => s.length + 5).sum ≤ 40 * (l.map Tr34.cnt).sum
  | [],_ => Nat.le_refl _
  | x :: l,h => by
    have h1 := h x (List.mem_cons_self ..)
    have h2 := Xt l fun y hy => h y (List.mem_cons_of_mem _ hy)
    have h3 : (O0 x).length ≤ (px x).length + 2 := by
      show (wr _ _).length ≤ _
      unfold wr; split <;> simp
    rw [List.map_cons,List.map_cons,List.sum_cons,List.map_cons,List.sum_cons]; omega
theorem Q7 (f : Int) : (CQ f).length ≤ 6 := by unfold CQ; split; (· decide); split; (· decide); split; (· decide); split; (· decide); split; (· decide); split <;> decide
theorem Lu : ∀ (n : Nat) (t : Tr34),SizeOf.sizeOf t < n → Hv t = true → (px t).length + 8 ≤ 40 * t.cnt
  | 0,t,h,_ => absurd h (Nat.not_lt_zero _)
  | n + 1,t,h,hf => by
    obtain ⟨h1,h2⟩ := (I0 t).1 hf
    have hcc := Lp t
    have hs := Xt t.un.2.2.2 fun x hx => Lu n x (by have := Rx hx; omega) (h2 x hx)
    have j := fun sep hsl => YU (sep := sep) hsl (t.un.2.2.2.map O0)
    rw [cG]; unfold r8
    by_cases g1 : t.un.1 = 1
    · rw [if_pos g1]; simp; omega
    rw [if_neg g1]
    by_cases g2 : t.un.1 = 2
    · rw [if_pos g2]; simp; omega
    rw [if_neg g2]
    by_cases g3 : t.un.1 = 3
    · have := h1.2.2.2.1 g3
      have htb := IV t.un.2.1
      have := JZ (n := t.un.2.2.1) (by omega)
      have := Q7 t.un.2.1
      rw [if_pos g3]; simp; omega
    rw [if_neg g3]
    by_cases g4 : t.un.1 = 4
    · have hl1 := h1.2.2.2.2.2.1 g4
      obtain ⟨y,hy⟩ := List.length_eq_one_iff.1 hl1
      have hj : Lib.join (t.un.2.2.2.map O0) [] = O0 y := by rw [hy]; exact Lib.join_one _ _
      have h5 := Lu n y (by have := Rx (t := t) (x := y) (by rw [hy]; exact List.mem_cons_self ..); omega) (h2 y (by rw [hy]; exact List.mem_cons_self ..))
      have h6 : (O0 y).length ≤ (px y).length + 2 := by
        show (wr _ _).length ≤ _
        unfold wr; split <;> simp
      have h7 : t.cnt = 1 + y.cnt := by rw [hcc,hy]; simp
      rw [if_pos g4,hj,List.length_append]
      simp only [List.length_cons,List.length_nil]; omega
    rw [if_neg g4]
    by_cases g5 : t.un.1 = 5
    · have := j [32,97,110,100,32] (by decide)
      rw [if_pos g5]; omega
    rw [if_neg g5]
    by_cases g6 : t.un.1 = 6
    · have := j [32,111,114,32] (by decide)
      rw [if_pos g6]; omega
    rw [if_neg g6]; simp; omega
theorem O6 {F : Tr34 → Option (List UInt8)} {l : List Tr34} (hl : l.length ≤ 1000000) (hF : ∀ x ∈ l,F x = some (px x)) (hb : ∀ x ∈ l,(px x).length ≤ 1000000) {sep : List UInt8} (hj : (Lib.join (l.map O0) sep).length ≤ 1000000000) : D6 F l sep = some (Lib.join (l.map O0) sep) := by
  unfold D6
  rw [T0 l (by omega) O0 (CC F l) (fun k hk out ho => by
    have hm := List.getElem_mem hk
    have hb' := hb _ hm
    rw [CC,if_pos (by omega),A7 (List.getElem?_eq_getElem hk),Option.bind_some,hF _ hm,Option.bind_some]
    show _ = (Dg out [wr l[k].un.1 (px l[k])]).bind _
    unfold wr
    by_cases c : l[k].un.1 = 5 ∨ l[k].un.1 = 6
    · rw [if_pos (by simpa using c),if_pos c,Bv (by simp; omega),Option.bind_some,Bv (by simp; omega)]; rfl
    · rw [if_neg (by simpa using c),if_neg c]; rfl) (fun out => by rw [CC,if_neg (by omega)]),Option.bind_some]
  unfold I2
  rw [if_pos ⟨by rw [List.length_map]; omega,hj⟩]; rfl
theorem XN : ∀ (n : Nat) (t : Tr34),SizeOf.sizeOf t < n → t.cnt ≤ 1000 → Hv t = true → DK n t = some (px t)
  | 0,t,h,_,_ => absurd h (Nat.not_lt_zero _)
  | n + 1,t,h,hc,hf => by
    obtain ⟨h1,h2⟩ := (I0 t).1 hf
    have hl := qQ t
    have hlen := Lu (SizeOf.sizeOf t + 1) t (by omega) hf
    have hF : ∀ x ∈ t.un.2.2.2,DK n x = some (px x) := fun x hx => XN n x (by have := Rx hx; omega) (by have := l9 hx; omega) (h2 x hx)
    have hb : ∀ x ∈ t.un.2.2.2,(px x).length ≤ 1000000 := fun x hx => by
      have := Lu (SizeOf.sizeOf x + 1) x (by omega) (h2 x hx)
      have := l9 hx
      omega
    show DU (DK n) t = _
    unfold DU
    rw [cG] at hlen ⊢
    unfold r8 at hlen ⊢
    by_cases g1 : t.un.1 = 1
    · rw [if_pos g1,if_pos g1]
    rw [if_neg g1,if_neg g1]
    rw [if_neg g1] at hlen
    by_cases g2 : t.un.1 = 2
    · rw [if_pos g2,if_pos g2]
    rw [if_neg g2,if_neg g2]
    rw [if_neg g2] at hlen
    by_cases g3 : t.un.1 = 3
    · have := h1.2.2.2.1 g3
      have htb := IV t.un.2.1
      have h5 := JZ (n := t.un.2.2.1) (by omega)
      have h6 := Q7 t.un.2.1
      rw [if_pos g3,if_pos g3,Bv (by simp; omega),Option.bind_some,Wv (by omega),Option.bind_some,Bv (by simp; omega)]; rfl
    rw [if_neg g3,if_neg g3]
    rw [if_neg g3] at hlen
    by_cases g4 : t.un.1 = 4
    · rw [if_pos g4] at hlen
      rw [List.length_append] at hlen
      rw [if_pos g4,if_pos g4,O6 (by omega) hF hb (by omega),Option.bind_some,Bv (by simp only [List.length_cons,List.length_nil] at hlen ⊢; omega)]; rfl
    rw [if_neg g4,if_neg g4]
    rw [if_neg g4] at hlen
    by_cases g5 : t.un.1 = 5
    · rw [if_pos g5] at hlen
      rw [if_pos g5,if_pos g5,O6 (by omega) hF hb (by omega)]; rfl
    rw [if_neg g5,if_neg g5]
    rw [if_neg g5] at hlen
    by_cases g6 : t.un.1 = 6
    · rw [if_pos g6] at hlen
      rw [if_pos g6,if_pos g6,O6 (by omega) hF hb (by omega)]; rfl
    rw [if_neg g6,if_neg g6]
theorem Ve {t : Tr34} (hc : t.cnt ≤ 1000) (hf : Hv t = true) : IB t = some (px t) := Bq (g := fun n => DK n t) (fun n r h => IQ n t r h) (XN (SizeOf.sizeOf t + 1) t (by omega) hc hf)
theorem TG {n : Int} (h : i64 n) : HB n = some (Lib.itoa n) :=
  Zg (st := HV) (run := Hs) (fun _ => rfl) (fun _ _ => rfl) (fun _ _ => rfl) n h
theorem c8 {f : Int} (h : 0 ≤ f ∧ f ≤ 5) : Ki f = some (CQ f) := by
  have : f = 0 ∨ f = 1 ∨ f = 2 ∨ f = 3 ∨ f = 4 ∨ f = 5 := by omega
  rcases this with rfl | rfl | rfl | rfl | rfl | rfl <;> rfl
theorem Tp (sep y : List UInt8) : ∀ L : List (List UInt8),Lib.join (L ++ [y]) sep = (if 0 < L.length then Lib.join L sep ++ sep else []) ++ y
  | [] => by rw [if_neg (by simp)]; exact Lib.join_one _ _
  | x :: r => by
    rw [if_pos (by simp),List.cons_append,Lib.join_cons,Lib.join_cons]
    unfold Lib.joinTail
    rw [List.map_append,List.flatten_append]
    simp [List.append_assoc]
theorem MH (sep : List UInt8) (L : List (List UInt8)) (i : Nat) : (Lib.join (L.take i) sep).length ≤ (Lib.join L sep).length := by
  cases L with
  | nil => simp [Lib.join_nil]
  | cons x r =>
    cases i with
    | zero => rw [List.take_zero,Lib.join_nil]; exact Nat.zero_le _
    | succ i =>
      have := Lib.joinTail_take_le sep r i
      rw [List.take_succ_cons,Lib.join_cons,Lib.join_cons,List.length_append,List.length_append]; omega
theorem Yf : ∀ (n : Nat) (t : Tr24),SizeOf.sizeOf t < n → t.cnt ≤ 1000 → Hv (mi t) = true → DQ n t = some (px (mi t))
  | 0,t,h,_,_ => absurd h (Nat.not_lt_zero _)
  | n + 1, t, h, hc, hf => by
    obtain ⟨h1,h2⟩ := (Rd t).1 hf
    have hl := lZ t
    have hm := Wx t
    have hlen := Lu (SizeOf.sizeOf (mi t) + 1) (mi t) (by omega) hf
    have hF : ∀ x ∈ t.un.2.2.2,DQ n x = some (px (mi x)) := fun x hx => Yf n x (by have := SH hx; omega) (by have := gH hx; omega) (h2 x hx)
    have hb : ∀ x ∈ t.un.2.2.2,(px (mi x)).length ≤ 1000000 := fun x hx => by
      have := Lu (SizeOf.sizeOf (mi x) + 1) (mi x) (by omega) (h2 x hx)
      have := gH hx
      have := Wx x
      omega
    have hloop : ∀ sep : List UInt8,sep.length ≤ 5 → Af (C0 (DQ n) t sep) (([] : List UInt8),0) = some (Lib.join (t.un.2.2.2.map fun x => O0 (mi x)) sep) := fun sep hsep => by
      have hjb := YU hsep (t.un.2.2.2.map fun x => O0 (mi x))
      have hjs := Xt (t.un.2.2.2.map mi) fun x hx => by
        obtain ⟨y,hy,rfl⟩ := List.mem_map.1 hx
        exact Lu (SizeOf.sizeOf (mi y) + 1) (mi y) (by omega) (h2 y hy)
      have hsum := Lp (mi t)
      have hmm : (mi t).un.2.2.2 = t.un.2.2.2.map mi := by rw [M0]
      rw [hmm] at hsum
      have hmw : (t.un.2.2.2.map mi).map O0 = t.un.2.2.2.map fun x => O0 (mi x) := by rw [List.map_map]; rfl
      rw [hmw] at hjs
      obtain ⟨o,i1,i2⟩ := CR t.un.2.2.2.length (fun (o : List UInt8) (i : Nat) => (o,(i : Int))) (C0 (DQ n) t sep) id (fun o i => o = Lib.join ((t.un.2.2.2.map fun x => O0 (mi x)).take i) sep)
        (fun o i hi ho => by
          have hmem := List.getElem_mem hi
          have hb' := hb _ hmem
          have hmono := MH sep (t.un.2.2.2.map fun x => O0 (mi x)) i
          have hiL : i < (t.un.2.2.2.map fun x => O0 (mi x)).length := by rw [List.length_map]; exact hi
          have hgt : (t.un.2.2.2.map fun x => O0 (mi x))[i] = O0 (mi t.un.2.2.2[i]) := by rw [List.getElem_map]
          have hw : (O0 (mi t.un.2.2.2[i])).length ≤ (px (mi t.un.2.2.2[i])).length + 2 := by
            show (wr _ _).length ≤ _
            unfold wr; split <;> simp
          have hk := ((Rd _).1 (h2 _ hmem)).1
          have hk1 : (mi t.un.2.2.2[i]).un.1 = t.un.2.2.2[i].un.1 := by rw [M0]
          refine ⟨Lib.join ((t.un.2.2.2.map fun x => O0 (mi x)).take (i + 1)) sep, ?_,rfl⟩
          have e1 : ((some t.un.2.2.2[i]).bind fun x12 => (if 4 < x12.un.1 then (Dg ([40] : List UInt8) (px (mi t.un.2.2.2[i]))).bind fun x13 => (Dg x13 ([41] : List UInt8)).bind fun x14 => some x14 else some (px (mi t.un.2.2.2[i])))) = some (O0 (mi t.un.2.2.2[i])) := by
            rw [Option.bind_some]
            show _ = some (wr _ _)
            unfold wr
            rw [hk1]
            by_cases c : 4 < t.un.2.2.2[i].un.1
            · rw [if_pos c,if_pos (by unfold Gm at hk; omega),Bv (by simp; omega),Option.bind_some,Bv (by simp; omega)]; rfl
            · rw [if_neg c,if_neg (by omega)]
          rw [C0,if_pos (by omega),A7 (List.getElem?_eq_getElem hi),Option.bind_some,hF _ hmem,Option.bind_some,e1,Option.bind_some,List.take_succ_eq_append_getElem hiL,hgt,Tp, ← ho]
          have hol : o.length ≤ 1000000 := by rw [ho]; omega
          have htl : ((t.un.2.2.2.map fun x => O0 (mi x)).take i).length = i := by rw [List.length_take]; omega
          rw [htl]
          by_cases c : 0 < i
          · rw [if_pos (show (0 : Int) < (i : Int) by omega),if_pos c,Bv (by omega),Option.bind_some,Option.bind_some,Bv (by rw [List.length_append]; omega),Option.bind_some,Ad (by omega)]; rfl
          · have h0 : i = 0 := by omega
            have ho' : o = [] := by rw [ho,h0,List.take_zero,Lib.join_nil]
            rw [if_neg (show ¬ (0 : Int) < (i : Int) by omega),if_neg c,Option.bind_some,ho',Bv (by simp; omega),Option.bind_some,Ad (by omega)]; rfl)
        (fun o _ => by rw [C0,if_neg (by omega)]; rfl) [] (by rw [List.take_zero,Lib.join_nil])
      have i2' : Af (C0 (DQ n) t sep) (([] : List UInt8),0) = some o := i2
      rw [i2',i1,List.take_of_length_le (by rw [List.length_map]; omega)]
    have hmw : (t.un.2.2.2.map mi).map O0 = t.un.2.2.2.map fun x => O0 (mi x) := by rw [List.map_map]; rfl
    show EF (DQ n) t = _
    unfold EF
    rw [cG,M0] at hlen ⊢
    dsimp only at hlen ⊢
    rw [hmw] at hlen ⊢
    unfold r8 at hlen ⊢
    by_cases g1 : t.un.1 = 1
    · rw [if_pos g1,if_pos g1]
    rw [if_neg g1,if_neg g1]
    rw [if_neg g1] at hlen
    by_cases g2 : t.un.1 = 2
    · rw [if_pos g2,if_pos g2]
    rw [if_neg g2,if_neg g2]
    rw [if_neg g2] at hlen
    by_cases g3 : t.un.1 = 3
    · have h4 := h1.2.2.2.1 g3
      have htb := IV t.un.2.1
      have h5 := JZ (n := t.un.2.2.1) (by omega)
      have h6 := Q7 t.un.2.1
      rw [if_pos g3,if_pos g3,c8 ⟨h4.1,h4.2.1⟩,Option.bind_some,Bv (by simp; omega),Option.bind_some,TG (by constructor <;> omega),Option.bind_some,Bv (by simp; omega)]; rfl
    rw [if_neg g3,if_neg g3]
    rw [if_neg g3] at hlen
    by_cases g4 : t.un.1 = 4
    · obtain ⟨y,hy⟩ : ∃ y,t.un.2.2.2 = [y] := List.length_eq_one_iff.1 (h1.2.2.2.2.2.1 g4)
      have hj : ∀ sep,Lib.join (t.un.2.2.2.map fun x => O0 (mi x)) sep = O0 (mi y) := fun sep => by rw [hy]; exact Lib.join_one _ _
      rw [if_pos g4,hj] at hlen
      rw [List.length_append] at hlen
      simp only [List.length_cons,List.length_nil] at hlen
      rw [if_neg (by omega),Option.bind_some,hloop _ (by decide),Option.bind_some,if_pos g4,if_pos g4,hj,hj,Bv (by simp only [List.length_cons,List.length_nil]; omega)]; rfl
    rw [if_neg g4]
    by_cases g5 : t.un.1 = 5
    · rw [if_pos g5,if_pos g5,Option.bind_some,hloop _ (by decide),Option.bind_some,if_neg g4]
    rw [if_neg g5,if_neg g5,Option.bind_some,hloop _ (by decide),Option.bind_some,if_neg g4,if_pos (by unfold Gm at h1; omega)]
theorem WE {t : Tr24} (hc : t.cnt ≤ 1000) (hf : Hv (mi t) = true) : Om t = some (px (mi t)) := Bq (g := fun n => DQ n t) (fun n r h => MS n t r h) (Yf (SizeOf.sizeOf t + 1) t (by omega) hc hf)
def kY (k : Int) (s : List UInt8) : List UInt8 := if k = 3 ∨ k = 4 ∨ k = 5 then [40] ++ s ++ [41] else s
noncomputable def sD (k : Int) (p : Tr34) (f v : Int) (L : List (List UInt8)) : List UInt8 :=
  if k = 1 then (if p.un.1 = 1 then [105,100] else if p.un.1 = 2 then [100,114,111,112] else [119,104,101,110,32] ++ px p) else if k = 2 then Cm f ++ [32,58,61,32] ++ Lib.itoa v
  else if k = 3 then Lib.join L [59,32] else if k = 4 then Lib.join L [32,124,32] else if k = 5 then [105,102,32] ++ px p ++ [32,116,104,101,110,32] ++ Lib.join L [32,101,108,115,101,32] else [63]
noncomputable def qx : Tr37 → List UInt8
  | .mk k p f v l => sD k p f v (l.map fun x => kY x.un.1 (qx x))
noncomputable abbrev QJ (x : Tr37) : List UInt8 := kY x.un.1 (qx x)
theorem fD (t : Tr37) : qx t = sD t.un.1 t.un.2.1 t.un.2.2.1 t.un.2.2.2.1 (t.un.2.2.2.2.map QJ) := by cases t; rw [qx]; rfl
theorem Vc {sep : List UInt8} (hs : sep.length ≤ 6) (r : List (List UInt8)) : (Lib.join r sep).length ≤ (r.map fun s => s.length + 6).sum := by
  have key : ∀ r : List (List UInt8),(Lib.joinTail sep r).length ≤ (r.map fun s => s.length + 6).sum := by
    intro r
    induction r with
    | nil => exact Nat.le_refl _
    | cons y r ih =>
      unfold Lib.joinTail at ih ⊢
      rw [List.map_cons,List.flatten_cons,List.length_append,List.length_append,List.map_cons,List.sum_cons]; omega
  cases r with
  | nil => rw [Lib.join_nil]; exact Nat.zero_le _
  | cons y r =>
    have := key r
    rw [Lib.join_cons,List.length_append,List.map_cons,List.sum_cons]; omega
theorem Y3 (x : Tr37) : (QJ x).length ≤ (qx x).length + 2 := by
  show (kY _ _).length ≤ _
  unfold kY; split <;> simp
theorem Uc : ∀ (l : List Tr37),(∀ x ∈ l,(qx x).length + 8 ≤ 40 * sz x) → ((l.map QJ).map fun s => s.length + 6).sum ≤ 40 * (l.map sz).sum
  | [],_ => Nat.le_refl _
  | x :: l,h => by
    have h1 := h x (List.mem_cons_self ..)
    have h2 := Uc l fun y hy => h y (List.mem_cons_of_mem _ hy)
    have h3 := Y3 x
    rw [List.map_cons,List.map_cons,List.sum_cons,List.map_cons,List.sum_cons]; omega
theorem Pj (f : Int) : (Cm f).length ≤ 6 := by unfold Cm; split; (· decide); split; (· decide); split; (· decide); split; (· decide); split <;> decide
theorem px_len' {p : Tr34} (h : Hv p = true) : (px p).length + 8 ≤ 40 * p.cnt := Lu (SizeOf.sizeOf p + 1) p (by omega) h
theorem fO : ∀ (n : Nat) (t : Tr37),SizeOf.sizeOf t < n → Gn t = true → (qx t).length + 8 ≤ 40 * sz t
  | 0,t,h,_ => absurd h (Nat.not_lt_zero _)
  | n + 1,t,h,hf => by
    obtain ⟨h1,h2⟩ := (FJ t).1 hf
    have hcc := Nz t
    have hs := Uc t.un.2.2.2.2 fun x hx => fO n x (by have := Yr hx; omega) (h2 x hx)
    have j := fun sep hsl => Vc (sep := sep) hsl (t.un.2.2.2.2.map QJ)
    rw [fD]; unfold sD
    by_cases g1 : t.un.1 = 1
    · have hp := px_len' (h1.2 (.inl g1)).1
      rw [if_pos (by omega)] at hcc
      rw [if_pos g1]
      split
      · simp only [List.length_cons,List.length_nil]; omega
      · split
        · simp only [List.length_cons,List.length_nil]; omega
        · rw [List.length_append]; simp only [List.length_cons,List.length_nil]; omega
    rw [if_neg g1]
    by_cases g2 : t.un.1 = 2
    · have := h1.1.1.2.2.2.1 g2
      have htb := IV t.un.2.2.1
      have := JZ (n := t.un.2.2.2.1) (by omega)
      have := Pj t.un.2.2.1
      rw [if_pos g2]; simp; omega
    rw [if_neg g2]
    by_cases g3 : t.un.1 = 3
    · have := j [59,32] (by decide)
      rw [if_pos g3]; omega
    rw [if_neg g3]
    by_cases g4 : t.un.1 = 4
    · have := j [32,124,32] (by decide)
      rw [if_pos g4]; omega
    rw [if_neg g4]
    by_cases g5 : t.un.1 = 5
    · have := j [32,101,108,115,101,32] (by decide)
      have hp := px_len' (h1.2 (.inr g5)).1
      rw [if_pos (by omega)] at hcc
      rw [if_pos g5]; simp only [List.length_append,List.length_cons,List.length_nil]; omega
    rw [if_neg g5]; simp; omega
theorem qx_len' {t : Tr37} (h : Gn t = true) : (qx t).length + 8 ≤ 40 * sz t := fO (SizeOf.sizeOf t + 1) t (by omega) h
theorem eK {t x : Tr37} (h : x ∈ t.un.2.2.2.2) : sz x < sz t := by
  have := LT (g := sz) h
  rw [Nz t]; omega
theorem bL (t : Tr37) : t.un.2.2.2.2.length + 1 ≤ sz t := by
  have := Mk (g := sz) (fun x => by rw [Nz x]; omega) t.un.2.2.2.2
  rw [Nz t]; omega
theorem Q0 {F : Tr37 → Option (List UInt8)} {l : List Tr37} (hl : l.length ≤ 1000000) (hF : ∀ x ∈ l,F x = some (qx x)) (hb : ∀ x ∈ l,(qx x).length ≤ 1000000) : BS F l = some (l.map QJ) := by
  unfold BS
  rw [T0 l (by omega) QJ (Bu F l) (fun k hk out ho => by
    have hm := List.getElem_mem hk
    have hb' := hb _ hm
    rw [Bu,if_pos (by omega),A7 (List.getElem?_eq_getElem hk),Option.bind_some,NM,Qc,hF _ hm,Option.bind_some]
    show _ = (Dg out [kY l[k].un.1 (qx l[k])]).bind _
    unfold kY
    by_cases c : l[k].un.1 = 3 ∨ l[k].un.1 = 4 ∨ l[k].un.1 = 5
    · rw [if_pos (by simpa using c),if_pos c,Bv (by simp; omega),Option.bind_some,Bv (by simp; omega)]; rfl
    · rw [if_neg (by simpa using c),if_neg c]; rfl) (fun out => by rw [Bu,if_neg (by omega)]),Option.bind_some]
theorem XP : ∀ (n : Nat) (t : Tr37),SizeOf.sizeOf t < n → sz t ≤ 1000 → Gn t = true → CP n t = some (qx t)
  | 0,t,h,_,_ => absurd h (Nat.not_lt_zero _)
  | n + 1,t,h,hc,hf => by
    obtain ⟨h1,h2⟩ := (FJ t).1 hf
    have hl := bL t
    have hlen := qx_len' hf
    have hF : ∀ x ∈ t.un.2.2.2.2,CP n x = some (qx x) := fun x hx => XP n x (by have := Yr hx; omega) (by have := eK hx; omega) (h2 x hx)
    have hb : ∀ x ∈ t.un.2.2.2.2,(qx x).length ≤ 1000000 := fun x hx => by
      have := qx_len' (h2 x hx)
      have := eK hx
      omega
    have hj : ∀ sep : List UInt8,(Lib.join (t.un.2.2.2.2.map QJ) sep).length ≤ 1000000000 → I2 (t.un.2.2.2.2.map QJ) sep = some (Lib.join (t.un.2.2.2.2.map QJ) sep) := fun sep hs => by
      unfold I2
      rw [if_pos ⟨by rw [List.length_map]; omega,hs⟩]
    show C9 (CP n) t = _
    unfold C9
    rw [NM,fD] at *
    unfold sD at hlen ⊢
    by_cases g1 : t.un.1 = 1
    · have ho := h1.2 (.inl g1)
      have hp := px_len' ho.1
      have ho3 := ho.2.2
      rw [if_pos g1,if_pos g1]
      unfold Db
      by_cases q1 : t.un.2.1.un.1 = 1
      · rw [if_pos q1,if_pos q1]; rfl
      rw [if_neg q1,if_neg q1]
      by_cases q2 : t.un.2.1.un.1 = 2
      · rw [if_pos q2,if_pos q2]; rfl
      rw [if_neg q2,if_neg q2,Ve (by omega) ho.1,Option.bind_some,Bv (by simp only [List.length_cons,List.length_nil]; omega)]; rfl
    rw [if_neg g1,if_neg g1]
    rw [if_neg g1] at hlen
    by_cases g2 : t.un.1 = 2
    · have := h1.1.1.2.2.2.1 g2
      have htb := IV t.un.2.2.1
      have h5 := JZ (n := t.un.2.2.2.1) (by omega)
      have h6 := Pj t.un.2.2.1
      rw [if_pos g2,if_pos g2,Bv (by simp; omega),Option.bind_some,Wv (by omega),Option.bind_some,Bv (by simp; omega)]; rfl
    rw [if_neg g2,if_neg g2]
    rw [if_neg g2] at hlen
    by_cases g3 : t.un.1 = 3
    · rw [if_pos g3] at hlen
      rw [if_pos g3,if_pos g3,Q0 (by omega) hF hb,Option.bind_some,hj _ (by omega)]; rfl
    rw [if_neg g3,if_neg g3]
    rw [if_neg g3] at hlen
    by_cases g4 : t.un.1 = 4
    · rw [if_pos g4] at hlen
      rw [if_pos g4,if_pos g4,Q0 (by omega) hF hb,Option.bind_some,hj _ (by omega)]; rfl
    rw [if_neg g4,if_neg g4]
    rw [if_neg g4] at hlen
    by_cases g5 : t.un.1 = 5
    · have ho := h1.2 (.inr g5)
      have ho3 := ho.2.2
      rw [if_pos g5] at hlen
      simp only [List.length_append,List.length_cons,List.length_nil] at hlen
      rw [if_pos g5,if_pos g5,Ve (by omega) ho.1,Option.bind_some,Bv (by simp only [List.length_cons,List.length_nil]; omega),Option.bind_some,Bv (by simp only [List.length_append,List.length_cons,List.length_nil]; omega),Option.bind_some,Q0 (by omega) hF hb,Option.bind_some,hj _ (by omega),Option.bind_some,Bv (by simp only [List.length_append,List.length_cons,List.length_nil]; omega)]; rfl
    rw [if_neg g5,if_neg g5]
theorem eE {t : Tr37} (hc : sz t ≤ 1000) (hf : Gn t = true) : Fo t = some (qx t) := Bq (g := fun n => CP n t) (fun n r h => HQ n t r h) (XP (SizeOf.sizeOf t + 1) t (by omega) hc hf)
theorem V4 : ∀ (n : Nat) (t : Tr27),SizeOf.sizeOf t < n → sz (pm t) ≤ 1000 → Gn (pm t) = true → CX n t = some (qx (pm t))
  | 0,t,h,_,_ => absurd h (Nat.not_lt_zero _)
  | n + 1, t, h, hc, hf => by
    obtain ⟨h1,h2⟩ := (Mv t).1 hf
    have hmm : (pm t).un.2.2.2.2 = t.un.2.2.2.2.map pm := by rw [Li]
    have hl := bL (pm t)
    rw [hmm,List.length_map] at hl
    have hlen := qx_len' hf
    have hsz : ∀ x ∈ t.un.2.2.2.2,sz (pm x) < sz (pm t) := fun x hx => eK (by rw [hmm]; exact List.mem_map.2 ⟨x,hx,rfl⟩)
    have hF : ∀ x ∈ t.un.2.2.2.2,CX n x = some (qx (pm x)) := fun x hx => V4 n x (by have := aI hx; omega) (by have := hsz x hx; omega) (h2 x hx)
    have hb : ∀ x ∈ t.un.2.2.2.2,(qx (pm x)).length ≤ 1000000 := fun x hx => by
      have := qx_len' (h2 x hx)
      have := hsz x hx
      omega
    have hloop : ∀ (pre sep : List UInt8),sep.length ≤ 6 → pre.length ≤ 1000000 → Af (CL (CX n) t sep) (pre,0) = some (pre ++ Lib.join (t.un.2.2.2.2.map fun x => QJ (pm x)) sep) := fun pre sep hsep hpre => by
      have hjb := Vc hsep (t.un.2.2.2.2.map fun x => QJ (pm x))
      have hjs := Uc (t.un.2.2.2.2.map pm) fun x hx => by
        obtain ⟨y,hy,rfl⟩ := List.mem_map.1 hx
        exact qx_len' (h2 y hy)
      have hsum := Nz (pm t)
      rw [hmm] at hsum
      have hmw : (t.un.2.2.2.2.map pm).map QJ = t.un.2.2.2.2.map fun x => QJ (pm x) := by rw [List.map_map]; rfl
      rw [hmw] at hjs
      obtain ⟨o,i1,i2⟩ := CR t.un.2.2.2.2.length (fun (o : List UInt8) (i : Nat) => (o,(i : Int))) (CL (CX n) t sep) id (fun o i => o = pre ++ Lib.join ((t.un.2.2.2.2.map fun x => QJ (pm x)).take i) sep)
        (fun o i hi ho => by
          have hmem := List.getElem_mem hi
          have hb' := hb _ hmem
          have hmono := MH sep (t.un.2.2.2.2.map fun x => QJ (pm x)) i
          have hiL : i < (t.un.2.2.2.2.map fun x => QJ (pm x)).length := by rw [List.length_map]; exact hi
          have hgt : (t.un.2.2.2.2.map fun x => QJ (pm x))[i] = QJ (pm t.un.2.2.2.2[i]) := by rw [List.getElem_map]
          have hw := Y3 (pm t.un.2.2.2.2[i])
          have hk := ((Mv _).1 (h2 _ hmem)).1.1.1
          have hk1 : (pm t.un.2.2.2.2[i]).un.1 = t.un.2.2.2.2[i].un.1 := by rw [Li]
          refine ⟨pre ++ Lib.join ((t.un.2.2.2.2.map fun x => QJ (pm x)).take (i + 1)) sep, ?_,rfl⟩
          have e1 : ((some t.un.2.2.2.2[i]).bind fun x19 => (if 2 < x19.un.1 then (Dg ([40] : List UInt8) (qx (pm t.un.2.2.2.2[i]))).bind fun x20 => (Dg x20 ([41] : List UInt8)).bind fun x21 => some x21 else some (qx (pm t.un.2.2.2.2[i])))) = some (QJ (pm t.un.2.2.2.2[i])) := by
            rw [Option.bind_some]
            show _ = some (kY _ _)
            unfold kY
            rw [hk1]
            by_cases c : 2 < t.un.2.2.2.2[i].un.1
            · rw [if_pos c,if_pos (by unfold FN at hk; omega),Bv (by simp; omega),Option.bind_some,Bv (by simp; omega)]; rfl
            · rw [if_neg c,if_neg (by omega)]
          rw [CL,if_pos (by omega),A7 (List.getElem?_eq_getElem hi),Option.bind_some,S5,W2,hF _ hmem,Option.bind_some,e1,Option.bind_some,List.take_succ_eq_append_getElem hiL,hgt,Tp]
          have hol : o.length ≤ 2000000 := by rw [ho,List.length_append]; omega
          have htl : ((t.un.2.2.2.2.map fun x => QJ (pm x)).take i).length = i := by rw [List.length_take]; omega
          rw [htl]
          by_cases c : 0 < i
          · rw [if_pos (show (0 : Int) < (i : Int) by omega),if_pos c,Bv (by omega),Option.bind_some,Option.bind_some,Bv (by rw [List.length_append]; omega),Option.bind_some,Ad (by omega),ho]
            simp only [List.append_assoc]; rfl
          · have h0 : i = 0 := by omega
            have ho' : o = pre := by rw [ho,h0,List.take_zero,Lib.join_nil,List.append_nil]
            rw [if_neg (show ¬ (0 : Int) < (i : Int) by omega),if_neg c,Option.bind_some,ho',Bv (by omega),Option.bind_some,Ad (by omega)]; rfl)
        (fun o _ => by rw [CL,if_neg (by omega)]; rfl) pre (by rw [List.take_zero,Lib.join_nil,List.append_nil])
      have i2' : Af (CL (CX n) t sep) (pre,0) = some o := i2
      rw [i2',i1,List.take_of_length_le (by rw [List.length_map]; omega)]
    have hmw : (t.un.2.2.2.2.map pm).map QJ = t.un.2.2.2.2.map fun x => QJ (pm x) := by rw [List.map_map]; rfl
    have hpk : (mi t.un.2.1).un.1 = t.un.2.1.un.1 := by rw [M0]
    show Gd (CX n) t = _
    unfold Gd
    rw [fD,Li] at hlen ⊢
    dsimp only at hlen ⊢
    rw [hmw,S5] at *
    unfold sD at hlen ⊢
    rw [hpk]
    by_cases g1 : t.un.1 = 1
    · have ho := h1.2 (.inl g1)
      have hp := px_len' ho.1
      have ho3 := ho.2.2
      have hmc := Wx t.un.2.1
      rw [if_pos g1,if_pos g1]
      by_cases q1 : t.un.2.1.un.1 = 1
      · rw [if_pos (by simp [g1,q1]),if_pos q1]
      rw [if_neg (by simp [q1]),if_neg q1]
      by_cases q2 : t.un.2.1.un.1 = 2
      · rw [if_pos (by simp [g1,q2]),if_pos q2]
      rw [if_neg (by simp [q2]),if_neg q2,WE (by omega) ho.1,Option.bind_some,Bv (by simp only [List.length_cons,List.length_nil]; omega)]; rfl
    rw [if_neg (by simp [g1]),if_neg (by simp [g1]),if_neg g1,if_neg g1]
    rw [if_neg g1] at hlen
    by_cases g2 : t.un.1 = 2
    · have h4 := h1.1.1.2.2.2.1 g2
      have htb := IV t.un.2.2.1
      have h5 := JZ (n := t.un.2.2.2.1) (by omega)
      have h6 := Pj t.un.2.2.1
      have hw : Ki t.un.2.2.1 = some (Cm t.un.2.2.1) := by
        have : t.un.2.2.1 = 0 ∨ t.un.2.2.1 = 1 ∨ t.un.2.2.1 = 2 ∨ t.un.2.2.1 = 3 ∨ t.un.2.2.1 = 4 := by omega
        rcases this with h | h | h | h | h <;> rw [h] <;> rfl
      rw [if_pos g2,if_pos g2,hw,Option.bind_some,Bv (by simp; omega),Option.bind_some,TG (by constructor <;> omega),Option.bind_some,Bv (by simp; omega)]; rfl
    rw [if_neg g2,if_neg g2]
    rw [if_neg g2] at hlen
    by_cases g3 : t.un.1 = 3
    · rw [if_pos g3,if_neg (by omega),Option.bind_some,if_neg (by omega),Option.bind_some]
      show (Af (CL (CX n) t [59,32]) ([],0)).bind _ = _
      rw [hloop _ _ (by decide) (by decide)]; rfl
    rw [if_neg g3]
    rw [if_neg g3] at hlen
    by_cases g4 : t.un.1 = 4
    · rw [if_pos g4,if_pos g4,Option.bind_some,if_neg (by omega),Option.bind_some]
      show (Af (CL (CX n) t [32,124,32]) ([],0)).bind _ = _
      rw [hloop _ _ (by decide) (by decide)]; rfl
    rw [if_neg g4,if_neg g4]
    have g5 : t.un.1 = 5 := by have := h1.1.1; unfold FN at this; omega
    have ho := h1.2 (.inr g5)
    have ho3 := ho.2.2
    have hmc := Wx t.un.2.1
    rw [if_neg g4,if_pos g5] at hlen
    simp only [List.length_append,List.length_cons,List.length_nil] at hlen
    rw [if_pos g5,Option.bind_some,if_pos g5,WE (by omega) ho.1,Option.bind_some,Bv (by simp only [List.length_cons,List.length_nil]; omega),Option.bind_some,Bv (by simp only [List.length_append,List.length_cons,List.length_nil]; omega),Option.bind_some,Option.bind_some]
    show (Af (CL (CX n) t [32,101,108,115,101,32]) (_,0)).bind _ = _
    rw [hloop _ _ (by decide) (by simp only [List.length_append,List.length_cons,List.length_nil]; omega)]; rfl
theorem ZO {t : Tr27} (hc : sz (pm t) ≤ 1000) (hf : Gn (pm t) = true) : R6 t = some (qx (pm t)) := Bq (g := fun n => CX n t) (fun n r h => M6 n t r h) (V4 (SizeOf.sizeOf t + 1) t (by omega) hc hf)
end Go.Proofs.YtpckgggmgijiiaaGreatDoor
