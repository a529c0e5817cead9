/- Layer 27: policies: what they ask for. Conditions: none. -/
import Derived.Test.YtpckgggmgijiiaaGreatDooreN27P
namespace Go.Proofs.YtpckgggmgijiiaaGreatDoor
set_option linter.unusedVariables false
set_option linter.unusedSimpArgs false
open Go Go.RowKit
theorem kI (f : Int) (t : Tr24) : FT f (mi t) = (if t.un.1 = 3 ∧ t.un.2.1 = f then [t.un.2.2.1] else []) ++ ((t.un.2.2.2.map fun x => FT f (mi x)).flatten) := by rw [NJ,M0]; show _ ++ ((t.un.2.2.2.map mi).map (FT f)).flatten = _; rw [List.map_map]; rfl
theorem RZ {f v : Int} {t : Tr24} : v ∈ FT f (mi t) ↔ (t.un.1 = 3 ∧ t.un.2.1 = f ∧ t.un.2.2.1 = v) ∨ ∃ x ∈ t.un.2.2.2,v ∈ FT f (mi x) := by
  rw [kI,List.mem_append]
  refine or_congr ?_ ?_
  · by_cases c : t.un.1 = 3 ∧ t.un.2.1 = f
    · rw [if_pos c,List.mem_singleton]
      exact ⟨fun h => ⟨c.1,c.2,h.symm⟩,fun h => h.2.2.symm⟩
    · rw [if_neg c]
      exact ⟨fun h => absurd h (List.not_mem_nil),fun h => absurd ⟨h.1,h.2.1⟩ c⟩
  · rw [List.mem_flatten]
    constructor
    · rintro ⟨l,hl,hv⟩
      obtain ⟨x,hx,rfl⟩ := List.mem_map.1 hl
      exact ⟨x,hx,hv⟩
    · rintro ⟨x,hx,hv⟩
      exact ⟨_,List.mem_map.2 ⟨x,hx,rfl⟩,hv⟩
theorem fJ (f v : Int) : ∀ (n : Nat) (t : Tr24),SizeOf.sizeOf t < n → t.cnt ≤ 1048576 → FB n t f v = some (decide (v ∈ FT f (mi t)))
  | 0,t,h,_ => absurd h (Nat.not_lt_zero _)
  | n + 1,t,h,hc => by
    have hl := lZ t
    show EG (FB n) t f v = _
    unfold EG
    by_cases g : t.un.1 = 3 ∧ t.un.2.1 = f ∧ t.un.2.2.1 = v
    · rw [if_pos (by simp [g.1,g.2.1,g.2.2]),decide_eq_true (RZ.2 (.inl g))]
    · rw [if_neg (by simpa using g),Mo t.un.2.2.2 (by omega) (EE (FB n) t f v) (fun x => v ∈ FT f (mi x)) true (fun k hk => by
        have hm := List.getElem_mem hk
        rw [EE,if_pos (by omega),A7 (List.getElem?_eq_getElem hk),Option.bind_some,fJ f v n _ (by have := SH hm; omega) (Nat.le_trans (gH hm) hc),Option.bind_some]
        by_cases q : v ∈ FT f (mi t.un.2.2.2[k])
        · rw [decide_eq_true q,if_pos q]; rfl
        · rw [decide_eq_false q,if_neg q]; rfl) (by rw [EE,if_neg (by omega)])]
      by_cases q : ∃ x ∈ t.un.2.2.2,v ∈ FT f (mi x)
      · rw [if_pos q,decide_eq_true (RZ.2 (.inr q))]; rfl
      · rw [if_neg q,decide_eq_false (fun hh => (RZ.1 hh).elim g q)]; rfl
theorem iX {t : Tr24} (hc : t.cnt ≤ 1048576) (f v : Int) : LE t f v = some (decide (v ∈ FT f (mi t))) := Bq (g := fun n => FB n t f v) (fun n r h => MP n t f v r h) (fJ f v (SizeOf.sizeOf t + 1) t (by omega) hc)
theorem pF (l : List Int) (hl : l.length ≤ 1000000) : ND l l = some true := by
  unfold ND
  rw [if_neg (by simp),Mo l (by omega) (Jk l l) (fun _ => False) false (fun k hk => by
    rw [Jk,if_pos (by omega),A7 (List.getElem?_eq_getElem hk),Option.bind_some,Option.bind_some,if_neg (by simp),if_neg id]) (by rw [Jk,if_neg (by omega)]),if_neg (by simp)]; rfl
theorem kS {t : Tr34} (hc : t.cnt ≤ 1000000) (f : Int) : ∃ V,Hf t f = some V ∧ V.Pairwise (· < ·) ∧ V.length ≤ t.cnt ∧ ∀ v,v ∈ V ↔ v ∈ FT f t := by
  have hlen := NC f (SizeOf.sizeOf t + 1) t (by omega)
  obtain ⟨S,s1,s2,s3⟩ := XX (L := FT f t) (by omega)
  obtain ⟨R,r1,r2,r3⟩ := Qr (L := S) (by rw [s2.length_eq]; omega) s3
  have hRl : R.length ≤ S.length := by
    have hnd : R.Nodup := r2.imp fun h => by omega
    exact TI R S hnd fun x hx => (r3 x).1 hx
  refine ⟨R, ?_,r2,by rw [s2.length_eq] at hRl; omega,fun v => (r3 v).trans s2.mem_iff⟩
  unfold Hf
  rw [WB (by omega),Option.bind_some,s1,Option.bind_some,r1]; rfl
def us (f : Int) : Tr37 → List Int
  | .mk k p g v l => FT f p ++ (if k = 2 ∧ g = f then [v] else []) ++ (l.map (us f)).flatten
theorem tF (f : Int) (t : Tr37) : us f t = FT f t.un.2.1 ++ (if t.un.1 = 2 ∧ t.un.2.2.1 = f then [t.un.2.2.2.1] else []) ++ (t.un.2.2.2.2.map (us f)).flatten := by cases t; rw [us]; rfl
theorem Xv {f v : Int} {t : Tr37} : v ∈ us f t ↔ v ∈ FT f t.un.2.1 ∨ (t.un.1 = 2 ∧ t.un.2.2.1 = f ∧ t.un.2.2.2.1 = v) ∨ ∃ x ∈ t.un.2.2.2.2,v ∈ us f x := by
  rw [tF,List.mem_append,List.mem_append,or_assoc]
  refine or_congr Iff.rfl (or_congr ?_ ?_)
  · by_cases c : t.un.1 = 2 ∧ t.un.2.2.1 = f
    · rw [if_pos c,List.mem_singleton]
      exact ⟨fun h => ⟨c.1,c.2,h.symm⟩,fun h => h.2.2.symm⟩
    · rw [if_neg c]
      exact ⟨fun h => absurd h (List.not_mem_nil),fun h => absurd ⟨h.1,h.2.1⟩ c⟩
  · rw [List.mem_flatten]
    constructor
    · rintro ⟨l,hl,hv⟩
      obtain ⟨x,hx,rfl⟩ := List.mem_map.1 hl
      exact ⟨x,hx,hv⟩
    · rintro ⟨x,hx,hv⟩
      exact ⟨_,List.mem_map.2 ⟨x,hx,rfl⟩,hv⟩
theorem eY (f : Int) : ∀ (n : Nat) (t : Tr37),SizeOf.sizeOf t < n → t.cnt ≤ 1000 → ∃ U,C4 n t f = some U ∧ U.length ≤ t.cnt ∧ ∀ v,v ∈ U ↔ v ∈ us f t
  | 0,t,h,_ => absurd h (Nat.not_lt_zero _)
  | n + 1, t, h, hc => by
    have hl := lP t
    have hq := qP t
    have hcc := Wd t
    obtain ⟨V,v1,_,v3,v4⟩ := kS (t := t.un.2.1) (by omega) f
    have e1 : ∃ W : List Int,(if (decide (t.un.1 = 2) && decide (t.un.2.2.1 = f)) = true then (Dg V ([t.un.2.2.2.1] : List Int)).bind fun x3 => some x3 else some V) = some W ∧ W.length ≤ t.un.2.1.cnt + 1 ∧ ∀ v,v ∈ W ↔ v ∈ FT f t.un.2.1 ∨ (t.un.1 = 2 ∧ t.un.2.2.1 = f ∧ t.un.2.2.2.1 = v) := by
      by_cases c : t.un.1 = 2 ∧ t.un.2.2.1 = f
      · refine ⟨V ++ [t.un.2.2.2.1],by rw [if_pos (by simp [c.1,c.2]),Bv (by simp; omega)]; rfl,by simp; omega,fun v => ?_⟩
        rw [List.mem_append,List.mem_singleton,v4]
        exact or_congr Iff.rfl ⟨fun h => ⟨c.1,c.2,h.symm⟩,fun h => h.2.2.symm⟩
      · refine ⟨V,by rw [if_neg (by simpa using c)],by omega,fun v => ?_⟩
        rw [v4]
        exact ⟨.inl,fun h => h.elim id fun h => absurd ⟨h.1,h.2.1⟩ c⟩
    obtain ⟨W,w1,w2,w3⟩ := e1
    obtain ⟨o,⟨h1,h1'⟩,h2⟩ := CR t.un.2.2.2.2.length (fun (o : List Int) (i : Nat) => (o,(i : Int))) (CU (C4 n) t f) id (fun o i => o.length ≤ t.un.2.1.cnt + 1 + ((t.un.2.2.2.2.take i).map Tr37.cnt).sum ∧ ∀ v,v ∈ o ↔ (v ∈ FT f t.un.2.1 ∨ (t.un.1 = 2 ∧ t.un.2.2.1 = f ∧ t.un.2.2.2.1 = v)) ∨ ∃ x ∈ t.un.2.2.2.2.take i,v ∈ us f x)
      (fun o i hi ho => by
        have hm := List.getElem_mem hi
        obtain ⟨U,u1,u2,u3⟩ := eY f n t.un.2.2.2.2[i] (by have := Yr hm; omega) (Nat.le_trans (cP hm) hc)
        have hs2 : ((t.un.2.2.2.2.take (i + 1)).map Tr37.cnt).sum = ((t.un.2.2.2.2.take i).map Tr37.cnt).sum + t.un.2.2.2.2[i].cnt := by
          rw [List.take_succ_eq_append_getElem hi,List.map_append,List.sum_append]; simp
        have hle := Hu (g := Tr37.cnt) t.un.2.2.2.2 (i + 1)
        have ho1 := ho.1
        refine ⟨o ++ U, ?_,by rw [List.length_append]; omega,fun v => ?_⟩
        · rw [CU,if_pos (by omega),A7 (List.getElem?_eq_getElem hi),Option.bind_some,NM,Qc,u1,Option.bind_some,Bv (by omega),Option.bind_some,Ad (by omega)]; rfl
        · rw [List.mem_append,ho.2,u3,or_assoc]
          refine or_congr Iff.rfl ?_
          rw [List.take_succ_eq_append_getElem hi]
          constructor
          · rintro (⟨x,hx,hv⟩ | hv)
            · exact ⟨x,List.mem_append.2 (.inl hx),hv⟩
            · exact ⟨_,List.mem_append.2 (.inr (List.mem_singleton.2 rfl)),hv⟩
          · rintro ⟨x,hx,hv⟩
            rcases List.mem_append.1 hx with h | h
            · exact .inl ⟨x,h,hv⟩
            · rw [List.mem_singleton.1 h] at hv; exact .inr hv)
      (fun o _ => by rw [CU,if_neg (by omega)]; rfl) W ⟨by simpa using w2,fun v => by rw [w3]; simp⟩
    rw [List.take_length] at h1 h1'
    have h2' : Af (CU (C4 n) t f) (W,0) = some o := h2
    refine ⟨o, ?_,by omega,fun v => ?_⟩
    · show Ei (C4 n) t f = _
      unfold Ei
      rw [NM,v1,Option.bind_some,w1,Option.bind_some,h2']; rfl
    · rw [h1',Xv,or_assoc]
theorem kJ {t : Tr37} (hc : t.cnt ≤ 1000) (f : Int) : ∃ V,HS t f = some V ∧ V.Pairwise (· < ·) ∧ ∀ v,v ∈ V ↔ v ∈ us f t := by
  obtain ⟨U,u1,u2,u3⟩ := eY f (SizeOf.sizeOf t + 1) t (by omega) hc
  obtain ⟨S,s1,s2,s3⟩ := XX (L := U) (by omega)
  obtain ⟨R,r1,r2,r3⟩ := Qr (L := S) (by rw [s2.length_eq]; omega) s3
  refine ⟨R, ?_,r2,fun v => (r3 v).trans (s2.mem_iff.trans (u3 v))⟩
  unfold HS
  rw [NM,Qc,show Ln t f = some U from Bq (g := fun n => C4 n t f) (fun n r h => Kw n t f r h) u1,Option.bind_some,s1,Option.bind_some,r1]; rfl
theorem YZ {f v : Int} : ∀ (n : Nat) (t : Tr34),SizeOf.sizeOf t < n → Hv t = true → v ∈ FT f t → 0 ≤ v ∧ v ≤ CF f
  | 0,t,h,_,_ => absurd h (Nat.not_lt_zero _)
  | n + 1,t,h,hf,hv => by
    obtain ⟨h1,h2⟩ := (I0 t).1 hf
    rw [NJ] at hv
    rcases List.mem_append.1 hv with hh | hh
    · by_cases c : t.un.1 = 3 ∧ t.un.2.1 = f
      · rw [if_pos c] at hh
        have h3 := h1.2.2.2.1 c.1
        rw [c.2] at h3
        rw [List.mem_singleton.1 hh]; exact h3.2.2
      · rw [if_neg c] at hh; exact absurd hh (List.not_mem_nil)
    · obtain ⟨l,hl,hvl⟩ := List.mem_flatten.1 hh
      obtain ⟨x,hx,rfl⟩ := List.mem_map.1 hl
      exact YZ n x (by have := Rx hx; omega) (h2 x hx) hvl
theorem mL {f v : Int} : ∀ (n : Nat) (t : Tr37),SizeOf.sizeOf t < n → Gn t = true → v ∈ us f t → 0 ≤ v ∧ v ≤ CF f
  | 0,t,h,_,_ => absurd h (Nat.not_lt_zero _)
  | n + 1,t,h,hf,hv => by
    obtain ⟨⟨⟨h1,hz⟩,ho⟩,h2⟩ := (FJ t).1 hf
    unfold FN at h1
    rcases Xv.1 hv with hh | ⟨a,b,c⟩ | ⟨x,hx,hxv⟩
    · by_cases k : t.un.1 = 1 ∨ t.un.1 = 5
      · exact YZ (SizeOf.sizeOf t.un.2.1 + 1) t.un.2.1 (by omega) (ho k).1 hh
      · rw [hz (by omega)] at hh
        have e : FT f ZP = [] := by rw [NJ]; rfl
        rw [e] at hh
        exact absurd hh (List.not_mem_nil)
    · have := h1.2.2.2.1 a
      rw [b,c] at this
      omega
    · exact mL n x (by have := Yr hx; omega) (h2 x hx) hxv
theorem eU {f v : Int} {t : Tr27} : v ∈ us f (pm t) ↔ v ∈ FT f (mi t.un.2.1) ∨ (t.un.1 = 2 ∧ t.un.2.2.1 = f ∧ t.un.2.2.2.1 = v) ∨ ∃ x ∈ t.un.2.2.2.2,v ∈ us f (pm x) := by
  rw [Xv,Li]
  refine or_congr Iff.rfl (or_congr Iff.rfl ?_)
  constructor
  · rintro ⟨x,hx,hv⟩
    obtain ⟨y,hy,rfl⟩ := List.mem_map.1 (show x ∈ t.un.2.2.2.2.map pm from hx)
    exact ⟨y,hy,hv⟩
  · rintro ⟨x,hx,hv⟩
    exact ⟨pm x,List.mem_map.2 ⟨x,hx,rfl⟩,hv⟩
theorem mC (f v : Int) : ∀ (n : Nat) (t : Tr27),SizeOf.sizeOf t < n → t.cnt ≤ 1048576 → Gg n t f v = some (decide (v ∈ us f (pm t)))
  | 0,t,h,_ => absurd h (Nat.not_lt_zero _)
  | n + 1, t, h, hc => by
    have hl := lD t
    have hq := qD t
    show GV (Gg n) t f v = _
    unfold GV
    rw [S5,iX (by omega)]
    simp only [Option.bind_some]
    have e1 : ∃ b : Bool,(if t.un.1 = 2 then (if t.un.2.2.1 = f then (if t.un.2.2.2.1 = v then some true else some (decide (v ∈ FT f (mi t.un.2.1)))) else some (decide (v ∈ FT f (mi t.un.2.1)))) else some (decide (v ∈ FT f (mi t.un.2.1)))) = some b ∧ (b = true ↔ v ∈ FT f (mi t.un.2.1) ∨ (t.un.1 = 2 ∧ t.un.2.2.1 = f ∧ t.un.2.2.2.1 = v)) := by
      by_cases c : t.un.1 = 2 ∧ t.un.2.2.1 = f ∧ t.un.2.2.2.1 = v
      · exact ⟨true,by rw [if_pos c.1,if_pos c.2.1,if_pos c.2.2],⟨fun _ => .inr c,fun _ => rfl⟩⟩
      · refine ⟨decide (v ∈ FT f (mi t.un.2.1)), ?_,by rw [decide_eq_true_eq]; exact ⟨.inl,fun h => h.elim id fun h => absurd h c⟩⟩
        by_cases c1 : t.un.1 = 2
        · rw [if_pos c1]
          by_cases c2 : t.un.2.2.1 = f
          · rw [if_pos c2,if_neg (fun h => c ⟨c1,c2,h⟩)]
          · rw [if_neg c2]
        · rw [if_neg c1]
    obtain ⟨b,b1,b2⟩ := e1
    rw [b1,Option.bind_some]
    cases b with
    | true => rw [if_pos rfl,decide_eq_true (eU.2 (or_assoc.1 (.inl (b2.1 rfl))))]
    | false =>
      have hno : ¬ (v ∈ FT f (mi t.un.2.1) ∨ (t.un.1 = 2 ∧ t.un.2.2.1 = f ∧ t.un.2.2.2.1 = v)) := fun h => by have := b2.2 h; cases this
      rw [if_neg (by decide),Mo t.un.2.2.2.2 (by omega) (GP (Gg n) t f v) (fun x => v ∈ us f (pm x)) true (fun k hk => by
        have hm := List.getElem_mem hk
        rw [GP,if_pos (by omega),A7 (List.getElem?_eq_getElem hk),Option.bind_some,S5,W2,mC f v n _ (by have := aI hm; omega) (Nat.le_trans (cD hm) hc),Option.bind_some]
        by_cases q : v ∈ us f (pm t.un.2.2.2.2[k])
        · rw [decide_eq_true q,if_pos q]; rfl
        · rw [decide_eq_false q,if_neg q]; rfl) (by rw [GP,if_neg (by omega)])]
      by_cases q : ∃ x ∈ t.un.2.2.2.2,v ∈ us f (pm x)
      · rw [if_pos q,decide_eq_true (eU.2 (.inr (.inr q)))]; rfl
      · rw [if_neg q,decide_eq_false (fun hh => (or_assoc.2 (eU.1 hh)).elim hno q)]; rfl
theorem pJ {t : Tr27} (hc : t.cnt ≤ 1048576) (f v : Int) : UH t f v = some (decide (v ∈ us f (pm t))) := Bq (g := fun n => Gg n t f v) (fun n r h => NQ n t f v r h) (mC f v (SizeOf.sizeOf t + 1) t (by omega) hc)
def RP (f : Int) (t : Tr37) (i : Nat) : List Int := ((List.range i).map fun (j : Nat) => (j : Int)).filter fun x => decide (x ∈ us f t)
theorem ZH (f : Int) (t : Tr37) (i : Nat) : RP f t (i + 1) = RP f t i ++ if (i : Int) ∈ us f t then [(i : Int)] else [] := by
  unfold RP
  rw [List.range_succ,List.map_append,List.filter_append]
  congr 1
  show List.filter _ [(i : Int)] = _
  by_cases c : (i : Int) ∈ us f t
  · rw [if_pos c,List.filter_cons_of_pos (by simpa using c)]; rfl
  · rw [if_neg c,List.filter_cons_of_neg (by simpa using c)]; rfl
theorem Vn (f : Int) (t : Tr37) (i : Nat) : (RP f t i).length ≤ i := by
  unfold RP
  have := List.length_filter_le (fun x => decide (x ∈ us f t)) ((List.range i).map fun (j : Nat) => (j : Int))
  simpa using this
theorem V5 {t : Tr37} (hf : Gn t = true) (f : Int) {V : List Int} (h1 : V.Pairwise (· < ·)) (h2 : ∀ v,v ∈ V ↔ v ∈ us f t) : V = RP f t ((CF f).toNat + 1) := by
  have htb := IV f
  refine Vb h1 ?_ fun x => ?_
  · unfold RP
    refine List.Pairwise.filter _ ?_
    rw [List.pairwise_map]
    exact List.pairwise_lt_range.imp fun h => by omega
  · unfold RP
    rw [h2,List.mem_filter,decide_eq_true_eq]
    refine ⟨fun h => ⟨?_,h⟩,fun h => h.2⟩
    have := mL (SizeOf.sizeOf t + 1) t (by omega) hf h
    exact List.mem_map.2 ⟨x.toNat,List.mem_range.2 (by omega),by omega⟩
end Go.Proofs.YtpckgggmgijiiaaGreatDoor
