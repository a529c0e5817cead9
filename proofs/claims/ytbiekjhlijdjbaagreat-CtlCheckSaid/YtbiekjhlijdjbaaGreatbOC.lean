/- Rows: elements put over others (append in place, clear, copy), slices with a capacity. Conditions: none. -/
import Derived.Test.YtbiekjhlijdjbaaGreatbOE
set_option linter.unusedVariables false
set_option linter.unusedSimpArgs false
open Go Go.RowKit
namespace Go.Proofs.YtbiekjhlijdjbaaGreat
section
variable {P : Program} {B : Bs} {M M' : Bi} {Z Z' Z1 : List It} {n : Nat} {ds : List Deferred} {F F' : List (Nat × Value)} {a : Act} {w w' : World}
variable {ops : Array Oper} {Q : Exit → Act → World → Prop} {rest : List Oper} {o : Oper}
variable {dst : Option Tmp} {ty : TypeId} {pos : String} {aft : Array Edge} {g : Option (Nat × Bool)}
variable {α : Type} {r : Rp α} {l l1 l2 l3 : List α} {v u : Value} {x : α} {i : Int} {t e by_ : Nat}
theorem A8.splice {A : Nat → Prop} {xs ys : List Value} {p : Nat} (h : A8 r w A xs l) (h2 : A8 r w A ys l2) (hp : p + l2.length ≤ l.length) : A8 r w A (xs.take (p * r.sz) ++ ys ++ xs.drop (p * r.sz + ys.length)) (l.take p ++ l2 ++ l.drop (p + l2.length)) := by
  have e : p * r.sz + ys.length = (p + l2.length) * r.sz := by rw [h2.len,Nat.add_mul]
  rw [e]
  exact ((h.take p).append h2).append (h.drop (p + l2.length))
theorem DZ.storeR {A : Nat → Prop} {p : Nat} {ys : List Value} (h : DZ w A e r v l) (hp : p + l2.length ≤ l.length) (h0 : 0 < l2.length) (hys : A8 r w A ys l2) (hA : ∀ b,A b → ES v ≠ some b) :
    ∃ w',(storeCells ⟨GR v,Dt v + p * r.sz,none⟩ ys).run P w = .ok () w' ∧ w.grownBy w' (ES v) ∧ ∀ A',E5 w w' A A' → DZ w' A' e r v (l.take p ++ l2 ++ l.drop (p + l2.length)) := by
  rcases h with ⟨ad,rfl,rfl⟩ | ⟨b,off,cap,cur,xs,rfl,hcp,hb,hc,hcm,hcs,ht,hr⟩
  · simp only [List.length_nil] at hp; omega
  · have hyl := hys.len
    have hxl := hr.len
    have hcap : l.length * r.sz ≤ cap * r.sz := Nat.mul_le_mul_right _ hc
    have hin : p * r.sz + ys.length ≤ l.length * r.sz := by rw [hyl, ← Nat.add_mul]; exact Nat.mul_le_mul_right _ hp
    have hst := run_storeCells_at P b (off + p * r.sz) e ys 0 cur w hb (by omega) (fun v hv => List.all_eq_true.1 hys.one v hv)
    simp only [Nat.add_zero] at hst
    refine ⟨_,hst,⟨rfl,rfl,rfl,by simp [World.setRow],fun k _ hk => setRow_other w b k _ (fun e => hk (by rw [CL hcp,e]))⟩,fun A' hkp => ?_⟩
    have hset := (hr.stab hkp).splice (hys.stab hkp) hp
    have e1 : (l.take p ++ l2 ++ l.drop (p + l2.length)).length = l.length := by simp; omega
    refine .inr ⟨b,off,cap,_,_,by rw [e1],hcp,setRow_heap w b cur _ e _ hb,by rw [e1]; exact hc,hcm, ?_,rfl, ?_⟩
    · simp only [List.size_toArray,List.length_append,List.length_take,List.length_drop,Array.length_toList]
      omega
    · have hcur : cur.toList = cur.toList.take off ++ (xs ++ (cur.toList.drop off).drop (l.length * r.sz)) := by
        rw [← ht,List.take_append_drop,List.take_append_drop]
      have hol : (cur.toList.take off).length = off := by rw [List.length_take,Array.length_toList]; omega
      have f1 : (cur.toList.take (off + p * r.sz)) = cur.toList.take off ++ xs.take (p * r.sz) := by
        conv => lhs; rw [hcur]
        rw [List.take_append,hol,List.take_of_length_le (by omega),List.take_append_of_le_length (by omega)]
        congr 2; omega
      have f2 : (cur.toList.drop (off + p * r.sz + ys.length)) = xs.drop (p * r.sz + ys.length) ++ (cur.toList.drop off).drop (l.length * r.sz) := by
        conv => lhs; rw [hcur]
        rw [List.drop_append,hol,List.drop_eq_nil_of_le (by omega),List.nil_append,List.drop_append_of_le_length (by omega)]
        congr 2; omega
      have key : ((cur.toList.take (off + p * r.sz) ++ ys ++ cur.toList.drop (off + p * r.sz + ys.length)).drop off).take (l.length * r.sz) = xs.take (p * r.sz) ++ ys ++ xs.drop (p * r.sz + ys.length) := by
        rw [f1,f2,List.append_assoc,List.append_assoc,List.drop_left' hol]
        have hlen : (xs.take (p * r.sz) ++ (ys ++ xs.drop (p * r.sz + ys.length))).length = l.length * r.sz := by
          simp only [List.length_append,List.length_take,List.length_drop]
          omega
        have h9 := List.take_left (l₁ := xs.take (p * r.sz) ++ (ys ++ xs.drop (p * r.sz + ys.length))) (l₂ := (cur.toList.drop off).drop (l.length * r.sz))
        rw [hlen] at h9
        simp only [List.append_assoc] at h9 ⊢
        exact h9
      rw [e1]
      show A8 r _ A' (((cur.toList.take (off + p * r.sz) ++ ys ++ cur.toList.drop (off + p * r.sz + ys.length)).drop off).take (l.length * r.sz)) _
      rw [key]; exact hset
theorem SI {b off cap m : Nat} (lo hi : Int) (sz : Nat) : Ct (.slice (some ⟨b,off,none⟩) m cap) lo hi sz = .slice (some ⟨b,if cap = lo.toNat then off else off + lo.toNat * sz,none⟩) (hi.toNat - lo.toNat) (cap - lo.toNat) := by
  simp only [Ct,Option.map_some]
  split
  · rfl
  · rw [Bg]
def Ts (v : Value) : Bool := match v with | .slice a _ _ => a.isNone | _ => false
theorem UN {T : TypeId} (hT : P.underlying T = some (.slice e)) (ad : Option Addr) (m c d : Nat) (w : World) : (Op.equalIn (d + 1) T (.slice ad m c) (.slice none 0 0)).run P w = .ok ad.isNone w := by
  cases ad <;> simp [Op.equalIn,Go.underlying,hT]
theorem cP {T : TypeId} (hT : P.underlying T = some (.slice e)) (ad : Option Addr) (m c : Nat) (w : World) : (Op.equal T (.slice ad m c) (.slice none 0 0)).run P w = .ok ad.isNone w := UN hT ad m c 9999 w
theorem Tv {x : Operand} {T T' : TypeId} (hT : P.underlying T = some (.slice e)) (hF : Fr n ds F a) (hx : Bo F x = some v) (hR : Mo B M Z r v l) : Yx P B M Z a ⟨dst,.binOp .eql T x (.const (.slice none 0 0)) T',ty,pos,aft,g⟩ (.bool (Ts v)) :=
  AZ fun w hw => by
    obtain ⟨ad,m,cap,rfl⟩ : ∃ ad m cap,v = .slice ad m cap := by
      rcases hR w hw with ⟨ad,cap,rfl,rfl⟩ | ⟨b,off,cap,xs,rfl,hc,_⟩
      · exact ⟨_,_,_,rfl⟩
      · exact ⟨_,_,_,rfl⟩
    have h2 : a.eval (.const (.slice none 0 0)) = .slice none 0 0 := rfl
    simp [execOp,hF.eval hx,h2,eqGuard,binOp,cP hT,Ts]
abbrev NN {α : Type} (v : Value) (l : List α) : Prop := Ts v = false → l ≠ []
def aP {α : Type} (l : List α) : Option Unit := match l with | [] => none | _ :: _ => some ()
theorem WC {α : Type} {l : List α} {u : Unit} (h : aP l = some u) : l ≠ [] := by
  intro e; subst e; cases h
theorem Sf (hR : Mo B M Z r v l) (hW : Stw B M Z w) : (Ts v = true ∧ l = []) ∨ Ts v = false := by
  rcases hR w hW with ⟨ad,cap,rfl,rfl⟩ | ⟨b,off,cap,xs,rfl,hc,_⟩
  · cases ad with
    | none => exact .inl ⟨rfl,rfl⟩
    | some ad => exact .inr rfl
  · exact .inr rfl
theorem YU {Y : Nat → Prop} {Ml : Bi} {Zl : List It} {b : Nat} {cs : List Value} (h : Stw B (Ml ++ M) (Zl ++ Z) w) (i : Nat) (hM : M[i]? = some (b,cs)) : At ⟨Y,AA Ml Zl,w⟩ b 0 cs := by
  have hM2 : (Ml ++ M)[Ml.length + i]? = some (b,cs) := by rw [List.getElem?_append_right (by omega),Nat.add_sub_cancel_left]; exact hM
  have hp : (AA (Ml ++ M) (Zl ++ Z)).Perm (AA Ml Zl ++ AA M Z) := by
    unfold AA
    rw [List.map_append,List.flatMap_append]
    simp only [List.append_assoc]
    refine List.Perm.append_left _ ?_
    rw [← List.append_assoc, ← List.append_assoc]
    exact List.Perm.append_right _ List.perm_append_comm
  have hnd := List.nodup_append.1 (hp.nodup_iff.1 h.nodup)
  exact ⟨fun hm => hnd.2.2 b hm b (Du (BZ hM)) rfl,h.lt_all (Du (BZ hM2)),fun j u hu => by rw [h.cell hM2,Nat.zero_add]; exact hu⟩
theorem QZ {Ml M : Bi} {Zl Z : List It} {g : Nat} (h : g ∈ AA Ml Zl) : g ∈ AA (Ml ++ M) (Zl ++ Z) :=
  (List.Sublist.append ((List.sublist_append_left _ _).map _) (Es (List.sublist_append_left _ _))).subset h
theorem Stw.roX {X' : List Nat} (h : Stw B M Z w) (hs : Sl B.w0 (NX B.X) r v l) (hsub : ∀ g ∈ X',g ∈ AA M Z) : Sl w (NX X') r v l :=
  hs.stab fun b hb hlt => ⟨fun hm => by
    rcases h.own b (hsub b hm) with h1 | h1
    · exact hb h1
    · omega,h.frm.block b hlt hb⟩
theorem cT {Ml : Bi} {Zl : List It} {e : TypeId} (h : Stw B (Ml ++ M) (Zl ++ Z) w) (i : Nat) (hZ : Z[i]? = some (row v e r l)) : Sl w (NX (AA Ml Zl)) r v l := by
  have hZ2 : (Zl ++ Z)[Zl.length + i]? = some (row v e r l) := by rw [List.getElem?_append_right (by omega),Nat.add_sub_cancel_left]; exact hZ
  have hp : (AA (Ml ++ M) (Zl ++ Z)).Perm (AA Ml Zl ++ AA M Z) := by
    unfold AA
    rw [List.map_append,List.flatMap_append]
    simp only [List.append_assoc]
    refine List.Perm.append_left _ ?_
    rw [← List.append_assoc, ← List.append_assoc]
    exact List.Perm.append_right _ List.perm_append_comm
  have hnd := List.nodup_append.1 (hp.nodup_iff.1 h.nodup)
  refine DZ.sl (A := Fz B (AA (Ml ++ M) (Zl ++ Z))) (e := e) (h.item hZ2) (fun b hb hm => hb.2 (hp.mem_iff.2 (List.mem_append_left _ hm))) fun g hg hm => ?_
  exact hnd.2.2 g hm g (BT (BZ hZ) (show g ∈ (row v e r l).bl from Dx.2 hg)) rfl
theorem At.reX {Y : Nat → Prop} {Ml : Bi} {Zl : List It} {b off : Nat} {cs : List Value} (ha : At B b off cs) (h : Stw B (Ml ++ M) (Zl ++ Z) w) : At ⟨Y,AA Ml Zl,w⟩ b off cs := by
  refine ⟨fun hm => ?_,Nat.lt_of_lt_of_le ha.lt h.frm.size,fun j u hu => ha.now h hu⟩
  have hs : b ∈ AA (Ml ++ M) (Zl ++ Z) := (List.Sublist.append ((List.sublist_append_left _ _).map _) (Es (List.sublist_append_left _ _))).subset hm
  rcases h.own b hs with h1 | h1
  · exact ha.nx h1
  · have := ha.lt; omega
theorem gG {d i gd : Nat} {u u' : Bool} {l : List Oper} {o : Oper} (hF : Fr n ds F a) (hl : ops = l.toArray) (hg : o.guard = some (i,u)) (hgd : (l[i]?).bind (·.dst) = some gd) (hk : lk F gd = some (.bool u')) (hne : (u' == u) = false) (hd : o.dst = some d) (hn : Nat.blt d n = true)
    (k : ∀ a',Fr n ds ((d,undef) :: F) a' → wpList P ops Q rest a' w) : wpList P ops Q (o :: rest) a w := Q7 hF (B4 hF hl hg hgd hk hne) hd hn k
end
theorem Di {a b : Bool} (h : a = b) : some (Value.bool a) = some (Value.bool b) := by rw [h]
theorem Dl : (!true) = false ∧ (!false) = true ∧ (∀ b,(true && b) = b) ∧ (∀ b,(false && b) = false) ∧ (∀ b,(true || b) = true) ∧ (∀ b,(false || b) = b) ∧ (∀ b,(b && true) = b) ∧ (∀ b,(b || false) = b) ∧ (∀ x y : Bool,(bif true then x else y) = x) ∧ (∀ x y : Bool,(bif false then x else y) = y) := by simp
end Go.Proofs.YtbiekjhlijdjbaaGreat
