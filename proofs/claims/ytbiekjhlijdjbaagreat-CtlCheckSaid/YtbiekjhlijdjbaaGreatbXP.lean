/- A run that is computed: loops over maps, where the order doesn't matter. Conditions: none. -/
import Derived.Test.YtbiekjhlijdjbaaGreatbXI
import Derived.Test.YtbiekjhlijdjbaaGreatbMS
set_option linter.unusedVariables false
set_option linter.unusedSimpArgs false
open Go Go.RowKit
namespace Go.Proofs.YtbiekjhlijdjbaaGreat
noncomputable section
def Yu (tb : TB) (F : FW) (S : SW) (t : Nat) (x : Operand) : Option IG := match D9 F x,ti tb t with
  | some (.one (.map n)),some ⟨_,_,_,.map _ _⟩ => match Kh S.Z n,X3 S.nx S.us with
    | some (_,c,l),true => some (some (.one (.ptr S.nx 0)),⟨S.M,T8 (S.nx,.it n c []) S.Z,Mm S.nx S.us,S.nx + 1⟩)
    | _,_ => none
  | _,_ => none
def Ya (F : FW) (S : SW) (x : Operand) : Option IG := match D9 F x with
  | some (.one (.ptr n 0)) => match getK S.Z n with
    | some (_,.it m c seen) => match Kh S.Z m with
      | some (_,c',l) => match Nat.beq c c' && l.all (fun p => Nat.blt p.2.2 c),l.filter (fun p => !seen.contains p.2.2) with
        | true,[] => some (some (.tup [(false,[.bool false])]),S)
        | true,[p] => match (V9 p.1).bind AW.cp,p.2.1.cp with
          | some k,some v => some (some (.tup [(false,[.bool true]),k,v]),⟨S.M,setK n (.it m c (seen ++ [p.2.2])) S.Z,S.us,S.nx⟩)
          | _,_ => none
        | _,_ => none
      | none => none
    | _ => none
  | _ => none
def YY (F : FW) (S : SW) (x : Operand) : Option IG := match D9 F x with
  | some (.one (.ptr n 0)) => match getK S.Z n with
    | some (_,.it m c seen) => match Kh S.Z m,seen.getLast? with
      | some (_,c',l),some t => match Nat.beq c c',l.find? (fun p => Nat.beq p.2.2 t) with
        | true,some p => match (V9 p.1).bind AW.cp,p.2.1.cp with
          | some k,some v => some (some (.tup [k,v]),S)
          | _,_ => none
        | _,_ => none
      | _,_ => none
    | _ => none
  | _ => none
def Xa (P : Program) (tb : TB) (F : FW) (S : SW) : Op → Option IG
  | .range t x => Yu tb F S t x
  | .next x false => Ya F S x
  | .entry x => YY F S x
  | _ => none
section
variable {P : Program} {tb : TB} {B : Bs} {e : En} {n : Nat} {ds : List Deferred} {F : FW} {S : SW} {a : Act} {w : World} {op : Op} {x : IG}
theorem ER.mem : ∀ {l : List (Value × AW × Nat)} {es : List MapEntry},ER e l es → ∀ y ∈ es, ∃ p ∈ l,y.key = p.1 ∧ p.2.1.dn e = some y.val ∧ y.born = p.2.2
  | [],[],_,y,hy => nomatch hy
  | [],_ :: _,h,_,_ => h.elim
  | _ :: _,[],h,_,_ => h.elim
  | (k,v,t) :: r,z :: r',⟨⟨h1,h2,h3⟩,h⟩,y,hy => by
    rcases List.mem_cons.1 hy with rfl | hy
    · exact ⟨_,List.mem_cons_self ..,h1,h2,h3⟩
    · obtain ⟨p,g1,g2⟩ := ER.mem h y hy
      exact ⟨p,zc _ g1,g2⟩
theorem ER.mem' : ∀ {l : List (Value × AW × Nat)} {es : List MapEntry},ER e l es → ∀ p ∈ l, ∃ y ∈ es,y.born = p.2.2
  | [],[],_,p,hp => nomatch hp
  | [],_ :: _,h,_,_ => h.elim
  | _ :: _,[],h,_,_ => h.elim
  | (k,v,t) :: r,z :: r',⟨⟨h1,h2,h3⟩,h⟩,p,hp => by
    rcases List.mem_cons.1 hp with rfl | hp
    · exact ⟨_,List.mem_cons_self ..,h3⟩
    · obtain ⟨y,g1,g2⟩ := ER.mem' h p hp
      exact ⟨y,zc _ g1,g2⟩
theorem ER.find {t : Nat} : ∀ {l : List (Value × AW × Nat)} {es : List MapEntry} {p : Value × AW × Nat},ER e l es → l.find? (fun p => Nat.beq p.2.2 t) = some p → ∃ y,es.find? (fun y => y.born == t) = some y ∧ y.key = p.1 ∧ p.2.1.dn e = some y.val
  | [],_,p,_,h => by cases h
  | _ :: _,[],p,h,_ => h.elim
  | (k,v,s) :: r,z :: r',p,⟨⟨h1,h2,h3⟩,h⟩,hf => by
    rw [List.find?_cons] at hf ⊢
    have hq : (z.born == t) = Nat.beq s t := by
      rw [h3]
      cases hh : Nat.beq s t with
      | true => rw [zd hh]; simp
      | false => exact Bool.eq_false_iff.2 fun he => by rw [eq_of_beq he,Nat.beq_refl] at hh; cases hh
    rw [hq]
    split at hf
    · rename_i hb
      rw [show Nat.beq s t = true from hb]
      cases hf
      exact ⟨z,rfl,h1,h2⟩
    · rename_i hb
      rw [show Nat.beq s t = false from hb]
      exact ER.find h hf
theorem Bx.iter (hS : Bx B e S w) {k i m c : Nat} {seen : List Nat} (hg : getK S.Z k = some (i,.it m c seen)) : ∃ ib b,(e.b k = some ib ∧ e.β k = 0) ∧ e.b m = some b ∧ w.heap[ib]? = some (.mapIter (some b) c seen.toArray c) ∧
    ∀ seen' w1,(w1 = w ∨ w1 = { w with drawn := w.drawn + 1 }) → Bx B e ⟨S.M,setK k (.it m c seen') S.Z,S.us,S.nx⟩ { w1 with heap := w.heap.setIfInBounds ib (.mapIter (some b) c seen'.toArray c) } := by
  obtain ⟨M,Z,h1,h2,h3,h4⟩ := hS
  obtain ⟨z,g1,ib,b,g2,g3,rfl,g0⟩ := h3.getK hg
  have hit : w.heap[ib]? = some (.mapIter (some b) c seen.toArray c) := h1.item g1
  have hlt := (Array.getElem?_eq_some_iff.1 hit).1
  refine ⟨ib,b,⟨g2,g0⟩,g3,hit,fun seen' w1 hw1 => ⟨M,Z.set i (XZ ib b c seen'.toArray), ?_,h2,ZR.setK (x' := .it m c seen') (show XX e k (.it m c seen') _ from ⟨ib,b,g2,g3,rfl,g0⟩) h3 hg,h4⟩⟩
  have hp : w1.os = w.os ∧ w1.tape = w.tape ∧ w1.output = w.output := by rcases hw1 with h | h <;> rw [h] <;> exact ⟨rfl,rfl,rfl⟩
  have hW1 := h1.frontZ g1 rfl
  have hi := (List.getElem?_eq_some_iff.1 g1).1
  refine (hW1.itemTurn (z' := XZ ib b c seen'.toArray) (w' := { w1 with heap := w.heap.setIfInBounds ib (.mapIter (some b) c seen'.toArray c) }) ⟨hp.1,hp.2.1,hp.2.2,by simp,fun j hj hne => ?_⟩ (fun A _ _ => ?_) (fun g hg => .inl hg)).permZ (CH (i := i) (r := XZ ib b c seen'.toArray) (by rw [List.getElem?_set_self hi]) (by rw [List.eraseIdx_set_eq])).symm
  · have : ib ≠ j := fun h => hne (by show j ∈ [ib]; simp [h])
    simp [Array.getElem?_setIfInBounds,this]
  · show (w.heap.setIfInBounds ib _)[ib]? = _
    simp [hlt]
theorem VK {k : Value} {v : AW} {u : Value} {p q : Bool × List CW} (hk : (V9 k).bind AW.cp = some p) (hv : v.cp = some q) (hu : v.dn e = some u) : P2 e p = some k ∧ P2 e q = some u := by
  obtain ⟨ka,h1,h2⟩ := bind_some' hk
  exact ⟨by rw [OJ h2]; exact Nr h1 e,by rw [OJ hv]; exact hu⟩
theorem XP (hb : TbO P tb) (hF : FG e n ds F a) (hS : Bx B e S w) (h : Xa P tb F S op = some x) : XS P B op a e w x := by
  cases op with
  | range t y =>
    simp only [Xa,Yu,Ya,YY] at h
    split at h
    · rename_i m _ _ _ kt el hx ht
      obtain ⟨_,dx,_,ax⟩ := hF.op hx
      obtain ⟨bb,hbb,rfl⟩ := map_some dx
      have hT := (A3 hb ht).map rfl
      split at h
      · rename_i i c l hg hf
        cases h
        obtain ⟨b,es,g1,g2,g3,g4⟩ := hS.map hg
        rw [hbb] at g1; cases g1
        obtain ⟨M,Z,h1,h2,h3,h4⟩ := hS
        have hx' := En.new_xt (o := 0) (k := 0) (b := w.heap.size) h4 hf
        obtain ⟨Z',q1,q2⟩ := ZR.ins (e := e.new S.nx w.heap.size 0) (y := (S.nx,.it m c [])) (z := XZ w.heap.size bb c #[]) ⟨w.heap.size,bb,En.new_b,(hx'.1 _ _ hbb).1,rfl,En.new_o⟩ (h3.mono hx')
        have hW := h1.newIt (.mapIter (some bb) c #[] c) (XZ w.heap.size bb c #[]) rfl (fun A => by show (w.heap.push _)[w.heap.size]? = _; simp)
        refine ⟨_,w.alloc (.mapIter (some bb) c #[] c),hx',⟨M,Z',hW.permZ q2,h2.mono hx',q1,En.new_us h4⟩,.pointer (some ⟨w.heap.size,0,none⟩),by show ((e.new S.nx w.heap.size 0).b S.nx).map _ = _; rw [En.new_b,En.new_o]; rfl,fun _ _ _ _ _ => ?_⟩
        simp [execOp,Instr.range,Go.underlying,hT,ax,BG g3,newObj]
        rfl
      · cases h
    · cases h
  | next y s =>
    cases s with
    | true => cases h
    | false =>
      simp only [Xa,Yu,Ya,YY] at h
      split at h
      · rename_i k hx
        obtain ⟨_,dx,_,ax⟩ := hF.op hx
        obtain ⟨ib0,hib,rfl⟩ := map_some dx
        split at h
        · rename_i i m c seen hk
          obtain ⟨ib,b,⟨g1,g0⟩,g2,g3,g4⟩ := hS.iter hk
          rw [hib] at g1; cases g1
          rw [g0] at ax
          split at h
          · rename_i j c' l hg
            obtain ⟨b',es,q1,q2,q3,_⟩ := hS.map hg
            rw [g2] at q1; cases q1
            split at h
            · rename_i hchk hfil
              cases h
              simp only [zf,List.all_eq_true] at hchk
              obtain ⟨hc,hold⟩ := hchk
              obtain rfl := zd hc
              have ho : ∀ y ∈ es.toArray.toList,y.born < c := fun y hy => by
                obtain ⟨p,p1,_,_,p2⟩ := q2.mem y (by simpa using hy)
                rw [p2]; exact ze (hold p p1)
              have hnone : ∀ y ∈ es.toArray.toList,seen.toArray.contains y.born = true := fun y hy => by
                obtain ⟨p,p1,_,_,p2⟩ := q2.mem y (by simpa using hy)
                have := List.filter_eq_nil_iff.1 hfil p p1
                rw [p2]; simpa using this
              refine ⟨e,w,Xt.rfl',hS,_,rfl,fun dst ty pos aft g => ?_⟩
              rcases IP (P := P) g3 q3 ho ty with ⟨_,r2⟩ | ⟨y,y1,y2,_⟩
              · simp [execOp,ax,r2]
              · rw [hnone y y1] at y2; cases y2
            · rename_i p hchk hfil
              split at h
              · rename_i kp vp hkp hvp
                cases h
                simp only [zf,List.all_eq_true] at hchk
                obtain ⟨hc,hold⟩ := hchk
                obtain rfl := zd hc
                have ho : ∀ y ∈ es.toArray.toList,y.born < c := fun y hy => by
                  obtain ⟨p,p1,_,_,p2⟩ := q2.mem y (by simpa using hy)
                  rw [p2]; exact ze (hold p p1)
                have hpm : p ∈ l ∧ (!seen.contains p.2.2) = true := List.mem_filter.1 (by rw [hfil]; exact List.mem_singleton_self p)
                have huniq : ∀ y ∈ es.toArray.toList,seen.toArray.contains y.born = false → y.key = p.1 ∧ p.2.1.dn e = some y.val ∧ y.born = p.2.2 := fun y hy hn => by
                  obtain ⟨p',p1,p2,p3,p4⟩ := q2.mem y (by simpa using hy)
                  have : p' ∈ l.filter (fun p => !seen.contains p.2.2) := List.mem_filter.2 ⟨p1,by rw [← p4]; simpa using hn⟩
                  rw [hfil,List.mem_singleton] at this
                  subst this
                  exact ⟨p2,p3,p4⟩
                rcases IP (P := P) g3 q3 ho 0 with ⟨r1,_⟩ | ⟨y,y1,y2,w1,hw1,r0⟩
                · exfalso
                  obtain ⟨y,y1,y2⟩ := q2.mem' p hpm.1
                  have := r1 y (by simpa using y1)
                  rw [y2] at this
                  have h2 := hpm.2
                  simp at this h2
                  exact h2 this
                · obtain ⟨k1,k2,k3⟩ := huniq y y1 y2
                  obtain ⟨z1,z2⟩ := VK (e := e) hkp hvp k2
                  have hrel := g4 (seen ++ [p.2.2]) w1 hw1
                  have hpush : (seen ++ [p.2.2]).toArray = seen.toArray.push y.born := by rw [k3]; simp
                  rw [hpush] at hrel
                  refine ⟨e,_,Xt.rfl',hrel,.tuple #[.bool true,y.key,y.val], ?_,fun dst ty pos aft g => ?_⟩
                  · show (Fa e [(false,[.bool true]),kp,vp]).map _ = _
                    rw [EN (show P2 e (false,[.bool true]) = some (.bool true) from rfl) (EN z1 (EN z2 rfl)),k1]
                    rfl
                  · have r0' : (Instr.next (.pointer (some ⟨ib0,0,none⟩)) false ty).run P w = _ := r0
                    simp only [execOp,ax,Sem.run_bind,r0',Result.andThen_ok,Sem.run_pure]
              · cases h
            · cases h
          · cases h
        · cases h
      · cases h
  | entry y =>
    simp only [Xa,Yu,Ya,YY] at h
    split at h
    · rename_i k hx
      obtain ⟨_,dx,_,ax⟩ := hF.op hx
      obtain ⟨ib0,hib,rfl⟩ := map_some dx
      split at h
      · rename_i i m c seen hk
        obtain ⟨ib,b,⟨g1,g0⟩,g2,g3,g4⟩ := hS.iter hk
        rw [hib] at g1; cases g1
        rw [g0] at ax
        split at h
        · rename_i j c' l t hg hlast
          obtain ⟨b',es,q1,q2,q3,_⟩ := hS.map hg
          rw [g2] at q1; cases q1
          split at h
          · rename_i p hc hfind
            split at h
            · rename_i kp vp hkp hvp
              cases h
              obtain rfl := zd hc
              obtain ⟨y,y1,y2,y3⟩ := q2.find hfind
              obtain ⟨z1,z2⟩ := VK (e := e) hkp hvp y3
              refine ⟨e,w,Xt.rfl',hS,.tuple #[y.key,y.val], ?_,fun dst ty pos aft g => ?_⟩
              · show (Fa e [kp,vp]).map _ = _
                rw [EN z1 (EN z2 rfl),y2]
                rfl
              · have hback : seen.toArray.back? = some t := by simpa using hlast
                have hfs : es.toArray.find? (fun y => y.born == t) = some y := by simpa using y1
                simp only [execOp,ax,Instr.entry,getObj,Sem.run_bind,Sem.run,g3,q3,Result.andThen,hback,bne_self_eq_false,Bool.false_eq_true,if_false,hfs]
                rfl
            · cases h
          · cases h
        · cases h
      · cases h
    · cases h
  | _ => cases h
def Ui : Op → Op
  | .insert t m k x => .mapUpdate t m k x
  | op => op
theorem UX {ρ : Operand → Value} {op : Op} {dst : Option Tmp} {ty : TypeId} {pos : String} {aft : Array Edge} {g : Option (Nat × Bool)} : execOp ρ ⟨dst,Ui op,ty,pos,aft,g⟩ = execOp ρ ⟨dst,op,ty,pos,aft,g⟩ := by
  cases op <;> rfl
def R9 (P : Program) (tb : TB) (F : FW) (S : SW) (op : Op) : Option IG := match VH P tb F S (Ui op) with
  | some x => some x
  | none => Xa P tb F S op
theorem Vh (hb : TbO P tb) (hF : FG e n ds F a) (hS : Bx B e S w) (h : R9 P tb F S op = some x) : XS P B op a e w x := by
  unfold R9 at h
  split at h
  · rename_i y hy
    cases h
    have := XJ hb hF hS hy
    unfold XS at this ⊢
    simp only [UX] at this
    exact this
  · exact XP hb hF hS h
end
end
end Go.Proofs.YtbiekjhlijdjbaaGreat
