/- Tables of package level: what a row says of them, and reading them. Conditions: none. -/
import Derived.Test.YtbiekjhlijdjbaaGreatbOR
import Derived.LaidMore
import Derived.MakeChecks
import Derived.OpenShut
import Derived.ChangeKeysEq
set_option linter.unusedVariables false
set_option linter.unusedSimpArgs false
open Go Go.RowKit
namespace Go.Proofs.YtbiekjhlijdjbaaGreat
def Hd {α : Type} (P : Program) (t : TypeId) (r : Rp α) (a : α) (d : DataW Unit) : Prop :=
  ∀ (W : World) (fuel : Nat) (cs : List Value) (p : List MemPlace),DataW.trod (fun _ => ()) P W 0 (fun _ => true) false fuel t cs = some (d,p) → r.rep W any cs a
section
variable {P : Program} {t e : TypeId} {α : Type} {r : Rp α}
theorem Hd.int {k : IntKind} {n : Int} (ht : P.underlying t = some (.int k)) : Hd P t (Rp.int k) n (.lit (.int k n)) := by
  intro W fuel cs p h
  obtain ⟨m,rfl,hx,_⟩ := DataW.trod_int ht h
  simp only [Prod.mk.injEq,DataW.lit.injEq,Lit.int.injEq] at hx
  obtain ⟨⟨_,rfl⟩,_⟩ := hx
  rfl
theorem Hd.str {l : List UInt8} (ht : P.underlying t = some .string) : Hd P t Rp.str l (.lit (.string l)) := by
  intro W fuel cs p h
  obtain ⟨s,rfl,hx,_⟩ := DataW.trod_string ht h
  simp only [Prod.mk.injEq,DataW.lit.injEq,Lit.string.injEq] at hx
  obtain ⟨rfl,_⟩ := hx
  show [Value.string s] = [.string (bs s.data.toList)]
  simp [bs]
theorem QA {W : World} : ∀ {l : List α} {xs : List (List Value)},xs.length = l.length → (∀ (i : Nat) (c : List Value) (a : α),xs[i]? = some c → l[i]? = some a → r.rep W any c a) → A8 r W any xs.flatten l
  | [],[],_,_ => rfl
  | a :: l,c :: xs,hl,h => ⟨c,xs.flatten,rfl,h 0 c a rfl rfl,QA (by simpa using hl) (fun i c a h1 h2 => h (i + 1) c a h1 h2)⟩
  | [],_ :: _,hl,_ => by simp at hl
  | _ :: _,[],hl,_ => by simp at hl
theorem Tc {β : Type} (k : Nat) : ∀ (n : Nat) (cs : List β),cs.length = n * k → ((List.range n).map fun i => (cs.drop (i * k)).take k).flatten = cs
  | 0,cs,h => by have : cs = [] := List.eq_nil_of_length_eq_zero (by simpa using h); simp [this]
  | n + 1,cs,h => by
    have h2 : (cs.drop k).length = n * k := by rw [List.length_drop,h,Nat.succ_mul]; omega
    have ih := Tc k n (cs.drop k) h2
    rw [List.range_succ_eq_map,List.map_cons,List.flatten_cons,List.map_map]
    have e : ((fun i => (cs.drop (i * k)).take k) ∘ Nat.succ) = fun i => ((cs.drop k).drop (i * k)).take k := by
      funext i; simp [Function.comp,List.drop_drop,Nat.succ_mul,Nat.add_comm]
    rw [e,ih]; simp
theorem Hd.arr {n : Nat} {l : List α} {ds : List (DataW Unit)} (ht : P.underlying t = some (.array n e)) (hc : P.cellsOf t = n * P.cellsOf e) (hln : l.length = n) (hd : ds.length = n)
    (h : ∀ (i : Nat) (a : α) (d : DataW Unit),l[i]? = some a → ds[i]? = some d → Hd P e r a d) : Hd P t (Rp.arr n r) l (.agg ds) := by
  intro W fuel cs p hh
  obtain ⟨xs,m,rfl,hx,hlen,hn,hel⟩ := DataW.trod_array ht hh
  simp only [Prod.mk.injEq,DataW.agg.injEq] at hx
  refine ⟨hln, ?_⟩
  have hk := Tc (P.cellsOf e) n cs (by rw [hlen,hc])
  rw [← hk]
  refine QA (by simp [hln]) fun i c a h1 h2 => ?_
  have hi : i < n := by obtain ⟨q,_⟩ := List.getElem?_eq_some_iff.1 h2; omega
  have h1' : (cs.drop (i * P.cellsOf e)).take (P.cellsOf e) = c := by
    simpa [List.getElem?_map,List.getElem?_range hi] using h1
  subst h1'
  have hxi : i < xs.length := by omega
  have h3 := hel i hi
  rw [zb hxi] at h3
  refine h i a (xs[i]).1 h2 (by rw [hx.1,List.getElem?_map,zb hxi]; rfl) W m _ (xs[i]).2 h3
theorem Hd.ints {n : Nat} {k : IntKind} {l : List Int} (ht : P.underlying t = some (.array n e)) (he : P.underlying e = some (.int k)) (hc : P.cellsOf t = n * P.cellsOf e) (hln : l.length = n) : Hd P t (Rp.arr n (Rp.int k)) l (.agg (l.map fun x => .lit (.int k x))) :=
  Hd.arr ht hc hln (by simp [hln]) fun i a d h1 h2 => by
    rw [List.getElem?_map,h1] at h2
    obtain rfl := Option.some.inj h2
    exact Hd.int he
end
structure Ar (P : Program) (t n e : Nat) (sz : Nat) : Prop where
  desc : P.underlying t = some (.array n e)
  size : (P.info? e).map (·.size) = some sz
theorem Ar.sizeOf {P : Program} {t n e sz : Nat} (E : Ar P t n e sz) (w : World) : (Go.sizeOf e).run P w = .ok sz w := by
  have h := E.size
  cases hi : P.info? e with
  | none => rw [hi] at h; simp at h
  | some i => rw [hi] at h; simp at h; simp [Go.sizeOf,typeInfo,hi,h]
section
variable {P : Program} {α : Type} {r : Rp α} {l : List α} {v : Value} {x : α} {i : Int} {t e : Nat} {n : Nat} {ds : List Deferred} {F : List (Nat × Value)} {a : Act} {B : Bs} {M : Bi} {Z : List It} {dst : Option Tmp} {ty : TypeId} {pos : String} {aft : Array Edge} {g : Option (Nat × Bool)}
theorem Ul {t m e sz : Nat} {zs cs : List Value} {parts : List (Nat × Operand)} {vp : List (Nat × Value)} {v : Value} (E : Ar P t m e sz) (hz : ∃ z,(P.info? t).bind (·.zero) = some z ∧ z.cells = zs.toArray) (hF : Fr n ds F a) (hx : U6 F parts = some vp) (hf : Gn (fun i => some (i * sz,sz)) zs vp = some cs) (hv : Value.agg cs.toArray = v) :
    Yx P B M Z a ⟨dst,.build t parts.toArray,ty,pos,aft,g⟩ v :=
  AZ fun w hw => by
    subst hv
    obtain ⟨z,hz,hzc⟩ := hz
    have hfill := FB hf
    have hsz := E.sizeOf (P := P) w
    have he : (parts.toArray.map fun (i,x) => (i,a.eval x)) = vp.toArray := by rw [← hF.evalp hx]; simp
    simp only [execOp,Instr.build,he,Sem.run_bind,HA hz,Result.andThen_ok,hzc,Go.underlying,run_program,E.desc,Sem.run_pure,hsz]
    simp only [hfill,Sem.run_pure,Result.andThen_ok]
end
end Go.Proofs.YtbiekjhlijdjbaaGreat
