/- Types as codes, what is Mj of values and memory as data. Conditions: none. -/
import Derived.Test.YtkhiflmalgkjiaaGreatfVC
import Derived.Test.YtkhiflmalgkjiaaGreatfTR
import Derived.Test.YtkhiflmalgkjiaaGreatfOD
import Derived.Test.YtkhiflmalgkjiaaGreatfOT
set_option linter.unusedVariables false
set_option linter.unusedSimpArgs false
open Go Go.RowKit
namespace Go.Proofs.YtkhiflmalgkjiaaGreat
inductive U where
  | int (k : IntKind) | bool | str | flt (k : FloatKind) | unit | pr (a b : U) | sl (a : U) | tr (i : Nat) | fn (f : Nat)
def Rp.fnc (f : Nat) : Rp Unit := ⟨1,fun _ _ cs _ => cs = [.func (.func f) #[] #[]],fun h => by subst h; rfl,fun h => by subst h; rfl,fun h _ => h⟩
def fk : FloatKind → Nat | .f32 => 0 | .f64 => 1
theorem nB {k j : FloatKind} (h : Nat.beq (fk k) (fk j) = true) : k = j := by
  have := ze h
  cases k <;> cases j <;> first | rfl | (exact absurd this (by decide))
def U.same : U → U → Bool
  | .int k,.int j => Nat.beq (ki k) (ki j)
  | .bool,.bool => true
  | .str,.str => true
  | .flt k,.flt j => Nat.beq (fk k) (fk j)
  | .unit,.unit => true
  | .fn f,.fn g => Nat.beq f g
  | .pr a b,.pr c d => match a.same c with | true => b.same d | false => false
  | .sl a,.sl b => a.same b
  | .tr i,.tr j => Nat.beq i j
  | _,_ => false
theorem U.same_eq : ∀ {a b : U},a.same b = true → a = b := by
  intro a
  induction a with
  | int k => intro b h; cases b <;> first | (rw [Me h]; done) | (cases h)
  | bool => intro b h; cases b <;> first | rfl | cases h
  | str => intro b h; cases b <;> first | rfl | cases h
  | flt k => intro b h; cases b <;> first | (rw [nB h]; done) | (cases h)
  | unit => intro b h; cases b <;> first | rfl | cases h
  | fn f => intro b h; cases b with | fn g => rw [ze h] | _ => cases h
  | pr a b iha ihb =>
    intro c h
    cases c with
    | pr c d =>
      unfold U.same at h
      split at h
      · rename_i h1; rw [iha h1,ihb h]
      · cases h
    | _ => cases h
  | sl a ih => intro b h; cases b with | sl b => rw [ih h] | _ => cases h
  | tr i => intro b h; cases b with | tr j => rw [ze h] | _ => cases h
def U.T (c : Nat → Type) : U → Type
  | .int _ => Int | .bool => Bool | .str => List UInt8 | .flt _ => Nat | .unit => Unit | .fn _ => Unit
  | .pr a b => a.T c × b.T c | .sl a => List (a.T c) | .tr i => c i
def U.rp {c : Nat → Type} (r : ∀ i,Rp (c i)) : (u : U) → Rp (u.T c)
  | .int k => Rp.int k | .bool => Rp.bool | .str => Rp.str | .flt k => Rp.flt k | .unit => Rp.unit | .fn f => Rp.fnc f
  | .pr a b => Rp.pair (a.rp r) (b.rp r) | .sl a => Rp.slice (a.rp r) | .tr i => r i
structure TE where
  c : Nat → Type
  r : ∀ i,Rp (c i)
  u : Nat → U
  un : ∀ i,c i → (u i).T c
  of : ∀ i,(u i).T c → c i
  unof : ∀ i x,un i (of i x) = x
  hr : ∀ i w A cs a,(r i).rep w A cs a ↔ ((u i).rp r).rep w A cs (un i a)
  gk : List Nat → World → Prop
  go : ∀ {B : Bs} {M Ml : CU} {Z Zl : List It} {w : World},gk B.X B.w0 → Stw B (Ml ++ M) (Zl ++ Z) w → gk (Aq Ml Zl) w
inductive BX where | lit (b : Bool) | dec (p : Prop) (i : Decidable p) | tm (b : Bool)
def BX.v : BX → Bool | .lit b => b | .dec p i => @decide p i | .tm b => b
inductive CV where
  | int (k : IntKind) (i : Int) | bool (b : BX) | str (s : List UInt8) | flt (k : FloatKind) (n : Nat)
  | sl (z : Nat) | nil | ptr (b o : Nat) | ep (z : Nat) (u : U) (i : Int) (o : Nat) | fn (f : FuncId)
inductive AV where | one (c : CV) | agg (l : List CV) | tup (l : List (Bool × List CV)) | fnv (f : Nat) (gs : List (Bool × List CV)) (ps : List CV)
def CV.val (sz : U → Nat) (σ : Nat → Value) (ρ : Nat → Nat) : CV → Value
  | .int k i => .int k i
  | .bool b => .bool b.v
  | .str s => .string (bs s)
  | .flt k n => .float k n
  | .sl z => σ z
  | .nil => .slice none 0 0
  | .ptr b o => .pointer (some ⟨ρ b,o,none⟩)
  | .ep z u i o => .pointer (some ⟨QQ (σ z),Qb (σ z) + i.toNat * sz u + o,none⟩)
  | .fn f => .func (.func f) #[] #[]
def Kg (sz : U → Nat) (σ : Nat → Value) (ρ : Nat → Nat) : Bool × List CV → Value
  | (true,l) => .agg (l.map (CV.val sz σ ρ)).toArray
  | (false,c :: _) => c.val sz σ ρ
  | (false,[]) => undef
def AV.val (sz : U → Nat) (σ : Nat → Value) (ρ : Nat → Nat) : AV → Value
  | .one c => c.val sz σ ρ
  | .agg l => .agg (l.map (CV.val sz σ ρ)).toArray
  | .tup l => .tuple (l.map (Kg sz σ ρ)).toArray
  | .fnv f gs ps => .func (.func f) (gs.map (Kg sz σ ρ)).toArray (ps.map (CV.val sz σ ρ)).toArray
def CV.wf (nz nb : Nat) : CV → Bool
  | .sl z => Nat.blt z nz
  | .ep z _ _ _ => Nat.blt z nz
  | .ptr b _ => Nat.blt b nb
  | _ => true
def Bx {α : Type} (f : α → Bool) : List α → Bool
  | [] => true
  | x :: l => match f x with | true => Bx f l | false => false
theorem Ae {α : Type} {f : α → Bool} : ∀ {l : List α},Bx f l = true ↔ ∀ x ∈ l,f x = true
  | [] => by simp [Bx]
  | x :: l => by
    unfold Bx
    cases h : f x with
    | true => simp [Ae (l := l),h]
    | false => simp [h]
def AV.wf (nz nb : Nat) : AV → Bool
  | .one c => c.wf nz nb
  | .agg l => Bx (CV.wf nz nb) l
  | .tup l => Bx (fun p => Bx (CV.wf nz nb) p.2) l
  | .fnv _ gs ps => match Bx (CV.wf nz nb) ps with | true => Bx (fun p => Bx (CV.wf nz nb) p.2) gs | false => false
section
variable {sz : U → Nat} {σ σ' : Nat → Value} {ρ ρ' : Nat → Nat} {nz nb : Nat}
def Ag (nz nb : Nat) (σ σ' : Nat → Value) (ρ ρ' : Nat → Nat) : Prop := (∀ j,j < nz → σ' j = σ j) ∧ ∀ j,j < nb → ρ' j = ρ j
theorem Ag.rfl' : Ag nz nb σ σ ρ ρ := ⟨fun _ _ => rfl,fun _ _ => rfl⟩
theorem Ag.trans {σ'' : Nat → Value} {ρ'' : Nat → Nat} {mz mb : Nat} (h : Ag nz nb σ σ' ρ ρ') (h' : Ag mz mb σ' σ'' ρ' ρ'') (h1 : nz ≤ mz) (h2 : nb ≤ mb) : Ag nz nb σ σ'' ρ ρ'' :=
  ⟨fun j hj => (h'.1 j (by omega)).trans (h.1 j hj),fun j hj => (h'.2 j (by omega)).trans (h.2 j hj)⟩
theorem CV.val_ag (h : Ag nz nb σ σ' ρ ρ') {c : CV} (hc : c.wf nz nb = true) : c.val sz σ' ρ' = c.val sz σ ρ := by
  cases c with
  | sl z => exact h.1 z (zf hc)
  | ep z u i o => simp only [CV.val,h.1 z (zf hc)]
  | ptr b o => simp only [CV.val,h.2 b (zf hc)]
  | _ => rfl
theorem Hl (h : Ag nz nb σ σ' ρ ρ') {l : List CV} (hc : Bx (CV.wf nz nb) l = true) : l.map (CV.val sz σ' ρ') = l.map (CV.val sz σ ρ) :=
  List.map_congr_left fun c hm => CV.val_ag h (Ae.1 hc c hm)
theorem Yz (h : Ag nz nb σ σ' ρ ρ') {l : List (Bool × List CV)} (hv : Bx (fun p => Bx (CV.wf nz nb) p.2) l = true) : l.map (Kg sz σ' ρ') = l.map (Kg sz σ ρ) := by
  refine List.map_congr_left fun p hm => ?_
  have := Ae.1 hv p hm
  obtain ⟨b,l⟩ := p
  cases b with
  | true => simp only [Kg,Hl h this]
  | false =>
    cases l with
    | nil => rfl
    | cons c l => exact CV.val_ag h (Ae.1 this c (List.mem_cons_self ..))
theorem Vr {f : Nat} {gs : List (Bool × List CV)} {ps : List CV} (h : AV.wf nz nb (.fnv f gs ps) = true) : Bx (CV.wf nz nb) ps = true ∧ Bx (fun p => Bx (CV.wf nz nb) p.2) gs = true := by
  have h : (match Bx (CV.wf nz nb) ps with | true => Bx (fun p => Bx (CV.wf nz nb) p.2) gs | false => false) = true := h
  split at h
  · rename_i e; exact ⟨e,h⟩
  · cases h
theorem AV.val_ag (h : Ag nz nb σ σ' ρ ρ') {v : AV} (hv : v.wf nz nb = true) : v.val sz σ' ρ' = v.val sz σ ρ := by
  cases v with
  | one c => exact CV.val_ag h hv
  | agg l => simp only [AV.val,Hl h hv]
  | tup l => simp only [AV.val,Yz h (show Bx _ l = true from hv)]
  | fnv f gs ps =>
    obtain ⟨h1,h2⟩ := Vr hv
    simp only [AV.val,Yz h h2,Hl h h1]
theorem CV.wf_mono {mz mb : Nat} (h1 : nz ≤ mz) (h2 : nb ≤ mb) {c : CV} (hc : c.wf nz nb = true) : c.wf mz mb = true := by
  cases c with
  | sl z => exact Nat.ble_eq_true_of_le (Nat.le_trans (zf hc) h1)
  | ep z u i o => exact Nat.ble_eq_true_of_le (Nat.le_trans (zf hc) h1)
  | ptr b o => exact Nat.ble_eq_true_of_le (Nat.le_trans (zf hc) h2)
  | _ => rfl
theorem Dj {α : Type} {f g : α → Bool} (h : ∀ x,f x = true → g x = true) {l : List α} (hl : Bx f l = true) : Bx g l = true := Ae.2 fun x hx => h x (Ae.1 hl x hx)
theorem AV.wf_mono {mz mb : Nat} (h1 : nz ≤ mz) (h2 : nb ≤ mb) {v : AV} (hv : v.wf nz nb = true) : v.wf mz mb = true := by
  cases v with
  | one c => exact CV.wf_mono h1 h2 hv
  | agg l => exact Dj (fun _ => CV.wf_mono h1 h2) hv
  | tup l => exact Dj (fun p hp => Dj (fun _ => CV.wf_mono h1 h2) hp) hv
  | fnv f gs ps =>
    obtain ⟨k1,k2⟩ := Vr hv
    show (match Bx (CV.wf mz mb) ps with | true => _ | false => false) = true
    rw [Dj (fun _ => CV.wf_mono h1 h2) k1]
    exact Dj (fun p hp => Dj (fun _ => CV.wf_mono h1 h2) hp) k2
end
inductive ZK where | own (e : TypeId) | frz | rd
structure ZI (c : Nat → Type) where
  k : ZK
  u : U
  l : List (u.T c)
inductive Leaf (c : Nat → Type) where | v (x : CV) | s (z : ZI c)
def tI {c : Nat → Type} (q : ZK) (f : ∀ i,c i → Option (List (Leaf c))) : (u : U) → u.T c → Option (List (Leaf c))
  | .int k,x => some [.v (.int k x)]
  | .bool,x => some [.v (.bool (.tm x))]
  | .str,x => some [.v (.str x)]
  | .flt k,x => some [.v (.flt k x)]
  | .unit,_ => some []
  | .fn f,_ => some [.v (.fn f)]
  | .pr a b,x => match tI q f a x.1,tI q f b x.2 with | some p,some r => some (p ++ r) | _,_ => none
  | .sl a,x => some [.s ⟨q,a,x⟩]
  | .tr i,x => f i x
def lvN (E : TE) (q : ZK) : Nat → ∀ i,E.c i → Option (List (Leaf E.c))
  | 0,_,_ => none
  | n + 1,i,x => tI q (lvN E q n) (E.u i) (E.un i x)
def tQ (E : TE) (q : ZK) (u : U) (x : u.T E.c) : Option (List (Leaf E.c)) := tI q (lvN E q 4) u x
def LR {c : Nat → Type} (I : ZI c → Value → Prop) : List (Leaf c) → List Value → Prop
  | [],cs => cs = []
  | .v x :: L,cs => ∃ v r,cs = v :: r ∧ (∀ sz σ ρ,x.val sz σ ρ = v) ∧ (x.wf 0 0 = true ∧ LR I L r)
  | .s z :: L,cs => ∃ v r,cs = v :: r ∧ I z v ∧ LR I L r
theorem LR.append {c : Nat → Type} {I : ZI c → Value → Prop} : ∀ {L L' : List (Leaf c)} {cs cs' : List Value},LR I L cs → LR I L' cs' → LR I (L ++ L') (cs ++ cs')
  | [],L',cs,cs',h,h' => by rw [show cs = [] from h]; exact h'
  | .v x :: L,L',cs,cs',⟨v,r,e,h1,h2,h⟩,h' => ⟨v,r ++ cs',by rw [e]; rfl,h1,h2,LR.append h h'⟩
  | .s z :: L,L',cs,cs',⟨v,r,e,hi,h⟩,h' => ⟨v,r ++ cs',by rw [e]; rfl,hi,LR.append h h'⟩
theorem LR.mono {c : Nat → Type} {I J : ZI c → Value → Prop} (h : ∀ z v,I z v → J z v) : ∀ {L : List (Leaf c)} {cs : List Value},LR I L cs → LR J L cs
  | [],cs,hh => hh
  | .v x :: L,cs,⟨v,r,e,h1,h2,hh⟩ => ⟨v,r,e,h1,h2,LR.mono h hh⟩
  | .s z :: L,cs,⟨v,r,e,hi,hh⟩ => ⟨v,r,e,h z v hi,LR.mono h hh⟩
section
variable {E : TE} {q : ZK} {w : World} {A : Nat → Prop} {I : ZI E.c → Value → Prop}
theorem dW (hI : ∀ (u : U) (v : Value) (l : List (u.T E.c)),Sl w A (u.rp E.r) v l → I ⟨q,u,l⟩ v) {f : ∀ i,E.c i → Option (List (Leaf E.c))} (hf : ∀ i cs x L,(E.r i).rep w A cs x → f i x = some L → LR I L cs) : ∀ {u : U} {cs : List Value} {x : u.T E.c} {L : List (Leaf E.c)},(u.rp E.r).rep w A cs x → tI q f u x = some L → LR I L cs := by
  intro u
  induction u with
  | int k => intro cs x L h e; cases e; exact ⟨_,[],h,fun _ _ _ => rfl,rfl,rfl⟩
  | bool => intro cs x L h e; cases e; exact ⟨_,[],h,fun _ _ _ => rfl,rfl,rfl⟩
  | str => intro cs x L h e; cases e; exact ⟨_,[],h,fun _ _ _ => rfl,rfl,rfl⟩
  | flt k => intro cs x L h e; cases e; exact ⟨_,[],h,fun _ _ _ => rfl,rfl,rfl⟩
  | unit => intro cs x L h e; cases e; exact h
  | fn f => intro cs x L h e; cases e; exact ⟨_,[],h,fun _ _ _ => rfl,rfl,rfl⟩
  | pr a b iha ihb =>
    intro cs x L h e
    obtain ⟨c1,c2,rfl,h1,h2⟩ := h
    unfold tI at e
    split at e
    · rename_i p r e1 e2
      cases e
      exact (iha h1 e1).append (ihb h2 e2)
    · cases e
  | sl a ih => intro cs x L h e; cases e; obtain ⟨v,e,hs⟩ := h; exact ⟨v,[],e,hI a v x hs,rfl⟩
  | tr i => intro cs x L h e; exact hf i cs x L h e
theorem gB (hI : ∀ (u : U) (v : Value) (l : List (u.T E.c)),Sl w A (u.rp E.r) v l → I ⟨q,u,l⟩ v) : ∀ (n i : Nat) (cs : List Value) (x : E.c i) (L : List (Leaf E.c)),(E.r i).rep w A cs x → lvN E q n i x = some L → LR I L cs
  | 0,i,cs,x,L,h,e => nomatch e
  | n + 1,i,cs,x,L,h,e => dW hI (gB hI n) ((E.hr i w A cs x).1 h) e
theorem VC (hI : ∀ (u : U) (v : Value) (l : List (u.T E.c)),Sl w A (u.rp E.r) v l → I ⟨q,u,l⟩ v) {u : U} {cs : List Value} {x : u.T E.c} {L : List (Leaf E.c)} (h : (u.rp E.r).rep w A cs x) (e : tQ E q u x = some L) : LR I L cs := dW hI (gB hI 4) h e
end
def Rp.seen {α : Type} (r : Rp α) : Rp (List Value × α) := ⟨r.sz,fun w A cs p => cs = p.1 ∧ r.rep w A cs p.2,fun h => r.len h.2,fun h => r.one h.2,fun h hk => ⟨h.1,r.stab h.2 hk⟩⟩
theorem Ex.seen {α : Type} (r : Rp α) : Ex r r.seen Prod.snd := ⟨rfl,fun {w A cs a} h => ⟨(cs,a),rfl,rfl,h⟩,fun h => h.2⟩
theorem GS.seen {α : Type} (r : Rp α) : GS r.seen Prod.fst := fun h => h.1
end Go.Proofs.YtkhiflmalgkjiaaGreat
namespace Go.Proofs.YtkhiflmalgkjiaaGreat
section
variable {β : Type _}
def CQ : List (Nat × β) → Nat → Option β
  | [],_ => none
  | (j,x) :: l,k => match Nat.beq j k with | true => some x | false => CQ l k
def Xn : List (Nat × β) → Nat → Option (β × List (Nat × β))
  | [],_ => none
  | (j,x) :: l,k => match Nat.beq j k with
    | true => some (x,l)
    | false => match Xn l k with | some (y,r) => some (y,(j,x) :: r) | none => none
theorem XZ {j k : Nat} (h : Nat.beq j k = false) : j ≠ k := fun e => by subst e; simp at h
theorem eX {j k : Nat} (h : j ≠ k) : Nat.beq j k = false := by
  cases hb : Nat.beq j k with
  | false => rfl
  | true => exact absurd (ze hb) h
theorem A8 : ∀ {l : List (Nat × β)} {k : Nat} {x : β},CQ l k = some x → (k,x) ∈ l
  | (j,y) :: l,k,x,h => by
    unfold CQ at h
    split at h
    · rename_i e; cases h; rw [ze e]; exact List.mem_cons_self ..
    · exact zd _ (A8 h)
theorem C6 {j k : Nat} {x : β} {l : List (Nat × β)} (h : j ≠ k) : CQ ((j,x) :: l) k = CQ l k := by
  show (match Nat.beq j k with | true => some x | false => CQ l k) = _
  rw [eX h]
theorem DK {k : Nat} {x : β} {l : List (Nat × β)} : CQ ((k,x) :: l) k = some x := by
  show (match Nat.beq k k with | true => some x | false => CQ l k) = _
  rw [show Nat.beq k k = true by simp]
theorem FY : ∀ {l r : List (Nat × β)} {k : Nat} {x : β},Xn l k = some (x,r) → l.Perm ((k,x) :: r)
  | (j, y) :: l, r, k, x, h => by
    unfold Xn at h
    split at h
    · rename_i e; cases h; rw [ze e]
    · split at h
      · rename_i z r' e
        cases h
        exact ((FY e).cons _).trans (List.Perm.swap ..)
      · cases h
theorem Q8 : ∀ {l r : List (Nat × β)} {k : Nat} {x : β},Xn l k = some (x,r) → CQ l k = some x ∧ ∀ j,j ≠ k → CQ r j = CQ l j
  | (i, y) :: l, r, k, x, h => by
    unfold Xn at h
    split at h
    · rename_i e; cases h
      obtain rfl := ze e
      exact ⟨DK,fun j hj => (C6 (Ne.symm hj)).symm⟩
    · rename_i hne
      split at h
      · rename_i z r' e
        cases h
        obtain ⟨h1,h2⟩ := Q8 e
        refine ⟨by rw [C6 (XZ hne)]; exact h1,fun j hj => ?_⟩
        by_cases hij : i = j
        · subst hij; rw [DK,DK]
        · rw [C6 hij,C6 hij]; exact h2 j hj
      · cases h
theorem F7 : ∀ {l : List (Nat × β)} {k : Nat} {x : β},(l.map (·.1)).Nodup → (k,x) ∈ l → CQ l k = some x
  | (j,y) :: l,k,x,hn,hm => by
    rw [zj,List.nodup_cons] at hn
    rcases List.mem_cons.1 hm with h | h
    · cases h; exact DK
    · have : j ≠ k := fun e => hn.1 (List.mem_map.2 ⟨_,h,e.symm⟩)
      rw [C6 this]; exact F7 hn.2 h
end
theorem Hw {f : Nat × AV → Value} : ∀ {l : List (Nat × Nat × AV)} {k : Nat} {x : Nat × AV},CQ l k = some x → lk (l.map fun p => (p.1,f p.2)) k = some (f x)
  | (j,y) :: l,k,x,h => by
    unfold CQ at h
    simp only [zj,lk]
    split at h
    · rename_i e; cases h; rw [if_pos e]
    · rename_i e; rw [if_neg (by rw [e]; simp)]; exact Hw h
structure Pin where
  p : Nat
  q : Nat
  σ : Nat → Value
  ρ : Nat → Nat
  v : Nat
  ι : Nat → It
structure St (c : Nat → Type) where
  F : List (Nat × Nat × AV)
  M : List (Nat × Nat × List CV)
  Z : List (Nat × Nat × ZI c)
  C : List (Nat × Nat × ((u : U) × u.T c))
  nz : Nat
  nb : Nat
  nv : Nat
  V : List (Nat × List Nat)
def Uz {c : Nat → Type} (S : St c) (b i : Nat) : Option Nat := match CQ S.V b with | some l => l[i]? | none => none
def i9 {c : Nat → Type} (S : St c) (b i : Nat) : Option CV := match CQ S.M b with | some x => x.2[i]? | none => none
abbrev TE.sz (E : TE) (u : U) : Nat := (u.rp E.r).sz
def Z7 {α : Type} (B : Bs) (v : Value) (r : Rp α) (l : List α) : It := ⟨[],fun _ _ => Sl B.w0 (NX B.X) r v l,fun h _ _ => h,fun _ _ hg => (by cases hg),fun _ => List.nodup_nil⟩
def P9 (E : TE) (B : Bs) (v : Value) (k : ZK) (u : U) (lx : List (List Value × u.T E.c)) : It := match k with
  | .own e => row v e (u.rp E.r).seen lx
  | .frz => frz v (u.rp E.r).seen lx
  | .rd => Z7 B v (u.rp E.r).seen lx
def Y2 (E : TE) (B : Bs) (v : Value) (z : ZI E.c) (it : It) : Prop := ∃ lx,lx.map Prod.snd = z.l ∧ it = P9 E B v z.k z.u lx
section
variable {E : TE} {B : Bs} {θ : Pin} {n : Nat} {ds : List Deferred}
abbrev St.ff (E : TE) (S : St E.c) (σ : Nat → Value) (ρ : Nat → Nat) : List (Nat × Value) := S.F.map fun p => (p.1,p.2.2.val E.sz σ ρ)
abbrev St.mm (E : TE) (S : St E.c) (σ : Nat → Value) (ρ : Nat → Nat) : CU := S.M.map fun p => (ρ p.1,p.2.2.map (CV.val E.sz σ ρ))
abbrev St.zz (S : St E.c) (ι : Nat → It) : List It := S.Z.map fun p => ι p.1
def w5 (S : St E.c) (p : Nat × Nat × ((u : U) × u.T E.c)) : Prop := ∃ v z i o k l,CQ S.F p.1 = some (v,.one (.ep z p.2.2.1 i o)) ∧ (z,p.2.1,(⟨k,p.2.2.1,l⟩ : ZI E.c)) ∈ S.Z ∧ ix l i = some p.2.2.2
structure StC (E : TE) (B : Bs) (θ : Pin) (S : St E.c) (σ : Nat → Value) (ρ : Nat → Nat) (ι : Nat → It) : Prop where
  it : ∀ p ∈ S.Z,Y2 E B (σ p.1) p.2.2 (ι p.1)
  wF : ∀ p ∈ S.F,p.2.2.wf S.nz S.nb = true ∧ p.2.1 < S.nv
  wM : ∀ p ∈ S.M,p.1 < S.nb ∧ p.2.1 < S.nv ∧ Bx (CV.wf S.nz S.nb) p.2.2 = true
  wZ : ∀ p ∈ S.Z,p.1 < S.nz ∧ p.2.1 < S.nv
  nZ : (S.Z.map (·.1)).Nodup
  ca : ∀ p ∈ S.C,w5 S p
  pn : Ag θ.p θ.q θ.σ σ θ.ρ ρ ∧ θ.p ≤ S.nz ∧ θ.q ≤ S.nb
  pi : θ.v ≤ S.nv ∧ ∀ p ∈ S.Z,p.2.1 < θ.v → ι p.1 = θ.ι p.1
structure Rel (E : TE) (B : Bs) (θ : Pin) (n : Nat) (ds : List Deferred) (S : St E.c) (a : Act) (w : World) (σ : Nat → Value) (ρ : Nat → Nat) (ι : Nat → It) : Prop extends StC E B θ S σ ρ ι where
  fr : Fr n ds (S.ff E σ ρ) a
  st : Stw B (S.mm E σ ρ) (S.zz ι) w
structure Ext {c : Nat → Type} (S S' : St c) : Prop where
  v : S.nv ≤ S'.nv
  F : ∀ k x,CQ S'.F k = some x → x.1 < S.nv → CQ S.F k = some x
  M : ∀ k x,CQ S'.M k = some x → x.1 < S.nv → CQ S.M k = some x
  Z : ∀ k x,CQ S'.Z k = some x → x.1 < S.nv → CQ S.Z k = some x
  V : ∀ b i v,Uz S' b i = some v → v < S.nv → Uz S b i = some v ∧ i9 S' b i = i9 S b i
theorem Ext.refl {c : Nat → Type} (S : St c) : Ext S S := ⟨Nat.le_refl _,fun _ _ h _ => h,fun _ _ h _ => h,fun _ _ h _ => h,fun _ _ _ h _ => ⟨h,rfl⟩⟩
theorem Ext.trans {c : Nat → Type} {S S' S'' : St c} (h : Ext S S') (h' : Ext S' S'') : Ext S S'' :=
  ⟨Nat.le_trans h.v h'.v,fun k x e l => h.F k x (h'.F k x e (Nat.lt_of_lt_of_le l h.v)) l,fun k x e l => h.M k x (h'.M k x e (Nat.lt_of_lt_of_le l h.v)) l,fun k x e l => h.Z k x (h'.Z k x e (Nat.lt_of_lt_of_le l h.v)) l,
   fun b i v e l => ⟨(h.V b i v (h'.V b i v e (Nat.lt_of_lt_of_le l h.v)).1 l).1,(h'.V b i v e (Nat.lt_of_lt_of_le l h.v)).2.trans (h.V b i v (h'.V b i v e (Nat.lt_of_lt_of_le l h.v)).1 l).2⟩⟩
def mE : Value → Option CV
  | .int k i => some (.int k i)
  | .bool b => some (.bool (.lit b))
  | .string ⟨⟨l⟩⟩ => some (.str l)
  | .float k n => some (.flt k n)
  | .slice none 0 0 => some .nil
  | .func (.func f) ⟨[]⟩ ⟨[]⟩ => some (.fn f)
  | _ => none
theorem Y3 {v : Value} {c : CV} {sz : U → Nat} {σ : Nat → Value} {ρ : Nat → Nat} (h : mE v = some c) : c.val sz σ ρ = v ∧ c.wf 0 0 = true := by
  unfold mE at h
  split at h <;> first | (cases h; exact ⟨rfl,rfl⟩) | cases h
def Zd : List Value → Option (List CV)
  | [] => some []
  | v :: l => match mE v with | some c => (match Zd l with | some r => some (c :: r) | none => none) | none => none
theorem Wl {sz : U → Nat} {σ : Nat → Value} {ρ : Nat → Nat} : ∀ {l : List Value} {r : List CV},Zd l = some r → r.map (CV.val sz σ ρ) = l ∧ Bx (CV.wf 0 0) r = true
  | [],r,h => by cases h; exact ⟨rfl,rfl⟩
  | v :: l,r,h => by
    unfold Zd at h
    split at h
    · rename_i c e
      split at h
      · rename_i r' e'
        cases h
        have h1 := Y3 (sz := sz) (σ := σ) (ρ := ρ) e
        have h2 := Wl (sz := sz) (σ := σ) (ρ := ρ) e'
        exact ⟨by rw [zj,h1.1,h2.1],by unfold Bx; rw [h1.2]; exact h2.2⟩
      · cases h
    · cases h
def pW : Value → Option AV
  | .agg ⟨l⟩ => match Zd l with | some r => some (.agg r) | none => none
  | v => match mE v with | some c => some (.one c) | none => none
theorem lX {v : Value} {x : AV} {sz : U → Nat} {σ : Nat → Value} {ρ : Nat → Nat} (h : pW v = some x) : x.val sz σ ρ = v ∧ x.wf 0 0 = true := by
  unfold pW at h
  split at h
  · split at h
    · rename_i r e; cases h
      have := Wl (sz := sz) (σ := σ) (ρ := ρ) e
      exact ⟨by simp only [AV.val,this.1],this.2⟩
    · cases h
  · split at h
    · rename_i c e; cases h; exact Y3 e
    · cases h
def F2 {c : Nat → Type} (S : St c) : Operand → Option AV
  | .tmp t => match CQ S.F t with | some x => some x.2 | none => none
  | .const v => pW v
  | .func f => some (.one (.fn f))
  | .global _ => none
section
variable {S : St E.c} {a : Act} {w : World} {σ : Nat → Value} {ρ : Nat → Nat} {ι : Nat → It}
theorem Rel.op (h : Rel E B θ n ds S a w σ ρ ι) {x : Operand} {v : AV} (e : F2 S x = some v) : C7 (S.ff E σ ρ) x = some (v.val E.sz σ ρ) ∧ v.wf S.nz S.nb = true := by
  cases x with
  | tmp t =>
    unfold F2 at e
    simp only at e
    split at e
    · rename_i y hy
      cases e
      exact ⟨Hw (f := fun q => q.2.val E.sz σ ρ) hy,(h.wF _ (A8 hy)).1⟩
    · cases e
  | const c =>
    have := lX (sz := E.sz) (σ := σ) (ρ := ρ) e
    exact ⟨by show some c = _; rw [this.1],AV.wf_mono (Nat.zero_le _) (Nat.zero_le _) this.2⟩
  | func f => cases e; exact ⟨rfl,rfl⟩
  | global g => cases e
def Uc {c : Nat → Type} (S : St c) : List Operand → Option (List AV)
  | [] => some []
  | x :: l => match F2 S x with | some v => (match Uc S l with | some r => some (v :: r) | none => none) | none => none
theorem Rel.ops (h : Rel E B θ n ds S a w σ ρ ι) : ∀ {l : List Operand} {vs : List AV},Uc S l = some vs → aI (S.ff E σ ρ) l = some (vs.map (AV.val E.sz σ ρ)) ∧ ∀ v ∈ vs,v.wf S.nz S.nb = true
  | [],vs,e => by cases e; exact ⟨rfl,fun _ h => nomatch h⟩
  | x :: l,vs,e => by
    unfold Uc at e
    split at e
    · rename_i v e1
      split at e
      · rename_i r e2
        cases e
        have h1 := h.op e1
        have h2 := h.ops e2
        exact ⟨by simp only [aI,h1.1,h2.1,zj],fun y hy => by
          rcases List.mem_cons.1 hy with rfl | hy
          · exact h1.2
          · exact h2.2 y hy⟩
      · cases e
    · cases e
def XE {β : Type _} (d : Nat) : List (Nat × β) → List (Nat × β)
  | [] => []
  | (j,x) :: l => match Nat.beq j d with | true => XE d l | false => (j,x) :: XE d l
theorem Jo {β : Type _} {d : Nat} : ∀ {l : List (Nat × β)} {p : Nat × β},p ∈ XE d l → p ∈ l ∧ p.1 ≠ d
  | (j,x) :: l,p,h => by
    unfold XE at h
    split at h
    · exact ⟨zd _ (Jo h).1,(Jo h).2⟩
    · rename_i e
      rcases List.mem_cons.1 h with rfl | h
      · exact ⟨List.mem_cons_self ..,XZ e⟩
      · exact ⟨zd _ (Jo h).1,(Jo h).2⟩
def St.put {c : Nat → Type} (S : St c) (d : Nat) (v : AV) : St c := { S with F := (d,S.nv,v) :: S.F,C := XE d S.C,nv := S.nv + 1 }
theorem Ext.put {c : Nat → Type} (S : St c) (d : Nat) (v : AV) : Ext S (S.put d v) :=
  ⟨Nat.le_succ _,fun k x e l => by
    by_cases hk : d = k
    · subst hk
      rw [show (S.put d v).F = (d,S.nv,v) :: S.F from rfl,DK] at e
      cases e
      exact absurd l (Nat.lt_irrefl _)
    · rw [show (S.put d v).F = (d,S.nv,v) :: S.F from rfl,C6 hk] at e
      exact e,fun _ _ e _ => e,fun _ _ e _ => e,fun _ _ _ h _ => ⟨h,rfl⟩⟩
theorem Rel.put (h : Rel E B θ n ds S a w σ ρ ι) {d : Nat} {v : AV} {a' : Act} (hv : v.wf S.nz S.nb = true) (hF : Fr n ds ((d,v.val E.sz σ ρ) :: S.ff E σ ρ) a') : Rel E B θ n ds (S.put d v) a' w σ ρ ι where
  fr := hF
  st := h.st
  it := h.it
  wF := fun p hp => by
    rcases List.mem_cons.1 hp with rfl | hp
    · exact ⟨hv,Nat.lt_succ_self _⟩
    · exact ⟨(h.wF p hp).1,Nat.lt_succ_of_lt (h.wF p hp).2⟩
  wM := fun p hp => ⟨(h.wM p hp).1,Nat.lt_succ_of_lt (h.wM p hp).2.1,(h.wM p hp).2.2⟩
  wZ := fun p hp => ⟨(h.wZ p hp).1,Nat.lt_succ_of_lt (h.wZ p hp).2⟩
  nZ := h.nZ
  ca := fun p hp => by
    obtain ⟨hp,hd⟩ := Jo hp
    obtain ⟨v',z,i,o,k,l,h1,h2,h3⟩ := h.ca p hp
    exact ⟨v',z,i,o,k,l,by show CQ ((d,S.nv,v) :: S.F) p.1 = _; rw [C6 (Ne.symm hd)]; exact h1,h2,h3⟩
  pn := h.pn
  pi := ⟨Nat.le_succ_of_le h.pi.1,h.pi.2⟩
theorem S7 {σ' : Nat → Value} {ρ' : Nat → Nat} (hw : ∀ p ∈ S.F,p.2.2.wf S.nz S.nb = true ∧ p.2.1 < S.nv) (g : Ag S.nz S.nb σ σ' ρ ρ') : S.ff E σ' ρ' = S.ff E σ ρ :=
  List.map_congr_left fun p hp => by rw [AV.val_ag g (hw p hp).1]
theorem R3 {σ' : Nat → Value} {ρ' : Nat → Nat} (hw : ∀ p ∈ S.M,p.1 < S.nb ∧ p.2.1 < S.nv ∧ Bx (CV.wf S.nz S.nb) p.2.2 = true) (g : Ag S.nz S.nb σ σ' ρ ρ') : S.mm E σ' ρ' = S.mm E σ ρ :=
  List.map_congr_left fun p hp => by rw [Hl g (hw p hp).2.2,g.2 p.1 (hw p hp).1]
def St.addZ {c : Nat → Type} (S : St c) (z : ZI c) : St c := { S with Z := (S.nz,S.nv,z) :: S.Z,nz := S.nz + 1,nv := S.nv + 1 }
def DH {α : Type _} (f : Nat → α) (k : Nat) (x : α) : Nat → α := fun j => if j = k then x else f j
theorem El {α : Type _} {f : Nat → α} {k : Nat} {x : α} : DH f k x k = x := if_pos rfl
theorem DM {α : Type _} {f : Nat → α} {k j : Nat} {x : α} (h : j ≠ k) : DH f k x j = f j := if_neg h
theorem Ext.addZ {c : Nat → Type} (S : St c) (z : ZI c) : Ext S (S.addZ z) :=
  ⟨Nat.le_succ _,fun _ _ e _ => e,fun _ _ e _ => e,fun k x e l => by
    by_cases hk : S.nz = k
    · subst hk
      rw [show (S.addZ z).Z = (S.nz,S.nv,z) :: S.Z from rfl,DK] at e
      cases e
      exact absurd l (Nat.lt_irrefl _)
    · rw [show (S.addZ z).Z = (S.nz,S.nv,z) :: S.Z from rfl,C6 hk] at e
      exact e,fun _ _ _ h _ => ⟨h,rfl⟩⟩
theorem vK (hw : ∀ p ∈ S.Z,p.1 < S.nz ∧ p.2.1 < S.nv) {ι' : Nat → It} (g : ∀ j,j < S.nz → ι' j = ι j) : S.zz ι' = S.zz ι := List.map_congr_left fun p hp => g p.1 (hw p hp).1
theorem Nf {v : Value} : Ag S.nz S.nb σ (DH σ S.nz v) ρ ρ := ⟨fun j hj => DM (by omega),fun _ _ => rfl⟩
theorem StC.zz_addZ (h : StC E B θ S σ ρ ι) {z : ZI E.c} {it : It} : (S.addZ z).zz (DH ι S.nz it) = it :: S.zz ι := by
  show DH ι S.nz it S.nz :: S.Z.map _ = _
  rw [El]
  congr 1
  exact vK (ι := ι) h.wZ fun j hj => DM (by omega)
theorem StC.addZ (h : StC E B θ S σ ρ ι) {z : ZI E.c} {v : Value} {it : It} (hi : Y2 E B v z it) : StC E B θ (S.addZ z) (DH σ S.nz v) ρ (DH ι S.nz it) where
  it := fun p hp => by
    rcases List.mem_cons.1 hp with rfl | hp
    · show Y2 E B (DH σ S.nz v S.nz) z (DH ι S.nz it S.nz)
      rw [El,El]; exact hi
    · have := (h.wZ p hp).1
      rw [DM (by omega),DM (by omega)]; exact h.it p hp
  wF := fun p hp => ⟨AV.wf_mono (Nat.le_succ _) (Nat.le_refl _) (h.wF p hp).1,Nat.lt_succ_of_lt (h.wF p hp).2⟩
  wM := fun p hp => ⟨(h.wM p hp).1,Nat.lt_succ_of_lt (h.wM p hp).2.1,Dj (fun _ => CV.wf_mono (Nat.le_succ _) (Nat.le_refl _)) (h.wM p hp).2.2⟩
  wZ := fun p hp => by
    rcases List.mem_cons.1 hp with rfl | hp
    · exact ⟨Nat.lt_succ_self _,Nat.lt_succ_self _⟩
    · exact ⟨Nat.lt_succ_of_lt (h.wZ p hp).1,Nat.lt_succ_of_lt (h.wZ p hp).2⟩
  nZ := by
    show (S.nz :: S.Z.map (·.1)).Nodup
    rw [List.nodup_cons]
    refine ⟨fun hm => ?_,h.nZ⟩
    obtain ⟨p,hp,e⟩ := List.mem_map.1 hm
    exact absurd (h.wZ p hp).1 (by omega)
  ca := fun p hp => by
    obtain ⟨v',y,i,o,k,l,h1,h2,h3⟩ := h.ca p hp
    exact ⟨v',y,i,o,k,l,h1,zd _ h2,h3⟩
  pn := ⟨h.pn.1.trans Nf h.pn.2.1 h.pn.2.2,Nat.le_succ_of_le h.pn.2.1,h.pn.2.2⟩
  pi := ⟨Nat.le_succ_of_le h.pi.1,fun p hp hv => by
    rcases List.mem_cons.1 hp with rfl | hp
    · exact absurd (Nat.lt_of_lt_of_le hv h.pi.1) (Nat.lt_irrefl _)
    · have := (h.wZ p hp).1
      rw [DM (by omega)]; exact h.pi.2 p hp hv⟩
theorem Rel.addZ (h : Rel E B θ n ds S a w σ ρ ι) {z : ZI E.c} {v : Value} {it : It} {w' : World} (hi : Y2 E B v z it) (hW : Stw B (S.mm E σ ρ) (it :: S.zz ι) w') : Rel E B θ n ds (S.addZ z) a w' (DH σ S.nz v) ρ (DH ι S.nz it) ∧ Ag S.nz S.nb σ (DH σ S.nz v) ρ ρ := by
  refine ⟨{ toStC := h.toStC.addZ hi,fr := ?_,st := ?_ },Nf⟩
  · rw [show (S.addZ z).ff E (DH σ S.nz v) ρ = S.ff E σ ρ from S7 (S := S) h.wF Nf]; exact h.fr
  · rw [show (S.addZ z).mm E (DH σ S.nz v) ρ = S.mm E σ ρ from R3 (S := S) h.wM Nf,h.toStC.zz_addZ]; exact hW
theorem Stw.oldNote {α : Type} {M : CU} {Z : List It} {r : Rp α} {v : Value} {l : List α} (h : Stw B M Z w) (hs : Sl B.w0 (NX B.X) r v l) : Stw B M (Z7 B v r l :: Z) w := by
  have hbl : Aq M (Z7 B v r l :: Z) = Aq M Z := by unfold Aq; simp [Z7]
  refine ⟨h.frm,by rw [hbl]; exact h.own,h.at_,fun z hz => ?_,by rw [hbl]; exact h.nodup,h.disj⟩
  rw [hbl]
  rcases List.mem_cons.1 hz with rfl | hz
  · exact hs
  · exact h.items z hz
def W0 (E : TE) (B : Bs) (w : World) (l : List Nat) (z : ZI E.c) (v : Value) : Prop := match z.k with
  | .own _ => False
  | .frz => Sl w (Fz B l) (z.u.rp E.r) v z.l
  | .rd => Sl B.w0 (NX B.X) (z.u.rp E.r) v z.l
theorem Rel.noteZ (h : Rel E B θ n ds S a w σ ρ ι) {z : ZI E.c} {v : Value} (hi : W0 E B w (Aq (S.mm E σ ρ) (S.zz ι)) z v) : ∃ it,it.bl = [] ∧ Rel E B θ n ds (S.addZ z) a w (DH σ S.nz v) ρ (DH ι S.nz it) ∧ Ag S.nz S.nb σ (DH σ S.nz v) ρ ρ := by
  obtain ⟨k,u,l⟩ := z
  cases k with
  | own e => exact hi.elim
  | frz =>
    obtain ⟨lx,e1,h1⟩ := Sl.ex (Ex.seen (u.rp E.r)) (show Sl w _ (u.rp E.r) v l from hi)
    exact ⟨frz v _ lx,rfl,h.addZ ⟨lx,e1,rfl⟩ (h.st.note h1)⟩
  | rd =>
    obtain ⟨lx,e1,h1⟩ := Sl.ex (Ex.seen (u.rp E.r)) (show Sl B.w0 _ (u.rp E.r) v l from hi)
    exact ⟨Z7 B v _ lx,rfl,h.addZ ⟨lx,e1,rfl⟩ (h.st.oldNote h1)⟩
def injS {c : Nat → Type} : St c → List (Leaf c) → List CV × St c
  | S,[] => ([],S)
  | S,.v x :: L => match injS S L with | (r,S') => (x :: r,S')
  | S,.s z :: L => match injS (S.addZ z) L with | (r,S') => (.sl S.nz :: r,S')
theorem Ext.injS {c : Nat → Type} : ∀ (L : List (Leaf c)) (S : St c),Ext S (injS S L).2
  | [],S => Ext.refl S
  | .v x :: L,S => Ext.injS L S
  | .s z :: L,S => (Ext.addZ S z).trans (Ext.injS L _)
theorem Rj {M : CU} {Z : List It} {it : It} (h : it.bl = []) : Aq M (it :: Z) = Aq M Z := by unfold Aq; simp [h]
theorem Rel.inj : ∀ (L : List (Leaf E.c)) {S : St E.c} {σ : Nat → Value} {ι : Nat → It} {cs : List Value},Rel E B θ n ds S a w σ ρ ι → LR (W0 E B w (Aq (S.mm E σ ρ) (S.zz ι))) L cs →
    ∃ σ' ι',Rel E B θ n ds (injS S L).2 a w σ' ρ ι' ∧ Ag S.nz S.nb σ σ' ρ ρ ∧ (injS S L).1.map (CV.val E.sz σ' ρ) = cs ∧ Bx (CV.wf (injS S L).2.nz (injS S L).2.nb) (injS S L).1 = true ∧ S.nz ≤ (injS S L).2.nz ∧ (injS S L).2.nb = S.nb ∧ ∀ j,j < S.nz → ι' j = ι j
  | [],S,σ,ι,cs,h,hL => ⟨σ,ι,h,Ag.rfl',by rw [show cs = [] from hL]; rfl,rfl,Nat.le_refl _,rfl,fun _ _ => rfl⟩
  | .v x :: L,S,σ,ι,cs,h,⟨v,r,e,h1,h2,hL⟩ => by
    obtain ⟨σ',ι',g1,g2,g3,g4,g5,g6,g7⟩ := Rel.inj L h hL
    refine ⟨σ',ι',g1,g2, ?_, ?_,g5,g6,g7⟩
    · show x.val E.sz σ' ρ :: _ = _
      rw [h1,e, ← g3]
    · show Bx _ (x :: (injS S L).1) = true
      unfold Bx
      rw [show CV.wf (injS S (.v x :: L)).2.nz (injS S (.v x :: L)).2.nb x = true from CV.wf_mono (Nat.zero_le _) (Nat.zero_le _) h2]
      exact g4
  | .s z :: L,S,σ,ι,cs,h,⟨v,r,e,hi,hL⟩ => by
    obtain ⟨it,hb,h1,ga⟩ := h.noteZ hi
    have e2 : (S.addZ z).mm E (DH σ S.nz v) ρ = S.mm E σ ρ := R3 (S := S) h.wM ga
    have e3 : (S.addZ z).zz (DH ι S.nz it) = it :: S.zz ι := h.toStC.zz_addZ
    obtain ⟨σ',ι',g1,g2,g3,g4,g5,g6,g7⟩ := Rel.inj L h1 (by rw [e2,e3,Rj hb]; exact hL)
    have hn : (S.addZ z).nz = S.nz + 1 := rfl
    refine ⟨σ',ι',g1,ga.trans g2 (by omega) (Nat.le_refl _), ?_, ?_,Nat.le_trans (Nat.le_succ _) g5,g6,fun j hj => (g7 j (by omega)).trans (DM (by omega))⟩
    · show σ' S.nz :: _ = _
      rw [g2.1 S.nz (by omega),El,e, ← g3]
    · show Bx _ (.sl S.nz :: (injS (S.addZ z) L).1) = true
      unfold Bx
      rw [show CV.wf (injS S (.s z :: L)).2.nz (injS S (.s z :: L)).2.nb (.sl S.nz) = true from Nat.ble_eq_true_of_le (by rw [hn] at g5; exact g5)]
      exact g4
end
end
end Go.Proofs.YtkhiflmalgkjiaaGreat
namespace Go.Proofs.YtkhiflmalgkjiaaGreat
inductive Tree : Type → Type 1 where
  | ret {R : Type} (r : R) : Tree R
  | fail {R : Type} : Tree R
  | ite {R : Type} (b : BX) (x y : Tree R) : Tree R
  | bnd {R α : Type} (o : Option α) (k : α → Tree R) : Tree R
  | sub {R α : Type} (x : Tree α) (k : α → Tree R) : Tree R
  | or {R α : Type} (x : Tree (α ⊕ R)) (k : α → Tree R) : Tree R
  | loop {σ R : Type} (f : σ → Tree (σ ⊕ R)) (s : σ) : Tree R
def aG {α : Type} (b : BX) (x y : α) : α := match b with
  | .lit true => x
  | .lit false => y
  | .dec p i => @ite _ p i x y
  | .tm b => if b = true then x else y
theorem Rk {α : Type} {b : BX} {x y : α} : aG b x y = if b.v = true then x else y := by
  cases b with
  | lit b => cases b <;> rfl
  | dec p i => by_cases h : p <;> simp [aG,BX.v,h]
  | tm b => rfl
noncomputable def Tree.den : {R : Type} → Tree R → Option R
  | _,.ret r => some r
  | _,.fail => none
  | _,.ite b x y => aG b x.den y.den
  | _,.bnd o k => o.bind fun a => (k a).den
  | _,.sub x k => x.den.bind fun a => (k a).den
  | _,.or x k => GN x.den fun a => (k a).den
  | _,.loop f s => Aj (fun s => (f s).den) s
def Tree.map : {R R' : Type} → (R → R') → Tree R → Tree R'
  | _,_,g,.ret r => .ret (g r)
  | _,_,_,.fail => .fail
  | _,_,g,.ite b x y => .ite b (x.map g) (y.map g)
  | _,_,g,.bnd o k => .bnd o fun a => (k a).map g
  | _,_,g,.sub x k => .sub x fun a => (k a).map g
  | _,_,g,.or x k => .or (x.map fun s => match s with | .inl a => .inl a | .inr r => .inr (g r)) fun a => (k a).map g
  | _,_,g,.loop f s => .sub (.loop f s) fun r => .ret (g r)
theorem Tree.den_map {R R' : Type} (g : R → R') : ∀ t : Tree R,(t.map g).den = t.den.map g := by
  intro t
  induction t generalizing R' with
  | ret r => rfl
  | fail => rfl
  | ite b x y ihx ihy => simp only [Tree.map,Tree.den,ihx,ihy,Rk]; split <;> rfl
  | bnd o k ih => simp only [Tree.map,Tree.den,ih]; cases o <;> rfl
  | sub x k ihx ih => simp only [Tree.map,Tree.den,ih]; cases x.den <;> rfl
  | or x k ihx ih =>
    simp only [Tree.map,Tree.den,ihx,ih,GN]
    cases x.den with
    | none => rfl
    | some s => cases s <;> rfl
  | loop f s ih => simp only [Tree.map,Tree.den]; cases Aj (fun s => (f s).den) s <;> rfl
structure Tb where
  tt : Tt
  sl : List (Nat × Nat × U × Nat)
  zr : List (Nat × List CV)
  ik : List (Nat × IntKind) := []
  st : List (Nat × Unit) := []
  bo : List Nat := []
  bt : List (Nat × List CV × List (Nat × Nat)) := []
  ar : List (Nat × Nat × Nat × Nat) := []
  eq : List (Nat × List CV) := []
def arB (P : Program) (t : Nat) (p : Nat × Nat × Nat) : Bool :=
  (match P.underlying t with | some (.array m e) => Nat.beq m p.1 && Nat.beq e p.2.1 | _ => false) && (match (P.info? p.2.1).map (·.size) with | some s => Nat.beq s p.2.2 | none => false)
theorem sE {P : Program} {t m e sz : Nat} (h : arB P t (m,e,sz) = true) : Ar P t m e sz := by
  unfold arB at h
  simp only [zg] at h
  obtain ⟨h1,h2⟩ := h
  refine ⟨?_, ?_⟩
  · split at h1
    · rename_i m' e' he
      rw [zg] at h1
      rw [he,ze h1.1,ze h1.2]
    · cases h1
  · split at h2
    · rename_i s he; rw [he,ze h2]
    · cases h2
def nU : List CV → (List Value → List Value → (p : Prop) → Decidable p → Prop) → Prop
  | [],_ => False
  | .int k _ :: c,F => match c with
    | [] => ∀ p q : Int,F [.int k p] [.int k q] (p = q) inferInstance
    | _ :: _ => ∀ p q : Int,nU c fun l r h i => F (.int k p :: l) (.int k q :: r) (p = q ∧ h) instDecidableAnd
  | .bool _ :: c,F => match c with
    | [] => ∀ p q : Bool,F [.bool p] [.bool q] (p = q) inferInstance
    | _ :: _ => ∀ p q : Bool,nU c fun l r h i => F (.bool p :: l) (.bool q :: r) (p = q ∧ h) instDecidableAnd
  | .str _ :: c,F => match c with
    | [] => ∀ p q : List UInt8,F [.string (bs p)] [.string (bs q)] (p = q) inferInstance
    | _ :: _ => ∀ p q : List UInt8,nU c fun l r h i => F (.string (bs p) :: l) (.string (bs q) :: r) (p = q ∧ h) instDecidableAnd
  | _ :: _,_ => False
def tF : List CV → List CV → List CV → Option ((p : Prop) ×' Decidable p)
  | .int k _ :: c,.int i p :: l,.int j q :: r => match Nat.beq (ki k) (ki i) with
    | true => match Nat.beq (ki k) (ki j) with
      | true => match c with
        | [] => match l,r with | [],[] => some ⟨p = q,inferInstance⟩ | _,_ => none
        | _ :: _ => match tF c l r with | some ⟨h,i⟩ => some ⟨p = q ∧ h,instDecidableAnd⟩ | none => none
      | false => none
    | false => none
  | .bool _ :: c,.bool p :: l,.bool q :: r => match c with
    | [] => match l,r with | [],[] => some ⟨p.v = q.v,inferInstance⟩ | _,_ => none
    | _ :: _ => match tF c l r with | some ⟨h,i⟩ => some ⟨p.v = q.v ∧ h,instDecidableAnd⟩ | none => none
  | .str _ :: c,.str p :: l,.str q :: r => match c with
    | [] => match l,r with | [],[] => some ⟨p = q,inferInstance⟩ | _,_ => none
    | _ :: _ => match tF c l r with | some ⟨h,i⟩ => some ⟨p = q ∧ h,instDecidableAnd⟩ | none => none
  | _,_,_ => none
theorem rW {sz : U → Nat} {σ : Nat → Value} {ρ : Nat → Nat} : ∀ {c l r : List CV} {F : List Value → List Value → (p : Prop) → Decidable p → Prop} {h : Prop} {i : Decidable h},nU c F → tF c l r = some ⟨h,i⟩ → F (l.map (CV.val sz σ ρ)) (r.map (CV.val sz σ ρ)) h i := by
  intro c
  induction c with
  | nil => intro l r F h i hq e; cases hq
  | cons x c ih =>
    intro l r F h i hq e
    unfold tF at e
    split at e
    · rename_i k0 z0 c' i' p l' j q r' hl
      obtain ⟨rfl,rfl⟩ := List.cons.inj hl
      split at e
      · rename_i h1
        split at e
        · rename_i h2
          obtain rfl := Me h1
          obtain rfl := Me h2
          unfold nU at hq
          split at e
          · split at e
            · cases e; exact hq p q
            · cases e
          · split at e
            · rename_i h' i' he
              cases e
              exact ih (F := fun l r h i => F (.int _ p :: l) (.int _ q :: r) (p = q ∧ h) instDecidableAnd) (hq p q) he
            · cases e
        · cases e
      · cases e
    · rename_i z0 c' p l' q r' hl
      obtain ⟨rfl,rfl⟩ := List.cons.inj hl
      unfold nU at hq
      split at e
      · split at e
        · cases e; exact hq p.v q.v
        · cases e
      · split at e
        · rename_i h' i' he
          cases e
          exact ih (F := fun l r h i => F (.bool p.v :: l) (.bool q.v :: r) (p.v = q.v ∧ h) instDecidableAnd) (hq p.v q.v) he
        · cases e
    · rename_i z0 c' p l' q r' hl
      obtain ⟨rfl,rfl⟩ := List.cons.inj hl
      unfold nU at hq
      split at e
      · split at e
        · cases e; exact hq p q
        · cases e
      · split at e
        · rename_i h' i' he
          cases e
          exact ih (F := fun l r h i => F (.string (bs p) :: l) (.string (bs q) :: r) (p = q ∧ h) instDecidableAnd) (hq p q) he
        · cases e
    · cases e
def Vc {α : Type _} (p : α → Prop) : List α → Prop | [] => True | a :: l => p a ∧ Vc p l
theorem Vc.mem {α : Type _} {p : α → Prop} : ∀ {l : List α},Vc p l → ∀ a ∈ l,p a
  | _ :: _,h,a,ha => by
    rcases List.mem_cons.1 ha with rfl | ha
    · exact h.1
    · exact Vc.mem h.2 a ha
def ikB (P : Program) (t : Nat) (k : IntKind) : Bool := match P.underlying t with | some (.int j) => Nat.beq (ki j) (ki k) | _ => false
def stB (P : Program) (t : Nat) : Bool := match P.underlying t with | some .string => true | _ => false
theorem qE {P : Program} {t : Nat} {k : IntKind} (h : ikB P t k = true) : P.underlying t = some (.int k) := by
  unfold ikB at h
  split at h
  · rename_i j hj; rw [hj,Me h]
  · cases h
theorem rL {P : Program} {t : Nat} (h : stB P t = true) : P.underlying t = some .string := by
  unfold stB at h
  split at h
  · assumption
  · cases h
def boB (P : Program) (t : Nat) : Bool := match P.underlying t with | some .bool => true | _ => false
def slB (E : TE) (P : Program) (t : Nat) (p : Nat × U × Nat) : Bool :=
  (match P.underlying t with | some (.slice e) => Nat.beq e p.1 | _ => false) && ((match (P.info? p.1).map (·.size) with | some s => Nat.beq s (E.sz p.2.1) | none => false) && ((match (P.info? p.1).map (·.bytes) with | some s => Nat.beq s p.2.2 | none => false) && ((match ((P.info? p.1).bind (·.zero)).map (·.cells.size) with | some s => Nat.beq s (E.sz p.2.1) | none => false) && Nat.blt 0 (E.sz p.2.1))))
theorem o9 {E : TE} {P : Program} {t e b : Nat} {u : U} (h : slB E P t (e,u,b) = true) : Et P t e (E.sz u) b := by
  unfold slB at h
  simp only [zg] at h
  obtain ⟨h1,h2,h3,h4,h5⟩ := h
  refine Et.of ?_ ?_ ?_ ?_ (zf h5)
  · split at h1
    · rename_i e' he; rw [he,ze h1]
    · cases h1
  · split at h2
    · rename_i s he; rw [he,ze h2]
    · cases h2
  · split at h3
    · rename_i s he; rw [he,ze h3]
    · cases h3
  · split at h4
    · rename_i s he; rw [he,ze h4]
    · cases h4
structure TbOk (E : TE) (P : Program) (tb : Tb) : Prop where
  mo : P.follows .mixedOrders = true
  tt : TtOk P tb.tt
  sl : (tb.sl.all fun p => slB E P p.1 p.2) = true
  ik : (tb.ik.all fun p => ikB P p.1 p.2) = true
  st : (tb.st.all fun p => stB P p.1) = true
  bo : (tb.bo.all fun t => boB P t) = true
  ar : (tb.ar.all fun p => arB P p.1 p.2) = true
  eq : Vc (fun p : Nat × List CV => P.eqGuardType P.depth p.1 = false ∧ nU p.2 fun l r h i => ∀ w,(Op.equalIn 10000 p.1 (.agg l.toArray) (.agg r.toArray)).run P w = .ok (@decide h i) w) tb.eq
  bt : Vc (fun p : Nat × List CV × List (Nat × Nat) => (∀ sz σ ρ,Bt P p.1 (p.2.1.map (CV.val sz σ ρ)) p.2.2) ∧ Bx (CV.wf 0 0) p.2.1 = true) tb.bt
  zr : ∀ p ∈ tb.zr, ∃ z,(P.info? p.1).bind (·.zero) = some z ∧ (∀ sz σ ρ,z.cells.toList = p.2.map (CV.val sz σ ρ)) ∧ Bx (CV.wf 0 0) p.2 = true
theorem TbOk.et {E : TE} {P : Program} {tb : Tb} (h : TbOk E P tb) {t e b : Nat} {u : U} (hf : CQ tb.sl t = some (e,u,b)) : Et P t e (E.sz u) b :=
  o9 (List.all_eq_true.1 h.sl _ (A8 hf))
theorem TbOk.int {E : TE} {P : Program} {tb : Tb} (h : TbOk E P tb) {t : Nat} {k : IntKind} (hf : CQ tb.ik t = some k) : P.underlying t = some (.int k) :=
  qE (List.all_eq_true.1 h.ik _ (A8 hf))
theorem TbOk.str {E : TE} {P : Program} {tb : Tb} (h : TbOk E P tb) {t : Nat} {x : Unit} (hf : CQ tb.st t = some x) : P.underlying t = some .string :=
  rL (List.all_eq_true.1 h.st _ (A8 hf))
theorem TbOk.array {E : TE} {P : Program} {tb : Tb} (h : TbOk E P tb) {t m e sz : Nat} (hf : CQ tb.ar t = some (m,e,sz)) : Ar P t m e sz :=
  sE (List.all_eq_true.1 h.ar _ (A8 hf))
theorem Za {α : Type} {l : List α} {j : Nat} {x : α} (h : l[j]? = some x) : ix l ((Int.ofNat j : Int)) = some x := by
  unfold ix; simp [h]
theorem Xr {j m : Nat} (h : Nat.blt j m = true) : ix (List.replicate m ()) ((Int.ofNat j : Int)) = some () := by
  refine Za ?_
  have := zf h
  rw [List.getElem?_replicate,if_pos (by omega)]
section
variable {β : Type _}
def Pl : List β → Nat → Option β
  | [],_ => none
  | x :: _,0 => some x
  | _ :: l,n + 1 => Pl l n
theorem Jg : ∀ {l : List β} {n : Nat},Pl l n = l[n]?
  | [],_ => rfl
  | x :: l,0 => rfl
  | _ :: l,n + 1 => by simpa [Pl] using Jg (l := l) (n := n)
def YI : Nat → List β → Option (List β)
  | 0,_ => some []
  | _ + 1,[] => none
  | n + 1,x :: l => match YI n l with | some r => some (x :: r) | none => none
theorem I7 : ∀ {n : Nat} {l r : List β},YI n l = some r → n ≤ l.length ∧ l.take n = r
  | 0,l,r,h => by cases h; exact ⟨Nat.zero_le _,rfl⟩
  | n + 1,[],r,h => nomatch h
  | n + 1,x :: l,r,h => by
    unfold YI at h
    split at h
    · rename_i r' e
      cases h
      obtain ⟨h1,h2⟩ := I7 e
      exact ⟨by simpa using h1,by rw [List.take_succ_cons,h2]⟩
    · cases h
def YJ : Nat → List β → List β
  | 0,l => l
  | _ + 1,[] => []
  | n + 1,_ :: l => YJ n l
theorem I1 : ∀ (n : Nat) (l : List β),YJ n l = l.drop n
  | 0,l => rfl
  | n + 1,[] => rfl
  | n + 1,_ :: l => I1 n l
end
def wP (agg : Bool) (sz : Nat) (cs : List CV) (o : Nat) : Option AV := match agg with
  | false => match Pl cs o with | some c => some (.one c) | none => none
  | true => match YI sz (YJ o cs) with | some l => some (.agg l) | none => none
theorem Yk {agg : Bool} {m o : Nat} {cs : List CV} {v : AV} {sz : U → Nat} {σ : Nat → Value} {ρ : Nat → Nat} {nz nb : Nat} (h0 : 0 < m) (h : wP agg m cs o = some v) :
    RP agg m (cs.map (CV.val sz σ ρ)) o = some (v.val sz σ ρ) ∧ (Bx (CV.wf nz nb) cs = true → v.wf nz nb = true) := by
  unfold wP at h
  split at h
  · split at h
    · rename_i c e
      cases h
      rw [Jg] at e
      exact ⟨by simp [RP,e,AV.val],fun hw => Ae.1 hw c (List.mem_of_getElem? e)⟩
    · cases h
  · split at h
    · rename_i l e
      cases h
      obtain ⟨h1,h2⟩ := I7 e
      rw [I1] at h1 h2
      rw [List.length_drop] at h1
      refine ⟨?_,fun hw => Ae.2 fun x hx => Ae.1 hw x (List.mem_of_mem_drop (List.mem_of_mem_take (by rw [h2]; exact hx)))⟩
      unfold RP
      rw [if_pos rfl,if_pos (by rw [zh]; omega)]
      simp only [AV.val, ← h2,List.map_take,List.map_drop]
    · cases h
section
variable {c : Nat → Type} {I : ZI c → Value → Prop}
theorem LR.drop : ∀ (o : Nat) {L : List (Leaf c)} {cs : List Value},LR I L cs → LR I (L.drop o) (cs.drop o)
  | 0,L,cs,h => h
  | o + 1,[],cs,h => by rw [show cs = [] from h]; rfl
  | o + 1,.v x :: L,cs,⟨v,r,e,_,_,h⟩ => by subst e; exact LR.drop o h
  | o + 1,.s z :: L,cs,⟨v,r,e,_,h⟩ => by subst e; exact LR.drop o h
theorem LR.take : ∀ (o : Nat) {L : List (Leaf c)} {cs : List Value},LR I L cs → LR I (L.take o) (cs.take o)
  | 0,L,cs,h => by simp [LR]
  | o + 1,[],cs,h => by rw [show cs = [] from h]; rfl
  | o + 1,.v x :: L,cs,⟨v,r,e,h1,h2,h⟩ => by subst e; exact ⟨v,r.take o,rfl,h1,h2,LR.take o h⟩
  | o + 1,.s z :: L,cs,⟨v,r,e,h1,h⟩ => by subst e; exact ⟨v,r.take o,rfl,h1,LR.take o h⟩
theorem LR.len : ∀ {L : List (Leaf c)} {cs : List Value},LR I L cs → cs.length = L.length
  | [],cs,h => by rw [show cs = [] from h]; rfl
  | .v x :: L,cs,⟨v,r,e,h1,h2,h⟩ => by subst e; simp [LR.len h]
  | .s z :: L,cs,⟨v,r,e,h1,h⟩ => by subst e; simp [LR.len h]
end
def yN (k : IntKind) (p q : Int) : BinOp → Option CV
  | .add => some (.int k (k.wrap (p + q)))
  | .sub => some (.int k (k.wrap (p - q)))
  | .mul => some (.int k (k.wrap (p * q)))
  | .lss => some (.bool (.dec (p < q) inferInstance))
  | .leq => some (.bool (.dec (p ≤ q) inferInstance))
  | .gtr => some (.bool (.dec (q < p) inferInstance))
  | .geq => some (.bool (.dec (q ≤ p) inferInstance))
  | .eql => some (.bool (.dec (p = q) inferInstance))
  | .neq => some (.bool (.dec (p ≠ q) inferInstance))
  | .and => some (.int k (U9 k p q))
  | .or => some (.int k (yZ k p q))
  | .xor => some (.int k (KV k p q))
  | .andNot => some (.int k (Ra k p q))
  | _ => none
def xH (p q : List UInt8) : BinOp → Option CV
  | .eql => some (.bool (.dec (p = q) inferInstance))
  | .neq => some (.bool (.dec (p ≠ q) inferInstance))
  | .lss => some (.bool (.tm (n0 p q)))
  | .leq => some (.bool (.tm (n0 p q || decide (p = q))))
  | .gtr => some (.bool (.tm (!(n0 p q || decide (p = q)))))
  | .geq => some (.bool (.tm (!(n0 p q))))
  | _ => none
def BX.not : BX → BX | .lit b => .lit (!b) | b => .tm (!b.v)
theorem BX.not_v (b : BX) : b.not.v = !b.v := by cases b <;> rfl
def YL : Bool × List CV → Option AV
  | (true,l) => some (.agg l)
  | (false,c :: _) => some (.one c)
  | (false,[]) => none
def oT : AV → Option (Bool × List CV)
  | .one c => some (false,[c])
  | .agg l => some (true,l)
  | _ => none
def oY : AV → Option CV
  | .one c => some c
  | _ => none
def Ws {α β : Type} (f : α → Option β) : List α → Option (List β)
  | [] => some []
  | x :: l => match f x with | some y => (match Ws f l with | some r => some (y :: r) | none => none) | none => none
theorem UT {α β : Type} {f : α → Option β} {x : α} {l : List α} {r : List β} (h : Ws f (x :: l) = some r) : ∃ y r',f x = some y ∧ Ws f l = some r' ∧ r = y :: r' := by
  unfold Ws at h
  split at h
  · rename_i y hy
    split at h
    · rename_i r' hr; cases h; exact ⟨y,r',hy,hr,rfl⟩
    · cases h
  · cases h
theorem WA {sz : U → Nat} {σ : Nat → Value} {ρ : Nat → Nat} {nz nb : Nat} : ∀ {l : List AV} {r : List (Bool × List CV)},Ws oT l = some r → l.map (AV.val sz σ ρ) = r.map (Kg sz σ ρ) ∧ ((∀ v ∈ l,v.wf nz nb = true) → Bx (fun p => Bx (CV.wf nz nb) p.2) r = true)
  | [],r,h => by cases h; exact ⟨rfl,fun _ => rfl⟩
  | x :: l,r,h => by
    obtain ⟨y,r',h1,h2,rfl⟩ := UT h
    obtain ⟨k1,k2⟩ := WA (sz := sz) (σ := σ) (ρ := ρ) (nz := nz) (nb := nb) h2
    refine ⟨?_,fun hw => Ae.2 fun p hp => ?_⟩
    · rw [zj,zj,k1]
      cases x <;> simp only [oT] at h1 <;> first | (cases h1; done) | (cases h1; rfl)
    · rcases List.mem_cons.1 hp with rfl | hp
      · have := hw x (List.mem_cons_self ..)
        cases x with
        | one c => cases h1; exact Ae.2 fun z hz => by rcases List.mem_singleton.1 hz with rfl; exact this
        | agg l => cases h1; exact this
        | tup l => cases h1
        | fnv f gs ps => cases h1
      · exact Ae.1 (k2 fun v hv => hw v (zd _ hv)) p hp
theorem WG {sz : U → Nat} {σ : Nat → Value} {ρ : Nat → Nat} {nz nb : Nat} : ∀ {l : List AV} {r : List CV},Ws oY l = some r → l.map (AV.val sz σ ρ) = r.map (CV.val sz σ ρ) ∧ ((∀ v ∈ l,v.wf nz nb = true) → Bx (CV.wf nz nb) r = true)
  | [],r,h => by cases h; exact ⟨rfl,fun _ => rfl⟩
  | x :: l,r,h => by
    obtain ⟨y,r',h1,h2,rfl⟩ := UT h
    obtain ⟨k1,k2⟩ := WG (sz := sz) (σ := σ) (ρ := ρ) (nz := nz) (nb := nb) h2
    refine ⟨?_,fun hw => Ae.2 fun p hp => ?_⟩
    · rw [zj,zj,k1]
      cases x <;> simp only [oY] at h1 <;> first | (cases h1; done) | (cases h1; rfl)
    · rcases List.mem_cons.1 hp with rfl | hp
      · have := hw x (List.mem_cons_self ..)
        cases x with
        | one c => cases h1; exact this
        | agg l => cases h1
        | tup l => cases h1
        | fnv f gs ps => cases h1
      · exact Ae.1 (k2 fun v hv => hw v (zd _ hv)) p hp
def QI : List CV → Nat → List CV → List CV
  | cs,_,[] => cs
  | cs,o,c :: r => QI (cs.set o c) (o + 1) r
theorem KT (f : CV → Value) : ∀ (vs : List CV) (cs : List CV) (o : Nat),(QI cs o vs).map f = Gv (cs.map f) o (vs.map f)
  | [],cs,o => rfl
  | v :: r,cs,o => by
    show (QI (cs.set o v) (o + 1) r).map f = Gv ((cs.map f).set o (f v)) (o + 1) (r.map f)
    rw [KT f r,List.map_set]
theorem U0 {nz nb : Nat} : ∀ (vs : List CV) (cs : List CV) (o : Nat),Bx (CV.wf nz nb) vs = true → Bx (CV.wf nz nb) cs = true → Bx (CV.wf nz nb) (QI cs o vs) = true
  | [],cs,o,h1,h2 => h2
  | v :: r,cs,o,h1,h2 => by
    have hv := Ae.1 h1
    refine U0 r (cs.set o v) (o + 1) (Ae.2 fun x hx => hv x (zd _ hx)) (Ae.2 fun x hx => ?_)
    rcases List.mem_or_eq_of_mem_set hx with h | rfl
    · exact Ae.1 h2 x h
    · exact hv x (List.mem_cons_self ..)
def AV.cells : AV → Option (List CV)
  | .one c => some [c]
  | .agg l => some l
  | _ => none
theorem YB (sz : U → Nat) (σ : Nat → Value) (ρ : Nat → Nat) : ∀ c : CV,(∀ z,c = .sl z → (σ z).oneCell' = true) → (c.val sz σ ρ).oneCell' = true
  | .int _ _,_ => rfl | .bool _,_ => rfl | .str _,_ => rfl | .flt _ _,_ => rfl | .nil,_ => rfl | .ptr _ _,_ => rfl | .ep _ _ _ _,_ => rfl | .fn _,_ => rfl
  | .sl z,h => h z rfl
def NT (pl : List (Nat × Nat)) : List CV → List (Nat × AV) → Option (List CV)
  | cs,[] => some cs
  | cs, (i, v) :: r => match Pl pl i with
    | some (off,m) => match v.cells with
      | some vs => match Nat.beq vs.length m with
        | true => match Nat.ble (off + vs.length) cs.length with
          | true => NT pl (QI cs off vs) r
          | false => none
        | false => none
      | none => none
    | none => none
theorem Pm {nz nb : Nat} {pl : List (Nat × Nat)} : ∀ {ps : List (Nat × AV)} {cs cs' : List CV},(∀ p ∈ ps,p.2.wf nz nb = true) → Bx (CV.wf nz nb) cs = true → NT pl cs ps = some cs' → Bx (CV.wf nz nb) cs' = true
  | [],cs,cs',_,hc,e => by cases e; exact hc
  | (i, v) :: r, cs, cs', hw, hc, e => by
    unfold NT at e
    split at e
    · rename_i off m hp
      split at e
      · rename_i vs hv
        split at e
        · split at e
          · refine Pm (fun p hp => hw p (zd _ hp)) (U0 vs cs off ?_ hc) e
            have h1 := hw (i,v) (List.mem_cons_self ..)
            cases v with
            | one c => cases hv; exact Ae.2 fun z hz => by rcases List.mem_singleton.1 hz with rfl; exact h1
            | agg l => cases hv; exact h1
            | tup l => cases hv
            | fnv f gs ps => cases hv
          · cases e
        · cases e
      · cases e
    · cases e
def TV {c : Nat → Type} (S : St c) : List (Nat × Operand) → Option (List (Nat × AV))
  | [] => some []
  | (i,x) :: l => match F2 S x with | some v => (match TV S l with | some r => some ((i,v) :: r) | none => none) | none => none
def arP (m sz : Nat) : List (Nat × Nat) := (List.range m).map fun i => (i * sz,sz)
theorem pT {m sz i : Nat} {x : Nat × Nat} (h : (arP m sz)[i]? = some x) : some (i * sz,sz) = some x := by
  unfold arP at h
  rw [List.getElem?_map] at h
  cases hr : (List.range m)[i]? with
  | none => rw [hr] at h; cases h
  | some j =>
    rw [hr] at h
    obtain ⟨hi,hj⟩ := List.getElem?_eq_some_iff.1 hr
    rw [List.getElem_range] at hj
    subst hj
    exact h
theorem Sj {f g : Nat → Option (Nat × Nat)} (h : ∀ i x,f i = some x → g i = some x) : ∀ {vp : List (Nat × Value)} {zs cs : List Value},HJ f zs vp = some cs → HJ g zs vp = some cs
  | [],zs,cs,e => e
  | (i, v) :: r, zs, cs, e => by
    unfold HJ at e ⊢
    split at e
    · cases e
    · rename_i off size hp
      rw [h _ _ hp]
      simp only
      split at e
      · rename_i hc
        rw [if_pos hc]
        exact Sj h e
      · cases e
def gL : CV → Bool | .sl _ => false | _ => true
def ZW : List (Nat × AV) → Bool
  | [] => true
  | (_,v) :: r => match v.cells with | some cs => (match Bx gL cs with | true => ZW r | false => false) | none => false
theorem Yb {sz : U → Nat} {σ : Nat → Value} {ρ : Nat → Nat} {v : AV} {cs : List CV} (hc : v.cells = some cs) (hf : Bx gL cs = true) : (v.val sz σ ρ).cells.toList = cs.map (CV.val sz σ ρ) := by
  cases v with
  | one c =>
    cases hc
    refine Nd (YB _ _ _ c fun z e => ?_)
    subst e
    exact absurd (Ae.1 hf _ (List.mem_cons_self ..)) (by simp [gL])
  | agg l => cases hc; rfl
  | tup l => cases hc
  | fnv f gs ps => cases hc
theorem RD {sz : U → Nat} {σ : Nat → Value} {ρ : Nat → Nat} {pl : List (Nat × Nat)} : ∀ {ps : List (Nat × AV)} {cs cs' : List CV},ZW ps = true → NT pl cs ps = some cs' → HJ (fun i => pl[i]?) (cs.map (CV.val sz σ ρ)) (ps.map fun p => (p.1,p.2.val sz σ ρ)) = some (cs'.map (CV.val sz σ ρ))
  | [],cs,cs',_,e => by cases e; rfl
  | (i, v) :: r, cs, cs', hk, e => by
    unfold ZW at hk
    unfold NT at e
    split at e
    · rename_i off m hp
      rw [Jg] at hp
      split at e
      · rename_i vs hv
        rw [hv] at hk
        simp only at hk
        split at hk
        · rename_i hk1
          have c1 := Yb (sz := sz) (σ := σ) (ρ := ρ) hv hk1
          split at e
          · rename_i hl
            split at e
            · rename_i hle
              have := RD (sz := sz) (σ := σ) (ρ := ρ) hk e
              rw [KT] at this
              show (match pl[i]? with | none => none | some (off,size) => if (v.val sz σ ρ).cells.toList.length = size ∧ off + (v.val sz σ ρ).cells.toList.length ≤ (cs.map (CV.val sz σ ρ)).length then HJ (fun i => pl[i]?) (Gv (cs.map (CV.val sz σ ρ)) off (v.val sz σ ρ).cells.toList) (r.map fun p : Nat × AV => (p.1,p.2.val sz σ ρ)) else none) = _
              rw [hp]
              simp only
              rw [c1,if_pos ⟨by rw [zh]; exact ze hl,by rw [zh,zh]; exact zf hle⟩]
              exact this
            · cases e
          · cases e
        · cases hk
      · cases e
    · cases e
def mX {c : Nat → Type} (tb : Tb) (S : St c) : Op → Option AV
  | .build t ⟨ps⟩ => match TV S ps with
    | some ps => match ZW ps with
      | true => match CQ tb.bt t with
        | some (zc,pl) => match NT pl zc ps with
          | some cs => some (.agg cs)
          | none => none
        | none => match CQ tb.ar t with
          | some (m,_,sz) => match CQ tb.zr t with
            | some zc => match NT (arP m sz) zc ps with
              | some cs => some (.agg cs)
              | none => none
            | none => none
          | none => none
      | false => none
    | none => none
  | .move x => F2 S x
  | .assign x => F2 S x
  | .pick x y z => match F2 S x with
    | some (.one (.bool (.lit true))) => F2 S y
    | some (.one (.bool (.lit false))) => F2 S z
    | _ => none
  | .binOp op T x y _ => match F2 S x with
    | some (.one (.int k p)) => match F2 S y with
      | some (.one (.int j q)) => match Nat.beq (ki k) (ki j) with
        | true => match yN k p q op with | some r => some (.one r) | none => none
        | false => none
      | _ => none
    | some (.one (.str p)) => match F2 S y with
      | some (.one (.str q)) => match xH p q op with | some r => some (.one r) | none => none
      | _ => none
    | some (.one (.bool p)) => match F2 S y with
      | some (.one (.bool q)) => match tb.bo.contains T with
        | true => match op with
          | .eql => some (.one (.bool (.dec (p.v = q.v) inferInstance)))
          | .neq => some (.one (.bool (.dec (p.v ≠ q.v) inferInstance)))
          | _ => none
        | false => none
      | _ => none
    | some (.agg l) => match F2 S y with
      | some (.agg r) => match CQ tb.eq T with
        | some c => match tF c l r with
          | some ⟨h,i⟩ => match op with
            | .eql => some (.one (.bool (.dec h i)))
            | .neq => some (.one (.bool (.tm (!(@decide h i)))))
            | _ => none
          | none => none
        | none => none
      | _ => none
    | _ => none
  | .unOp .not _ x => match F2 S x with
    | some (.one (.bool b)) => some (.one (.bool b.not))
    | _ => none
  | .unOp .neg _ x => match F2 S x with
    | some (.one (.int k p)) => some (.one (.int k (k.wrap (0 - p))))
    | _ => none
  | .extract x i => match F2 S x with
    | some (.tup l) => match Pl l i with | some p => YL p | none => none
    | _ => none
  | .field t x i => match F2 S x with
    | some (.agg l) => match Vd tb.tt.1 t i with
      | some (o,agg,m + 1) => wP agg (m + 1) l o
      | _ => none
    | _ => none
  | .fieldAddr t x i => match F2 S x with
    | some (.one (.ptr b o)) => match Vd tb.tt.1 t i with
      | some (o',_,_ + 1) => some (.one (.ptr b (o + o')))
      | _ => none
    | some (.one (.ep z u j o)) => match Vd tb.tt.1 t i with
      | some (o',_,_ + 1) => some (.one (.ep z u j (o + o')))
      | _ => none
    | _ => none
  | .indexAddr t x i => match F2 S x with
    | some (.one (.ptr b o)) => match F2 S i with
      | some (.one (.int _ (.ofNat j))) => match CQ tb.ar t with
        | some (m,_,sz) => match Nat.blt j m with | true => some (.one (.ptr b (o + j * sz))) | false => none
        | none => none
      | _ => none
    | some (.one (.ep z u q o)) => match F2 S i with
      | some (.one (.int _ (.ofNat j))) => match CQ tb.ar t with
        | some (m,_,sz) => match Nat.blt j m with | true => some (.one (.ep z u q (o + j * sz))) | false => none
        | none => none
      | _ => none
    | _ => none
  | .index t x i => match F2 S x with
    | some (.agg l) => match F2 S i with
      | some (.one (.int _ (.ofNat j))) => match CQ tb.ar t with
        | some (m,e,1) => match Nat.beq l.length m with
          | true => match TX tb.tt.2 e with
            | some (false,1) => match Pl l j with | some c => some (.one c) | none => none
            | _ => none
          | false => none
        | _ => none
      | _ => none
    | _ => none
  | .load t x => match F2 S x with
    | some (.one (.ptr b o)) => match CQ S.M b with
      | some (_,cs) => match TX tb.tt.2 t with
        | some (agg,m + 1) => wP agg (m + 1) cs o
        | _ => none
      | none => none
    | _ => none
  | .call ⟨.builtin .len,⟨[x]⟩,⟨t :: r⟩⟩ => match F2 S x with
    | some (.one (.sl z)) => match CQ S.Z z with
      | some (_,⟨_,_,l⟩) => match CQ tb.sl t with
        | some _ => some (.one (.int .i64 (l.length : Int)))
        | none => none
      | none => none
    | some (.one .nil) => match CQ tb.sl t with
      | some _ => some (.one (.int .i64 0))
      | none => none
    | some (.one (.str l)) => match CQ tb.st t with
      | some _ => some (.one (.int .i64 (l.length : Int)))
      | none => none
    | _ => none
  | .convert s d x => match F2 S x with
    | some (.one (.int k p)) => match CQ tb.ik s with
      | some k1 => match Nat.beq (ki k1) (ki k) with
        | true => match CQ tb.ik d with
          | some k2 => some (.one (.int k2 (k2.wrap p)))
          | none => none
        | false => none
      | none => none
    | _ => none
  | .call ⟨.builtin .max,⟨[x,y]⟩,_⟩ => match F2 S x,F2 S y with
    | some (.one (.int k p)),some (.one (.int j q)) => match Nat.beq (ki k) (ki j) with
      | true => some (.one (.int k (max p q)))
      | false => none
    | _,_ => none
  | .call ⟨.builtin .min,⟨[x,y]⟩,_⟩ => match F2 S x,F2 S y with
    | some (.one (.int k p)),some (.one (.int j q)) => match Nat.beq (ki k) (ki j) with
      | true => some (.one (.int k (min p q)))
      | false => none
    | _,_ => none
  | .nilCheck x => match F2 S x with
    | some (.one (.ptr b o)) => some (.one (.ptr b o))
    | some (.one (.ep z u i o)) => some (.one (.ep z u i o))
    | _ => none
  | .makeFunc (.func f) ⟨xs⟩ ⟨ys⟩ => match Uc S xs with
    | some us => match Ws oT us with
      | some gs => match Uc S ys with
        | some vs => match Ws oY vs with
          | some ps => some (.fnv f gs ps)
          | none => none
        | none => none
      | none => none
    | none => none
  | _ => none
section
variable {E : TE} {P : Program} {B : Bs} {θ : Pin} {n : Nat} {ds : List Deferred} {S : St E.c} {a : Act} {w : World} {σ : Nat → Value} {ρ : Nat → Nat} {ι : Nat → It} {M : CU} {Z : List It}
theorem Rel.rdc (h : Rel E B θ n ds S a w σ ρ ι) (hZ : ∀ z ∈ S.zz ι,z ∈ Z) {z ver : Nat} {x : ZI E.c} (e : CQ S.Z z = some (ver,x)) : ∃ lx,lx.map Prod.snd = x.l ∧ ι z = P9 E B (σ z) x.k x.u lx ∧ T9 B M Z (x.u.rp E.r).seen (σ z) lx := by
  have hm := A8 e
  obtain ⟨lx,h1,h2⟩ := h.it _ hm
  have hin : ι z ∈ Z := hZ _ (List.mem_map.2 ⟨_,hm,rfl⟩)
  refine ⟨lx,h1,h2, ?_⟩
  obtain ⟨k,u,l⟩ := x
  simp only at h2
  rw [h2] at hin
  cases k with
  | own e => exact XB hin
  | frz => exact Wa hin
  | rd => exact fun w hw => Ek (hw.items _ hin : Sl B.w0 (NX B.X) _ _ _) w hw
variable {dst : Option Tmp} {ty : TypeId} {pos : String} {aft : Array Edge} {g : Option (Nat × Bool)}
theorem Tl {tt : Tt} (T : TtOk P tt) {t : Nat} {agg : Bool} {m : Nat} (e : TX tt.2 t = some (agg,m)) : Ty P t agg m := U6 T.g e
theorem OA (h : Rel E B θ n ds S a w σ ρ ι) : ∀ {l : List (Nat × Operand)} {ps : List (Nat × AV)},TV S l = some ps → lV (S.ff E σ ρ) l = some (ps.map fun p => (p.1,p.2.val E.sz σ ρ)) ∧ ∀ p ∈ ps,p.2.wf S.nz S.nb = true
  | [],ps,e => by cases e; exact ⟨rfl,fun _ h => nomatch h⟩
  | (i, x) :: l, ps, e => by
    unfold TV at e
    split at e
    · rename_i v e1
      split at e
      · rename_i r e2
        cases e
        have h1 := h.op e1
        have h2 := OA h e2
        exact ⟨by simp only [lV,h1.1,h2.1,zj],fun y hy => by
          rcases List.mem_cons.1 hy with rfl | hy
          · exact h1.2
          · exact h2.2 y hy⟩
      · cases e
    · cases e
theorem RN {tb : Tb} (T : TbOk E P tb) (h : Rel E B θ n ds S a w σ ρ ι) (hM : ∀ p ∈ S.mm E σ ρ,p ∈ M) (hZ : ∀ z ∈ S.zz ι,z ∈ Z) {op : Op} {v : AV} (e : mX tb S op = some v) :
    Yx P B M Z a ⟨dst,op,ty,pos,aft,g⟩ (v.val E.sz σ ρ) ∧ v.wf S.nz S.nb = true := by
  have hF := h.fr
  unfold mX at e
  split at e
  · split at e
    · rename_i ps hps
      split at e
      · rename_i hfl
        split at e
        · rename_i zc pl hbt
          split at e
          · rename_i cs hcs
            cases e
            obtain ⟨hB,hzw⟩ := Vc.mem T.bt _ (A8 hbt)
            obtain ⟨p1,p2⟩ := OA h hps
            exact ⟨IC (hB E.sz σ ρ) hF p1 (RD hfl hcs) rfl,Pm p2 (Dj (fun _ => CV.wf_mono (Nat.zero_le _) (Nat.zero_le _)) hzw) hcs⟩
          · cases e
        · split at e
          · rename_i m e' sz ha
            split at e
            · rename_i zc hz
              split at e
              · rename_i cs hcs
                cases e
                obtain ⟨z,hz1,hz2,hzw⟩ := T.zr _ (A8 hz)
                obtain ⟨p1,p2⟩ := OA h hps
                exact ⟨Wk (T.array ha) ⟨z,hz1,Array.toList_inj.1 (by rw [hz2 E.sz σ ρ])⟩ hF p1 (Sj (fun i x hx => pT hx) (RD hfl hcs)) rfl,Pm p2 (Dj (fun _ => CV.wf_mono (Nat.zero_le _) (Nat.zero_le _)) hzw) hcs⟩
              · cases e
            · cases e
          · cases e
      · cases e
    · cases e
  · have := h.op e; exact ⟨Gr hF this.1,this.2⟩
  · have := h.op e; exact ⟨Px hF this.1,this.2⟩
  · split at e
    · rename_i hx
      have h1 := h.op hx; have h2 := h.op e
      exact ⟨Tu hF h1.1 rfl h2.1,h2.2⟩
    · rename_i hx
      have h1 := h.op hx; have h2 := h.op e
      exact ⟨RR hF h1.1 rfl h2.1,h2.2⟩
    · cases e
  · rename_i op T' x y _
    split at e
    · rename_i k p hx
      split at e
      · rename_i j q hy
        split at e
        · rename_i hk
          obtain rfl := Me hk
          have h1 := (h.op hx).1; have h2 := (h.op hy).1
          split at e
          · rename_i r hr
            cases e
            cases op <;> simp only [yN] at hr <;> first | (cases hr; done) | (obtain rfl := Option.some.inj hr)
            all_goals refine ⟨?_,rfl⟩
            all_goals first | exact gF hF h1 h2 rfl | exact YA hF h1 h2 rfl | exact nG hF h1 h2 rfl | exact eI hF h1 h2 | exact oB hF h1 h2 | exact gR hF h1 h2 | exact oA hF h1 h2 | exact nF hF h1 h2 | exact nP hF h1 h2 | exact oF hF h1 h2 | exact vH hF h1 h2 | exact nA hF h1 h2 | exact Wz hF h1 h2
          · cases e
        · cases e
      · cases e
    · rename_i p hx
      split at e
      · rename_i q hy
        have h1 := (h.op hx).1; have h2 := (h.op hy).1
        split at e
        · rename_i r hr
          cases e
          cases op <;> simp only [xH] at hr <;> first | (cases hr; done) | (obtain rfl := Option.some.inj hr)
          all_goals refine ⟨?_,rfl⟩
          all_goals first | exact yK hF h1 h2 | exact uJ hF h1 h2 | exact uH hF h1 h2 | exact xM hF h1 h2 | exact t6 hF h1 h2 | exact yQ hF h1 h2
        · cases e
      · cases e
    · rename_i p hx
      split at e
      · rename_i q hy
        have h1 := (h.op hx).1; have h2 := (h.op hy).1
        split at e
        · rename_i hb
          have hu := List.all_eq_true.1 T.bo _ (List.contains_iff_mem.1 hb)
          unfold boB at hu
          split at hu
          · rename_i hu'
            split at e
            · cases e; exact ⟨vR hu' hF h1 h2,rfl⟩
            · cases e; exact ⟨vP hu' hF h1 h2,rfl⟩
            · cases e
          · cases hu
        · cases e
      · cases e
    · rename_i l hx
      split at e
      · rename_i r hy
        have h1 := (h.op hx).1; have h2 := (h.op hy).1
        split at e
        · rename_i c hc
          obtain ⟨hg,hq⟩ := Vc.mem T.eq _ (A8 hc)
          split at e
          · rename_i h' i' he
            have hh := rW (sz := E.sz) (σ := σ) (ρ := ρ) hq he
            split at e
            · cases e; exact ⟨n8 hg hh hF h1 h2,rfl⟩
            · cases e; exact ⟨oD hg hh hF h1 h2,rfl⟩
            · cases e
          · cases e
        · cases e
      · cases e
    · cases e
  · split at e
    · rename_i b hx
      cases e
      refine ⟨?_,rfl⟩
      have := nX (dst := dst) (ty := ty) (pos := pos) (aft := aft) (g := g) (P := P) (B := B) (M := M) (Z := Z) (T := ‹TypeId›) hF (h.op hx).1
      show Yx P B M Z a _ (.bool b.not.v)
      rw [BX.not_v]; exact this
    · cases e
  · split at e
    · rename_i k p hx
      cases e
      exact ⟨tX hF (h.op hx).1 rfl,rfl⟩
    · cases e
  · split at e
    · rename_i l hx
      have h1 := h.op hx
      split at e
      · rename_i p hp
        rw [Jg] at hp
        have hw := Ae.1 h1.2 p (List.mem_of_getElem? hp)
        obtain ⟨b,l'⟩ := p
        unfold YL at e
        split at e <;> rename_i he
        · cases e; cases he; exact ⟨Hy (vs := l.map (Kg E.sz σ ρ)) hF h1.1 (by rw [List.getElem?_map,hp]; rfl),hw⟩
        · cases e; cases he; exact ⟨Hy (vs := l.map (Kg E.sz σ ρ)) hF h1.1 (by rw [List.getElem?_map,hp]; rfl),Ae.1 hw _ (List.mem_cons_self ..)⟩
        · cases e
      · cases e
    · cases e
  · split at e
    · rename_i l hx
      have h1 := h.op hx
      split at e
      · rename_i o agg m hf
        obtain ⟨fs,f,g1,g2,g3,g4⟩ := T.tt.at hf
        have h2 := Yk (sz := E.sz) (σ := σ) (ρ := ρ) (nz := S.nz) (nb := S.nb) (Nat.succ_pos _) e
        exact ⟨Y9 (cs := l.map (CV.val E.sz σ ρ)) g1 g2 rfl g3 g4 hF h1.1 h2.1,h2.2 h1.2⟩
      · cases e
    · cases e
  · split at e
    · rename_i b o hx
      have h1 := h.op hx
      split at e
      · rename_i o' agg m hf
        obtain ⟨fs,f,g1,g2,g3,g4⟩ := T.tt.at hf
        cases e
        exact ⟨Cd g1 g2 g3 rfl g4 hF h1.1 _ rfl,h1.2⟩
      · cases e
    · rename_i z u j o hx
      have h1 := h.op hx
      split at e
      · rename_i o' agg m hf
        obtain ⟨fs,f,g1,g2,g3,g4⟩ := T.tt.at hf
        cases e
        exact ⟨Cd g1 g2 g3 rfl g4 hF h1.1 _ (Nat.add_assoc _ _ _),h1.2⟩
      · cases e
    · cases e
  · rename_i t x i
    split at e
    · rename_i b o hx
      have h1 := h.op hx
      split at e
      · rename_i k j hi
        have h2 := h.op hi
        split at e
        · rename_i m e' sz ha
          split at e
          · rename_i hj
            cases e
            exact ⟨HV _ (T.array ha) hF h1.1 h2.1 (List.length_replicate ..) (Xr hj) rfl,h1.2⟩
          · cases e
        · cases e
      · cases e
    · rename_i z u q o hx
      have h1 := h.op hx
      split at e
      · rename_i k j hi
        have h2 := h.op hi
        split at e
        · rename_i m e' sz ha
          split at e
          · rename_i hj
            cases e
            exact ⟨HV _ (T.array ha) hF h1.1 h2.1 (List.length_replicate ..) (Xr hj) (Nat.add_assoc _ _ _),h1.2⟩
          · cases e
        · cases e
      · cases e
    · cases e
  · rename_i t x i
    split at e
    · rename_i l hx
      have h1 := h.op hx
      split at e
      · rename_i k j hi
        have h2 := h.op hi
        split at e
        · rename_i m e' ha
          split at e
          · rename_i hm
            split at e
            · rename_i ht
              split at e
              · rename_i c hc
                cases e
                rw [Jg] at hc
                refine ⟨i4 (l := l) (enc := CV.val E.sz σ ρ) (T.array ha) (Tl T.tt ht) hF h1.1 h2.1 (ze hm) rfl ?_,Ae.1 h1.2 c (List.mem_of_getElem? hc)⟩
                exact Za hc
              · cases e
            · cases e
          · cases e
        · cases e
      · cases e
    · cases e
  · split at e
    · rename_i b o hx
      have h1 := h.op hx
      split at e
      · rename_i ver cs hb
        split at e
        · rename_i agg m ht
          have hm := A8 hb
          have h2 := Yk (sz := E.sz) (σ := σ) (ρ := ρ) (nz := S.nz) (nb := S.nb) (Nat.succ_pos _) e
          exact ⟨EW hF h1.1 (hM _ (List.mem_map.2 ⟨_,hm,rfl⟩)) (Tl T.tt ht) h2.1,h2.2 (h.wM _ hm).2.2⟩
        · cases e
      · cases e
    · cases e
  · rename_i x t r
    split at e
    · rename_i z hx
      have h1 := h.op hx
      split at e
      · rename_i ver k u l hz
        split at e
        · rename_i q ht
          cases e
          obtain ⟨e',u',b'⟩ := q
          have E1 := T.et ht
          obtain ⟨lx,h2,_,h3⟩ := h.rdc (M := M) hZ hz
          refine ⟨?_,rfl⟩
          have := Pe (dst := dst) (ty := ty) (pos := pos) (aft := aft) (g := g) (P := P) (ts := ⟨t :: r⟩) E1.desc (by rfl) hF h1.1 h3
          have hl : lx.length = l.length := by
            have := congrArg List.length h2
            simpa using this
          rw [hl] at this
          exact this
        · cases e
      · cases e
    · rename_i hx
      have h1 := h.op hx
      split at e
      · rename_i q ht
        cases e
        obtain ⟨e',u',b'⟩ := q
        exact ⟨Pe (l := ([] : List Int)) (r := Rp.int .i64) (ts := ⟨t :: r⟩) (T.et ht).desc (by rfl) hF h1.1 kN,rfl⟩
      · cases e
    · rename_i l hx
      have h1 := h.op hx
      split at e
      · rename_i q ht
        cases e
        exact ⟨oR (ts := ⟨t :: r⟩) (T.str ht) (by rfl) hF h1.1,rfl⟩
      · cases e
    · cases e
  · rename_i sT dT x
    split at e
    · rename_i k p hx
      have h1 := h.op hx
      split at e
      · rename_i k1 hk1
        split at e
        · rename_i hk
          obtain rfl := Me hk
          split at e
          · rename_i k2 hk2
            cases e
            exact ⟨jI (T.int hk1) (T.int hk2) hF h1.1,rfl⟩
          · cases e
        · cases e
      · cases e
    · cases e
  · split at e
    · rename_i k p j q hx hy
      split at e
      · rename_i hk
        obtain rfl := Me hk
        cases e
        exact ⟨vG hF (h.op hx).1 (h.op hy).1,rfl⟩
      · cases e
    · cases e
  · split at e
    · rename_i k p j q hx hy
      split at e
      · rename_i hk
        obtain rfl := Me hk
        cases e
        exact ⟨wL hF (h.op hx).1 (h.op hy).1,rfl⟩
      · cases e
    · cases e
  · split at e
    · rename_i hx
      cases e
      exact ⟨Rw hF (h.op hx).1,(h.op hx).2⟩
    · rename_i hx
      cases e
      exact ⟨Rw hF (h.op hx).1,(h.op hx).2⟩
    · cases e
  · split at e
    · rename_i us hus
      split at e
      · rename_i gs hgs
        split at e
        · rename_i vs hvs
          split at e
          · rename_i ps hps
            cases e
            obtain ⟨u1,u2⟩ := h.ops hus
            obtain ⟨v1,v2⟩ := h.ops hvs
            obtain ⟨g1,g2⟩ := WA (sz := E.sz) (σ := σ) (ρ := ρ) (nz := S.nz) (nb := S.nb) hgs
            obtain ⟨p1,p2⟩ := WG (sz := E.sz) (σ := σ) (ρ := ρ) (nz := S.nz) (nb := S.nb) hps
            refine ⟨?_, ?_⟩
            · have := Yu (dst := dst) (ty := ty) (pos := pos) (aft := aft) (g := g) (P := P) (B := B) (M := M) (Z := Z) (k := .func ‹Nat›) hF u1 v1
              rw [g1,p1] at this
              exact this
            · show (match Bx (CV.wf S.nz S.nb) ps with | true => _ | false => false) = true
              rw [p2 v2]; exact g2 u2
          · cases e
        · cases e
      · cases e
    · cases e
  · cases e
end
end Go.Proofs.YtkhiflmalgkjiaaGreat
