/- A function: its contract by a walk that is computed. Conditions: none. -/
import Derived.Test.YtkhiflmalgkjiaaGreatfHY
import Derived.Test.YtkhiflmalgkjiaaGreatfOT
set_option linter.unusedVariables false
set_option linter.unusedSimpArgs false
open Go Go.RowKit
namespace Go.Proofs.YtkhiflmalgkjiaaGreat
def Ui : Nat → Nat → List CV
  | _,0 => []
  | j,m + 1 => .ptr j 0 :: Ui (j + 1) m
def VG : Sh → Nat
  | [] => 0
  | (.b _,_) :: r => VG r
  | (.p,_) :: r => VG r + 1
  | (.fn _ _ m,_) :: r => VG r + m
def Sv (E : TE) {c : Nat → Type} : Sh → Nat → Nat → List CV → St c → Option (St c)
  | [],_,_,_,S => some S
  | (.b q,l) :: r,i,j,cs,S => match w7 q (cs.take (Au E l)) with
    | some v => Sv E r (i + 1) j (cs.drop (Au E l)) (S.put i v)
    | none => none
  | (.p,l) :: r,i,j,cs,S => Sv E r (i + 1) (j + 1) (cs.drop (Au E l)) (S.put i (.one (.ptr j 0)))
  | (.fn f gs m,l) :: r,i,j,cs,S => Sv E r (i + 1) (j + m) (cs.drop (Au E l)) (S.put i (.fnv f (WX gs (cs.take (Au E l))) (Ui j m)))
def Lw (E : TE) {c : Nat → Type} : Bk → List CV → St c → St c
  | [],_,S => S
  | (_,l) :: bs,cs,S => Lw E bs (cs.drop (Au E l)) (S.addM (cs.take (Au E l)))
def Wu (tb : Tb) {c : Nat → Type} (S : St c) : List ResultVar → Option (List AV)
  | [] => some []
  | .tmp t :: r => match CQ S.F t with
    | some (_,v) => match Wu tb S r with | some l => some (v :: l) | none => none
    | none => none
  | .cell p t :: r => match CQ S.F p with
    | some (_,.one (.ptr b o)) => match CQ S.M b with
      | some (_,cs) => match TX tb.tt.2 t with
        | some (agg,m + 1) => match wP agg (m + 1) cs o with
          | some v => match Wu tb S r with | some l => some (v :: l) | none => none
          | none => none
        | _ => none
      | none => none
    | _ => none
def XP : Bk → List (Nat × Nat × List CV) → List Nat → Option (List CV)
  | [],[],[] => some []
  | (true,_) :: bs,(_,_,cs) :: es,_ :: vs => match XP bs es vs with | some s => some (cs ++ s) | none => none
  | (false,_) :: bs,(_,ver,_) :: es,v :: vs => match Nat.beq ver v with | true => XP bs es vs | false => none
  | _,_,_ => none
def bB : Nat → Nat → List Nat
  | _,0 => []
  | j,n + 1 => j :: bB (j + 1) n
def WY {c : Nat → Type} (S : St c) : List Nat → List Nat
  | [] => []
  | j :: js => (match CQ S.M j with | some (v,_) => v | none => S.nv) :: WY S js
def pS (E : TE) (tb : Tb) (xs ys : Sh) (bs : Bk) (io : Bool) (rv : List ResultVar) (cs : List CV) (vs0 : List Nat) (S : St E.c) : Tree (TT E.c (IX xs ys bs io)) :=
  Nw (Wu tb S rv) fun vs => Nw (Ix E ys vs) fun c1 => match c1.2 with
    | [] => Nw (aT S.M (bB 0 bs.length)) fun es => match bT E bs es.1 with
      | true => Nw (XP bs es.1 vs0) fun mc => Nw (pk E false (IX xs ys bs io) S (match io with | true => c1.1 ++ (mc ++ Si E (flt xs) cs) | false => c1.1 ++ mc)) fun p => match Q7 E (IX xs ys bs io) p.1 with | some _ => .ret p.1 | none => .fail
      | false => .fail
    | _ => .fail
def dF (E : TE) {P : Program} (tb : Tb) (G : Hq E P) (n : Nat) (c : Code) (ct : Ct) (xs ys : Sh) (bs : Bk) (io : Bool) (rv : List ResultVar) (x : TT E.c (Dp xs bs)) : Tree (TT E.c (IX xs ys bs io)) :=
  match Nat.beq (VG xs) bs.length with
  | true => Nw (Q7 E (Dp xs bs) x) fun L => match injS (St.emp E.c) L with
    | (cs,S1) => Nw (Sv E xs 0 0 cs (Lw E bs (cs.drop (Au E (flt xs))) S1)) fun S2 => dC E tb G n c ct S2 fun e S' => match e with
      | .x _ => .fail
      | _ => pS E tb xs ys bs io rv cs (WY S2 (bB 0 bs.length)) S'
  | false => .fail
section
variable {E : TE} {P : Program} {B : Bs} {θ : Pin} {n : Nat} {ds : List Deferred} {S : St E.c} {a : Act} {w : World} {σ : Nat → Value} {ρ : Nat → Nat} {ι : Nat → It}
theorem eQ {mb : List Nat} : ∀ {j m : Nat},(∀ k b,mb[k]? = some b → ρ (j + k) = b) → m ≤ mb.length → (Ui j m).map (CV.val E.sz σ ρ) = (mb.take m).map fun b => .pointer (some ⟨b,0,none⟩) := by
  induction mb with
  | nil =>
    intro j m h hm
    cases m with
    | zero => rfl
    | succ m => exact absurd hm (by simp)
  | cons b mb ih =>
    intro j m h hm
    cases m with
    | zero => rfl
    | succ m =>
      show Value.pointer (some ⟨ρ j,0,none⟩) :: (Ui (j + 1) m).map _ = .pointer (some ⟨b,0,none⟩) :: (mb.take m).map _
      have h0 := h 0 b rfl
      rw [Nat.add_zero] at h0
      rw [h0,ih (fun k b hk => by rw [Nat.add_assoc,Nat.add_comm 1 k]; exact h (k + 1) b hk) (by simpa using hm)]
theorem Zv {nz nb : Nat} : ∀ {j m : Nat},j + m ≤ nb → Bx (CV.wf nz nb) (Ui j m) = true
  | j,0,_ => rfl
  | j,m + 1,h => by
    show (match Nat.blt j nb with | true => Bx _ (Ui (j + 1) m) | false => false) = true
    rw [show Nat.blt j nb = true from Nat.ble_eq_true_of_le (by omega)]
    exact Zv (by omega)
theorem YU : ∀ (gs : List (Bool × Nat)) (cs : List CV),(WX gs cs).map (Kg E.sz σ ρ) = UW gs (cs.map (CV.val E.sz σ ρ))
  | [],cs => rfl
  | (b,k) :: r,cs => by
    show Kg E.sz σ ρ (b,cs.take _) :: (WX r (cs.drop _)).map _ = fH b ((cs.map _).take _) :: UW r ((cs.map _).drop _)
    rw [YU r, ← List.map_take, ← List.map_drop]
    congr 1
    cases b with
    | true => rfl
    | false => cases cs.take k <;> rfl
theorem YF {nz nb : Nat} : ∀ (gs : List (Bool × Nat)) (cs : List CV),Bx (CV.wf nz nb) cs = true → Bx (fun p => Bx (CV.wf nz nb) p.2) (WX gs cs) = true
  | [],cs,h => rfl
  | (b,k) :: r,cs,h => Ae.2 fun p hp => by
    rcases List.mem_cons.1 hp with rfl | hp
    · exact Ae.2 fun c hc => Ae.1 h c (List.mem_of_mem_take hc)
    · exact Ae.1 (YF r _ (Ae.2 fun c hc => Ae.1 h c (List.mem_of_mem_drop hc))) p hp
theorem Q6 : ∀ {xs : Sh} {i j : Nat} {cs : List CV} {mb : List Nat} {S S' : St E.c} {F : List (Nat × Value)},Rel E B θ n ds S a w σ ρ ι → Fr n ds F a → (∀ k v,(Hj E xs (cs.map (CV.val E.sz σ ρ)) mb)[k]? = some v → lk F (i + k) = some v) → (∀ k b,mb[k]? = some b → ρ (j + k) = b) → VG xs = mb.length → j + mb.length ≤ S.nb → Bx (CV.wf S.nz S.nb) cs = true → Sv E xs i j cs S = some S' → Rel E B θ n ds S' a w σ ρ ι
  | [],i,j,cs,mb,S,S',F,h,hF,hv,hb,hp,hn,hw,e => by cases e; exact h
  | (g, l) :: r, i, j, cs, mb, S, S', F, h, hF, hv, hb, hp, hn, hw, e => by
    have hwt : Bx (CV.wf S.nz S.nb) (cs.take (Au E l)) = true := Ae.2 fun c hc => Ae.1 hw c (List.mem_of_mem_take hc)
    have hwd : Bx (CV.wf S.nz S.nb) (cs.drop (Au E l)) = true := Ae.2 fun c hc => Ae.1 hw c (List.mem_of_mem_drop hc)
    have put : ∀ v : AV,v.wf S.nz S.nb = true → lk F i = some (v.val E.sz σ ρ) → Rel E B θ n ds (S.put i v) a w σ ρ ι := fun v hv1 hv2 => h.put hv1 ⟨h.fr.size,h.fr.defers,fun q u hj => by
      by_cases hq : i = q
      · subst hq; rw [CX] at hj; cases hj; exact hF.slots _ _ hv2
      · rw [Dh hq] at hj; exact h.fr.slots q u hj⟩
    cases g with
    | b q =>
      have e : (match w7 q (cs.take (Au E l)) with | some v => Sv E r (i + 1) j (cs.drop (Au E l)) (S.put i v) | none => none) = some S' := e
      split at e
      · rename_i v hm
        obtain ⟨v1,v2⟩ := eU (σ := σ) (ρ := ρ) (nz := S.nz) (nb := S.nb) hm
        have h0 := hv 0 _ rfl
        refine Q6 (xs := r) (mb := mb) (put v (v2 hwt) (by rw [v1,List.map_take]; exact h0)) hF (fun k u hk => ?_) hb hp hn hwd e
        have := hv (k + 1) u (by rw [List.map_drop] at hk; exact hk)
        rw [show i + 1 + k = i + (k + 1) by omega]; exact this
      · cases e
    | p =>
      cases mb with
      | nil => exact absurd hp (by simp [VG])
      | cons b mb =>
        have h0 := hv 0 _ rfl
        have hb0 := hb 0 b rfl
        rw [Nat.add_zero] at hb0
        refine Q6 (xs := r) (mb := mb) (put (.one (.ptr j 0)) (Nat.ble_eq_true_of_le (by simp at hn; omega)) ?_) hF (fun k u hk => ?_) (fun k b hk => by rw [Nat.add_assoc,Nat.add_comm 1 k]; exact hb (k + 1) b hk) (by simpa [VG] using hp) (by simp at hn; show j + 1 + mb.length ≤ S.nb; omega) hwd e
        · show _ = some (Value.pointer (some ⟨ρ j,0,none⟩))
          rw [hb0]; exact h0
        · have := hv (k + 1) u (by rw [List.map_drop] at hk; exact hk)
          rw [show i + 1 + k = i + (k + 1) by omega]; exact this
    | fn f gs m =>
      have h0 := hv 0 _ rfl
      have hm : m ≤ mb.length := by have : VG r + m = mb.length := hp; omega
      refine Q6 (xs := r) (mb := mb.drop m) (put (.fnv f (WX gs (cs.take (Au E l))) (Ui j m)) ?_ ?_) hF (fun k u hk => ?_) (fun k b hk => ?_) ?_ ?_ hwd e
      · show (match Bx (CV.wf S.nz S.nb) (Ui j m) with | true => _ | false => false) = true
        rw [Zv (by omega)]
        exact YF _ _ hwt
      · show _ = some (Value.func _ ((WX gs _).map _).toArray ((Ui j m).map _).toArray)
        rw [eQ hb hm,YU,List.map_take]
        exact h0
      · have := hv (k + 1) u (by rw [List.map_drop] at hk; exact hk)
        rw [show i + 1 + k = i + (k + 1) by omega]; exact this
      · rw [List.getElem?_drop] at hk
        rw [Nat.add_assoc]; exact hb (m + k) b hk
      · have : VG r + m = mb.length := hp
        rw [List.length_drop]; omega
      · rw [List.length_drop]
        show j + m + (mb.length - m) ≤ S.nb
        omega
theorem WJ : ∀ {bs : Bk} {cs : List CV} {mb : List Nat} {S : St E.c} {ρ : Nat → Nat},Rel E B θ n ds S a w σ ρ ι → mb.length = bs.length → Bx (CV.wf S.nz S.nb) cs = true → Stw B (oG E mb bs (cs.map (CV.val E.sz σ ρ)) ++ S.mm E σ ρ) (S.zz ι) w →
    ∃ ρ',Rel E B θ n ds (Lw E bs cs S) a w σ ρ' ι ∧ Ag S.nz S.nb σ σ ρ ρ' ∧ (∀ k b,mb[k]? = some b → ρ' (S.nb + k) = b) ∧ (Lw E bs cs S).nz = S.nz ∧ (Lw E bs cs S).nb = S.nb + mb.length
  | [],cs,mb,S,ρ,h,hl,hw,hW => by
    cases mb with
    | nil => exact ⟨ρ,h,Ag.rfl',(fun k b hk => by simp at hk),rfl,rfl⟩
    | cons b mb => cases hl
  | (q,l) :: bs,cs,[],S,ρ,h,hl,hw,hW => nomatch hl
  | (q,l) :: bs,cs,b :: mb,S,ρ,h,hl,hw,hW => by
    have hwt : Bx (CV.wf S.nz S.nb) (cs.take (Au E l)) = true := Ae.2 fun c hc => Ae.1 hw c (List.mem_of_mem_take hc)
    have hwd : Bx (CV.wf S.nz S.nb) (cs.drop (Au E l)) = true := Ae.2 fun c hc => Ae.1 hw c (List.mem_of_mem_drop hc)
    have hW : Stw B ((b,(cs.map (CV.val E.sz σ ρ)).take (Au E l)) :: (oG E mb bs ((cs.map (CV.val E.sz σ ρ)).drop (Au E l)) ++ S.mm E σ ρ)) (S.zz ι) w := hW
    rw [← List.map_take, ← List.map_drop] at hW
    have h1 := h.addM (b := b) hwt (hW.sub (List.Sublist.cons_cons _ (List.sublist_append_right _ _)) (List.Sublist.refl _))
    have g : Ag S.nz S.nb σ σ ρ (DH ρ S.nb b) := ⟨fun _ _ => rfl,fun k hk => DM (by omega)⟩
    have e2 : (S.addM (cs.take (Au E l))).mm E σ (DH ρ S.nb b) = (b,(cs.take (Au E l)).map (CV.val E.sz σ ρ)) :: S.mm E σ ρ := by
      show (DH ρ S.nb b S.nb,(cs.take (Au E l)).map _) :: S.M.map _ = _
      rw [El,Hl g hwt]
      congr 1
      exact R3 (S := S) h.wM g
    have hwd' : Bx (CV.wf (S.addM (cs.take (Au E l))).nz (S.addM (cs.take (Au E l))).nb) (cs.drop (Au E l)) = true := Dj (fun _ => CV.wf_mono (Nat.le_refl _) (Nat.le_succ _)) hwd
    obtain ⟨ρ',k1,k2,k3,k4,k5⟩ := WJ (bs := bs) (cs := cs.drop (Au E l)) (mb := mb) h1 (Nat.succ.inj hl) hwd' (by
      rw [e2,Hl g hwd]
      exact hW.perm List.perm_middle.symm)
    refine ⟨ρ',k1,g.trans k2 (Nat.le_refl _) (Nat.le_succ _),fun k b' hk => ?_,k4,by rw [show Lw E ((q,l) :: bs) cs S = Lw E bs (cs.drop (Au E l)) (S.addM (cs.take (Au E l))) from rfl,k5]; show S.nb + 1 + mb.length = S.nb + (mb.length + 1); omega⟩
    cases k with
    | zero =>
      simp at hk; subst hk
      show ρ' S.nb = b
      rw [k2.2 S.nb (Nat.lt_succ_self _),El]
    | succ k =>
      have := k3 k b' (by simpa using hk)
      rw [show S.nb + (k + 1) = (S.addM (cs.take (Au E l))).nb + k from by show _ = S.nb + 1 + k; omega]
      exact this
theorem mU : ∀ (l : List Value) (s j : Nat) (v : Value),l[j]? = some v → lk ((l.zipIdx s).map fun (v,i) => (i,v)) (s + j) = some v
  | [],s,j,v,h => by simp at h
  | x :: l,s,0,v,h => by
    simp at h; subst h
    rw [List.zipIdx_cons,zj]
    exact CX _ _ _
  | x :: l,s,j + 1,v,h => by
    have := mU l (s + 1) j v (by simpa using h)
    rw [show s + (j + 1) = s + 1 + j by omega]
    exact (Dh (show s ≠ s + 1 + j by omega) _ _).trans this
theorem U8 {tb : Tb} (T : TbOk E P tb) (h : Rel E B θ n ds S a w σ ρ ι) : ∀ {rv : List ResultVar} {vs : List AV},Wu tb S rv = some vs → (∀ v ∈ vs,v.wf S.nz S.nb = true) ∧ rv.length = vs.length ∧ ∀ (j : Nat) r,rv[j]? = some r → ∃ v : AV,vs[j]? = some v ∧ Rv P B (S.mm E σ ρ) (S.zz ι) a r (v.val E.sz σ ρ)
  | [],vs,e => by cases e; exact ⟨(fun _ h => nomatch h),rfl,(fun j r h => by simp at h)⟩
  | .tmp t :: r,vs,e => by
    unfold Wu at e
    split at e
    · rename_i ver v hf
      split at e
      · rename_i l hl
        cases e
        obtain ⟨g1,g2,g3⟩ := U8 T h hl
        refine ⟨fun u hu => ?_,by simp [g2],fun j q hq => ?_⟩
        · rcases List.mem_cons.1 hu with rfl | hu
          · exact (h.wF _ (A8 hf)).1
          · exact g1 u hu
        · cases j with
          | zero => simp at hq; subst hq; exact ⟨v,rfl,E2 h.fr (Hw (f := fun q => q.2.val E.sz σ ρ) hf)⟩
          | succ j => exact g3 j q (by simpa using hq)
      · cases e
    · cases e
  | .cell p t :: r,vs,e => by
    unfold Wu at e
    split at e
    · rename_i ver b o hf
      split at e
      · rename_i ver2 cs hb
        split at e
        · rename_i agg m ht
          split at e
          · rename_i v hv
            split at e
            · rename_i l hl
              cases e
              obtain ⟨g1,g2,g3⟩ := U8 T h hl
              have hm := A8 hb
              obtain ⟨i,hi⟩ := List.mem_iff_getElem?.1 (show (ρ b,cs.map (CV.val E.sz σ ρ)) ∈ S.mm E σ ρ from List.mem_map.2 ⟨_,hm,rfl⟩)
              have h2 := Yk (sz := E.sz) (σ := σ) (ρ := ρ) (nz := S.nz) (nb := S.nb) (Nat.succ_pos _) hv
              refine ⟨fun u hu => ?_,by simp [g2],fun j q hq => ?_⟩
              · rcases List.mem_cons.1 hu with rfl | hu
                · exact h2.2 (h.wM _ hm).2.2
                · exact g1 u hu
              · cases j with
                | zero => simp at hq; subst hq; exact ⟨v,rfl,Q4 i h.fr (Hw (f := fun q => q.2.val E.sz σ ρ) hf) hi (Tl T.tt ht) h2.1⟩
                | succ j => exact g3 j q (by simpa using hq)
            · cases e
          · cases e
        · cases e
      · cases e
    · cases e
theorem kO {tb : Tb} (T : TbOk E P tb) {fn : Func} {R : Ending → World → Prop} {e : Exit} (he : e = .ret ∨ e = .normal) (h : Rel E B θ n [] S a w σ ρ ι) {rv : List ResultVar} {vs : List AV} (hr : fn.results = rv.toArray) (h3 : rv.length ≤ 3) (hv : Wu tb S rv = some vs)
    (hR : R (.returned (match vs.map (AV.val E.sz σ ρ) with | [v] => v | l => .tuple l.toArray)) w) : bodyPost P fn R e a w := by
  obtain ⟨g1,g2,g3⟩ := U8 T h hv
  match rv,vs,g2 with
  | [],[],_ => exact n5 he h.fr hr hR
  | [r1],[v1],_ =>
    obtain ⟨u1,p1,q1⟩ := g3 0 r1 rfl
    cases p1
    exact Ga he h.fr h.st hr q1 hR
  | [r1,r2],[v1,v2],_ =>
    obtain ⟨u1,p1,q1⟩ := g3 0 r1 rfl
    obtain ⟨u2,p2,q2⟩ := g3 1 r2 rfl
    cases p1; cases p2
    exact uF he h.fr h.st hr q1 q2 hR
  | [r1,r2,r3],[v1,v2,v3],_ =>
    obtain ⟨u1,p1,q1⟩ := g3 0 r1 rfl
    obtain ⟨u2,p2,q2⟩ := g3 1 r2 rfl
    obtain ⟨u3,p3,q3⟩ := g3 2 r3 rfl
    cases p1; cases p2; cases p3
    exact tU he h.fr h.st hr q1 q2 q3 hR
  | _ :: _ :: _ :: _ :: _,_,_ => simp at h3
theorem StC.repin (h : StC E B θ S σ ρ ι) : StC E B ⟨S.nz,S.nb,σ,ρ,S.nv,ι⟩ S σ ρ ι := ⟨h.it,h.wF,h.wM,h.wZ,h.nZ,h.ca,⟨Ag.rfl',Nat.le_refl _,Nat.le_refl _⟩,Nat.le_refl _,fun _ _ _ => rfl⟩
def iL (E : TE) (σ : Nat → Value) (ρ : Nat → Nat) : Bk → List (Nat × Nat × List CV) → List Nat → List Value → Prop
  | (_,l) :: bs,e :: es,v :: vs,old => (e.2.1 = v → e.2.2.map (CV.val E.sz σ ρ) = old.take (Au E l)) ∧ iL E σ ρ bs es vs (old.drop (Au E l))
  | _,_,_,_ => True
def Xq (E : TE) (S2 : St E.c) : Bk → Nat → List CV → Prop
  | [],_,_ => True
  | (_,l) :: bs,j,cs => (∃ v,v < S2.nv ∧ CQ S2.M j = some (v,cs.take (Au E l))) ∧ Xq E S2 bs (j + 1) (cs.drop (Au E l))
theorem fY {S2 : St E.c} (x : Ext S2 S) : ∀ {bs : Bk} {j : Nat} {cs : List CV} {es : List (Nat × Nat × List CV)},Xq E S2 bs j cs → es.map (·.1) = bB j bs.length → (∀ e ∈ es,CQ S.M e.1 = some e.2) → iL E σ ρ bs es (WY S2 (bB j bs.length)) (cs.map (CV.val E.sz σ ρ))
  | [],j,cs,es,hb,he,hf => by cases es <;> trivial
  | (q,l) :: bs,j,cs,[],hb,he,hf => trivial
  | (q,l) :: bs,j,cs,e :: es,⟨⟨v,hv,hm⟩,hb⟩,he,hf => by
    obtain ⟨he1,he2⟩ := List.cons.inj (show e.1 :: es.map (·.1) = j :: bB (j + 1) bs.length from he)
    refine ⟨fun hver => ?_, ?_⟩
    · have hver : e.2.1 = v := hver.trans (by simp only [hm])
      have h1 := x.M _ _ (hf e (List.mem_cons_self ..)) (by rw [hver]; exact hv)
      rw [he1,hm] at h1
      rw [← Option.some.inj h1,List.map_take]
    · rw [← List.map_drop]
      exact fY x hb he2 fun e he => hf e (zd _ he)
theorem Q5 : ∀ {bs : Bk} {es : List (Nat × Nat × List CV)} {vs : List Nat} {mc : List CV} {old : List Value} (more : List CV),XP bs es vs = some mc → bT E bs es = true → iL E σ ρ bs es vs old → bX E (es.map fun p => ρ p.1) bs old ((mc ++ more).map (CV.val E.sz σ ρ)) = eV E σ ρ es ∧ mc.length = Au E (aU bs)
  | [],[],vs,mc,old,more,h,hs,ho => by
    cases vs with
    | nil => cases h; exact ⟨rfl,rfl⟩
    | cons v vs => cases h
  | [],_ :: _,vs,mc,old,more,h,hs,ho => nomatch hs
  | _ :: _,[],vs,mc,old,more,h,hs,ho => nomatch hs
  | (q,l) :: bs,e :: es,[],mc,old,more,h,hs,ho => by cases q <;> cases h
  | (true, l) :: bs, (b, ver, c1) :: es, v :: vs, mc, old, more, h, hs, ho => by
    unfold XP at h
    split at h
    · rename_i s hs'
      cases h
      unfold bT at hs
      split at hs
      · rename_i hl
        have hl := ze hl
        obtain ⟨g1,g2⟩ := Q5 (es := es) (old := old.drop (Au E l)) more hs' hs ho.2
        refine ⟨?_, ?_⟩
        · show (ρ b,List.take (Au E l) _) :: bX E (es.map fun p => ρ p.1) bs (old.drop (Au E l)) (List.drop (Au E l) _) = _
          rw [List.append_assoc,List.map_append, ← hl,List.take_left' (by rw [zh]),List.drop_left' (by rw [zh]),hl,g1]
          rfl
        · rw [List.length_append,g2,hl]
          exact (IU l (aU bs)).symm
      · cases hs
    · cases h
  | (false,l) :: bs,(b,ver,c1) :: es,v :: vs,mc,old,more,h,hs,ho => by
    unfold XP at h
    split at h
    · rename_i hv
      unfold bT at hs
      split at hs
      · obtain ⟨g1,g2⟩ := Q5 (es := es) (old := old.drop (Au E l)) more h hs ho.2
        refine ⟨?_,g2⟩
        show (ρ b,List.take (Au E l) old) :: bX E (es.map fun p => ρ p.1) bs (old.drop (Au E l)) _ = _
        rw [g1, ← ho.1 (ze hv)]
        rfl
      · cases hs
    · cases h
theorem W9 : ∀ {bs : Bk} {cs : List CV} {S : St E.c} {b : Nat} {x : Nat × List CV},CQ S.M b = some x → b < S.nb → x.1 < S.nv → CQ (Lw E bs cs S).M b = some x ∧ x.1 < (Lw E bs cs S).nv
  | [],cs,S,b,x,h,hb,hv => ⟨h,hv⟩
  | (q,l) :: bs,cs,S,b,x,h,hb,hv => W9 (bs := bs) (by
      show CQ ((S.nb,S.nv,cs.take (Au E l)) :: S.M) b = _
      rw [C6 (by omega)]; exact h) (Nat.lt_succ_of_lt hb) (Nat.lt_succ_of_lt hv)
theorem iR {S2 : St E.c} : ∀ {bs : Bk} {cs : List CV} {S : St E.c},(∀ b x,CQ (Lw E bs cs S).M b = some x → CQ S2.M b = some x) → (Lw E bs cs S).nv ≤ S2.nv → Xq E S2 bs S.nb cs
  | [],cs,S,h,hv => trivial
  | (q,l) :: bs,cs,S,h,hv => by
    have := W9 (bs := bs) (cs := cs.drop (Au E l)) (S := S.addM (cs.take (Au E l))) (b := S.nb) (x := (S.nv,cs.take (Au E l))) DK (Nat.lt_succ_self _) (Nat.lt_succ_self _)
    exact ⟨⟨S.nv,Nat.lt_of_lt_of_le this.2 hv,h _ _ this.1⟩,iR (S := S.addM (cs.take (Au E l))) h hv⟩
theorem VU : ∀ {xs : Sh} {i j : Nat} {cs : List CV} {S S' : St E.c},Sv E xs i j cs S = some S' → S'.M = S.M ∧ S.nv ≤ S'.nv ∧ S'.nz = S.nz ∧ S'.nb = S.nb
  | [],i,j,cs,S,S',e => by cases e; exact ⟨rfl,Nat.le_refl _,rfl,rfl⟩
  | (.b q,l) :: r,i,j,cs,S,S',e => by
    unfold Sv at e
    split at e
    · obtain ⟨h1,h2,h3⟩ := VU e
      exact ⟨h1,Nat.le_of_succ_le h2,h3⟩
    · cases e
  | (.p,l) :: r,i,j,cs,S,S',e => by
    obtain ⟨h1,h2,h3⟩ := VU (show Sv E r (i + 1) (j + 1) (cs.drop (Au E l)) (S.put i (.one (.ptr j 0))) = some S' from e)
    exact ⟨h1,Nat.le_of_succ_le h2,h3⟩
  | (.fn f gs m,l) :: r,i,j,cs,S,S',e => by
    obtain ⟨h1,h2,h3⟩ := VU (show Sv E r (i + 1) (j + m) (cs.drop (Au E l)) (S.put i (.fnv f (WX gs (cs.take (Au E l))) (Ui j m))) = some S' from e)
    exact ⟨h1,Nat.le_of_succ_le h2,h3⟩
theorem Zw : ∀ {n j k : Nat},k < n → (bB j n)[k]? = some (j + k)
  | 0,j,k,h => absurd h (by omega)
  | n + 1,j,0,h => rfl
  | n + 1,j,k + 1,h => by
    show (bB (j + 1) n)[k]? = _
    rw [Zw (by omega)]; congr 1; omega
theorem ZJ : ∀ {n j : Nat},(bB j n).length = n
  | 0,j => rfl
  | n + 1,j => by show (bB (j + 1) n).length + 1 = _; rw [ZJ]
theorem ZR {tb : Tb} (T : TbOk E P tb) {fn : Func} {xs ys : Sh} {bs : Bk} {io : Bool} {e : Exit} (he : e = .ret ∨ e = .normal) (h : Rel E B θ n [] S a w σ ρ ι) {S2 : St E.c} (x2 : Ext S2 S) {rv : List ResultVar} (hr : fn.results = rv.toArray) (h3 : Nat.ble rv.length 3 = true) {cs : List CV} {csV : List Value} (hcs : cs.map (CV.val E.sz σ ρ) = csV) {mb : List Nat} (hmb : ∀ k b,mb[k]? = some b → ρ k = b) (hml : mb.length = bs.length)
    (hb2 : Xq E S2 bs 0 (cs.drop (Au E (flt xs)))) {r : TT E.c (IX xs ys bs io)} (ed : (pS E tb xs ys bs io rv cs (WY S2 (bB 0 bs.length)) S).den = some r) :
    bodyPost P fn (fun e w' => ∃ L' cs' its',Q7 E _ r = some L' ∧ JF ZC (DI E B) L' cs' its' ∧ Stw B (bX E mb bs (csV.drop (Au E (flt xs))) (cs'.drop (Au E (flt ys)))) its' w' ∧ e = .returned (SO E ys cs') ∧ (io = true → cs'.drop (Au E (flt ys ++ aU bs)) = Nx E (flt xs) csV)) e a w := by
  unfold pS at ed
  obtain ⟨vs,hvs,ed⟩ := D0 (o := Wu tb S rv) ed
  obtain ⟨⟨c1,js⟩,hc1,ed⟩ := D0 (o := Ix E ys vs) ed
  cases js with
  | cons j js => cases ed
  | nil =>
  obtain ⟨⟨es,R⟩,hes,ed⟩ := D0 (o := aT S.M (bB 0 bs.length)) ed
  simp only at ed
  split at ed
  · rename_i hsz
    obtain ⟨mc,hmc,ed⟩ := D0 (o := XP bs es (WY S2 (bB 0 bs.length))) ed
    obtain ⟨⟨t,S'⟩,hpk,ed⟩ := D0 (o := pk E false (IX xs ys bs io) S _) ed
    simp only at ed
    split at ed
    · rename_i L hL
      cases ed
      refine kO T he h hr (zf h3) hvs ?_
      obtain ⟨a1,a2,hlen⟩ := Ux (σ := σ) (ρ := ρ) hc1
      obtain ⟨b1,b2⟩ := Qc hes
      have hnd := ndM h.st
      have hfe : ∀ e ∈ es,CQ S.M e.1 = some e.2 := fun e he => F7 hnd (b1.mem_iff.2 (List.mem_append_left _ he))
      have hold := fY (σ := σ) (ρ := ρ) x2 hb2 b2 hfe
      have hmbe : mb = es.map fun p => ρ p.1 := by
        have : (es.map fun p => ρ p.1) = (es.map (·.1)).map ρ := by rw [List.map_map]; rfl
        rw [this,b2]
        refine List.ext_getElem? fun k => ?_
        rw [List.getElem?_map]
        by_cases hk : k < bs.length
        · rw [Zw hk,Nat.zero_add]
          have : k < mb.length := by omega
          rw [zb this]
          show _ = some (ρ k)
          rw [hmb k _ (zb this)]
        · rw [List.getElem?_eq_none (by omega),List.getElem?_eq_none (by rw [ZJ]; omega)]; rfl
      unfold pk at hpk
      split at hpk
      · rename_i S1' ol h1
        split at hpk
        · rename_i t1 ht
          cases hpk
          obtain ⟨its,ι1,s1,s2,s3,s4⟩ := Oc _ _ (X := []) h.toStC h.st h1
          have s2 : Stw B (S'.mm E σ ρ) (its ++ S'.zz ι1) w := s2
          obtain ⟨cs1,g1,g2⟩ := Tp (lax := false) (B := B) (S := S') (I := W0 E B w (Aq (S'.mm E σ ρ) (its ++ S'.zz ι1)))
            (W := fun q => match q with | true => B.w0 | false => w) (A := fun q => lA q (NX B.X) (Fz B (Aq (S'.mm E σ ρ) (its ++ S'.zz ι1))))
            (fun q a c l hh => by
              cases q with
              | true => exact e8 s1 (fun z hz => List.mem_append_right _ hz) s2 hh
              | false => exact Ve s1 (fun z hz => List.mem_append_right _ hz) s2 (fun _ h => h) hh)
            (fun q u v l hh => by cases q <;> exact hh) _ ol _ s4 ht hL
          rw [List.map_nil,List.append_nil] at g1
          obtain ⟨its',k1,k2⟩ := JF.all (g2.mono (fun _ _ h => h) fun _ _ _ hd => hd.2) s2
          have k3 : Stw B (eV E σ ρ es) its' w := by
            have hmm : (S'.mm E σ ρ).Perm (eV E σ ρ es ++ eV E σ ρ R) := by
              have := b1.map fun p => (ρ p.1,p.2.2.map (CV.val E.sz σ ρ))
              rw [List.map_append] at this
              show (S'.M.map _).Perm _
              rw [s3.fM]; exact this
            exact (k2.perm hmm).sub (List.sublist_append_left _ _) (List.sublist_append_left _ _)
          cases io with
          | false =>
            obtain ⟨e1,e2⟩ := Q5 (E := E) (σ := σ) (ρ := ρ) [] hmc hsz hold
            have gd : cs1.drop (Au E (flt ys)) = (mc ++ []).map (CV.val E.sz σ ρ) := by rw [← g1,List.append_nil,List.map_append,List.drop_left' (by rw [zh]; exact hlen)]
            refine ⟨L,cs1,its',hL,k1, ?_, ?_,fun hio => by cases hio⟩
            · rw [gd,hmbe, ← hcs, ← List.map_drop,e1]; exact k3
            · congr 1
              unfold SO
              rw [a1, ← g1,List.map_append,J1 _ _ _ _ (by rw [zh]; exact hlen)]
              rfl
          | true =>
            obtain ⟨e1,e2⟩ := Q5 (E := E) (σ := σ) (ρ := ρ) (Si E (flt xs) cs) hmc hsz hold
            have gd : cs1.drop (Au E (flt ys)) = (mc ++ Si E (flt xs) cs).map (CV.val E.sz σ ρ) := by rw [← g1,List.map_append,List.drop_left' (by rw [zh]; exact hlen)]
            refine ⟨L,cs1,its',hL,k1, ?_, ?_,fun hio => ?_⟩
            · rw [gd,hmbe, ← hcs, ← List.map_drop,e1]; exact k3
            · congr 1
              unfold SO
              rw [a1, ← g1,List.map_append,J1 _ _ _ _ (by rw [zh]; exact hlen)]
              rfl
            · rw [IU, ← List.drop_drop,gd,List.map_append,List.drop_left' (by rw [zh]; exact e2),Rh,hcs]
        · cases hpk
      · cases hpk
    · cases ed
  · cases ed
theorem uM {tb : Tb} (T : TbOk E P tb) {G : Hq E P} (hGa : ∀ p ∈ G,Zu p.2 p.1 ∧ Has P p.1) {f : Nat} {fn : Func} {c : Code} {N : Nat} {ct : Ct} {xs ys : Sh} {bs : Bk} {io : Bool} {rv : List ResultVar} {tw : TT E.c (Dp xs bs) → Option (TT E.c (IX xs ys bs io))} {pu : _} (hf : P.funcs[f]? = some fn) (hb : fn.body = some c) (hN : fn.ntmps = N) (hle : Nat.ble xs.length N = true) (hr : fn.results = rv.toArray) (h3 : Nat.ble rv.length 3 = true)
    (ht : ∀ x,(dF E tb G N c ct xs ys bs io rv x).den = tw x) : Zu (⟨xs,ys,bs,io,tw,pu⟩ : Con E P) f := by
  intro Y X w0 hgk x r L cs its mb hx hL hLR hml hW
  have hG : ConsOk ⟨Y,X,w0⟩ G := ⟨fun p hp => ⟨fun Y' Ml M Zl Z w hw => (hGa p hp).1 Y' _ w (E.go (B := ⟨Y,X,w0⟩) hgk hw),(hGa p hp).2⟩⟩
  have hx : (dF E tb G N c ct xs ys bs io rv x).den = some r := (ht x).trans hx
  unfold dF at hx
  split at hx
  · rename_i hpc
    have hpc := ze hpc
    obtain ⟨L',hL',hx⟩ := D0 (o := Q7 E (Dp xs bs) x) hx
    have : L' = L := Option.some.inj (hL'.symm.trans hL)
    subst this
    simp only at hx
    obtain ⟨S2,hS2,hx⟩ := D0 (o := Sv E xs 0 0 _ _) hx
    have glen : (Hj E xs cs mb).length = xs.length := by
      have : ∀ (xs : Sh) (cs : List Value) (mb : List Nat),(Hj E xs cs mb).length = xs.length := by
        intro xs
        induction xs with
        | nil => intro cs mb; rfl
        | cons p r ih =>
          intro cs mb
          obtain ⟨g,l⟩ := p
          cases g <;> (show (_ :: Hj E r _ _).length = _; rw [List.length_cons,ih]; rfl)
      exact this xs cs mb
    refine enter hf hb hN (by rw [glen]; exact hle) fun a hF => ?_
    have hC : StC E ⟨Y,X,w0⟩ ⟨0,0,fun _ => undef,fun _ => 0,0,fun _ => frz (.slice none 0 0) (Rp.int .i64) []⟩ (St.emp E.c) (fun _ => undef) (fun _ => 0) (fun _ => frz (.slice none 0 0) (Rp.int .i64) []) := ⟨(fun _ h => nomatch h),(fun _ h => nomatch h),(fun _ h => nomatch h),(fun _ h => nomatch h),List.nodup_nil,(fun _ h => nomatch h),⟨Ag.rfl',Nat.le_refl _,Nat.le_refl _⟩,Nat.le_refl _,fun _ h => nomatch h⟩
    obtain ⟨σ',ι',c0,c1,c2,c3,c4,c5,c6,c7⟩ := StC.injM (Mx := oG E mb bs (cs.drop (Au E (flt xs)))) (X := []) L' hC (its := its) (w := w0) (by
      show Stw _ _ (its ++ []) w0
      rw [List.append_nil]; exact hW) (hLR.mono (fun _ _ h => h.elim) fun _ _ _ h => h)
    have c1 : Stw ⟨Y,X,w0⟩ (oG E mb bs (cs.drop (Au E (flt xs)))) ((injS (St.emp E.c) L').2.zz ι') w0 := c1
    have hM0 : (injS (St.emp E.c) L').2.M = [] := (Fm L' _).2.1
    have hmm0 : (injS (St.emp E.c) L').2.mm E σ' (fun _ => 0) = [] := by show (injS (St.emp E.c) L').2.M.map _ = []; rw [hM0]; rfl
    have hR1 : Rel E ⟨Y,X,w0⟩ ⟨(injS (St.emp E.c) L').2.nz,(injS (St.emp E.c) L').2.nb,σ',fun _ => 0,(injS (St.emp E.c) L').2.nv,ι'⟩ N [] (injS (St.emp E.c) L').2 a w0 σ' (fun _ => 0) ι' := by
      refine { toStC := c0.repin,fr := ?_,st := by rw [hmm0]; exact c1.sub (List.nil_sublist _) (List.Sublist.refl _) }
      show Fr N [] ((injS (St.emp E.c) L').2.F.map _) a
      rw [(Fm L' _).1]
      exact hF.sub fun k v h => nomatch h
    have c4d : Bx (CV.wf (injS (St.emp E.c) L').2.nz (injS (St.emp E.c) L').2.nb) ((injS (St.emp E.c) L').1.drop (Au E (flt xs))) = true := Ae.2 fun c hc => Ae.1 c4 c (List.mem_of_mem_drop hc)
    obtain ⟨ρ',d1,d2,d3,d4,d5⟩ := WJ hR1 hml c4d (by rw [hmm0,List.append_nil,List.map_drop,c3]; exact c1)
    have c3' : (injS (St.emp E.c) L').1.map (CV.val E.sz σ' ρ') = cs := (Hl d2 c4).trans c3
    have c4' : Bx (CV.wf (Lw E bs ((injS (St.emp E.c) L').1.drop (Au E (flt xs))) (injS (St.emp E.c) L').2).nz (Lw E bs ((injS (St.emp E.c) L').1.drop (Au E (flt xs))) (injS (St.emp E.c) L').2).nb) (injS (St.emp E.c) L').1 = true := Dj (fun _ => CV.wf_mono (by rw [d4]; exact Nat.le_refl _) (by rw [d5]; exact Nat.le_add_right _ _)) c4
    have h0 : (injS (St.emp E.c) L').2.nb = 0 := c6
    have d3' : ∀ k b,mb[k]? = some b → ρ' (0 + k) = b := fun k b hk => by have := d3 k b hk; rw [h0] at this; exact this
    have hR2 := Q6 d1 hF (mb := mb) (fun k v hk => by
      rw [c3'] at hk
      exact mU _ 0 k v hk) d3' (hpc.trans hml.symm) (by rw [d5,h0]; exact Nat.le_refl _) c4' hS2
    obtain ⟨q1,q2,q3,q4⟩ := VU hS2
    have hblk : Xq E S2 bs 0 ((injS (St.emp E.c) L').1.drop (Au E (flt xs))) := by
      have := iR (E := E) (S2 := S2) (bs := bs) (cs := (injS (St.emp E.c) L').1.drop (Au E (flt xs))) (S := (injS (St.emp E.c) L').2) (fun b x hx => by rw [q1]; exact hx) q2
      rw [h0] at this; exact this
    refine vJ T hG c ct hx hR2.repin fun e S' a' w' σ2 ρ2 ι2 x' h' e' => ?_
    have hcs2 : (injS (St.emp E.c) L').1.map (CV.val E.sz σ2 ρ2) = cs := (Hl h'.pn.1 (show Bx (CV.wf S2.nz S2.nb) _ = true by rw [q3,q4]; exact c4')).trans c3'
    have hmb2 : ∀ k b,mb[k]? = some b → ρ2 k = b := fun k b hk => by
      have hlt : k < S2.nb := by
        rw [q4,d5,h0]
        have := (List.getElem?_eq_some_iff.1 hk).1
        omega
      rw [h'.pn.1.2 k hlt, ← d3' k b hk,Nat.zero_add]
    cases e with
    | x j => cases e'
    | n => exact ZR T (.inr rfl) h' x' hr h3 hcs2 hmb2 hml hblk e'
    | r => exact ZR T (.inl rfl) h' x' hr h3 hcs2 hmb2 hml hblk e'
  · cases hx
end
end Go.Proofs.YtkhiflmalgkjiaaGreat
namespace Go.Proofs.YtkhiflmalgkjiaaGreat
section
variable {E : TE} {P : Program}
structure KO (C : Con E P) (f : Nat) : Prop where
  ok : Zu C f
  has : Has P f
abbrev Pa (G : Hq E P) : Prop := ∀ p ∈ G,Zu p.2 p.1 ∧ Has P p.1
theorem BC : Pa ([] : Hq E P) := fun _ h => nomatch h
theorem AH {C : Con E P} {f : Nat} {G : Hq E P} (h : KO C f) (hG : Pa G) : Pa ((f,C) :: G) := fun p hp => by
  rcases List.mem_cons.1 hp with rfl | hp
  · exact ⟨h.ok,h.has⟩
  · exact hG p hp
noncomputable def bd (f : Func) : Code := f.body.getD .skip
theorem dK {tb : Tb} (T : TbOk E P tb) {G : Hq E P} (hG : Pa G) {f : Nat} {fn : Func} {c : Code} {N : Nat} {ct : Ct} {xs ys : Sh} {bs : Bk} {io : Bool} {rv : List ResultVar} {tw : TT E.c (Dp xs bs) → Option (TT E.c (IX xs ys bs io))} {pu : _} (hf : P.funcs[f]? = some fn) (hb : fn.body = some c) (hN : fn.ntmps = N) (hle : Nat.ble xs.length N = true) (hr : fn.results = rv.toArray) (h3 : Nat.ble rv.length 3 = true) (hn : (fn.name == "runtime.NumGoroutine") = false)
    (ht : ∀ x,(dF E tb G N c ct xs ys bs io rv x).den = tw x) : KO (⟨xs,ys,bs,io,tw,pu⟩ : Con E P) f :=
  ⟨uM T hG hf hb hN hle hr h3 ht,⟨fun args w => Bf hf (by rw [hb]; rfl) hn args w⟩⟩
def fnB (fn : Func) (n : Nat) : Bool := fn.body.isSome && (Nat.ble n fn.ntmps && (Nat.ble fn.results.toList.length 3 && !(fn.name == "runtime.NumGoroutine")))
theorem Ea {tb : Tb} (T : TbOk E P tb) {G : Hq E P} (hG : Pa G) {f : Nat} {fn : Func} {ct : Ct} {xs ys : Sh} {bs : Bk} {io : Bool} {tw : TT E.c (Dp xs bs) → Option (TT E.c (IX xs ys bs io))} {pu : _} (hf : P.funcs[f]? = some fn) (h : fnB fn xs.length = true)
    (ht : ∀ x,(dF E tb G fn.ntmps (bd fn) ct xs ys bs io fn.results.toList x).den = tw x) : KO (⟨xs,ys,bs,io,tw,pu⟩ : Con E P) f := by
  unfold fnB at h
  simp only [zg,Bool.not_eq_true'] at h
  obtain ⟨h1,h2,h3,h4⟩ := h
  obtain ⟨c,hc⟩ := Option.isSome_iff_exists.1 h1
  have hb : fn.body = some (bd fn) := by unfold bd; rw [hc]; rfl
  exact dK T hG hf hb rfl h2 (by simp) h3 h4 ht
theorem R8 {f : Nat} {xs ys : Sh} {bs : Bk} {io : Bool} {st : (TT E.c (Dp xs bs) → Option (TT E.c (IX xs ys bs io))) → TT E.c (Dp xs bs) → Option (TT E.c (IX xs ys bs io))} {nn : Nat → TT E.c (Dp xs bs) → Option (TT E.c (IX xs ys bs io))} {fn : Func} (hf : P.funcs[f]? = some fn) (hb : fn.body.isSome = true) (hn : (fn.name == "runtime.NumGoroutine") = false) (h0 : ∀ x, nn 0 x = none) (hs : ∀ n, nn (n + 1) = st (nn n))
    (h : ∀ g,KO (⟨xs,ys,bs,io,g,none⟩ : Con E P) f → KO (⟨xs,ys,bs,io,st g,none⟩ : Con E P) f) : KO (⟨xs,ys,bs,io,fun x => GX fun n => nn n x,none⟩ : Con E P) f := by
  have hh : Has P f := ⟨fun args w => Bf hf hb hn args w⟩
  have hk : ∀ n,KO (⟨xs,ys,bs,io,nn n,none⟩ : Con E P) f := by
    intro n
    induction n with
    | zero => exact ⟨fun Y X w0 hgk x r L cs its mb hx => (nomatch (h0 x).symm.trans hx),hh⟩
    | succ n ih => rw [hs n]; exact h _ ih
  refine ⟨fun Y X w0 hgk x r L cs its mb hx hL hLR hml hW => ?_,hh⟩
  obtain ⟨n,hx⟩ := Na hx
  exact (hk n).ok Y X w0 hgk x r L cs its mb hx hL hLR hml hW
end
end Go.Proofs.YtkhiflmalgkjiaaGreat
namespace Go.Proofs.YtkhiflmalgkjiaaGreat
def GT {c : Nat → Type} : List (Leaf c) → Type
  | [] => Unit
  | .v _ :: L => GT L
  | .s _ :: L => Value × GT L
def JY {c : Nat → Type} : List (Leaf c) → Bool
  | [] => true
  | .v (.int _ _) :: L => JY L
  | .v (.bool _) :: L => JY L
  | .v (.str _) :: L => JY L
  | .v (.flt _ _) :: L => JY L
  | .v (.fn _) :: L => JY L
  | .v _ :: _ => false
  | .s _ :: L => JY L
def CV.v0 : CV → Value
  | .int k i => .int k i
  | .bool b => .bool b.v
  | .str s => .string (bs s)
  | .flt k n => .float k n
  | .fn f => .func (.func f) #[] #[]
  | _ => undef
def HQ {c : Nat → Type} : (L : List (Leaf c)) → GT L → List Value
  | [],_ => []
  | .v x :: L,g => x.v0 :: HQ L g
  | .s _ :: L,g => g.1 :: HQ L g.2
def Oj (E : TE) : (L : List (Leaf E.c)) → GT L → List It
  | [],_ => []
  | .v _ :: L,g => Oj E L g
  | .s ⟨.own e,u,l⟩ :: L,g => row g.1 e (u.rp E.r) l :: Oj E L g.2
  | .s ⟨.frz,u,l⟩ :: L,g => frz g.1 (u.rp E.r) l :: Oj E L g.2
  | .s ⟨.rd,_,_⟩ :: L,g => Oj E L g.2
def L7 (E : TE) : (L : List (Leaf E.c)) → GT L → List It
  | [],_ => []
  | .v _ :: L,g => L7 E L g
  | .s ⟨.own e,u,l⟩ :: L,g => row g.1 e (u.rp E.r) l :: L7 E L g.2
  | .s ⟨.frz,_,_⟩ :: L,g => L7 E L g.2
  | .s ⟨.rd,_,_⟩ :: L,g => L7 E L g.2
def R2 (E : TE) (Y : Nat → Prop) (X : List Nat) (w : World) : (L : List (Leaf E.c)) → GT L → Prop
  | [],_ => True
  | .v _ :: L,g => R2 E Y X w L g
  | .s ⟨.own _,_,_⟩ :: L,g => R2 E Y X w L g.2
  | .s ⟨.frz,u,l⟩ :: L,g => Sl w Y (u.rp E.r) g.1 l ∧ R2 E Y X w L g.2
  | .s ⟨.rd,u,l⟩ :: L,g => Sl w (NX X) (u.rp E.r) g.1 l ∧ R2 E Y X w L g.2
section
variable {E : TE} {P : Program} {B : Bs} {w : World}
theorem Xf {x : CV} {c : Nat → Type} {L : List (Leaf c)} (h : JY (.v x :: L) = true) : (∀ sz σ ρ,x.val sz σ ρ = x.v0) ∧ x.wf 0 0 = true ∧ JY L = true := by
  cases x with
  | int k i => exact ⟨fun _ _ _ => rfl,rfl,h⟩
  | bool b => exact ⟨fun _ _ _ => rfl,rfl,h⟩
  | str s => exact ⟨fun _ _ _ => rfl,rfl,h⟩
  | flt k n => exact ⟨fun _ _ _ => rfl,rfl,h⟩
  | fn f => exact ⟨fun _ _ _ => rfl,rfl,h⟩
  | sl z => cases h
  | nil => cases h
  | ptr b o => cases h
  | ep z u i o => cases h
theorem vZ : ∀ (L : List (Leaf E.c)) (g : GT L) {Z : List It},JY L = true → R2 E B.Y B.X B.w0 L g → Stw B [] (L7 E L g ++ Z) B.w0 → ∃ its,JF ZC (DI E B) L (HQ L g) its ∧ Stw B [] (its ++ Z) B.w0
  | [],g,Z,hc,hg,hW => ⟨[],⟨rfl,rfl⟩,hW⟩
  | .v x :: L,g,Z,hc,hg,hW => by
    obtain ⟨h1,h2,h3⟩ := Xf hc
    obtain ⟨its,k1,k2⟩ := vZ L g (Z := Z) h3 hg hW
    exact ⟨its,⟨_,_,rfl,h1,h2,k1⟩,k2⟩
  | .s ⟨.own e,u,l⟩ :: L,g,Z,hc,hg,hW => by
    obtain ⟨lx,e1,hW1⟩ := Stw.exR (show Stw B [] (row g.1 e (u.rp E.r) l :: (L7 E L g.2 ++ Z)) B.w0 from hW) (Ex.seen (u.rp E.r))
    obtain ⟨its,k1,k2⟩ := vZ L g.2 (Z := row g.1 e (u.rp E.r).seen lx :: Z) hc hg (hW1.permZ List.perm_middle.symm)
    exact ⟨_ :: its,.inr ⟨_,_,_,_,rfl,rfl,⟨lx,e1,rfl⟩,k1⟩,k2.permZ List.perm_middle⟩
  | .s ⟨.frz,u,l⟩ :: L,g,Z,hc,hg,hW => by
    obtain ⟨it,h1,h2,hW1⟩ := hW.note' (z := ⟨.frz,u,l⟩) (v := g.1) (hW.old hg.1)
    obtain ⟨its,k1,k2⟩ := vZ L g.2 (Z := it :: Z) hc hg.2 (hW1.permZ List.perm_middle.symm)
    exact ⟨it :: its,.inr ⟨_,_,_,_,rfl,rfl,h2,k1⟩,k2.permZ List.perm_middle⟩
  | .s ⟨.rd,u,l⟩ :: L,g,Z,hc,hg,hW => by
    obtain ⟨it,h1,h2,hW1⟩ := hW.note' (z := ⟨.rd,u,l⟩) (v := g.1) hg.1
    obtain ⟨its,k1,k2⟩ := vZ L g.2 (Z := it :: Z) hc hg.2 (hW1.permZ List.perm_middle.symm)
    exact ⟨it :: its,.inr ⟨_,_,_,_,rfl,rfl,h2,k1⟩,k2.permZ List.perm_middle⟩
theorem rY : ∀ (L : List (Leaf E.c)) {cs : List Value} {its Z : List It},JY L = true → JF ZC (DI E B) L cs its → Stw B [] (its ++ Z) w → ∃ g : GT L,cs = HQ L g ∧ Stw B [] (Oj E L g ++ Z) w
  | [],cs,its,Z,hc,⟨h1,h2⟩,hW => by subst h1 h2; exact ⟨(),rfl,hW⟩
  | .v x :: L,cs,its,Z,hc,⟨v,r,e,h1,h2,h⟩,hW => by
    subst e
    obtain ⟨q1,q2,q3⟩ := Xf hc
    obtain ⟨g,k1,k2⟩ := rY L q3 h hW
    have : v = x.v0 := (h1 (fun _ => 0) (fun _ => undef) (fun _ => 0)).symm.trans (q1 _ _ _)
    exact ⟨g,by rw [this,k1]; rfl,k2⟩
  | .s ⟨k,u,l⟩ :: L,cs,its,Z,hc,h,hW => by
    rcases h with ⟨v,r,e,hi,h⟩ | ⟨v,r,it,its',e1,e2,⟨lx,g1,g2⟩,h⟩
    · exact hi.elim
    · subst e1 e2
      have hc : JY L = true := hc
      have g2 : it = P9 E B v k u lx := g2
      have g1 : lx.map Prod.snd = l := g1
      subst g2
      obtain ⟨g,k1,k2⟩ := rY L (Z := P9 E B v k u lx :: Z) hc h (hW.permZ List.perm_middle.symm)
      have k3 := k2.permZ (List.perm_middle (a := P9 E B v k u lx) (l₁ := Oj E L g) (l₂ := Z))
      refine ⟨(v,g),by rw [k1]; rfl, ?_⟩
      cases k with
      | own e => exact Stw.hideR (show Stw B [] (row v e (u.rp E.r).seen lx :: (Oj E L g ++ Z)) w from k3) (Ex.seen (u.rp E.r)) g1
      | frz => exact Stw.hideF (show Stw B [] (frz v (u.rp E.r).seen lx :: (Oj E L g ++ Z)) w from k3) (Ex.seen (u.rp E.r)) g1
      | rd => exact k3.sub (List.Sublist.refl _) (List.sublist_cons_self ..)
theorem KO.out {C : Con E P} {f : Nat} (h : KO C f) {Y : Nat → Prop} {X : List Nat} {w0 : World} {x : TT E.c (Dp C.xs C.bs)} {r : TT E.c (IX C.xs C.ys C.bs C.io)} {L L' : List (Leaf E.c)} (hx : C.tw x = some r) (hb : 0 = C.bs.length) (hl : Q7 E (Dp C.xs C.bs) x = some L) (hl' : Q7 E _ r = some L') (c1 : JY L = true) (c2 : JY L' = true) (g : GT L)
    (hg : R2 E Y X w0 L g) (hW : Stw ⟨Y,X,w0⟩ [] (L7 E L g) w0) (hk : E.gk X w0) :
    Calls P f (Hj E C.xs (HQ L g) []).toArray w0 fun e w' => ∃ g' : GT L',e = .returned (SO E C.ys (HQ L' g')) ∧ Stw ⟨Y,X,w0⟩ [] (Oj E L' g') w' ∧ (C.io = true → (HQ L' g').drop (Au E (flt C.ys ++ aU C.bs)) = Nx E (flt C.xs) (HQ L g)) := by
  obtain ⟨its,k1,k2⟩ := vZ (B := ⟨Y,X,w0⟩) L g (Z := []) c1 hg (by rw [List.append_nil]; exact hW)
  rw [List.append_nil] at k2
  refine (h.ok Y X w0 hk x r L _ its [] hx hl k1 hb k2).mono ?_
  rintro e w' ⟨L1,cs',its',m1,m2,m3,m4,m5⟩
  obtain rfl := Option.some.inj (m1.symm.trans hl')
  obtain ⟨g',n1,n2⟩ := rY L1 (Z := []) c2 m2 (by rw [List.append_nil]; exact m3)
  rw [List.append_nil] at n2
  subst n1
  exact ⟨g',m4,n2,m5⟩
theorem KO.outP {C : Con E P} {f : Nat} (h : KO C f) {Y : Nat → Prop} {w0 : World} {x : TT E.c (Dp C.xs C.bs)} {r : TT E.c (IX C.xs C.ys C.bs C.io)} {L L' : List (Leaf E.c)} {v : Value} (hx : C.tw x = some r) (hb : 0 = C.bs.length) (hl : Q7 E (Dp C.xs C.bs) x = some L) (hl' : Q7 E _ r = some L') (c1 : JY L = true) (c2 : JY L' = true) (g : GT L)
    (hg : R2 E Y [] w0 L g) (hI : L7 E L g = []) (hk : E.gk [] w0) (hv : ∀ g' : GT L',SO E C.ys (HQ L' g') = v) :
    Calls P f (Hj E C.xs (HQ L g) []).toArray w0 fun e w' => e = .returned v ∧ Below w0.heap.size w0 w' :=
  (h.out hx hb hl hl' c1 c2 g hg (by rw [hI]; exact Stw.start Y w0) hk).mono fun e w' ⟨g',he,hW,_⟩ => ⟨by rw [he,hv],hW.done⟩
def wX {c : Nat → Type} : List (Leaf c) → Bool
  | [] => true
  | .v _ :: L => wX L
  | .s ⟨.own _,_,_⟩ :: _ => false
  | .s _ :: L => wX L
def DG (E : TE) (B : Bs) (A : Nat → Prop) : (L : List (Leaf E.c)) → GT L → Prop
  | [],_ => True
  | .v _ :: L,g => DG E B A L g
  | .s ⟨.own _,_,_⟩ :: L,g => DG E B A L g.2
  | .s ⟨.frz,u,l⟩ :: L,g => Sl B.w0 A (u.rp E.r) g.1 l ∧ DG E B A L g.2
  | .s ⟨.rd,u,l⟩ :: L,g => Sl B.w0 (NX B.X) (u.rp E.r) g.1 l ∧ DG E B A L g.2
theorem mD {A : Nat → Prop} : ∀ (L : List (Leaf E.c)) {cs : List Value} {its : List It},JY L = true → wX L = true → JF ZC (DI E B) L cs its → (∀ z ∈ its,z.ok B.w0 A) → ∃ g : GT L,cs = HQ L g ∧ DG E B A L g
  | [],cs,its,hc,ho,⟨h1,h2⟩,hI => by subst h1 h2; exact ⟨(),rfl,trivial⟩
  | .v x :: L,cs,its,hc,ho,⟨v,r,e,h1,h2,h⟩,hI => by
    subst e
    obtain ⟨q1,q2,q3⟩ := Xf hc
    obtain ⟨g,k1,k2⟩ := mD L q3 ho h hI
    have : v = x.v0 := (h1 (fun _ => 0) (fun _ => undef) (fun _ => 0)).symm.trans (q1 _ _ _)
    exact ⟨g,by rw [this,k1]; rfl,k2⟩
  | .s ⟨k,u,l⟩ :: L,cs,its,hc,ho,h,hI => by
    rcases h with ⟨v,r,e,hi,h⟩ | ⟨v,r,it,its',e1,e2,⟨lx,g1,g2⟩,h⟩
    · exact hi.elim
    · subst e1 e2
      have g2 : it = P9 E B v k u lx := g2
      have g1 : lx.map Prod.snd = l := g1
      subst g2
      have H3 := hI _ (List.mem_cons_self ..)
      cases k with
      | own e => cases ho
      | frz =>
        obtain ⟨g,k1,k2⟩ := mD L hc ho h fun z hz => hI z (zd _ hz)
        exact ⟨(v,g),by rw [k1]; rfl,Sl.hide (Ex.seen (u.rp E.r)) g1 (show Sl B.w0 A (u.rp E.r).seen v lx from H3),k2⟩
      | rd =>
        obtain ⟨g,k1,k2⟩ := mD L hc ho h fun z hz => hI z (zd _ hz)
        exact ⟨(v,g),by rw [k1]; rfl,Sl.hide (Ex.seen (u.rp E.r)) g1 (show Sl B.w0 (NX B.X) (u.rp E.r).seen v lx from H3),k2⟩
theorem DG.hyp {A : Nat → Prop} : ∀ (L : List (Leaf E.c)) (g : GT L),wX L = true → DG E B A L g → R2 E A [] B.w0 L g
  | [],g,ho,h => trivial
  | .v _ :: L,g,ho,h => DG.hyp L g ho h
  | .s ⟨.own _,_,_⟩ :: L,g,ho,h => nomatch ho
  | .s ⟨.frz,u,l⟩ :: L,g,ho,h => ⟨h.1,DG.hyp L g.2 ho h.2⟩
  | .s ⟨.rd,u,l⟩ :: L,g,ho,h => ⟨h.1.stab fun b _ _ => ⟨(by simp [NX]),rfl⟩,DG.hyp L g.2 ho h.2⟩
theorem vO : ∀ (L : List (Leaf E.c)) (g : GT L) {X : List It},JY L = true → Stw B [] (Oj E L g ++ X) w → ∃ its,JF ZC (DI E B) L (HQ L g) its ∧ Stw B [] (its ++ X) w ∨ ∃ u l,Leaf.s ⟨.rd,u,l⟩ ∈ L
  | [],g,X,hc,hW => ⟨[],.inl ⟨⟨rfl,rfl⟩,hW⟩⟩
  | .v x :: L,g,X,hc,hW => by
    obtain ⟨h1,h2,h3⟩ := Xf hc
    obtain ⟨its,h⟩ := vO L g (X := X) h3 hW
    rcases h with ⟨k1,k2⟩ | ⟨u,l,h⟩
    · exact ⟨its,.inl ⟨⟨_,_,rfl,h1,h2,k1⟩,k2⟩⟩
    · exact ⟨its,.inr ⟨u,l,zd _ h⟩⟩
  | .s ⟨.own e,u,l⟩ :: L,g,X,hc,hW => by
    obtain ⟨lx,e1,hW1⟩ := Stw.exR (show Stw B [] (row g.1 e (u.rp E.r) l :: (Oj E L g.2 ++ X)) w from hW) (Ex.seen (u.rp E.r))
    obtain ⟨its,h⟩ := vO L g.2 (X := row g.1 e (u.rp E.r).seen lx :: X) hc (hW1.permZ List.perm_middle.symm)
    rcases h with ⟨k1,k2⟩ | ⟨u',l',h⟩
    · exact ⟨_ :: its,.inl ⟨.inr ⟨_,_,_,_,rfl,rfl,⟨lx,e1,rfl⟩,k1⟩,k2.permZ List.perm_middle⟩⟩
    · exact ⟨its,.inr ⟨u',l',zd _ h⟩⟩
  | .s ⟨.frz,u,l⟩ :: L,g,X,hc,hW => by
    obtain ⟨lx,e1,hW1⟩ := Stw.exF (show Stw B [] (frz g.1 (u.rp E.r) l :: (Oj E L g.2 ++ X)) w from hW) (Ex.seen (u.rp E.r))
    obtain ⟨its,h⟩ := vO L g.2 (X := frz g.1 (u.rp E.r).seen lx :: X) hc (hW1.permZ List.perm_middle.symm)
    rcases h with ⟨k1,k2⟩ | ⟨u',l',h⟩
    · exact ⟨_ :: its,.inl ⟨.inr ⟨_,_,_,_,rfl,rfl,⟨lx,e1,rfl⟩,k1⟩,k2.permZ List.perm_middle⟩⟩
    · exact ⟨its,.inr ⟨u',l',zd _ h⟩⟩
  | .s ⟨.rd,u,l⟩ :: L,g,X,hc,hW => ⟨[],.inr ⟨u,l,List.mem_cons_self ..⟩⟩
theorem O9 : ∀ {L : List (Leaf E.c)},Yh L = true → ∀ u l, ¬ Leaf.s ⟨.rd,u,l⟩ ∈ L
  | [],_,u,l,h => nomatch h
  | .v x :: L,hn,u,l,h => by
    rcases List.mem_cons.1 h with h | h
    · cases h
    · exact O9 (L := L) hn u l h
  | .s ⟨.rd,_,_⟩ :: L,hn,u,l,h => nomatch hn
  | .s ⟨.own _,_,_⟩ :: L,hn,u,l,h => by
    rcases List.mem_cons.1 h with h | h
    · cases h
    · exact O9 (L := L) hn u l h
  | .s ⟨.frz,_,_⟩ :: L,hn,u,l,h => by
    rcases List.mem_cons.1 h with h | h
    · cases h
    · exact O9 (L := L) hn u l h
theorem Stw.up {A : Nat → Prop} {l0 : List Nat} {Z : List It} (h : Stw ⟨Fz B l0,[],B.w0⟩ [] Z w) (hb : ∀ b ∈ B.X, ¬ B.Y b) : Stw B [] Z w :=
  ⟨⟨h.frm.os,h.frm.tape,h.frm.output,h.frm.size,fun k hk hx => h.frm.block k hk (by simp)⟩,fun g hg => .inr ((h.own g hg).resolve_left (by simp)),(fun p hp => nomatch hp),
    fun z hz => z.stab (h.items z hz) (fun b hb _ => ⟨⟨by
      rcases hb.1 with h1 | h1 | h1
      · exact h1.1
      · cases h1
      · exact .inr (.inr h1),hb.2⟩,rfl⟩) fun _ _ => rfl,h.nodup,hb⟩
theorem KO.of {C : Con E P} {f : Nat} (hh : Has P f) {Lx : TT E.c (Dp C.xs C.bs) → List (Leaf E.c)} {Lr : TT E.c (IX C.xs C.ys C.bs C.io) → List (Leaf E.c)} (hb : C.bs.length = 0) (hL : ∀ x,Q7 E (Dp C.xs C.bs) x = some (Lx x)) (hR : ∀ r,Q7 E _ r = some (Lr r)) (hio : C.io = false) (c1 : ∀ x,JY (Lx x) = true) (c2 : ∀ r,JY (Lr r) = true) (n1 : ∀ x,wX (Lx x) = true) (n2 : ∀ r,Yh (Lr r) = true)
    (h : ∀ (Y : Nat → Prop) (w0 : World) x r (g : GT (Lx x)),C.tw x = some r → R2 E Y [] w0 (Lx x) g → E.gk [] w0 → Calls P f (Hj E C.xs (HQ (Lx x) g) []).toArray w0 fun e w' => ∃ g' : GT (Lr r),e = .returned (SO E C.ys (HQ (Lr r) g')) ∧ Stw ⟨Y,[],w0⟩ [] (Oj E (Lr r) g') w') : KO C f := by
  refine ⟨fun Y X w0 hgk x r L cs its mb hx hl hLR hml hW => ?_,hh⟩
  cases mb with
  | cons b mb => rw [hb] at hml; cases hml
  | nil =>
  have hW : Stw ⟨Y,X,w0⟩ [] its w0 := hW
  obtain rfl := Option.some.inj ((hL x).symm.trans hl)
  obtain ⟨g,k1,k2⟩ := mD (B := ⟨Y,X,w0⟩) (A := Fz ⟨Y,X,w0⟩ (Aq [] its)) _ (c1 x) (n1 x) hLR hW.items
  subst k1
  refine (h _ w0 x r g hx (DG.hyp _ g (n1 x) k2) (E.go (B := ⟨Y,X,w0⟩) (Ml := []) (M := []) (Zl := []) (Z := its) hgk hW)).mono ?_
  rintro e w' ⟨g',he,hW'⟩
  have hW2 := Stw.up (B := ⟨Y,X,w0⟩) (A := fun _ => True) hW' hW.disj
  obtain ⟨its',h1 | ⟨u,l,h1⟩⟩ := vO (Lr r) g' (X := []) (c2 r) (by rw [List.append_nil]; exact hW2)
  · obtain ⟨h1,h2⟩ := h1
    rw [List.append_nil] at h2
    exact ⟨_,_,its',hR r,h1,h2,he,fun hc => by rw [hio] at hc; cases hc⟩
  · exact absurd h1 (O9 (n2 r) u l)
theorem qF {A : Nat → Prop} : ∀ (L : List (Leaf E.c)) {cs : List Value} {its Z : List It},JY L = true → JF ZC (DI E B) L cs its → (∀ z ∈ its,z.ok B.w0 A) → Stw B [] (its ++ Z) B.w0 → ∃ (g : GT L) (Zr : List It),cs = HQ L g ∧ DG E B A L g ∧ Stw B [] (L7 E L g ++ (Zr ++ Z)) B.w0 ∧ ∀ b,(∃ z ∈ L7 E L g ++ (Zr ++ Z),b ∈ z.bl) → ∃ z ∈ its ++ Z,b ∈ z.bl
  | [],cs,its,Z,hc,⟨h1,h2⟩,hI,hW => by subst h1 h2; exact ⟨(),[],rfl,trivial,hW,fun _ h => h⟩
  | .v x :: L,cs,its,Z,hc,⟨v,r,e,h1,h2,h⟩,hI,hW => by
    subst e
    obtain ⟨q1,q2,q3⟩ := Xf hc
    obtain ⟨g,Zr,k1,k2,k3,kb⟩ := qF L q3 h hI hW
    have : v = x.v0 := (h1 (fun _ => 0) (fun _ => undef) (fun _ => 0)).symm.trans (q1 _ _ _)
    exact ⟨g,Zr,by rw [this,k1]; rfl,k2,k3,kb⟩
  | .s ⟨k, u, l⟩ :: L, cs, its, Z, hc, h, hI, hW => by
    rcases h with ⟨v,r,e,hi,h⟩ | ⟨v,r,it,its',e1,e2,⟨lx,g1,g2⟩,h⟩
    · exact hi.elim
    · subst e1 e2
      have g2 : it = P9 E B v k u lx := g2
      have g1 : lx.map Prod.snd = l := g1
      subst g2
      have H3 := hI _ (List.mem_cons_self ..)
      obtain ⟨g,Zr,k1,k2,k3,kb⟩ := qF L (Z := P9 E B v k u lx :: Z) hc h (fun z hz => hI z (zd _ hz)) (hW.permZ List.perm_middle.symm)
      cases k with
      | own e =>
        refine ⟨(v,g),Zr,by rw [k1]; rfl,k2, ?_⟩
        have k4 : Stw B [] (row v e (u.rp E.r).seen lx :: (L7 E L g ++ (Zr ++ Z))) B.w0 := k3.permZ ((List.Perm.append_left _ List.perm_middle).trans List.perm_middle)
        exact ⟨k4.hideR (Ex.seen (u.rp E.r)) g1,fun b hb => by
          obtain ⟨z,hz,hb⟩ := hb
          have hz : z = row v e (u.rp E.r) l ∨ z ∈ L7 E L g ++ (Zr ++ Z) := List.mem_cons.1 hz
          rcases hz with rfl | hz
          · exact ⟨_,List.mem_cons_self ..,hb⟩
          · obtain ⟨z',hz',hb'⟩ := kb b ⟨z,by
              rcases List.mem_append.1 hz with h | h
              · exact List.mem_append_left _ h
              · refine List.mem_append_right _ ?_
                rcases List.mem_append.1 h with h | h
                · exact List.mem_append_left _ h
                · exact List.mem_append_right _ (zd _ h),hb⟩
            refine ⟨z', ?_,hb'⟩
            rcases List.mem_append.1 hz' with h | h
            · exact zd _ (List.mem_append_left _ h)
            · rcases List.mem_cons.1 h with rfl | h
              · exact List.mem_cons_self ..
              · exact zd _ (List.mem_append_right _ h)⟩
      | frz => exact ⟨(v,g),Zr ++ [P9 E B v .frz u lx],by rw [k1]; rfl,⟨Sl.hide (Ex.seen (u.rp E.r)) g1 (show Sl B.w0 A (u.rp E.r).seen v lx from H3),k2⟩,by rw [List.append_assoc]; exact k3,fun b hb => by
          obtain ⟨z,hz,hb⟩ := hb
          obtain ⟨z',hz',hb'⟩ := kb b ⟨z,by rw [List.append_assoc] at hz; exact hz,hb⟩
          refine ⟨z', ?_,hb'⟩
          rcases List.mem_append.1 hz' with h | h
          · exact zd _ (List.mem_append_left _ h)
          · rcases List.mem_cons.1 h with rfl | h
            · exact List.mem_cons_self ..
            · exact zd _ (List.mem_append_right _ h)⟩
      | rd => exact ⟨(v,g),Zr ++ [P9 E B v .rd u lx],by rw [k1]; rfl,⟨Sl.hide (Ex.seen (u.rp E.r)) g1 (show Sl B.w0 (NX B.X) (u.rp E.r).seen v lx from H3),k2⟩,by rw [List.append_assoc]; exact k3,fun b hb => by
          obtain ⟨z,hz,hb⟩ := hb
          obtain ⟨z',hz',hb'⟩ := kb b ⟨z,by rw [List.append_assoc] at hz; exact hz,hb⟩
          refine ⟨z', ?_,hb'⟩
          rcases List.mem_append.1 hz' with h | h
          · exact zd _ (List.mem_append_left _ h)
          · rcases List.mem_cons.1 h with rfl | h
            · exact List.mem_cons_self ..
            · exact zd _ (List.mem_append_right _ h)⟩
theorem DG.hypL {A : Nat → Prop} {Z Zl : List It} (hW : Stw B [] (Zl ++ Z) B.w0) : ∀ (L : List (Leaf E.c)) (g : GT L),DG E B A L g → R2 E A (Aq [] Zl) B.w0 L g
  | [],g,h => trivial
  | .v _ :: L,g,h => DG.hypL hW L g h
  | .s ⟨.own _,_,_⟩ :: L,g,h => DG.hypL hW L g.2 h
  | .s ⟨.frz,u,l⟩ :: L,g,h => ⟨h.1,DG.hypL hW L g.2 h.2⟩
  | .s ⟨.rd,u,l⟩ :: L,g,h => ⟨hW.roX h.1 fun b hb => YQ (Ml := []) (M := []) hb,DG.hypL hW L g.2 h.2⟩
theorem KO.ofL {C : Con E P} {f : Nat} (hh : Has P f) {Lx : TT E.c (Dp C.xs C.bs) → List (Leaf E.c)} {Lr : TT E.c (IX C.xs C.ys C.bs C.io) → List (Leaf E.c)} (hb : C.bs.length = 0) (hL : ∀ x,Q7 E (Dp C.xs C.bs) x = some (Lx x)) (hR : ∀ r,Q7 E _ r = some (Lr r)) (c1 : ∀ x,JY (Lx x) = true) (c2 : ∀ r,JY (Lr r) = true) (n2 : ∀ r,Yh (Lr r) = true)
    (h : ∀ (Y : Nat → Prop) (X : List Nat) (w0 : World) x r (g : GT (Lx x)),C.tw x = some r → R2 E Y X w0 (Lx x) g → Stw ⟨Y,X,w0⟩ [] (L7 E (Lx x) g) w0 → E.gk X w0 → Calls P f (Hj E C.xs (HQ (Lx x) g) []).toArray w0 fun e w' => ∃ g' : GT (Lr r),e = .returned (SO E C.ys (HQ (Lr r) g')) ∧ Stw ⟨Y,X,w0⟩ [] (Oj E (Lr r) g') w' ∧ (C.io = true → (HQ (Lr r) g').drop (Au E (flt C.ys ++ aU C.bs)) = Nx E (flt C.xs) (HQ (Lx x) g))) : KO C f := by
  refine ⟨fun Y X w0 hgk x r L cs its mb hx hl hLR hml hW => ?_,hh⟩
  cases mb with
  | cons b mb => rw [hb] at hml; cases hml
  | nil =>
  have hW : Stw ⟨Y,X,w0⟩ [] its w0 := hW
  obtain rfl := Option.some.inj ((hL x).symm.trans hl)
  obtain ⟨g,Zr,k1,k2,k3,kb⟩ := qF (B := ⟨Y,X,w0⟩) (A := Fz ⟨Y,X,w0⟩ (Aq [] its)) _ (Z := []) (c1 x) hLR hW.items (by rw [List.append_nil]; exact hW)
  subst k1
  have k3 : Stw ⟨Y,X,w0⟩ ([] ++ []) (L7 E (Lx x) g ++ (Zr ++ [])) w0 := k3
  have hY : ∀ b,Fz ⟨Y,X,w0⟩ (Aq [] its) b → Fz ⟨Y,X,w0⟩ (Aq ([] ++ []) (L7 E (Lx x) g ++ (Zr ++ []))) b := fun b hb => ⟨hb.1,fun hm => hb.2 (by
    obtain ⟨z,hz,hzb⟩ := List.mem_flatMap.1 (show b ∈ (L7 E (Lx x) g ++ (Zr ++ [])).flatMap It.bl from hm)
    obtain ⟨z',hz',hb'⟩ := kb b ⟨z,hz,hzb⟩
    rw [List.append_nil] at hz'
    exact List.mem_flatMap.2 ⟨z',hz',hb'⟩)⟩
  have hD : ∀ (L : List (Leaf E.c)) (g : GT L),DG E ⟨Y,X,w0⟩ (Fz ⟨Y,X,w0⟩ (Aq [] its)) L g → DG E ⟨Y,X,w0⟩ (Fz ⟨Y,X,w0⟩ (Aq ([] ++ []) (L7 E (Lx x) ‹_› ++ (Zr ++ [])))) L g := fun L => by
    induction L with
    | nil => intro g h; trivial
    | cons y L ih =>
      intro g h
      cases y with
      | v y => exact ih g h
      | s z =>
        obtain ⟨k,u,l⟩ := z
        cases k with
        | own e => exact ih g.2 h
        | frz => exact ⟨h.1.stab fun b hb _ => ⟨hY b hb,rfl⟩,ih g.2 h.2⟩
        | rd => exact ⟨h.1,ih g.2 h.2⟩
  have hgk' := E.go (B := ⟨Y,X,w0⟩) (Ml := []) (M := []) (Zl := L7 E (Lx x) g) (Z := Zr ++ []) hgk k3
  refine (h _ (Aq [] (L7 E (Lx x) g)) w0 x r g hx (DG.hypL (B := ⟨Y,X,w0⟩) (Z := Zr ++ []) k3 _ g (hD _ g k2)) k3.lend hgk').mono ?_
  rintro e w' ⟨g',he,hW',hio⟩
  have hW2 : Stw ⟨Y,X,w0⟩ [] (Oj E (Lr r) g' ++ (Zr ++ [])) w' := k3.join hW'
  obtain ⟨its',h1 | ⟨u,l,h1⟩⟩ := vO (Lr r) g' (X := Zr ++ []) (c2 r) hW2
  · obtain ⟨h1,h2⟩ := h1
    exact ⟨_,_,its',hR r,h1,h2.sub (List.Sublist.refl _) (List.sublist_append_left _ _),he,hio⟩
  · exact absurd h1 (O9 (n2 r) u l)
theorem Stw.ofB {Y : Nat → Prop} {w0 w' : World} (h : Below w0.heap.size w0 w') : Stw ⟨Y,[],w0⟩ [] [] w' := (Stw.start Y w0).below h
end
end Go.Proofs.YtkhiflmalgkjiaaGreat
