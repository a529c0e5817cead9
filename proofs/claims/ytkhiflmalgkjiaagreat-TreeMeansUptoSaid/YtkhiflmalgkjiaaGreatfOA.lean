/- Arguments that are arrays; rows that know the shape of memory. Conditions: none. -/
import Derived.Test.YtkhiflmalgkjiaaGreatfOT
import Derived.Handed
import Derived.Shelf.Vars
import Derived.Lib.LaidTab
import Derived.Test.YtkhiflmalgkjiaaGreatfTR
import Derived.Test.YtkhiflmalgkjiaaGreatRows
import Derived.Deep.DeepHandedRow
set_option linter.unusedVariables false
set_option linter.unusedSimpArgs false
open Go Go.RowKit
namespace Go.Proofs.YtkhiflmalgkjiaaGreat
section
variable {P : Program} {t e : TypeId}
def IE {α : Type} (P : Program) (e : TypeId) (i n : Nat) (r : Rp α) (ok : α → Prop) : Prop :=
  ∀ (H : Type) (enc : TypeId × Value → H) (W : World) (base : Nat) (sp : Nat → Bool) (m : Nat) (cs : List Value),(∀ j,i ≤ j → j < n → ∃ y,DataW.trod enc P W base sp true m e ((cs.drop (j * P.cellsOf e)).take (P.cellsOf e)) = some y) →
    cs.length = n * P.cellsOf e → ∃ a,r.rep W any (cs.drop (i * P.cellsOf e)) a ∧ ok a
theorem IE.one {α : Type} {r : Rp α} {ok : α → Prop} {i : Nat} (hc : P.cellsOf e = r.sz) (h : Ee P e r ok) : IE P e i (i + 1) r ok := by
  intro H enc W base sp m cs hx hl
  obtain ⟨y,hy⟩ := hx i (Nat.le_refl _) (Nat.lt_succ_self _)
  rw [List.take_of_length_le (by rw [List.length_drop,hl,Nat.succ_mul]; omega)] at hy
  exact h H enc W base sp m _ y hy
theorem IE.cons {α β : Type} {r : Rp α} {s : Rp β} {ok : α → Prop} {ok' : β → Prop} {i n : Nat} (hc : P.cellsOf e = r.sz) (hi : i < n) (h : Ee P e r ok) (h' : IE P e (i + 1) n s ok') : IE P e i n (r.pair s) (xJ ok ok') := by
  intro H enc W base sp m cs hx hl
  obtain ⟨y,hy⟩ := hx i (Nat.le_refl _) hi
  obtain ⟨a,ha,hoa⟩ := h H enc W base sp m _ y hy
  obtain ⟨b,hb,hob⟩ := h' H enc W base sp m cs (fun j h1 h2 => hx j (by omega) h2) hl
  refine ⟨(a,b),⟨_,_, ?_,ha,hb⟩,hoa,hob⟩
  rw [Nat.succ_mul, ← List.drop_drop,List.take_append_drop]
theorem Ee.array {α : Type} {r : Rp α} {ok : α → Prop} {n : Nat} (hu : P.underlying t = some (.array n e)) (hc : P.cellsOf t = n * P.cellsOf e) (h : IE P e 0 n r ok) : Ee P t r ok := by
  intro H enc W base sp fuel cs x hx
  obtain ⟨xs,m,rfl,_,hlen,hn,hel⟩ := DataW.trod_array hu hx
  obtain ⟨a,h1,h2⟩ := h H enc W base sp m cs (fun j _ hj => ⟨xs[j]'(by omega),by rw [hel j hj,zb (by omega)]⟩) (by rw [hlen,hc])
  exact ⟨a,by simpa using h1,h2⟩
theorem eF {n : Nat} {W : World} {r : Reach} {b : Nat} {v : Value} (hu : P.underlying t = some (.array n e)) (hval : Value.okWide P W r b t v) : ∃ cs,v = .agg cs := by
  unfold Value.okWide at hval
  rw [hu] at hval
  obtain ⟨cs,h,_⟩ := hval
  exact ⟨cs,h⟩
end
section
variable {H : Type} {enc : TypeId × Value → H}
end
section
variable {P : Program} {W : World} {t e : TypeId} {g : Nat}
end
end Go.Proofs.YtkhiflmalgkjiaaGreat
namespace Go.Proofs.YtkhiflmalgkjiaaGreat
def PO {α : Type} (P : Program) (t : TypeId) (r : Rp α) (sz : α → Nat) (N : Nat) : Prop :=
  ∀ (H : Type) (enc : TypeId × Value → H) (W : World) (base : Nat) (sp : Nat → Bool) (fuel : Nat) (cs : List Value) (x : DataW H × List MemPlace),fuel ≤ N → DataW.trod enc P W base sp true fuel t cs = some x → ∃ a,r.rep W any cs a ∧ sz a ≤ Rows.uptoBulk x.1
def JK {α : Type} (P : Program) (fs : List Field) (off : Nat) (r : Rp α) (sz : α → Nat) (N : Nat) : Prop :=
  ∀ (H : Type) (enc : TypeId × Value → H) (W : World) (base : Nat) (sp : Nat → Bool) (fuel : Nat) (cs : List Value) (xs : List (DataW H × List MemPlace)),fuel ≤ N →
    (fs.mapM fun f => DataW.trod enc P W base sp true fuel f.type ((cs.drop f.offset).take (P.cellsOf f.type))) = some xs → cs.length = off + r.sz → ∃ a,r.rep W any (cs.drop off) a ∧ sz a ≤ Rows.uptoBulkAll (xs.map (·.1))
section
variable {P : Program} {t : TypeId} {α β : Type} {N : Nat}
theorem PO.flat {r : Rp α} {ok : α → Prop} (h : Ee P t r ok) : PO P t r (fun _ => 0) N := fun H enc W base sp fuel cs x _ hx => by
  obtain ⟨a,h1,_⟩ := h H enc W base sp fuel cs x hx
  exact ⟨a,h1,Nat.zero_le _⟩
theorem OY {γ δ : Type} {g : γ → Option δ} {x : γ} {l : List γ} {ys : List δ} (h : (x :: l).mapM g = some ys) : ∃ y zs,g x = some y ∧ l.mapM g = some zs ∧ ys = y :: zs := by
  rw [List.mapM_cons] at h
  obtain ⟨y,h1,h2⟩ := Option.bind_eq_some_iff.1 h
  obtain ⟨zs,h3,h4⟩ := Option.bind_eq_some_iff.1 h2
  exact ⟨y,zs,h1,h3,by simpa using h4.symm⟩
theorem JK.one {r : Rp α} {sz : α → Nat} {f : Field} {off : Nat} (ho : f.offset = off) (hc : P.cellsOf f.type = r.sz) (h : PO P f.type r sz N) : JK P [f] off r sz N := by
  intro H enc W base sp fuel cs xs hN hx hl
  obtain ⟨y,zs,h1,_,h3⟩ := OY hx
  rw [ho,hc,List.take_of_length_le (by simp; omega)] at h1
  obtain ⟨a,g1,g2⟩ := h H enc W base sp fuel _ y hN h1
  refine ⟨a,g1, ?_⟩
  rw [h3]; simp only [zj,Rows.uptoBulkAll]; omega
theorem JK.cons {r : Rp α} {s : Rp β} {sz : α → Nat} {sz' : β → Nat} {f : Field} {fs : List Field} {off : Nat} (ho : f.offset = off) (hc : P.cellsOf f.type = r.sz) (h : PO P f.type r sz N) (h' : JK P fs (off + r.sz) s sz' N) : JK P (f :: fs) off (r.pair s) (fun p => sz p.1 + sz' p.2) N := by
  intro H enc W base sp fuel cs xs hN hx hl
  obtain ⟨y,zs,h1,h2,h3⟩ := OY hx
  rw [ho,hc] at h1
  obtain ⟨a,ha,hoa⟩ := h H enc W base sp fuel _ y hN h1
  have hl' : cs.length = off + (r.sz + s.sz) := hl
  obtain ⟨b,hb,hob⟩ := h' H enc W base sp fuel cs zs hN h2 (by omega)
  refine ⟨(a,b),⟨_,_, ?_,ha,hb⟩, ?_⟩
  · rw [← List.drop_drop,List.take_append_drop]
  · rw [h3]; simp only [zj,Rows.uptoBulkAll]; omega
theorem PO.struct {r : Rp α} {sz : α → Nat} {fs : Array Field} (hu : P.underlying t = some (.struct fs)) (hc : P.cellsOf t = r.sz) (h : JK P fs.toList 0 r sz N) : PO P t r (fun a => 1 + sz a) (N + 1) := by
  intro H enc W base sp fuel cs x hN hx
  cases fuel with
  | zero => simp [DataW.trod] at hx
  | succ fuel =>
    unfold DataW.trod at hx
    rw [hu] at hx
    simp only at hx
    split at hx
    · rename_i hl
      simp only [Option.map_eq_some_iff] at hx
      obtain ⟨xs,h1,h2⟩ := hx
      obtain ⟨a,h3,h4⟩ := h H enc W base sp fuel cs xs (by omega) h1 (by rw [hl,hc]; simp)
      refine ⟨a,by simpa using h3, ?_⟩
      rw [← h2]; simp only [Rows.uptoBulk]; omega
    · cases hx
theorem fG : ∀ (l : List α) (sz : α → Nat) (ds : List Nat),l.length = ds.length → (∀ (i : Nat) (a : α) (d : Nat),l[i]? = some a → ds[i]? = some d → sz a ≤ d) → (l.map sz).sum ≤ ds.sum
  | [],_,_,_,_ => by simp
  | a :: l,sz,[],h,_ => by simp at h
  | a :: l,sz,d :: ds,h,hs => by
    have h1 := hs 0 a d rfl rfl
    have h2 := fG l sz ds (by simpa using h) (fun i a d ha hd => hs (i + 1) a d (by simpa using ha) (by simpa using hd))
    simp only [zj,List.sum_cons]; omega
theorem Qh {H : Type} : ∀ l : List (DataW H),Rows.uptoBulkAll l = (l.map Rows.uptoBulk).sum
  | [] => rfl
  | d :: l => by simp only [Rows.uptoBulkAll,zj,List.sum_cons,Qh l]
theorem B1.ofB {r : Rp α} {sz : α → Nat} {W : World} {b o : Nat} {bd : Nat → Nat} : ∀ (n k : Nat),(∀ i,i < n → ∃ cs a,cs.length = r.sz ∧ (∀ j u,cs[j]? = some u → W.cell? ⟨b,o + ((k + i) * r.sz + j),none⟩ = some u) ∧ r.rep W any cs a ∧ sz a ≤ bd (k + i)) →
    ∃ xs l,l.length = n ∧ B1 r W any xs l ∧ (∀ j u,xs[j]? = some u → W.cell? ⟨b,o + (k * r.sz + j),none⟩ = some u) ∧ ∀ i a,l[i]? = some a → sz a ≤ bd (k + i)
  | 0,k,_ => ⟨[],[],rfl,rfl,by simp,by simp⟩
  | n + 1,k,h => by
    obtain ⟨cs,a,h1,h2,h3,h4⟩ := h 0 (by omega)
    obtain ⟨xs,l,e1,e2,e3,e4⟩ := B1.ofB n (k + 1) fun i hi => by
      obtain ⟨cs,a,h1,h2,h3,h4⟩ := h (i + 1) (by omega)
      exact ⟨cs,a,h1,fun j u hu => by rw [show k + 1 + i = k + (i + 1) by omega]; exact h2 j u hu,h3,by rw [show k + 1 + i = k + (i + 1) by omega]; exact h4⟩
    refine ⟨cs ++ xs,a :: l,by simp [e1],⟨cs,xs,rfl,h3,e2⟩,fun j u hu => ?_,fun i x hx => ?_⟩
    · by_cases hj : j < cs.length
      · rw [List.getElem?_append_left hj] at hu
        have := h2 j u hu
        rwa [Nat.add_zero] at this
      · rw [List.getElem?_append_right (by omega)] at hu
        have := e3 _ u hu
        rw [h1] at this
        rw [show k * r.sz + j = (k + 1) * r.sz + (j - r.sz) by rw [Nat.succ_mul]; omega]
        exact this
    · cases i with
      | zero => simp at hx; subst hx; exact h4
      | succ i => have := e4 i x (by simpa using hx); rwa [show k + 1 + i = k + (i + 1) by omega] at this
theorem PO.slice {r : Rp α} {sz : α → Nat} {e : TypeId} (hu : P.underlying t = some (.slice e)) (hc : P.cellsOf e = r.sz) (hp : 0 < r.sz) (h : PO P e r sz N) : PO P t (Rp.slice r) (fun l => (l.map sz).sum) N := by
  intro H enc W base sp fuel cs x hN hx
  cases fuel with
  | zero => simp [DataW.trod] at hx
  | succ fuel =>
    unfold DataW.trod at hx
    rw [hu] at hx
    rcases cs with _ | ⟨v,_ | ⟨v2,cs⟩⟩
    · simp at hx
    · cases v <;> try (simp at hx; done)
      rename_i ad len cap
      cases ad with
      | none =>
        cases len <;> cases cap <;> simp at hx
        exact ⟨[],⟨_,rfl,.inl ⟨_,_,rfl,rfl⟩⟩,by simp⟩
      | some ad =>
        simp only at hx
        split at hx
        · rename_i hb
          obtain ⟨h1,h2,h3⟩ := hb
          obtain ⟨elems,h4,h5⟩ := Option.bind_eq_some_iff.1 hx
          obtain ⟨rest,_,hxe⟩ := Option.map_eq_some_iff.1 h5
          obtain ⟨h6,h7⟩ := LC h4
          obtain ⟨b,o,sp'⟩ := ad
          have hel : ∀ i,i < len → ∃ cs y,W.cells? base ((⟨b,o,sp'⟩ : Addr).add (i * P.cellsOf e)) (P.cellsOf e) = some cs ∧ DataW.trod enc P W base sp true fuel e cs = some y ∧ elems[i]? = some y := fun i hi => by
            have hlt : i < elems.length := by rw [h6]; simpa using hi
            have := h7 i i elems[i] (by simp [hi]) (by simp [hlt])
            obtain ⟨cs,k1,k2⟩ := Option.bind_eq_some_iff.1 this
            exact ⟨cs,_,k1,k2,by simp [hlt]⟩
          by_cases hl0 : len = 0
          · subst hl0
            exact ⟨[],⟨_,rfl,.inl ⟨_,_,rfl,rfl⟩⟩,by simp⟩
          · have hspot : sp' = none := by
              obtain ⟨cs,y,k1,_⟩ := hel 0 (by omega)
              rw [Nat.zero_mul] at k1
              have k1' : W.cells? base ⟨b,o,sp'⟩ (P.cellsOf e) = some cs := k1
              unfold World.cells? at k1'
              rw [if_pos h1] at k1'
              obtain ⟨h8,h9⟩ := LC k1'
              have hpos : 0 < cs.length := by rw [h8,hc]; simpa using hp
              have h10 := h9 0 0 cs[0] (by rw [List.getElem?_range (by rw [hc]; exact hp)]) (by simp [hpos])
              cases sp' with
              | none => rfl
              | some q =>
                exfalso
                have : ((⟨b,o,some q⟩ : Addr).add 0) = ⟨b,o,some q⟩ := rfl
                rw [this] at h10
                unfold World.cell? at h10
                split at h10 <;> simp at h10
            subst hspot
            obtain ⟨xs,l,e1,e2,e3,e4⟩ := B1.ofB (r := r) (sz := sz) (W := W) (b := b) (o := o) (bd := fun i => ((elems.map fun y => Rows.uptoBulk y.1)[i]?).getD 0) len 0 fun i hi => by
              obtain ⟨cs,y,k1,k2,k3⟩ := hel i hi
              rw [Eg,hc] at k1
              obtain ⟨k4,k5⟩ := Qn k1
              obtain ⟨a,k6,k7⟩ := h H enc W base sp fuel cs y (by omega) k2
              exact ⟨cs,a,k4,fun j u hu => by rw [Nat.zero_add, ← Nat.add_assoc]; exact k5 j u hu,k6,by rw [Nat.zero_add,List.getElem?_map,k3]; exact k7⟩
            refine ⟨l,⟨_,rfl,.inr ⟨b,o,cap,xs,by rw [e1],by omega,trivial, ?_,fun j u hu => by have := e3 j u hu; rwa [Nat.zero_mul,Nat.zero_add] at this,e2⟩⟩, ?_⟩
            · have hx0 : 0 < xs.length := by rw [e2.len,e1]; exact Nat.mul_pos (by omega) hp
              have := e3 0 xs[0] (by simp [hx0])
              exact World.block_lt_of_cell? (w := W) (a := ⟨b,o + (0 * r.sz + 0),none⟩) this
            · rw [← hxe]
              simp only [Rows.uptoBulk]
              have hlen : elems.length = len := by rw [h6]; simp
              have hs := fG l sz (elems.map fun y => Rows.uptoBulk y.1) (by simp [e1,hlen]) (fun i a d ha hd => by
                have := e4 i a ha
                rw [Nat.zero_add,hd] at this
                exact this)
              rw [Qh,List.map_map]
              show _ ≤ (elems.map fun y => Rows.uptoBulk y.1).sum + _ + 1
              omega
        · cases hx
    · simp at hx
theorem PO.knot {F : Rp β → Rp α} {un : β → α} (hk : Kt F) {cnt : β → Nat} {sz : α → Nat} {of : α → β} (hof : ∀ a,un (of a) = a) (hc : ∀ a,cnt (of a) = 1 + sz a) (h : ∀ N,PO P t (Rp.knot F un hk) cnt N → PO P t (F (Rp.knot F un hk)) (fun a => 1 + sz a) (N + 1)) : ∀ N,PO P t (Rp.knot F un hk) cnt N
  | 0 => fun H enc W base sp fuel cs x hN hx => by
    have : fuel = 0 := by omega
    subst this
    simp [DataW.trod] at hx
  | N + 1 => fun H enc W base sp fuel cs x hN hx => by
    obtain ⟨a,h1,h2⟩ := h N (PO.knot hk hof hc h N) H enc W base sp fuel cs x hN hx
    exact ⟨of a,(Gk hk).2 (by rw [hof]; exact h1),by rw [hc]; exact h2⟩
end
section
variable {H : Type} {enc : TypeId × Value → H}
theorem VF {C : Checked} {os : Os} {f : FuncId} {fn : Func} {s : OpenSpec} {conds : List PathCond} {apart : Bool} {laid : List (String × DataW Unit)} (modest : Bool) (w0 : World) (args : Array Value) (hos : w0.os = os)
    (hsh : (w0.forCall (fun _ _ => 0) ⟨#[],args,[]⟩).Shaped C.prog)
    (hok : Input.okWideB C.prog (w0.forCall (fun _ _ => 0) ⟨#[],args,[]⟩) f ⟨#[],args,[]⟩ = true)
    (hrow : s.preRow enc C.prog fn conds apart laid (w0.forCall (fun _ _ => 0) ⟨#[],args,[]⟩).memory args) :
    ∃ (w : World) (tape : Tape) (i : Input),w.os = os ∧ (w.forCall tape i).Shaped C.prog ∧ i.vars = [] ∧ Input.okWide C.prog (w.forCall tape i) .any w.heap.size f i ∧
      s.preRow enc C.prog fn conds apart laid (w.forCall tape i).memory i.args ∧ ({ modest := modest } : Assume).holds C.prog (lone (Frame.enter C.prog f i.args .normal) [] (w.forCall tape i)) :=
  ⟨w0,fun _ _ => 0,⟨#[],args,[]⟩,hos,hsh,(Input.okWide_of_okWideB (base := 0) hok).1,(Input.okWide_of_okWideB hok).2,hrow,by
    simp only [Assume.holds]
    exact ⟨by simp,by simp,fun _ => Modest.zero,by simp,by simp⟩⟩
end
end Go.Proofs.YtkhiflmalgkjiaaGreat
