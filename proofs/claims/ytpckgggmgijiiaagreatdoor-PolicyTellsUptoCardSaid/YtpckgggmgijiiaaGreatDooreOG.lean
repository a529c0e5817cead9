/- Library functions that the kit has contracts for, and the variables of package level that they read. Conditions: none. -/
import Derived.Test.YtpckgggmgijiiaaGreatDooreQT
import Derived.Test.YtpckgggmgijiiaaGreatDoorRows
import Derived.Lib.LaidTab
import Derived.Shelf.LaysM
import Derived.Shelf.LaysC
import Derived.Shelf.Strconv.Itoa3
import Derived.Shelf.Strings.OnBuilder
import Derived.Shelf.Sort.Plain
import Derived.Shelf.Slices.CompactI
import Derived.Shelf.Slices.In.SortNone
namespace Go.Proofs.YtpckgggmgijiiaaGreatDoor
open Go Go.RowKit Go.Shelf Go.Sort
set_option linter.unusedVariables false
set_option linter.unusedSimpArgs false
set_option maxRecDepth 100000
theorem eB {P : Program} {name : String} {k : IntKind} {zs : List Int} {w w' : World} {g : Nat} (hg : P.globalNamed name = some g) (h : Lib.TabIs P w name k zs) (hk : w'.heap[g]? = w.heap[g]?) : Lib.TabIs P w' name k zs := by
  unfold Lib.TabIs World.var? at *
  rw [hg] at *
  simp only [Option.bind_some] at *
  rw [hk]; exact h
theorem bP {P : Program} {name : String} {k : IntKind} {zs : List Int} {w : World} {g : Nat} (hg : P.globalNamed name = some g) (h : Lib.TabIs P w name k zs) : g < w.heap.size := by
  unfold Lib.TabIs World.var? at h
  rw [hg] at h
  simp only [Option.bind_some] at h
  cases hx : w.heap[g]? with
  | none => rw [hx] at h; cases h
  | some o => exact (Array.getElem?_eq_some_iff.1 hx).1
def gs : List Nat := [0]
structure GF (w : World) : Prop where
  tab : Lib.TabIs Tryz.prog w "internal/strconv.uint64pow10" .u64 Lib.pow10Tab
theorem GF.stab {w w' : World} (h : GF w) (hk : ∀ g ∈ gs, w'.heap[g]? = w.heap[g]?) : GF w' := ⟨eB (show Tryz.prog.globalNamed "internal/strconv.uint64pow10" = some 0 by kernel_rfl) h.tab (hk 0 (by decide))⟩
theorem GF.lt {w : World} (h : GF w) : ∀ g ∈ gs,g < w.heap.size := by
  intro g hg
  simp only [gs,List.mem_cons,List.not_mem_nil,or_false] at hg
  rcases hg with rfl
  · exact bP (show Tryz.prog.globalNamed "internal/strconv.uint64pow10" = some 0 by kernel_rfl) h.tab
structure Gk (X : List Nat) (w : World) : Prop where
  f : GF w
  nx : ∀ g ∈ gs,g ∉ X
section
variable {B : Bs} {M Ml : Cn} {Z Zl : List It} {w : World}
theorem Gk.now (h : Gk B.X B.w0) (hW : Stw B M Z w) : GF w := h.f.stab fun g hg => hW.frm.block g (h.f.lt g hg) (h.nx g hg)
theorem Gk.go (h : Gk B.X B.w0) (hW : Stw B (Ml ++ M) (Zl ++ Z) w) : Gk (Am Ml Zl) w := ⟨h.now hW,fun g hg hm => by
  have hs : g ∈ Am (Ml ++ M) (Zl ++ Z) := (List.Sublist.append ((List.sublist_append_left _ _).map _) (F7 (List.sublist_append_left _ _))).subset hm
  rcases hW.own g hs with h1 | h1
  · exact h.nx g hg h1
  · have := h.f.lt g hg; omega⟩
theorem Gk.go0 (h : Gk B.X B.w0) (hW : Stw B M Z w) : Gk [] w := ⟨h.now hW,fun g hg hm => by cases hm⟩
end
def gM : Go.Shelf.Ren where
  f := fun x => match x with | 171 => 55 | 243 => 82 | 246 => 114 | 283 => 133 | 284 => 134 | 285 => 135 | 286 => 136 | 129 => 102 | 317 => 144 | 318 => 145 | 319 => 146 | 320 => 147 | 337 => 148 | 338 => 149 | n => n
  t := fun x => match x with | 3 => 3 | 9 => 9 | 2 => 2 | 4 => 4 | 171 => 158 | 0 => 0 | 53 => 138 | 37 => 112 | 5 => 5 | 173 => 160 | 212 => 172 | 51 => 136 | 20 => 20 | 213 => 173 | 46 => 104 | 232 => 174 | 233 => 175 | n => n
  g := fun x => match x with | 17 => 0 | 18 => 2 | 19 => 3 | n => n
theorem gF : LaysM.n171 Tryz.prog gM where
  mixed := by kernel_rfl
  f129 := Tryz.func102.trans (congrArg some (by kernel_rfl))
  f171 := Tryz.func55.trans (congrArg some (by kernel_rfl))
  f243 := Tryz.func82.trans (congrArg some (by kernel_rfl))
  f246 := Tryz.func114.trans (congrArg some (by kernel_rfl))
  f283 := Tryz.func133.trans (congrArg some (by kernel_rfl))
  f284 := Tryz.func134.trans (congrArg some (by kernel_rfl))
  f285 := Tryz.func135.trans (congrArg some (by kernel_rfl))
  f286 := Tryz.func136.trans (congrArg some (by kernel_rfl))
  f317 := Tryz.func144.trans (congrArg some (by kernel_rfl))
  f318 := Tryz.func145.trans (congrArg some (by kernel_rfl))
  f319 := Tryz.func146.trans (congrArg some (by kernel_rfl))
  f320 := Tryz.func147.trans (congrArg some (by kernel_rfl))
  f337 := Tryz.func148.trans (congrArg some (by kernel_rfl))
  f338 := Tryz.func149.trans (congrArg some (by kernel_rfl))
  t0 := Tryz.underlying0
  a0 := Tryz.isAgg0
  z0 := Tryz.sizeOf0
  v0 := Tryz.zeroValue0
  t2 := Tryz.underlying2
  a2 := Tryz.isAgg2
  z2 := Tryz.sizeOf2
  v2 := Tryz.zeroValue2
  t3 := Tryz.underlying3
  a3 := Tryz.isAgg3
  z3 := Tryz.sizeOf3
  v3 := Tryz.zeroValue3
  t4 := Tryz.underlying4
  a4 := Tryz.isAgg4
  z4 := Tryz.sizeOf4
  v4 := Tryz.zeroValue4
  t5 := Tryz.underlying5
  a5 := Tryz.isAgg5
  z5 := Tryz.sizeOf5
  v5 := Tryz.zeroValue5
  t9 := Tryz.underlying9
  a9 := Tryz.isAgg9
  z9 := Tryz.sizeOf9
  v9 := Tryz.zeroValue9
  t20 := Tryz.underlying20
  a20 := Tryz.isAgg20
  z20 := Tryz.sizeOf20
  v20 := Tryz.zeroValue20
  t37 := Tryz.underlying112
  a37 := Tryz.isAgg112
  z37 := Tryz.sizeOf112
  v37 := Tryz.zeroValue112
  t46 := Tryz.underlying104
  a46 := Tryz.isAgg104
  z46 := Tryz.sizeOf104
  v46 := Tryz.zeroValue104
  t51 := Tryz.underlying136
  a51 := Tryz.isAgg136
  z51 := Tryz.sizeOf136
  v51 := Tryz.zeroValue136
  t53 := Tryz.underlying138
  a53 := Tryz.isAgg138
  z53 := Tryz.sizeOf138
  v53 := Tryz.zeroValue138
  t171 := Tryz.underlying158
  a171 := Tryz.isAgg158
  z171 := Tryz.sizeOf158
  v171 := Tryz.zeroValue158
  t173 := Tryz.underlying160
  a173 := Tryz.isAgg160
  z173 := Tryz.sizeOf160
  v173 := Tryz.zeroValue160
  t212 := Tryz.underlying172
  a212 := Tryz.isAgg172
  z212 := Tryz.sizeOf172
  v212 := Tryz.zeroValue172
  t213 := Tryz.underlying173
  a213 := Tryz.isAgg173
  z213 := Tryz.sizeOf173
  t232 := Tryz.underlying174
  a232 := Tryz.isAgg174
  z232 := Tryz.sizeOf174
  v232 := Tryz.zeroValue174
  t233 := Tryz.underlying175
  a233 := Tryz.isAgg175
  z233 := Tryz.sizeOf175
  v233 := Tryz.zeroValue175
  g17 := by kernel_rfl
  g18 := by kernel_rfl
  g19 := by kernel_rfl
  i0 := by kernel_rfl
  i2 := by kernel_rfl
  i3 := by kernel_rfl
  i4 := by kernel_rfl
  i5 := by kernel_rfl
  i9 := by kernel_rfl
  i20 := by kernel_rfl
  i37 := by kernel_rfl
  i46 := by kernel_rfl
  i51 := by kernel_rfl
  i53 := by kernel_rfl
  i171 := by kernel_rfl
  i173 := by kernel_rfl
  i212 := by kernel_rfl
  i232 := by kernel_rfl
  i233 := by kernel_rfl
  m17 := by kernel_rfl
  m18 := by kernel_rfl
  m19 := by kernel_rfl
def Yo : Go.Shelf.Ren where
  f := fun x => match x with | 156 => 56 | 165 => 83 | 166 => 84 | 169 => 85 | 240 => 115 | 241 => 116 | 276 => 137 | 277 => 138 | n => n
  t := fun x => match x with | 31 => 89 | 9 => 9 | 3 => 3 | 4 => 4 | 0 => 0 | 20 => 20 | 72 => 114 | 76 => 118 | 70 => 111 | 37 => 112 | 75 => 117 | 127 => 147 | 164 => 162 | 5 => 5 | 80 => 120 | n => n
  g := fun x => x
theorem Vm : Lays.n156 Tryz.prog Yo where
  mixed := by kernel_rfl
  f156 := Tryz.func56.trans (congrArg some (by kernel_rfl))
  f165 := Tryz.func83.trans (congrArg some (by kernel_rfl))
  f166 := Tryz.func84.trans (congrArg some (by kernel_rfl))
  f169 := Tryz.func85.trans (congrArg some (by kernel_rfl))
  f240 := Tryz.func115.trans (congrArg some (by kernel_rfl))
  f241 := Tryz.func116.trans (congrArg some (by kernel_rfl))
  f276 := Tryz.func137.trans (congrArg some (by kernel_rfl))
  f277 := Tryz.func138.trans (congrArg some (by kernel_rfl))
  t0 := Tryz.underlying0
  a0 := Tryz.isAgg0
  z0 := Tryz.sizeOf0
  v0 := Tryz.zeroValue0
  t3 := Tryz.underlying3
  a3 := Tryz.isAgg3
  z3 := Tryz.sizeOf3
  v3 := Tryz.zeroValue3
  t4 := Tryz.underlying4
  a4 := Tryz.isAgg4
  z4 := Tryz.sizeOf4
  v4 := Tryz.zeroValue4
  t9 := Tryz.underlying9
  a9 := Tryz.isAgg9
  z9 := Tryz.sizeOf9
  v9 := Tryz.zeroValue9
  t20 := Tryz.underlying20
  a20 := Tryz.isAgg20
  z20 := Tryz.sizeOf20
  v20 := Tryz.zeroValue20
  t31 := Tryz.underlying89
  a31 := Tryz.isAgg89
  z31 := Tryz.sizeOf89
  v31 := Tryz.zeroValue89
  t37 := Tryz.underlying112
  a37 := Tryz.isAgg112
  z37 := Tryz.sizeOf112
  v37 := Tryz.zeroValue112
  t70 := Tryz.underlying111
  a70 := Tryz.isAgg111
  z70 := Tryz.sizeOf111
  v70 := Tryz.zeroValue111
  t72 := Tryz.underlying114
  a72 := Tryz.isAgg114
  z72 := Tryz.sizeOf114
  v72 := Tryz.zeroValue114
  t75 := Tryz.underlying117
  a75 := Tryz.isAgg117
  z75 := Tryz.sizeOf117
  v75 := Tryz.zeroValue117
  t76 := Tryz.underlying118
  a76 := Tryz.isAgg118
  z76 := Tryz.sizeOf118
  v76 := Tryz.zeroValue118
  t127 := Tryz.underlying147
  a127 := Tryz.isAgg147
  z127 := Tryz.sizeOf147
  v127 := Tryz.zeroValue147
  t164 := Tryz.underlying162
  a164 := Tryz.isAgg162
  z164 := Tryz.sizeOf162
  v164 := Tryz.zeroValue162
theorem To : Builder.Extra Tryz.prog Yo where
  t5 := Tryz.underlying5
  a5 := Tryz.isAgg5
  z5 := Tryz.sizeOf5
  v5 := Tryz.zeroValue5
  infoByte := by kernel_rfl
  cellsByte := by kernel_rfl
  sizeByte := by kernel_rfl
  sizeBuilder := by kernel_rfl
  liesBuilder := by kernel_rfl
  neB5 := by decide
theorem Xa {w : World} (k : Nat) (os : Array Obj) : Below w.heap.size w (grow (w.drewN k) os) := ⟨rfl,rfl,rfl,by simp [grow,World.drewN],fun j hj => by
  show (w.heap ++ os)[j]? = _
  rw [Array.getElem?_append_left hj]⟩
def Px (n : Int) : Option (List UInt8) := if -9223372036854775808 ≤ n ∧ n ≤ 9223372036854775807 then some (Lib.itoa n) else none
theorem mT (Y : Nat → Prop) (w0 : World) (p0 : Int) (r : List UInt8) (H : Px p0 = some r) (hG : Gk [] w0) :
    Calls Tryz.prog 55 #[.int .i64 p0] w0 fun e w' => e = .returned (.string (bs r)) ∧ Below w0.heap.size w0 w' := by
  unfold Px at H
  split at H
  · rename_i hr
    cases H
    refine (Any.strconv_Itoa gF p0 hr.1 hr.2 w0 hG.f.tab).mono ?_
    rintro e w' ⟨rfl,k,os,rfl⟩
    exact ⟨rfl,Xa k os⟩
  · cases H
def I2 (l : List (List UInt8)) (sep : List UInt8) : Option (List UInt8) := if l.length ≤ 1000000000 ∧ (Lib.join l sep).length ≤ 1000000000 then some (Lib.join l sep) else none
theorem pC (Y : Nat → Prop) (w0 : World) (v1 : Value) (p0 : List (List UInt8)) (p1 : List UInt8) (r : List UInt8) (H : I2 p0 p1 = some r) (h_v1 : Sl w0 (NX []) Rp.str v1 p0) :
    Calls Tryz.prog 56 #[v1,.string (bs p1)] w0 fun e w' => e = .returned (.string (bs r)) ∧ Below w0.heap.size w0 w' := by
  unfold I2 at H
  split at H
  · rename_i hr
    cases H
    rcases h_v1 with ⟨ad,cap,rfl,rfl⟩ | ⟨b,off,cap,xs,rfl,hc,hA,hb,hx,hl⟩
    · refine (Any.strings_Join_none Vm To ad cap (bs p1) w0).mono ?_
      rintro e w' ⟨rfl,rfl⟩
      exact ⟨rfl,Below.refl _ _⟩
    · have em : (p0.map bs).map (fun x => x.data.toList) = p0 := by
        rw [List.map_map]
        have : ((fun x : ByteArray => x.data.toList) ∘ bs) = id := funext fun l => by simp [bs]
        rw [this,List.map_id]
      have e1 : (bs p1).data.toList = p1 := by simp [bs]
      have hlen : (Lib.join ((p0.map bs).map (fun x => x.data.toList)) (bs p1).data.toList).length ≤ 140737488355328 := by
        rw [em,e1]; omega
      have hcells : ∀ (j : Nat) x,(p0.map bs)[j]? = some x → w0.cell? ⟨b,off + j,none⟩ = some (.string x) := by
        intro j x hj
        rw [List.getElem?_map] at hj
        cases hy : p0[j]? with
        | none => rw [hy] at hj; cases hj
        | some y =>
          rw [hy] at hj
          cases hj
          obtain ⟨cs,h1,h2⟩ := BO.get hl hy
          have h1 : cs = [.string (bs y)] := h1
          subst h1
          have h3 := h2 0 _ rfl
          have h4 := hx _ _ h3
          have e2 : j * Rp.str.sz + 0 = j := by show j * 1 + 0 = j; omega
          rw [e2] at h4; exact h4
      have h := Any.strings_Join Vm To b off cap (p0.map bs) (bs p1) w0 hcells hb (by rw [List.length_map]; omega) (by rw [List.length_map]; omega) hlen
      rw [List.length_map,em,e1] at h
      exact h
  · cases H
end Go.Proofs.YtpckgggmgijiiaaGreatDoor
namespace Go.Proofs.YtpckgggmgijiiaaGreatDoor
open Go Go.RowKit Go.Shelf Go.Sort
set_option linter.unusedVariables false
set_option linter.unusedSimpArgs false
set_option maxRecDepth 100000
theorem sJ {w : World} {A : Nat → Prop} : ∀ {l : List Int} {xs : List Value},BO (Rp.int .i64) w A xs l → xs = l.map (Value.int .i64)
  | [],xs,h => h
  | x :: l,xs,⟨cs,ys,he,h1,h2⟩ => by
    have h1 : cs = [.int .i64 x] := h1
    rw [he,h1,sJ h2]; rfl
theorem repI' {w : World} {A : Nat → Prop} : ∀ l : List Int,BO (Rp.int .i64) w A (l.map (Value.int .i64)) l
  | [] => rfl
  | x :: l => ⟨[.int .i64 x],_,rfl,rfl,repI' l⟩
section
variable {B : Bs} {w : World} {M : Cn} {Z : List It} {e : TypeId} {l l' : List Int} {g off cap : Nat}
theorem bE {A : Nat → Prop} (h : Io w A e (Rp.int .i64) (.slice (some ⟨g,off,none⟩) l.length cap) l) (hc : 0 < cap) : Holds (Value.int .i64) w g off l.toArray ∧ l.length ≤ cap := by
  rcases h with ⟨ad,h,_⟩ | ⟨g',o',c',cur,xs,hv,hp,hb,h1,h2,h3,h4,h5⟩
  · simp at h; omega
  · simp at hv
    obtain ⟨⟨rfl,rfl⟩,rfl⟩ := hv
    refine ⟨fun j hj => ?_,h1⟩
    have hj : j < l.length := by simpa using hj
    refine ⟨?_,by simp [World.frozen?,hb]⟩
    rw [sJ h5] at h4
    have h6 : (l.map (Value.int .i64))[j]? = some (Value.int .i64 l[j]) := by simp [hj]
    rw [← h4,List.getElem?_take,if_pos (by show j < l.length * 1; omega),List.getElem?_drop] at h6
    rw [cell_of_row w g (off + j) cur e (0,0) hb, ← Array.getElem?_toList,h6]
    simp [hj]
theorem rQ (h : Stw B M (row (.slice (some ⟨g,off,none⟩) l.length cap) e (Rp.int .i64) l :: Z) w) (hc : 0 < cap) {d : Array Int} (hd : d.size = l.length) (hl : l'.length ≤ l.length) (ht : d.toList.take l'.length = l') (n : Nat) (os : Array Obj) :
    Stw B M (row (.slice (some ⟨g,off,none⟩) l'.length cap) e (Rp.int .i64) l' :: Z) (grow (putRow (Value.int .i64) (Sort.ahead w n) g off d) os) := by
  refine h.rowTurn ⟨rfl,rfl,rfl,by simp,fun k hk hne => ?_⟩ (fun A ho _ => ?_) fun g' hg' => .inl (by rw [FM hc] at *; exact hg')
  · rw [heap_grow_old _ _ (by simpa using hk)]
    have : g ≠ k := fun e => hne (by rw [FM hc,e])
    simp [putRow,mapBlock,Sort.ahead,Array.getElem?_modify,this]
  · rcases ho with ⟨ad,h,_⟩ | ⟨g',o',c',cur,xs,hv,hp,hb,h1,h2,h3,h4,h5⟩
    · simp at h; omega
    · simp at hv
      obtain ⟨⟨rfl,rfl⟩,rfl⟩ := hv
      have h3 : off + cap * 1 ≤ cur.size := h3
      rw [Nat.mul_one] at h3
      have hg : g < w.heap.size := (Array.getElem?_eq_some_iff.1 hb).1
      refine .inr ⟨g,off,cap,putCells (Value.int .i64) off d cur,l'.map (Value.int .i64),rfl,hp, ?_,by omega,h2,by show off + cap * 1 ≤ _; unfold putCells; rw [Array.size_mapIdx,Nat.mul_one]; exact h3, ?_,repI' l'⟩
      · rw [heap_grow_old _ _ (by simpa using hg)]
        simp [putRow,mapBlock,Sort.ahead,Array.getElem?_modify,hb,onCells]
      · apply List.ext_getElem?
        intro j
        by_cases hj : j < l'.length
        · rw [List.getElem?_take_of_lt (by show j < l'.length * 1; omega),List.getElem?_drop,Array.getElem?_toList]
          have e1 : d.toList[j]? = some l'[j] := by rw [← List.getElem?_take_of_lt hj,ht,List.getElem?_eq_getElem hj]
          have e2 : d[j]? = some l'[j] := by rw [← Array.getElem?_toList]; exact e1
          have hj2 : j < d.size := by omega
          have e3 : d[j] = l'[j] := by rw [Array.getElem?_eq_getElem hj2] at e2; exact Option.some.inj e2
          simp [putCells,hj2,show off + j < cur.size by omega,hj,e3]
        · rw [List.getElem?_take_eq_none (by show l'.length * 1 ≤ j; omega),List.getElem?_eq_none (by simp; omega)]
end
def qR (x : Int) : List Int → List Int
  | [] => [x]
  | y :: l => if x ≤ y then x :: y :: l else y :: qR x l
def Wf : List Int → List Int
  | [] => []
  | x :: l => qR x (Wf l)
theorem Qs (x : Int) : ∀ l,(qR x l).Perm (x :: l)
  | [] => .refl _
  | y :: l => by
    unfold qR
    split
    · exact .refl _
    · exact ((Qs x l).cons y).trans (.swap x y l)
theorem Ms : ∀ l,(Wf l).Perm l
  | [] => .refl _
  | x :: l => (Qs x _).trans ((Ms l).cons x)
theorem bV (x : Int) : ∀ l : List Int,l.Pairwise (· ≤ ·) → (qR x l).Pairwise (· ≤ ·)
  | [],_ => List.pairwise_singleton _ _
  | y :: l,h => by
    have h' := List.pairwise_cons.1 h
    unfold qR
    split
    · rename_i hx
      exact List.pairwise_cons.2 ⟨fun z hz => by rcases List.mem_cons.1 hz with rfl | hz; exact hx; have := h'.1 z hz; omega,h⟩
    · rename_i hx
      refine List.pairwise_cons.2 ⟨fun z hz => ?_,bV x l h'.2⟩
      rcases List.mem_cons.1 ((Qs x l).mem_iff.1 hz) with rfl | hz
      · omega
      · exact h'.1 z hz
theorem UG : ∀ l,(Wf l).Pairwise (· ≤ ·)
  | [] => .nil
  | x :: l => bV x _ (UG l)
theorem aU : ∀ {a b : List Int},a.Pairwise (· ≤ ·) → b.Pairwise (· ≤ ·) → a.Perm b → a = b
  | [],b,_,_,h => by rw [h.nil_eq]
  | x :: a,[],_,_,h => by have := h.length_eq; simp at this
  | x :: a,y :: b,ha,hb,h => by
    have ha' := List.pairwise_cons.1 ha
    have hb' := List.pairwise_cons.1 hb
    have hxy : x = y := by
      have h1 : x ∈ y :: b := h.mem_iff.1 (List.mem_cons_self ..)
      have h2 : y ∈ x :: a := h.mem_iff.2 (List.mem_cons_self ..)
      rcases List.mem_cons.1 h1 with e | e
      · exact e
      · rcases List.mem_cons.1 h2 with e2 | e2
        · exact e2.symm
        · have := ha'.1 y e2; have := hb'.1 x e; omega
    subst hxy
    rw [aU ha'.2 hb'.2 (List.perm_cons x |>.1 h)]
theorem eA (l : List Int) : (l.mergeSort fun x y => decide (x ≤ y)) = Wf l :=
  aU ((List.pairwise_mergeSort (le := fun x y : Int => decide (x ≤ y)) (fun a b c h1 h2 => by simp at *; omega) (fun a b => by simp; omega) l).imp fun h => by simpa using h) (UG l) ((List.mergeSort_perm l _).trans (Ms l).symm)
def iI : Go.Shelf.Ren where
  f := fun x => match x with | 189 => 49 | 125 => 74 | 257 => 80 | 128 => 101 | 129 => 102 | 294 => 105 | 295 => 106 | 296 => 107 | 297 => 108 | 298 => 109 | 299 => 110 | 216 => 111 | 300 => 112 | 301 => 113 | 328 => 130 | 329 => 126 | 330 => 127 | 331 => 131 | 332 => 132 | 215 => 75 | 343 => 143 | n => n
  t := fun x => match x with | 28 => 49 | 3 => 3 | 46 => 104 | 0 => 0 | 51 => 136 | 53 => 138 | 4 => 4 | 183 => 129 | 182 => 128 | 131 => 133 | 5 => 5 | 9 => 9 | 218 => 150 | 222 => 154 | 228 => 167 | 229 => 168 | n => n
  g := fun x => x
theorem V9 : Lays.n189 Tryz.prog iI where
  mixed := by kernel_rfl
  f125 := Tryz.func74.trans (congrArg some (by kernel_rfl))
  f128 := Tryz.func101.trans (congrArg some (by kernel_rfl))
  f129 := Tryz.func102.trans (congrArg some (by kernel_rfl))
  f189 := Tryz.func49.trans (congrArg some (by kernel_rfl))
  f215 := Tryz.func75.trans (congrArg some (by kernel_rfl))
  f216 := Tryz.func111.trans (congrArg some (by kernel_rfl))
  f257 := Tryz.func80.trans (congrArg some (by kernel_rfl))
  f294 := Tryz.func105.trans (congrArg some (by kernel_rfl))
  f295 := Tryz.func106.trans (congrArg some (by kernel_rfl))
  f296 := Tryz.func107.trans (congrArg some (by kernel_rfl))
  f297 := Tryz.func108.trans (congrArg some (by kernel_rfl))
  f298 := Tryz.func109.trans (congrArg some (by kernel_rfl))
  f299 := Tryz.func110.trans (congrArg some (by kernel_rfl))
  f300 := Tryz.func112.trans (congrArg some (by kernel_rfl))
  f301 := Tryz.func113.trans (congrArg some (by kernel_rfl))
  f328 := Tryz.func130.trans (congrArg some (by kernel_rfl))
  f329 := Tryz.func126.trans (congrArg some (by kernel_rfl))
  f330 := Tryz.func127.trans (congrArg some (by kernel_rfl))
  f331 := Tryz.func131.trans (congrArg some (by kernel_rfl))
  f332 := Tryz.func132.trans (congrArg some (by kernel_rfl))
  f343 := Tryz.func143.trans (congrArg some (by kernel_rfl))
  t0 := Tryz.underlying0
  a0 := Tryz.isAgg0
  z0 := Tryz.sizeOf0
  v0 := Tryz.zeroValue0
  t3 := Tryz.underlying3
  a3 := Tryz.isAgg3
  z3 := Tryz.sizeOf3
  v3 := Tryz.zeroValue3
  t4 := Tryz.underlying4
  a4 := Tryz.isAgg4
  z4 := Tryz.sizeOf4
  v4 := Tryz.zeroValue4
  t5 := Tryz.underlying5
  a5 := Tryz.isAgg5
  z5 := Tryz.sizeOf5
  v5 := Tryz.zeroValue5
  t9 := Tryz.underlying9
  a9 := Tryz.isAgg9
  z9 := Tryz.sizeOf9
  v9 := Tryz.zeroValue9
  t28 := Tryz.underlying49
  a28 := Tryz.isAgg49
  z28 := Tryz.sizeOf49
  v28 := Tryz.zeroValue49
  t46 := Tryz.underlying104
  a46 := Tryz.isAgg104
  z46 := Tryz.sizeOf104
  v46 := Tryz.zeroValue104
  t51 := Tryz.underlying136
  a51 := Tryz.isAgg136
  z51 := Tryz.sizeOf136
  v51 := Tryz.zeroValue136
  t53 := Tryz.underlying138
  a53 := Tryz.isAgg138
  z53 := Tryz.sizeOf138
  v53 := Tryz.zeroValue138
  t131 := Tryz.underlying133
  a131 := Tryz.isAgg133
  z131 := Tryz.sizeOf133
  v131 := Tryz.zeroValue133
  t182 := Tryz.underlying128
  a182 := Tryz.isAgg128
  z182 := Tryz.sizeOf128
  v182 := Tryz.zeroValue128
  t183 := Tryz.underlying129
  a183 := Tryz.isAgg129
  z183 := Tryz.sizeOf129
  v183 := Tryz.zeroValue129
  t218 := Tryz.underlying150
  a218 := Tryz.isAgg150
  z218 := Tryz.sizeOf150
  v218 := Tryz.zeroValue150
  t222 := Tryz.underlying154
  a222 := Tryz.isAgg154
  z222 := Tryz.sizeOf154
  v222 := Tryz.zeroValue154
  t228 := Tryz.underlying167
  a228 := Tryz.isAgg167
  z228 := Tryz.sizeOf167
  v228 := Tryz.zeroValue167
  t229 := Tryz.underlying168
  a229 := Tryz.isAgg168
  z229 := Tryz.sizeOf168
  v229 := Tryz.zeroValue168
def Xd : Go.Shelf.Ren where
  f := fun x => match x with | 20 => 50 | n => n
  t := fun x => match x with | 22 => 49 | 3 => 3 | 4 => 4 | 0 => 0 | n => n
  g := fun x => x
theorem Pr : Lays2.n20 Tryz.prog Xd where
  mixed := by kernel_rfl
  f20 := Tryz.func50.trans (congrArg some (by kernel_rfl))
  t0 := Tryz.underlying0
  a0 := Tryz.isAgg0
  z0 := Tryz.sizeOf0
  v0 := Tryz.zeroValue0
  t3 := Tryz.underlying3
  a3 := Tryz.isAgg3
  z3 := Tryz.sizeOf3
  v3 := Tryz.zeroValue3
  t4 := Tryz.underlying4
  a4 := Tryz.isAgg4
  z4 := Tryz.sizeOf4
  v4 := Tryz.zeroValue4
  t22 := Tryz.underlying49
  a22 := Tryz.isAgg49
  z22 := Tryz.sizeOf49
  v22 := Tryz.zeroValue49
  i3 := by kernel_rfl
def Ym (l : List Int) : Option (List Int) := if l.length ≤ 1000000000 then some (Wf l) else none
theorem n5 (Y : Nat → Prop) (X : List Nat) (w0 : World) (v1 : Value) (p0 : List Int) (r : List Int) (H : Ym p0 = some r) (hG : Gk X w0) (hL : Stw ⟨Y,X,w0⟩ [] [row v1 3 (Rp.int .i64) p0] w0) :
    Calls Tryz.prog 49 #[v1] w0 fun e w' => ∃ x : Unit,e = .returned (.tuple #[]) ∧ Stw ⟨Y,X,w0⟩ [] [row v1 3 (Rp.int .i64) r] w' := by
  unfold Ym at H
  split at H
  · rename_i hr
    cases H
    have hO := hL.item (i := 0) rfl
    rcases hO with ⟨ad,rfl,rfl⟩ | ⟨g,off,cap,cur,xs,rfl,hp,hb,h1,h2,h3,h4,h5⟩
    · refine (Any.slices_Sort_int_none V9 ad 0 w0).mono ?_
      rintro e w' ⟨rfl,hw⟩
      subst hw
      exact ⟨(),rfl,hL⟩
    · obtain ⟨hH,_⟩ := bE (.inr ⟨g,off,cap,cur,xs,rfl,hp,hb,h1,h2,h3,h4,h5⟩) hp
      refine (Any.slices_Sort_int V9 g off cap p0 w0 hH (Array.getElem?_eq_some_iff.1 hb).1 (by omega)).mono ?_
      rintro e w' ⟨rfl,n,os,rfl⟩
      rw [eA]
      have hl := (Ms p0).length_eq
      have := rQ (l' := Wf p0) hL hp (d := (Wf p0).toArray) (by simpa using hl) (by omega) (by simp) n os
      rw [hl] at this
      exact ⟨(),rfl,this⟩
  · cases H
theorem Vg (l : List Int) : (Lib.compact l).length ≤ l.length := by
  unfold Lib.compact Lib.compactUpTo
  rw [List.length_map]
  exact Nat.le_trans (List.length_filter_le _ _) (by simp)
def OB (l : List Int) : Option (List Int) := if l.length ≤ 1000000000 then some (Lib.compact l) else none
theorem Zs (Y : Nat → Prop) (X : List Nat) (w0 : World) (v1 : Value) (p0 : List Int) (r : List Int) (H : OB p0 = some r) (hG : Gk X w0) (hL : Stw ⟨Y,X,w0⟩ [] [row v1 3 (Rp.int .i64) p0] w0) :
    Calls Tryz.prog 50 #[v1] w0 fun e w' => ∃ x : Value,e = .returned x ∧ Stw ⟨Y,X,w0⟩ [] [row x 3 (Rp.int .i64) r] w' := by
  unfold OB at H
  split at H
  · rename_i hr
    cases H
    have hO := hL.item (i := 0) rfl
    rcases hO with ⟨ad,rfl,rfl⟩ | ⟨g,off,cap,cur,xs,rfl,hp,hb,h1,h2,h3,h4,h5⟩
    · refine (Any.slices_Compact_int_empty Pr ad 0 w0).mono ?_
      rintro e w' ⟨rfl,hw⟩
      subst hw
      exact ⟨_,rfl,hL⟩
    · obtain ⟨hH,_⟩ := bE (.inr ⟨g,off,cap,cur,xs,rfl,hp,hb,h1,h2,h3,h4,h5⟩) hp
      refine (Any.slices_Compact_int Pr g off cap p0 w0 hH (by omega) h1).mono ?_
      rintro e w' ⟨rfl,n,rfl⟩
      have hl : (Lib.compact p0).length ≤ p0.length := Vg p0
      have := rQ (l' := Lib.compact p0) hL hp (d := (Lib.compact p0 ++ List.replicate (p0.length - (Lib.compact p0).length) 0).toArray) (by simp; omega) hl (by simp) n #[]
      rw [show ∀ w : World,grow w #[] = w from fun w => by simp [grow]] at this
      exact ⟨_,rfl,this⟩
  · cases H
end Go.Proofs.YtpckgggmgijiiaaGreatDoor
