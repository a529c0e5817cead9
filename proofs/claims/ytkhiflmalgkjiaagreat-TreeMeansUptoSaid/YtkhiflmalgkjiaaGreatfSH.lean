/- The library's sort of numbers, and Compact, by contracts that the kit has. Conditions: none. -/
import Derived.Test.YtkhiflmalgkjiaaGreatfQT
import Derived.Test.YtkhiflmalgkjiaaGreatRows
import Derived.Shelf.Sort.Plain
import Derived.Shelf.Slices.CompactI
import Derived.Shelf.Slices.In.SortNone
set_option linter.unusedVariables false
set_option linter.unusedSimpArgs false
namespace Go.Proofs.YtkhiflmalgkjiaaGreat
open Go Go.RowKit Go.Shelf Go.Sort
set_option maxRecDepth 100000
theorem xD {w : World} {A : Nat → Prop} : ∀ {l : List Int} {xs : List Value},B1 (Rp.int .i64) w A xs l → xs = l.map (Value.int .i64)
  | [],xs,h => h
  | x :: l,xs,⟨cs,ys,he,h1,h2⟩ => by
    have h1 : cs = [.int .i64 x] := h1
    rw [he,h1,xD h2]; rfl
theorem repI' {w : World} {A : Nat → Prop} : ∀ l : List Int,B1 (Rp.int .i64) w A (l.map (Value.int .i64)) l
  | [] => rfl
  | x :: l => ⟨[.int .i64 x],_,rfl,rfl,repI' l⟩
section
variable {B : Bs} {w : World} {M : CU} {Z : List It} {e : TypeId} {l l' : List Int} {g off cap : Nat}
theorem iW {A : Nat → Prop} (h : H5 w A e (Rp.int .i64) (.slice (some ⟨g,off,none⟩) l.length cap) l) (hc : 0 < cap) : Holds (Value.int .i64) w g off l.toArray ∧ l.length ≤ cap := by
  rcases h with ⟨ad,h,_⟩ | ⟨g',o',c',cur,xs,hv,hp,hb,h1,h2,h3,h4,h5⟩
  · simp at h; omega
  · simp at hv
    obtain ⟨⟨rfl,rfl⟩,rfl⟩ := hv
    refine ⟨fun j hj => ?_,h1⟩
    have hj : j < l.length := by simpa using hj
    refine ⟨?_,by simp [World.frozen?,hb]⟩
    rw [xD h5] at h4
    have h6 : (l.map (Value.int .i64))[j]? = some (Value.int .i64 l[j]) := by simp [hj]
    rw [← h4,List.getElem?_take,if_pos (by show j < l.length * 1; omega),List.getElem?_drop] at h6
    rw [cell_of_row w g (off + j) cur e (0,0) hb, ← Array.getElem?_toList,h6]
    simp [hj]
theorem uY (h : Stw B M (row (.slice (some ⟨g,off,none⟩) l.length cap) e (Rp.int .i64) l :: Z) w) (hc : 0 < cap) {d : Array Int} (hd : d.size = l.length) (hl : l'.length ≤ l.length) (ht : d.toList.take l'.length = l') (n : Nat) (os : Array Obj) :
    Stw B M (row (.slice (some ⟨g,off,none⟩) l'.length cap) e (Rp.int .i64) l' :: Z) (grow (putRow (Value.int .i64) (Sort.ahead w n) g off d) os) := by
  refine h.rowTurn ⟨rfl,rfl,rfl,by simp,fun k hk hne => ?_⟩ (fun A ho _ => ?_) fun g' hg' => .inl (by rw [EB hc] at *; exact hg')
  · rw [heap_grow_old _ _ (by simpa using hk)]
    have : g ≠ k := fun e => hne (by rw [EB hc,e])
    simp [putRow,mapBlock,Sort.ahead,Array.getElem?_modify,this]
  · rcases ho with ⟨ad,h,_⟩ | ⟨g',o',c',cur,xs,hv,hp,hb,h1,h2,h3,h4,h5⟩
    · simp at h; omega
    · simp at hv
      obtain ⟨⟨rfl,rfl⟩,rfl⟩ := hv
      have h3 : off + cap * 1 ≤ cur.size := h3
      rw [Nat.mul_one] at h3
      have hg : g < w.heap.size := (Array.getElem?_eq_some_iff.1 hb).1
      refine .inr ⟨g,off,cap,putCells (Value.int .i64) off d cur,l'.map (Value.int .i64),rfl,hp, ?_,by omega,h2,by show off + cap * 1 ≤ _; unfold putCells; rw [Array.size_mapIdx,Nat.mul_one]; exact h3, ?_,repI' l'⟩
      · rw [heap_grow_old _ _ (by simpa using hg)]
        simp [putRow,mapBlock,Sort.ahead,Array.getElem?_modify,hb,onCells]
      · apply List.ext_getElem?
        intro j
        by_cases hj : j < l'.length
        · rw [List.getElem?_take_of_lt (by show j < l'.length * 1; omega),List.getElem?_drop,Array.getElem?_toList]
          have e1 : d.toList[j]? = some l'[j] := by rw [← List.getElem?_take_of_lt hj,ht,zb hj]
          have e2 : d[j]? = some l'[j] := by rw [← Array.getElem?_toList]; exact e1
          have hj2 : j < d.size := by omega
          have e3 : d[j] = l'[j] := by rw [Array.getElem?_eq_getElem hj2] at e2; exact Option.some.inj e2
          simp [putCells,hj2,show off + j < cur.size by omega,hj,e3]
        · rw [List.getElem?_take_eq_none (by show l'.length * 1 ≤ j; omega),List.getElem?_eq_none (by simp; omega)]
end
def tL (x : Int) : List Int → List Int
  | [] => [x]
  | y :: l => if x ≤ y then x :: y :: l else y :: tL x l
def WC : List Int → List Int
  | [] => []
  | x :: l => tL x (WC l)
theorem SW (x : Int) : ∀ l,(tL x l).Perm (x :: l)
  | [] => .refl _
  | y :: l => by
    unfold tL
    split
    · exact .refl _
    · exact ((SW x l).cons y).trans (.swap x y l)
theorem Nk : ∀ l,(WC l).Perm l
  | [] => .refl _
  | x :: l => (SW x _).trans ((Nk l).cons x)
theorem dQ (x : Int) : ∀ l : List Int,l.Pairwise (· ≤ ·) → (tL x l).Pairwise (· ≤ ·)
  | [],_ => List.pairwise_singleton _ _
  | y :: l,h => by
    have h' := List.pairwise_cons.1 h
    unfold tL
    split
    · rename_i hx
      exact List.pairwise_cons.2 ⟨fun z hz => by rcases List.mem_cons.1 hz with rfl | hz; exact hx; have := h'.1 z hz; omega,h⟩
    · rename_i hx
      refine List.pairwise_cons.2 ⟨fun z hz => ?_,dQ x l h'.2⟩
      rcases List.mem_cons.1 ((SW x l).mem_iff.1 hz) with rfl | hz
      · omega
      · exact h'.1 z hz
theorem VN : ∀ l,(WC l).Pairwise (· ≤ ·)
  | [] => .nil
  | x :: l => dQ x _ (VN l)
theorem iE : ∀ {a b : List Int},a.Pairwise (· ≤ ·) → b.Pairwise (· ≤ ·) → a.Perm b → a = b
  | [],b,_,_,h => by rw [h.nil_eq]
  | x :: a,[],_,_,h => by have := h.length_eq; simp at this
  | x :: a,y :: b,ha,hb,h => by
    have ha' := List.pairwise_cons.1 ha
    have hb' := List.pairwise_cons.1 hb
    have hxy : x = y := by
      have h1 : x ∈ y :: b := h.mem_iff.1 (List.mem_cons_self ..)
      have h2 : y ∈ x :: a := h.mem_iff.2 (List.mem_cons_self ..)
      rcases List.mem_cons.1 h1 with e | e
      · exact e
      · rcases List.mem_cons.1 h2 with e2 | e2
        · exact e2.symm
        · have := ha'.1 y e2; have := hb'.1 x e; omega
    subst hxy
    rw [iE ha'.2 hb'.2 (List.perm_cons x |>.1 h)]
theorem eG (l : List Int) : (l.mergeSort fun x y => decide (x ≤ y)) = WC l :=
  iE ((List.pairwise_mergeSort (le := fun x y : Int => decide (x ≤ y)) (fun a b c h1 h2 => by simp at *; omega) (fun a b => by simp; omega) l).imp fun h => by simpa using h) (VN l) ((List.mergeSort_perm l _).trans (Nk l).symm)
def lJ : Go.Shelf.Ren where
  f := fun x => match x with | 189 => 57 | 125 => 71 | 257 => 86 | 128 => 102 | 129 => 103 | 294 => 114 | 295 => 115 | 296 => 116 | 297 => 117 | 298 => 118 | 299 => 119 | 216 => 120 | 300 => 121 | 301 => 122 | 328 => 140 | 329 => 127 | 330 => 128 | 331 => 141 | 332 => 142 | 215 => 77 | 343 => 148 | n => n
  t := fun x => match x with | 28 => 62 | 3 => 3 | 46 => 112 | 0 => 0 | 51 => 141 | 53 => 143 | 4 => 4 | 183 => 134 | 182 => 133 | 131 => 138 | 5 => 5 | 9 => 9 | 218 => 160 | 222 => 164 | 228 => 172 | 229 => 173 | n => n
  g := fun x => x
theorem Xx : Lays.n189 Tryz.prog lJ where
  mixed := by kernel_rfl
  f125 := Tryz.func71.trans (congrArg some (by kernel_rfl))
  f128 := Tryz.func102.trans (congrArg some (by kernel_rfl))
  f129 := Tryz.func103.trans (congrArg some (by kernel_rfl))
  f189 := Tryz.func57.trans (congrArg some (by kernel_rfl))
  f215 := Tryz.func77.trans (congrArg some (by kernel_rfl))
  f216 := Tryz.func120.trans (congrArg some (by kernel_rfl))
  f257 := Tryz.func86.trans (congrArg some (by kernel_rfl))
  f294 := Tryz.func114.trans (congrArg some (by kernel_rfl))
  f295 := Tryz.func115.trans (congrArg some (by kernel_rfl))
  f296 := Tryz.func116.trans (congrArg some (by kernel_rfl))
  f297 := Tryz.func117.trans (congrArg some (by kernel_rfl))
  f298 := Tryz.func118.trans (congrArg some (by kernel_rfl))
  f299 := Tryz.func119.trans (congrArg some (by kernel_rfl))
  f300 := Tryz.func121.trans (congrArg some (by kernel_rfl))
  f301 := Tryz.func122.trans (congrArg some (by kernel_rfl))
  f328 := Tryz.func140.trans (congrArg some (by kernel_rfl))
  f329 := Tryz.func127.trans (congrArg some (by kernel_rfl))
  f330 := Tryz.func128.trans (congrArg some (by kernel_rfl))
  f331 := Tryz.func141.trans (congrArg some (by kernel_rfl))
  f332 := Tryz.func142.trans (congrArg some (by kernel_rfl))
  f343 := Tryz.func148.trans (congrArg some (by kernel_rfl))
  t0 := Tryz.underlying0
  a0 := Tryz.isAgg0
  z0 := Tryz.sizeOf0
  v0 := Tryz.zeroValue0
  t3 := Tryz.underlying3
  a3 := Tryz.isAgg3
  z3 := Tryz.sizeOf3
  v3 := Tryz.zeroValue3
  t4 := Tryz.underlying4
  a4 := Tryz.isAgg4
  z4 := Tryz.sizeOf4
  v4 := Tryz.zeroValue4
  t5 := Tryz.underlying5
  a5 := Tryz.isAgg5
  z5 := Tryz.sizeOf5
  v5 := Tryz.zeroValue5
  t9 := Tryz.underlying9
  a9 := Tryz.isAgg9
  z9 := Tryz.sizeOf9
  v9 := Tryz.zeroValue9
  t28 := Tryz.underlying62
  a28 := Tryz.isAgg62
  z28 := Tryz.sizeOf62
  v28 := Tryz.zeroValue62
  t46 := Tryz.underlying112
  a46 := Tryz.isAgg112
  z46 := Tryz.sizeOf112
  v46 := Tryz.zeroValue112
  t51 := Tryz.underlying141
  a51 := Tryz.isAgg141
  z51 := Tryz.sizeOf141
  v51 := Tryz.zeroValue141
  t53 := Tryz.underlying143
  a53 := Tryz.isAgg143
  z53 := Tryz.sizeOf143
  v53 := Tryz.zeroValue143
  t131 := Tryz.underlying138
  a131 := Tryz.isAgg138
  z131 := Tryz.sizeOf138
  v131 := Tryz.zeroValue138
  t182 := Tryz.underlying133
  a182 := Tryz.isAgg133
  z182 := Tryz.sizeOf133
  v182 := Tryz.zeroValue133
  t183 := Tryz.underlying134
  a183 := Tryz.isAgg134
  z183 := Tryz.sizeOf134
  v183 := Tryz.zeroValue134
  t218 := Tryz.underlying160
  a218 := Tryz.isAgg160
  z218 := Tryz.sizeOf160
  v218 := Tryz.zeroValue160
  t222 := Tryz.underlying164
  a222 := Tryz.isAgg164
  z222 := Tryz.sizeOf164
  v222 := Tryz.zeroValue164
  t228 := Tryz.underlying172
  a228 := Tryz.isAgg172
  z228 := Tryz.sizeOf172
  v228 := Tryz.zeroValue172
  t229 := Tryz.underlying173
  a229 := Tryz.isAgg173
  z229 := Tryz.sizeOf173
  v229 := Tryz.zeroValue173
def Yl : Go.Shelf.Ren where
  f := fun x => match x with | 20 => 58 | n => n
  t := fun x => match x with | 22 => 62 | 3 => 3 | 4 => 4 | 0 => 0 | n => n
  g := fun x => x
theorem Qj : Lays2.n20 Tryz.prog Yl where
  mixed := by kernel_rfl
  f20 := Tryz.func58.trans (congrArg some (by kernel_rfl))
  t0 := Tryz.underlying0
  a0 := Tryz.isAgg0
  z0 := Tryz.sizeOf0
  v0 := Tryz.zeroValue0
  t3 := Tryz.underlying3
  a3 := Tryz.isAgg3
  z3 := Tryz.sizeOf3
  v3 := Tryz.zeroValue3
  t4 := Tryz.underlying4
  a4 := Tryz.isAgg4
  z4 := Tryz.sizeOf4
  v4 := Tryz.zeroValue4
  t22 := Tryz.underlying62
  a22 := Tryz.isAgg62
  z22 := Tryz.sizeOf62
  v22 := Tryz.zeroValue62
  i3 := by kernel_rfl
def Wp (l : List Int) : Option (List Int) := if l.length ≤ 1000000000 then some (WC l) else none
theorem p7 (Y : Nat → Prop) (X : List Nat) (w0 : World) (v1 : Value) (p0 : List Int) (r : List Int) (H : Wp p0 = some r) (hL : Stw ⟨Y,X,w0⟩ [] [row v1 3 (Rp.int .i64) p0] w0) :
    Calls Tryz.prog 57 #[v1] w0 fun e w' => ∃ x : Unit,e = .returned (.tuple #[]) ∧ Stw ⟨Y,X,w0⟩ [] [row v1 3 (Rp.int .i64) r] w' := by
  unfold Wp at H
  split at H
  · rename_i hr
    cases H
    have hO := hL.item (i := 0) rfl
    rcases hO with ⟨ad,rfl,rfl⟩ | ⟨g,off,cap,cur,xs,rfl,hp,hb,h1,h2,h3,h4,h5⟩
    · refine (Any.slices_Sort_int_none Xx ad 0 w0).mono ?_
      rintro e w' ⟨rfl,hw⟩
      subst hw
      exact ⟨(),rfl,hL⟩
    · obtain ⟨hH,_⟩ := iW (.inr ⟨g,off,cap,cur,xs,rfl,hp,hb,h1,h2,h3,h4,h5⟩) hp
      refine (Any.slices_Sort_int Xx g off cap p0 w0 hH (Array.getElem?_eq_some_iff.1 hb).1 (by omega)).mono ?_
      rintro e w' ⟨rfl,n,os,rfl⟩
      rw [eG]
      have hl := (Nk p0).length_eq
      have := uY (l' := WC p0) hL hp (d := (WC p0).toArray) (by simpa using hl) (by omega) (by simp) n os
      rw [hl] at this
      exact ⟨(),rfl,this⟩
  · cases H
theorem Xg (l : List Int) : (Lib.compact l).length ≤ l.length := by
  unfold Lib.compact Lib.compactUpTo
  rw [zh]
  exact Nat.le_trans (List.length_filter_le _ _) (by simp)
def MX (l : List Int) : Option (List Int) := if l.length ≤ 1000000000 then some (Lib.compact l) else none
theorem aB (Y : Nat → Prop) (X : List Nat) (w0 : World) (v1 : Value) (p0 : List Int) (r : List Int) (H : MX p0 = some r) (hL : Stw ⟨Y,X,w0⟩ [] [row v1 3 (Rp.int .i64) p0] w0) :
    Calls Tryz.prog 58 #[v1] w0 fun e w' => ∃ x : Value,e = .returned x ∧ Stw ⟨Y,X,w0⟩ [] [row x 3 (Rp.int .i64) r] w' := by
  unfold MX at H
  split at H
  · rename_i hr
    cases H
    have hO := hL.item (i := 0) rfl
    rcases hO with ⟨ad,rfl,rfl⟩ | ⟨g,off,cap,cur,xs,rfl,hp,hb,h1,h2,h3,h4,h5⟩
    · refine (Any.slices_Compact_int_empty Qj ad 0 w0).mono ?_
      rintro e w' ⟨rfl,hw⟩
      subst hw
      exact ⟨_,rfl,hL⟩
    · obtain ⟨hH,_⟩ := iW (.inr ⟨g,off,cap,cur,xs,rfl,hp,hb,h1,h2,h3,h4,h5⟩) hp
      refine (Any.slices_Compact_int Qj g off cap p0 w0 hH (by omega) h1).mono ?_
      rintro e w' ⟨rfl,n,rfl⟩
      have hl : (Lib.compact p0).length ≤ p0.length := Xg p0
      have := uY (l' := Lib.compact p0) hL hp (d := (Lib.compact p0 ++ List.replicate (p0.length - (Lib.compact p0).length) 0).toArray) (by simp; omega) hl (by simp) n #[]
      rw [show ∀ w : World,grow w #[] = w from fun w => by simp [grow]] at this
      exact ⟨_,rfl,this⟩
  · cases H
end Go.Proofs.YtkhiflmalgkjiaaGreat
