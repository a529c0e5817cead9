/- The functions of layer 19, FC. Conditions: none. -/
import Derived.Test.YtbogijdfacoccaadA3
namespace Go.Proofs.Ytbogijdfacoccaa
open Go Go.RowKit
set_option linter.unusedVariables false
set_option linter.unusedSimpArgs false
set_option maxRecDepth 20000
noncomputable def Kf (p0 : Int × (List (Int × Int × Int × Int × Int × Int)) × (List (Int × Int))) : (List Int × Int) → Option ((List Int × Int) ⊕ (List Int))
  | (x4, x5) => (if x5 < p0.1 then (Hm x4 ([9218868437227405312] : List Int)).bind fun x6 => some (.inl (x6, BM (x5 + 1))) else some (.inr x4))
noncomputable def JR (p1 : List Int) (x9 : List Int) (x17 : (List (Int × Int × Int))) : (Int × Int) → Option ((Int × Int) ⊕ Int)
  | (x19, x20) => (if x20 < (x17.length : Int) then ((ix x17 x20).bind fun x22 => (ix p1 x22.2.2).bind fun x23 => (ix x17 x20).bind fun x24 => (ix x9 x24.2.1).bind fun x25 => (if (Ix x23 x25) < x19 then some (Ix x23 x25) else some x19)).bind fun x21 => some (.inl (x21, BM (x20 + 1))) else some (.inr x19))
noncomputable def JP (p0 : Int × (List (Int × Int × Int × Int × Int × Int)) × (List (Int × Int))) (p1 : List Int) (x9 : List Int) : (List Int × Int) → Option ((List Int × Int) ⊕ (List Int))
  | (x13, x14) => (if x14 < p0.1 then ((ix x9 x14).bind fun x16 => (FS p0 x14).bind fun x17 => (AN (JR p1 x9 x17) (x16, 0)).bind fun x18 => (Hm x13 ([x18] : List Int)).bind fun x26 => some x26).bind fun x15 => some (.inl (x15, BM (x14 + 1))) else some (.inr x13))
noncomputable def J6 (p0 : Int × (List (Int × Int × Int × Int × Int × Int)) × (List (Int × Int))) (p1 : List Int) : (List Int × Int) → Option ((List Int × Int) ⊕ (List Int))
  | (x9, x10) => (if x10 < p0.1 then ((AN (JP p0 p1 x9) ([], 0)).bind fun x12 => some x12).bind fun x11 => some (.inl (x11, BM (x10 + 1))) else some (.inr x9))
noncomputable def Jy (p0 : Int × (List (Int × Int × Int × Int × Int × Int)) × (List (Int × Int))) (p1 : List Int) (p2 : Int) : Option (List Int) := ((Ee p0 p1).bind fun x2 => (if (!x2) = true then some true else (if p2 < 0 then some true else some (decide (p0.1 ≤ p2))))).bind fun x1 => (if x1 = true then some ([] : List Int) else (AN (Kf p0) ([], 0)).bind fun x3 => (ix x3 p2).bind fun x7 => (AN (J6 p0 p1) ((Au x3 p2 0), 0)).bind fun x8 => some x8)
def JH (p0 : Int) : Int := (if (CE p0) = 9221120237041090561 then 0 else (if (CE p0) = 18442240474082181120 then 1 else (if 9223372036854775808 < (CE p0) then 2 else (if (CE p0) = 9223372036854775808 then 3 else (if (CE p0) = 0 then 4 else (if (CE p0) < 9218868437227405312 then 5 else 6))))))
noncomputable def O4 (p0 : List Int) (p1 : Int) : Option Bool := (if (decide (p1 < 0) || decide ((p0.length : Int) ≤ p1)) = true then some false else (ix p0 p1).bind fun x1 => some (decide (0 < (JH x1)) && decide ((JH x1) < 6)))
noncomputable def Na (p0 : List Int) (p1 : List Int) (p2 : Int) (p3 : Int × Int × Int) : Option Bool := ((ix p1 p2).bind fun x2 => (if x2 ≠ 9218868437227405312 then (O4 p0 p3.2.2).bind fun x3 => (if x3 = true then (ix p0 p3.2.2).bind fun x4 => (ix p1 p3.2.1).bind fun x5 => (ix p1 p2).bind fun x6 => some (decide ((Ix x4 x5) = x6)) else some false) else some false)).bind fun x1 => some x1
noncomputable def Kg (x1 : List Int) : (List Int × Int) → Option ((List Int × Int) ⊕ (List Int))
  | (x3, x4) => (if x4 < (x1.length : Int) then (Hm x3 ([(-1)] : List Int)).bind fun x5 => some (.inl (x5, BM (x4 + 1))) else some (.inr x3))
noncomputable def Kk (p1 : List Int) (x1 : List Int) (x10 : Int) (x13 : Int) (x15 : (List (Int × Int × Int))) : (List Int × Int) → Option ((List Int × Int) ⊕ (List Int))
  | (x16, x17) => (if x17 < (x15.length : Int) then (((ix x16 x13).bind fun x20 => (if x20 = (-1) then (ix x15 x17).bind fun x21 => (ix x16 x21.2.1).bind fun x22 => (if x22 = (BM (x10 - 1)) then (ix x15 x17).bind fun x23 => (Na p1 x1 x13 x23).bind fun x24 => some x24 else some false) else some false)).bind fun x19 => (if x19 = true then (ix x16 x13).bind fun x25 => some (Au x16 x13 x10) else some x16)).bind fun x18 => some (.inl (x18, BM (x17 + 1))) else some (.inr x16))
noncomputable def Ke (p0 : Int × (List (Int × Int × Int × Int × Int × Int)) × (List (Int × Int))) (p1 : List Int) (x1 : List Int) (x10 : Int) : (List Int × Int) → Option ((List Int × Int) ⊕ (List Int))
  | (x12, x13) => (if x13 < (x1.length : Int) then ((FS p0 x13).bind fun x15 => AN (Kk p1 x1 x10 x13 x15) (x12, 0)).bind fun x14 => some (.inl (x14, BM (x13 + 1))) else some (.inr x12))
noncomputable def J9 (p0 : Int × (List (Int × Int × Int × Int × Int × Int)) × (List (Int × Int))) (p1 : List Int) (x1 : List Int) : (List Int × Int) → Option ((List Int × Int) ⊕ (List Int))
  | (x9, x10) => (if x10 < (x1.length : Int) then (AN (Ke p0 p1 x1 x10) (x9, 0)).bind fun x11 => some (.inl (x11, BM (x10 + 1))) else some (.inr x9))
noncomputable def Mn (p0 : Int × (List (Int × Int × Int × Int × Int × Int)) × (List (Int × Int))) (p1 : List Int) (p2 : Int) : Option (List Int) := (Jy p0 p1 p2).bind fun x1 => (AN (Kg x1) ([], 0)).bind fun x2 => (if 0 < (x1.length : Int) then (ix x2 p2).bind fun x7 => some (Au x2 p2 0) else some x2).bind fun x6 => (AN (J9 p0 p1 x1) (x6, 1)).bind fun x8 => some x8
end Go.Proofs.Ytbogijdfacoccaa
