/- The functions of layer 19, F7. Conditions: none. -/
import Derived.Test.YtbogijdfacoccaabA3
namespace Go.Proofs.Ytbogijdfacoccaa
open Go Go.RowKit
set_option linter.unusedVariables false
set_option linter.unusedSimpArgs false
set_option maxRecDepth 20000
noncomputable def Ei (p0 : Int × (List (Int × Int × Int × Int × Int × Int)) × (List (Int × Int))) : (List Int × Int) → Option ((List Int × Int) ⊕ (List Int))
  | (x4, x5) => (if x5 < p0.1 then (HV x4 ([9218868437227405312] : List Int)).bind fun x6 => some (.inl (x6, BH (x5 + 1))) else some (.inr x4))
noncomputable def DB (p1 : List Int) (x9 : List Int) (x17 : (List (Int × Int × Int))) : (Int × Int) → Option ((Int × Int) ⊕ Int)
  | (x19, x20) => (if x20 < (x17.length : Int) then ((ix x17 x20).bind fun x22 => (ix p1 x22.2.2).bind fun x23 => (ix x17 x20).bind fun x24 => (ix x9 x24.2.1).bind fun x25 => (if (GC x23 x25) < x19 then some (GC x23 x25) else some x19)).bind fun x21 => some (.inl (x21, BH (x20 + 1))) else some (.inr x19))
noncomputable def Ef (p0 : Int × (List (Int × Int × Int × Int × Int × Int)) × (List (Int × Int))) (p1 : List Int) (x9 : List Int) : (List Int × Int) → Option ((List Int × Int) ⊕ (List Int))
  | (x13, x14) => (if x14 < p0.1 then ((ix x9 x14).bind fun x16 => (FR p0 x14).bind fun x17 => (AF (DB p1 x9 x17) (x16, 0)).bind fun x18 => (HV x13 ([x18] : List Int)).bind fun x26 => some x26).bind fun x15 => some (.inl (x15, BH (x14 + 1))) else some (.inr x13))
noncomputable def Ec (p0 : Int × (List (Int × Int × Int × Int × Int × Int)) × (List (Int × Int))) (p1 : List Int) : (List Int × Int) → Option ((List Int × Int) ⊕ (List Int))
  | (x9, x10) => (if x10 < p0.1 then ((AF (Ef p0 p1 x9) ([], 0)).bind fun x12 => some x12).bind fun x11 => some (.inl (x11, BH (x10 + 1))) else some (.inr x9))
noncomputable def E8 (p0 : Int × (List (Int × Int × Int × Int × Int × Int)) × (List (Int × Int))) (p1 : List Int) (p2 : Int) : Option (List Int) := ((DE p0 p1).bind fun x2 => (if (!x2) = true then some true else (if p2 < 0 then some true else some (decide (p0.1 ≤ p2))))).bind fun x1 => (if x1 = true then some ([] : List Int) else (AF (Ei p0) ([], 0)).bind fun x3 => (ix x3 p2).bind fun x7 => (AF (Ec p0 p1) ((AA x3 p2 0), 0)).bind fun x8 => some x8)
def GO (p0 : Int) : Int := (if (Cq p0) = 9221120237041090561 then 0 else (if (Cq p0) = 18442240474082181120 then 1 else (if 9223372036854775808 < (Cq p0) then 2 else (if (Cq p0) = 9223372036854775808 then 3 else (if (Cq p0) = 0 then 4 else (if (Cq p0) < 9218868437227405312 then 5 else 6))))))
noncomputable def LY (p0 : List Int) (p1 : Int) : Option Bool := (if (decide (p1 < 0) || decide ((p0.length : Int) ≤ p1)) = true then some false else (ix p0 p1).bind fun x1 => some (decide (0 < (GO x1)) && decide ((GO x1) < 6)))
noncomputable def HB (p0 : List Int) (p1 : List Int) (p2 : Int) (p3 : Int × Int × Int) : Option Bool := ((ix p1 p2).bind fun x2 => (if x2 ≠ 9218868437227405312 then (LY p0 p3.2.2).bind fun x3 => (if x3 = true then (ix p0 p3.2.2).bind fun x4 => (ix p1 p3.2.1).bind fun x5 => (ix p1 p2).bind fun x6 => some (decide ((GC x4 x5) = x6)) else some false) else some false)).bind fun x1 => some x1
noncomputable def Eg (x1 : List Int) : (List Int × Int) → Option ((List Int × Int) ⊕ (List Int))
  | (x3, x4) => (if x4 < (x1.length : Int) then (HV x3 ([(-1)] : List Int)).bind fun x5 => some (.inl (x5, BH (x4 + 1))) else some (.inr x3))
noncomputable def Dx (p1 : List Int) (x1 : List Int) (x10 : Int) (x13 : Int) (x15 : (List (Int × Int × Int))) : (List Int × Int) → Option ((List Int × Int) ⊕ (List Int))
  | (x16, x17) => (if x17 < (x15.length : Int) then (((ix x16 x13).bind fun x20 => (if x20 = (-1) then (ix x15 x17).bind fun x21 => (ix x16 x21.2.1).bind fun x22 => (if x22 = (BH (x10 - 1)) then (ix x15 x17).bind fun x23 => (HB p1 x1 x13 x23).bind fun x24 => some x24 else some false) else some false)).bind fun x19 => (if x19 = true then (ix x16 x13).bind fun x25 => some (AA x16 x13 x10) else some x16)).bind fun x18 => some (.inl (x18, BH (x17 + 1))) else some (.inr x16))
noncomputable def Dv (p0 : Int × (List (Int × Int × Int × Int × Int × Int)) × (List (Int × Int))) (p1 : List Int) (x1 : List Int) (x10 : Int) : (List Int × Int) → Option ((List Int × Int) ⊕ (List Int))
  | (x12, x13) => (if x13 < (x1.length : Int) then ((FR p0 x13).bind fun x15 => AF (Dx p1 x1 x10 x13 x15) (x12, 0)).bind fun x14 => some (.inl (x14, BH (x13 + 1))) else some (.inr x12))
noncomputable def Em (p0 : Int × (List (Int × Int × Int × Int × Int × Int)) × (List (Int × Int))) (p1 : List Int) (x1 : List Int) : (List Int × Int) → Option ((List Int × Int) ⊕ (List Int))
  | (x9, x10) => (if x10 < (x1.length : Int) then (AF (Dv p0 p1 x1 x10) (x9, 0)).bind fun x11 => some (.inl (x11, BH (x10 + 1))) else some (.inr x9))
noncomputable def GN (p0 : Int × (List (Int × Int × Int × Int × Int × Int)) × (List (Int × Int))) (p1 : List Int) (p2 : Int) : Option (List Int) := (E8 p0 p1 p2).bind fun x1 => (AF (Eg x1) ([], 0)).bind fun x2 => (if 0 < (x1.length : Int) then (ix x2 p2).bind fun x7 => some (AA x2 p2 0) else some x2).bind fun x6 => (AF (Em p0 p1 x1) (x6, 1)).bind fun x8 => some x8
end Go.Proofs.Ytbogijdfacoccaa
