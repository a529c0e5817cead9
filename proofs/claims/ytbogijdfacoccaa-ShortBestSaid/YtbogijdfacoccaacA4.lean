/- The functions of layer 19, FD. Conditions: none. -/
import Derived.Test.YtbogijdfacoccaacA3
namespace Go.Proofs.Ytbogijdfacoccaa
open Go Go.RowKit
set_option linter.unusedVariables false
set_option linter.unusedSimpArgs false
set_option maxRecDepth 20000
noncomputable def Kn (p0 : Int × (List (Int × Int × Int × Int × Int × Int)) × (List (Int × Int))) : (List Int × Int) → Option ((List Int × Int) ⊕ (List Int))
  | (x4, x5) => (if x5 < p0.1 then (Hs x4 ([9218868437227405312] : List Int)).bind fun x6 => some (.inl (x6, BN (x5 + 1))) else some (.inr x4))
noncomputable def JX (p1 : List Int) (x9 : List Int) (x17 : (List (Int × Int × Int))) : (Int × Int) → Option ((Int × Int) ⊕ Int)
  | (x19, x20) => (if x20 < (x17.length : Int) then ((ix x17 x20).bind fun x22 => (ix p1 x22.2.2).bind fun x23 => (ix x17 x20).bind fun x24 => (ix x9 x24.2.1).bind fun x25 => (if (Io x23 x25) < x19 then some (Io x23 x25) else some x19)).bind fun x21 => some (.inl (x21, BN (x20 + 1))) else some (.inr x19))
noncomputable def J3 (p0 : Int × (List (Int × Int × Int × Int × Int × Int)) × (List (Int × Int))) (p1 : List Int) (x9 : List Int) : (List Int × Int) → Option ((List Int × Int) ⊕ (List Int))
  | (x13, x14) => (if x14 < p0.1 then ((ix x9 x14).bind fun x16 => (F1 p0 x14).bind fun x17 => (AM (JX p1 x9 x17) (x16, 0)).bind fun x18 => (Hs x13 ([x18] : List Int)).bind fun x26 => some x26).bind fun x15 => some (.inl (x15, BN (x14 + 1))) else some (.inr x13))
noncomputable def J0 (p0 : Int × (List (Int × Int × Int × Int × Int × Int)) × (List (Int × Int))) (p1 : List Int) : (List Int × Int) → Option ((List Int × Int) ⊕ (List Int))
  | (x9, x10) => (if x10 < p0.1 then ((AM (J3 p0 p1 x9) ([], 0)).bind fun x12 => some x12).bind fun x11 => some (.inl (x11, BN (x10 + 1))) else some (.inr x9))
noncomputable def JD (p0 : Int × (List (Int × Int × Int × Int × Int × Int)) × (List (Int × Int))) (p1 : List Int) (p2 : Int) : Option (List Int) := ((ER p0 p1).bind fun x2 => (if (!x2) = true then some true else (if p2 < 0 then some true else some (decide (p0.1 ≤ p2))))).bind fun x1 => (if x1 = true then some ([] : List Int) else (AM (Kn p0) ([], 0)).bind fun x3 => (ix x3 p2).bind fun x7 => (AM (J0 p0 p1) ((AA x3 p2 0), 0)).bind fun x8 => some x8)
def JN (p0 : Int) : Int := (if (CH p0) = 9221120237041090561 then 0 else (if (CH p0) = 18442240474082181120 then 1 else (if 9223372036854775808 < (CH p0) then 2 else (if (CH p0) = 9223372036854775808 then 3 else (if (CH p0) = 0 then 4 else (if (CH p0) < 9218868437227405312 then 5 else 6))))))
noncomputable def Pq (p0 : List Int) (p1 : Int) : Option Bool := (if (decide (p1 < 0) || decide ((p0.length : Int) ≤ p1)) = true then some false else (ix p0 p1).bind fun x1 => some (decide (0 < (JN x1)) && decide ((JN x1) < 6)))
noncomputable def Nj (p0 : List Int) (p1 : List Int) (p2 : Int) (p3 : Int × Int × Int) : Option Bool := ((ix p1 p2).bind fun x2 => (if x2 ≠ 9218868437227405312 then (Pq p0 p3.2.2).bind fun x3 => (if x3 = true then (ix p0 p3.2.2).bind fun x4 => (ix p1 p3.2.1).bind fun x5 => (ix p1 p2).bind fun x6 => some (decide ((Io x4 x5) = x6)) else some false) else some false)).bind fun x1 => some x1
noncomputable def J1 (x1 : List Int) : (List Int × Int) → Option ((List Int × Int) ⊕ (List Int))
  | (x3, x4) => (if x4 < (x1.length : Int) then (Hs x3 ([(-1)] : List Int)).bind fun x5 => some (.inl (x5, BN (x4 + 1))) else some (.inr x3))
noncomputable def Kk (p1 : List Int) (x1 : List Int) (x10 : Int) (x13 : Int) (x15 : (List (Int × Int × Int))) : (List Int × Int) → Option ((List Int × Int) ⊕ (List Int))
  | (x16, x17) => (if x17 < (x15.length : Int) then (((ix x16 x13).bind fun x20 => (if x20 = (-1) then (ix x15 x17).bind fun x21 => (ix x16 x21.2.1).bind fun x22 => (if x22 = (BN (x10 - 1)) then (ix x15 x17).bind fun x23 => (Nj p1 x1 x13 x23).bind fun x24 => some x24 else some false) else some false)).bind fun x19 => (if x19 = true then (ix x16 x13).bind fun x25 => some (AA x16 x13 x10) else some x16)).bind fun x18 => some (.inl (x18, BN (x17 + 1))) else some (.inr x16))
noncomputable def Kh (p0 : Int × (List (Int × Int × Int × Int × Int × Int)) × (List (Int × Int))) (p1 : List Int) (x1 : List Int) (x10 : Int) : (List Int × Int) → Option ((List Int × Int) ⊕ (List Int))
  | (x12, x13) => (if x13 < (x1.length : Int) then ((F1 p0 x13).bind fun x15 => AM (Kk p1 x1 x10 x13 x15) (x12, 0)).bind fun x14 => some (.inl (x14, BN (x13 + 1))) else some (.inr x12))
noncomputable def Kd (p0 : Int × (List (Int × Int × Int × Int × Int × Int)) × (List (Int × Int))) (p1 : List Int) (x1 : List Int) : (List Int × Int) → Option ((List Int × Int) ⊕ (List Int))
  | (x9, x10) => (if x10 < (x1.length : Int) then (AM (Kh p0 p1 x1 x10) (x9, 0)).bind fun x11 => some (.inl (x11, BN (x10 + 1))) else some (.inr x9))
noncomputable def MR (p0 : Int × (List (Int × Int × Int × Int × Int × Int)) × (List (Int × Int))) (p1 : List Int) (p2 : Int) : Option (List Int) := (JD p0 p1 p2).bind fun x1 => (AM (J1 x1) ([], 0)).bind fun x2 => (if 0 < (x1.length : Int) then (ix x2 p2).bind fun x7 => some (AA x2 p2 0) else some x2).bind fun x6 => (AM (Kd p0 p1 x1) (x6, 1)).bind fun x8 => some x8
end Go.Proofs.Ytbogijdfacoccaa
