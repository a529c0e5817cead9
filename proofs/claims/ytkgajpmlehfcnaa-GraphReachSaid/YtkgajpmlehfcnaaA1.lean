/- The functions of layer 20, lifted. Conditions: none. -/
import Derived.Test.YtkgajpmlehfcnaaA0
namespace Go.Proofs.Ytkgajpmlehfcnaa
open Go Go.RowKit
set_option linter.unusedVariables false
set_option linter.unusedSimpArgs false
set_option maxRecDepth 20000
set_option maxHeartbeats 1600000
theorem H27 : Has Try.prog 27 := ⟨fun args w => run_callFunc_body Try.func27 rfl (by decide) args w⟩
theorem Z55 : (Try.prog.info? 55).bind (·.zero) = some (.agg #[.int .i64 0, .int .i64 0, .int .i64 0, .int .i64 0, .int .i64 0, .int .i64 0, .int .i64 0, .int .i64 0, .int .i64 0, .int .i64 0, .int .i64 0, .int .i64 0, .int .i64 0, .int .i64 0, .int .i64 0, .int .i64 0]) := by kernel_rfl
theorem Ar55 : Ar Try.prog 55 16 3 1 := ⟨Try.underlying55, by kernel_rfl⟩
theorem T55 : Ty Try.prog 55 true 16 := ⟨by kernel_rfl, by kernel_rfl⟩
noncomputable def graph_distances_l1  : (Int × Int × Int × Int × Int × Int × Int × Int × Int × Int × Int × Int × Int × Int × Int × Int × Int) → Option ((Int × Int × Int × Int × Int × Int × Int × Int × Int × Int × Int × Int × Int × Int × Int × Int × Int) ⊕ (Int × Int × Int × Int × Int × Int × Int × Int × Int × Int × Int × Int × Int × Int × Int × Int))
  | (x17, x18, x19, x20, x21, x22, x23, x24, x25, x26, x27, x28, x29, x30, x31, x32, x33) => (if x17 < 16 then (ix ([x18, x19, x20, x21, x22, x23, x24, x25, x26, x27, x28, x29, x30, x31, x32, x33] : List Int) x17).bind fun x34 => some (.inl (w64 (x17 + 1), (if x17 = 0 then (-1) else x18), (if x17 = 1 then (-1) else x19), (if x17 = 2 then (-1) else x20), (if x17 = 3 then (-1) else x21), (if x17 = 4 then (-1) else x22), (if x17 = 5 then (-1) else x23), (if x17 = 6 then (-1) else x24), (if x17 = 7 then (-1) else x25), (if x17 = 8 then (-1) else x26), (if x17 = 9 then (-1) else x27), (if x17 = 10 then (-1) else x28), (if x17 = 11 then (-1) else x29), (if x17 = 12 then (-1) else x30), (if x17 = 13 then (-1) else x31), (if x17 = 14 then (-1) else x32), (if x17 = 15 then (-1) else x33))) else some (.inr (x18, x19, x20, x21, x22, x23, x24, x25, x26, x27, x28, x29, x30, x31, x32, x33)))
noncomputable def graph_distances_l3 (p0 : Int) (p1 : Int × Int × Int × Int × Int × Int × Int × Int × Int × Int × Int × Int × Int × Int × Int × Int) (x54 : Int) (x55 : Int) (x56 : Int) : (Int × Int × Int × Int × Int × Int × Int × Int × Int × Int × Int × Int × Int × Int × Int × Int × Int × Int) → Option ((Int × Int × Int × Int × Int × Int × Int × Int × Int × Int × Int × Int × Int × Int × Int × Int × Int × Int) ⊕ (Int × Int × Int × Int × Int × Int × Int × Int × Int × Int × Int × Int × Int × Int × Int × Int × Int))
  | (x107, x108, x109, x110, x111, x112, x113, x114, x115, x116, x117, x118, x119, x120, x121, x122, x123, x124) => (if x108 < p0 then (((graph_set_has x54 x108).bind fun x143 => (if x143 = true then (graph_set_has x55 x108).bind fun x144 => some (!x144) else some false)).bind fun x142 => (if x142 = true then (ix ([x109, x110, x111, x112, x113, x114, x115, x116, x117, x118, x119, x120, x121, x122, x123, x124] : List Int) x108).bind fun x145 => (ix ([p1.1, p1.2.1, p1.2.2.1, p1.2.2.2.1, p1.2.2.2.2.1, p1.2.2.2.2.2.1, p1.2.2.2.2.2.2.1, p1.2.2.2.2.2.2.2.1, p1.2.2.2.2.2.2.2.2.1, p1.2.2.2.2.2.2.2.2.2.1, p1.2.2.2.2.2.2.2.2.2.2.1, p1.2.2.2.2.2.2.2.2.2.2.2.1, p1.2.2.2.2.2.2.2.2.2.2.2.2.1, p1.2.2.2.2.2.2.2.2.2.2.2.2.2.1, p1.2.2.2.2.2.2.2.2.2.2.2.2.2.2.1, p1.2.2.2.2.2.2.2.2.2.2.2.2.2.2.2] : List Int) x108).bind fun x146 => some (orI .u32 x107 x146, (if x108 = 0 then w64 (x56 + 1) else x109), (if x108 = 1 then w64 (x56 + 1) else x110), (if x108 = 2 then w64 (x56 + 1) else x111), (if x108 = 3 then w64 (x56 + 1) else x112), (if x108 = 4 then w64 (x56 + 1) else x113), (if x108 = 5 then w64 (x56 + 1) else x114), (if x108 = 6 then w64 (x56 + 1) else x115), (if x108 = 7 then w64 (x56 + 1) else x116), (if x108 = 8 then w64 (x56 + 1) else x117), (if x108 = 9 then w64 (x56 + 1) else x118), (if x108 = 10 then w64 (x56 + 1) else x119), (if x108 = 11 then w64 (x56 + 1) else x120), (if x108 = 12 then w64 (x56 + 1) else x121), (if x108 = 13 then w64 (x56 + 1) else x122), (if x108 = 14 then w64 (x56 + 1) else x123), (if x108 = 15 then w64 (x56 + 1) else x124)) else some (x107, x109, x110, x111, x112, x113, x114, x115, x116, x117, x118, x119, x120, x121, x122, x123, x124))).bind fun (x125, x126, x127, x128, x129, x130, x131, x132, x133, x134, x135, x136, x137, x138, x139, x140, x141) => some (.inl (x125, w64 (x108 + 1), x126, x127, x128, x129, x130, x131, x132, x133, x134, x135, x136, x137, x138, x139, x140, x141)) else some (.inr (x107, x109, x110, x111, x112, x113, x114, x115, x116, x117, x118, x119, x120, x121, x122, x123, x124)))
noncomputable def graph_distances_l2 (p0 : Int) (p1 : Int × Int × Int × Int × Int × Int × Int × Int × Int × Int × Int × Int × Int × Int × Int × Int) : (Int × Int × Int × Int × Int × Int × Int × Int × Int × Int × Int × Int × Int × Int × Int × Int × Int × Int × Int) → Option ((Int × Int × Int × Int × Int × Int × Int × Int × Int × Int × Int × Int × Int × Int × Int × Int × Int × Int × Int) ⊕ (Int × Int × Int × Int × Int × Int × Int × Int × Int × Int × Int × Int × Int × Int × Int × Int))
  | (x54, x55, x56, x57, x58, x59, x60, x61, x62, x63, x64, x65, x66, x67, x68, x69, x70, x71, x72) => (if x56 < p0 then ((loopW (graph_distances_l3 p0 p1 x54 x55 x56) (0, 0, x57, x58, x59, x60, x61, x62, x63, x64, x65, x66, x67, x68, x69, x70, x71, x72)).bind fun (x90, x91, x92, x93, x94, x95, x96, x97, x98, x99, x100, x101, x102, x103, x104, x105, x106) => some (x90, x91, x92, x93, x94, x95, x96, x97, x98, x99, x100, x101, x102, x103, x104, x105, x106)).bind fun (x73, x74, x75, x76, x77, x78, x79, x80, x81, x82, x83, x84, x85, x86, x87, x88, x89) => some (.inl (x73, orI .u32 x55 x54, w64 (x56 + 1), x74, x75, x76, x77, x78, x79, x80, x81, x82, x83, x84, x85, x86, x87, x88, x89)) else some (.inr (x57, x58, x59, x60, x61, x62, x63, x64, x65, x66, x67, x68, x69, x70, x71, x72)))
noncomputable def graph_distances (p0 : Int) (p1 : Int × Int × Int × Int × Int × Int × Int × Int × Int × Int × Int × Int × Int × Int × Int × Int) (p2 : Int) : Option (Int × Int × Int × Int × Int × Int × Int × Int × Int × Int × Int × Int × Int × Int × Int × Int) := (loopW (graph_distances_l1) (0, 0, 0, 0, 0, 0, 0, 0, 0, 0, 0, 0, 0, 0, 0, 0, 0)).bind fun (x1, x2, x3, x4, x5, x6, x7, x8, x9, x10, x11, x12, x13, x14, x15, x16) => (ix ([x1, x2, x3, x4, x5, x6, x7, x8, x9, x10, x11, x12, x13, x14, x15, x16] : List Int) p2).bind fun x35 => (ix ([p1.1, p1.2.1, p1.2.2.1, p1.2.2.2.1, p1.2.2.2.2.1, p1.2.2.2.2.2.1, p1.2.2.2.2.2.2.1, p1.2.2.2.2.2.2.2.1, p1.2.2.2.2.2.2.2.2.1, p1.2.2.2.2.2.2.2.2.2.1, p1.2.2.2.2.2.2.2.2.2.2.1, p1.2.2.2.2.2.2.2.2.2.2.2.1, p1.2.2.2.2.2.2.2.2.2.2.2.2.1, p1.2.2.2.2.2.2.2.2.2.2.2.2.2.1, p1.2.2.2.2.2.2.2.2.2.2.2.2.2.2.1, p1.2.2.2.2.2.2.2.2.2.2.2.2.2.2.2] : List Int) p2).bind fun x36 => (graph_set_with 0 p2).bind fun x37 => (loopW (graph_distances_l2 p0 p1) (x36, x37, 0, (if p2 = 0 then 0 else x1), (if p2 = 1 then 0 else x2), (if p2 = 2 then 0 else x3), (if p2 = 3 then 0 else x4), (if p2 = 4 then 0 else x5), (if p2 = 5 then 0 else x6), (if p2 = 6 then 0 else x7), (if p2 = 7 then 0 else x8), (if p2 = 8 then 0 else x9), (if p2 = 9 then 0 else x10), (if p2 = 10 then 0 else x11), (if p2 = 11 then 0 else x12), (if p2 = 12 then 0 else x13), (if p2 = 13 then 0 else x14), (if p2 = 14 then 0 else x15), (if p2 = 15 then 0 else x16))).bind fun (x38, x39, x40, x41, x42, x43, x44, x45, x46, x47, x48, x49, x50, x51, x52, x53) => some (x38, x39, x40, x41, x42, x43, x44, x45, x46, x47, x48, x49, x50, x51, x52, x53)
theorem graph_distances_c (Y : Nat → Prop) (w0 : World)  (p0 : Int) (p1 : Int × Int × Int × Int × Int × Int × Int × Int × Int × Int × Int × Int × Int × Int × Int × Int) (p2 : Int) (r : (Int × Int × Int × Int × Int × Int × Int × Int × Int × Int × Int × Int × Int × Int × Int × Int)) (H : graph_distances p0 p1 p2 = some r)  :
    Calls Try.prog 31 #[.int .i64 p0, .agg #[.int .u32 p1.1, .int .u32 p1.2.1, .int .u32 p1.2.2.1, .int .u32 p1.2.2.2.1, .int .u32 p1.2.2.2.2.1, .int .u32 p1.2.2.2.2.2.1, .int .u32 p1.2.2.2.2.2.2.1, .int .u32 p1.2.2.2.2.2.2.2.1, .int .u32 p1.2.2.2.2.2.2.2.2.1, .int .u32 p1.2.2.2.2.2.2.2.2.2.1, .int .u32 p1.2.2.2.2.2.2.2.2.2.2.1, .int .u32 p1.2.2.2.2.2.2.2.2.2.2.2.1, .int .u32 p1.2.2.2.2.2.2.2.2.2.2.2.2.1, .int .u32 p1.2.2.2.2.2.2.2.2.2.2.2.2.2.1, .int .u32 p1.2.2.2.2.2.2.2.2.2.2.2.2.2.2.1, .int .u32 p1.2.2.2.2.2.2.2.2.2.2.2.2.2.2.2], .int .i64 p2] w0 fun e w' => e = .returned (.agg #[.int .i64 r.1, .int .i64 r.2.1, .int .i64 r.2.2.1, .int .i64 r.2.2.2.1, .int .i64 r.2.2.2.2.1, .int .i64 r.2.2.2.2.2.1, .int .i64 r.2.2.2.2.2.2.1, .int .i64 r.2.2.2.2.2.2.2.1, .int .i64 r.2.2.2.2.2.2.2.2.1, .int .i64 r.2.2.2.2.2.2.2.2.2.1, .int .i64 r.2.2.2.2.2.2.2.2.2.2.1, .int .i64 r.2.2.2.2.2.2.2.2.2.2.2.1, .int .i64 r.2.2.2.2.2.2.2.2.2.2.2.2.1, .int .i64 r.2.2.2.2.2.2.2.2.2.2.2.2.2.1, .int .i64 r.2.2.2.2.2.2.2.2.2.2.2.2.2.2.1, .int .i64 r.2.2.2.2.2.2.2.2.2.2.2.2.2.2.2]) ∧ Below w0.heap.size w0 w' := by
  refine enter Try.func31 rfl Try.ntmps31 rfl (fun a hF => ?_)
  have hW := Stw.start Y w0
  unfold graph_distances at H
  refine c_seq ?_
  refine reg_list ?_
  refine l_box (cs := [.int .u32 p1.1, .int .u32 p1.2.1, .int .u32 p1.2.2.1, .int .u32 p1.2.2.2.1, .int .u32 p1.2.2.2.2.1, .int .u32 p1.2.2.2.2.2.1, .int .u32 p1.2.2.2.2.2.2.1, .int .u32 p1.2.2.2.2.2.2.2.1, .int .u32 p1.2.2.2.2.2.2.2.2.1, .int .u32 p1.2.2.2.2.2.2.2.2.2.1, .int .u32 p1.2.2.2.2.2.2.2.2.2.2.1, .int .u32 p1.2.2.2.2.2.2.2.2.2.2.2.1, .int .u32 p1.2.2.2.2.2.2.2.2.2.2.2.2.1, .int .u32 p1.2.2.2.2.2.2.2.2.2.2.2.2.2.1, .int .u32 p1.2.2.2.2.2.2.2.2.2.2.2.2.2.2.1, .int .u32 p1.2.2.2.2.2.2.2.2.2.2.2.2.2.2.2]) hF hW rfl rfl rfl (fun b1 a w hF hW => ?_)
  refine l_alloc (cs := [.int .i64 0, .int .i64 0, .int .i64 0, .int .i64 0, .int .i64 0, .int .i64 0, .int .i64 0, .int .i64 0, .int .i64 0, .int .i64 0, .int .i64 0, .int .i64 0, .int .i64 0, .int .i64 0, .int .i64 0, .int .i64 0]) hF hW rfl Z55 rfl (fun b2 a w hF hW => ?_)
  refine ls_nil ?_
  refine c_then ?_
  refine c_seq ?_
  refine reg_list ?_
  refine l_alloc (cs := [.int .i64 0, .int .i64 0, .int .i64 0, .int .i64 0, .int .i64 0, .int .i64 0, .int .i64 0, .int .i64 0, .int .i64 0, .int .i64 0, .int .i64 0, .int .i64 0, .int .i64 0, .int .i64 0, .int .i64 0, .int .i64 0]) hF hW rfl Z55 rfl (fun b3 a w hF hW => ?_)
  refine ls_nil ?_
  refine c_then ?_
  obtain ⟨o1, G1, K1⟩ := bindE H
  refine c_seqJ (fun a w => ∃ x1 : Int, ∃ x2 : Int, ∃ x3 : Int, ∃ x4 : Int, ∃ x5 : Int, ∃ x6 : Int, ∃ x7 : Int, ∃ x8 : Int, ∃ x9 : Int, ∃ x10 : Int, ∃ x11 : Int, ∃ x12 : Int, ∃ x13 : Int, ∃ x14 : Int, ∃ x15 : Int, ∃ x16 : Int, some ((x1, x2, x3, x4, x5, x6, x7, x8, x9, x10, x11, x12, x13, x14, x15, x16)) = some o1 ∧ Fr 60 [] [(0, .int .i64 p0), (2, .int .i64 p2), (4, .pointer (some ⟨b1, 0, none⟩)), (6, .pointer (some ⟨b2, 0, none⟩)), (7, .pointer (some ⟨b3, 0, none⟩))] a ∧ Stw ⟨Y, [], w0⟩ [(b3, [.int .i64 x1, .int .i64 x2, .int .i64 x3, .int .i64 x4, .int .i64 x5, .int .i64 x6, .int .i64 x7, .int .i64 x8, .int .i64 x9, .int .i64 x10, .int .i64 x11, .int .i64 x12, .int .i64 x13, .int .i64 x14, .int .i64 x15, .int .i64 x16]), (b2, [.int .i64 0, .int .i64 0, .int .i64 0, .int .i64 0, .int .i64 0, .int .i64 0, .int .i64 0, .int .i64 0, .int .i64 0, .int .i64 0, .int .i64 0, .int .i64 0, .int .i64 0, .int .i64 0, .int .i64 0, .int .i64 0]), (b1, [.int .u32 p1.1, .int .u32 p1.2.1, .int .u32 p1.2.2.1, .int .u32 p1.2.2.2.1, .int .u32 p1.2.2.2.2.1, .int .u32 p1.2.2.2.2.2.1, .int .u32 p1.2.2.2.2.2.2.1, .int .u32 p1.2.2.2.2.2.2.2.1, .int .u32 p1.2.2.2.2.2.2.2.2.1, .int .u32 p1.2.2.2.2.2.2.2.2.2.1, .int .u32 p1.2.2.2.2.2.2.2.2.2.2.1, .int .u32 p1.2.2.2.2.2.2.2.2.2.2.2.1, .int .u32 p1.2.2.2.2.2.2.2.2.2.2.2.2.1, .int .u32 p1.2.2.2.2.2.2.2.2.2.2.2.2.2.1, .int .u32 p1.2.2.2.2.2.2.2.2.2.2.2.2.2.2.1, .int .u32 p1.2.2.2.2.2.2.2.2.2.2.2.2.2.2.2])] [] w) ?_ ?_
  ·
    have H := G1
    clear G1 K1
    refine c_seq ?_
    refine reg_list ?_
    refine ls hF hW rfl ((y_move hF rfl).q) (fun a w hF hW => ?_)
    refine ls_nil ?_
    refine c_then ?_
    refine wp_block ?_
    have hW := hW.frontM (i := 2) rfl rfl
    have hW := hW.frontM (i := 2) rfl rfl
    have hW := hW.frontM (i := 2) rfl rfl
    refine c_loopW H (fun s a w => Fr 60 [] [(0, .int .i64 p0), (2, .int .i64 p2), (4, .pointer (some ⟨b1, 0, none⟩)), (6, .pointer (some ⟨b2, 0, none⟩)), (7, .pointer (some ⟨b3, 0, none⟩)), (14, .int .i64 s.1)] a ∧ Stw ⟨Y, [], w0⟩ [(b3, [.int .i64 s.2.1, .int .i64 s.2.2.1, .int .i64 s.2.2.2.1, .int .i64 s.2.2.2.2.1, .int .i64 s.2.2.2.2.2.1, .int .i64 s.2.2.2.2.2.2.1, .int .i64 s.2.2.2.2.2.2.2.1, .int .i64 s.2.2.2.2.2.2.2.2.1, .int .i64 s.2.2.2.2.2.2.2.2.2.1, .int .i64 s.2.2.2.2.2.2.2.2.2.2.1, .int .i64 s.2.2.2.2.2.2.2.2.2.2.2.1, .int .i64 s.2.2.2.2.2.2.2.2.2.2.2.2.1, .int .i64 s.2.2.2.2.2.2.2.2.2.2.2.2.2.1, .int .i64 s.2.2.2.2.2.2.2.2.2.2.2.2.2.2.1, .int .i64 s.2.2.2.2.2.2.2.2.2.2.2.2.2.2.2.1, .int .i64 s.2.2.2.2.2.2.2.2.2.2.2.2.2.2.2.2]), (b2, [.int .i64 0, .int .i64 0, .int .i64 0, .int .i64 0, .int .i64 0, .int .i64 0, .int .i64 0, .int .i64 0, .int .i64 0, .int .i64 0, .int .i64 0, .int .i64 0, .int .i64 0, .int .i64 0, .int .i64 0, .int .i64 0]), (b1, [.int .u32 p1.1, .int .u32 p1.2.1, .int .u32 p1.2.2.1, .int .u32 p1.2.2.2.1, .int .u32 p1.2.2.2.2.1, .int .u32 p1.2.2.2.2.2.1, .int .u32 p1.2.2.2.2.2.2.1, .int .u32 p1.2.2.2.2.2.2.2.1, .int .u32 p1.2.2.2.2.2.2.2.2.1, .int .u32 p1.2.2.2.2.2.2.2.2.2.1, .int .u32 p1.2.2.2.2.2.2.2.2.2.2.1, .int .u32 p1.2.2.2.2.2.2.2.2.2.2.2.1, .int .u32 p1.2.2.2.2.2.2.2.2.2.2.2.2.1, .int .u32 p1.2.2.2.2.2.2.2.2.2.2.2.2.2.1, .int .u32 p1.2.2.2.2.2.2.2.2.2.2.2.2.2.2.1, .int .u32 p1.2.2.2.2.2.2.2.2.2.2.2.2.2.2.2])] [] w) ⟨hF.re ⟨rfl, rfl, rfl, rfl, rfl, rfl, trivial⟩, hW⟩ (fun s o a w H L2 hR => ?_)
    obtain ⟨x17, x18, x19, x20, x21, x22, x23, x24, x25, x26, x27, x28, x29, x30, x31, x32, x33⟩ := s
    obtain ⟨hF, hW⟩ := hR
    have hF : Fr 60 [] [(0, .int .i64 p0), (2, .int .i64 p2), (4, .pointer (some ⟨b1, 0, none⟩)), (6, .pointer (some ⟨b2, 0, none⟩)), (7, .pointer (some ⟨b3, 0, none⟩)), (14, .int .i64 x17)] a := hF
    have hW : Stw ⟨Y, [], w0⟩ [(b3, [.int .i64 x18, .int .i64 x19, .int .i64 x20, .int .i64 x21, .int .i64 x22, .int .i64 x23, .int .i64 x24, .int .i64 x25, .int .i64 x26, .int .i64 x27, .int .i64 x28, .int .i64 x29, .int .i64 x30, .int .i64 x31, .int .i64 x32, .int .i64 x33]), (b2, [.int .i64 0, .int .i64 0, .int .i64 0, .int .i64 0, .int .i64 0, .int .i64 0, .int .i64 0, .int .i64 0, .int .i64 0, .int .i64 0, .int .i64 0, .int .i64 0, .int .i64 0, .int .i64 0, .int .i64 0, .int .i64 0]), (b1, [.int .u32 p1.1, .int .u32 p1.2.1, .int .u32 p1.2.2.1, .int .u32 p1.2.2.2.1, .int .u32 p1.2.2.2.2.1, .int .u32 p1.2.2.2.2.2.1, .int .u32 p1.2.2.2.2.2.2.1, .int .u32 p1.2.2.2.2.2.2.2.1, .int .u32 p1.2.2.2.2.2.2.2.2.1, .int .u32 p1.2.2.2.2.2.2.2.2.2.1, .int .u32 p1.2.2.2.2.2.2.2.2.2.2.1, .int .u32 p1.2.2.2.2.2.2.2.2.2.2.2.1, .int .u32 p1.2.2.2.2.2.2.2.2.2.2.2.2.1, .int .u32 p1.2.2.2.2.2.2.2.2.2.2.2.2.2.1, .int .u32 p1.2.2.2.2.2.2.2.2.2.2.2.2.2.2.1, .int .u32 p1.2.2.2.2.2.2.2.2.2.2.2.2.2.2.2])] [] w := hW
    rw [graph_distances_l1] at H
    refine c_seq ?_
    refine reg_list ?_
    refine ls hF hW rfl ((y_lss hF rfl rfl).q) (fun a w hF hW => ?_)
    refine ls_nil ?_
    refine c_then ?_
    refine c_seq ?_
    refine c_cond hF rfl (fun hb => ?_) (fun hb => ?_)
    ·
      have H := iteT (of_decide_eq_true hb) H
      rw [hb] at hF
      clear hb
      refine wp_skip ?_
      refine c_then ?_
      refine c_seq ?_
      refine wp_block ?_
      refine c_seq ?_
      refine reg_list ?_
      refine ls hF hW rfl ((y_move hF rfl).q) (fun a w hF hW => ?_)
      refine ls hF hW rfl ((y_assign hF rfl).q) (fun a w hF hW => ?_)
      refine ls_nil ?_
      refine c_then ?_
      refine reg_list ?_
      refine ls hF hW rfl ((y_move hF rfl).q) (fun a w hF hW => ?_)
      obtain ⟨x34, h1, H⟩ := bindE H
      refine ls hF hW rfl ((y_indexP (0 + (x17).toNat * 1) Ar55 hF rfl rfl rfl h1 rfl).q) (fun a w hF hW => ?_)
      refine l_store_dyn (o := 0) (m := 16) (i := x17) (l := ([x18, x19, x20, x21, x22, x23, x24, x25, x26, x27, x28, x29, x30, x31, x32, x33] : List Int)) (x := x34) (cs := [.int .i64 x18, .int .i64 x19, .int .i64 x20, .int .i64 x21, .int .i64 x22, .int .i64 x23, .int .i64 x24, .int .i64 x25, .int .i64 x26, .int .i64 x27, .int .i64 x28, .int .i64 x29, .int .i64 x30, .int .i64 x31, .int .i64 x32, .int .i64 x33]) (cs' := [.int .i64 (if x17 = 0 then (-1) else x18), .int .i64 (if x17 = 1 then (-1) else x19), .int .i64 (if x17 = 2 then (-1) else x20), .int .i64 (if x17 = 3 then (-1) else x21), .int .i64 (if x17 = 4 then (-1) else x22), .int .i64 (if x17 = 5 then (-1) else x23), .int .i64 (if x17 = 6 then (-1) else x24), .int .i64 (if x17 = 7 then (-1) else x25), .int .i64 (if x17 = 8 then (-1) else x26), .int .i64 (if x17 = 9 then (-1) else x27), .int .i64 (if x17 = 10 then (-1) else x28), .int .i64 (if x17 = 11 then (-1) else x29), .int .i64 (if x17 = 12 then (-1) else x30), .int .i64 (if x17 = 13 then (-1) else x31), .int .i64 (if x17 = 14 then (-1) else x32), .int .i64 (if x17 = 15 then (-1) else x33)]) 0 hF hW rfl rfl rfl T3 rfl rfl rfl rfl h1 (by intro k hk hn; rw [hk]; match k, hn with | 0, _ => rfl | 1, _ => rfl | 2, _ => rfl | 3, _ => rfl | 4, _ => rfl | 5, _ => rfl | 6, _ => rfl | 7, _ => rfl | 8, _ => rfl | 9, _ => rfl | 10, _ => rfl | 11, _ => rfl | 12, _ => rfl | 13, _ => rfl | 14, _ => rfl | 15, _ => rfl | (z + 16), h => exact absurd h (by omega)) (fun w hW => ?_)
      have hW : Stw ⟨Y, [], w0⟩ [(b3, [.int .i64 (if x17 = 0 then (-1) else x18), .int .i64 (if x17 = 1 then (-1) else x19), .int .i64 (if x17 = 2 then (-1) else x20), .int .i64 (if x17 = 3 then (-1) else x21), .int .i64 (if x17 = 4 then (-1) else x22), .int .i64 (if x17 = 5 then (-1) else x23), .int .i64 (if x17 = 6 then (-1) else x24), .int .i64 (if x17 = 7 then (-1) else x25), .int .i64 (if x17 = 8 then (-1) else x26), .int .i64 (if x17 = 9 then (-1) else x27), .int .i64 (if x17 = 10 then (-1) else x28), .int .i64 (if x17 = 11 then (-1) else x29), .int .i64 (if x17 = 12 then (-1) else x30), .int .i64 (if x17 = 13 then (-1) else x31), .int .i64 (if x17 = 14 then (-1) else x32), .int .i64 (if x17 = 15 then (-1) else x33)]), (b2, [.int .i64 0, .int .i64 0, .int .i64 0, .int .i64 0, .int .i64 0, .int .i64 0, .int .i64 0, .int .i64 0, .int .i64 0, .int .i64 0, .int .i64 0, .int .i64 0, .int .i64 0, .int .i64 0, .int .i64 0, .int .i64 0]), (b1, [.int .u32 p1.1, .int .u32 p1.2.1, .int .u32 p1.2.2.1, .int .u32 p1.2.2.2.1, .int .u32 p1.2.2.2.2.1, .int .u32 p1.2.2.2.2.2.1, .int .u32 p1.2.2.2.2.2.2.1, .int .u32 p1.2.2.2.2.2.2.2.1, .int .u32 p1.2.2.2.2.2.2.2.2.1, .int .u32 p1.2.2.2.2.2.2.2.2.2.1, .int .u32 p1.2.2.2.2.2.2.2.2.2.2.1, .int .u32 p1.2.2.2.2.2.2.2.2.2.2.2.1, .int .u32 p1.2.2.2.2.2.2.2.2.2.2.2.2.1, .int .u32 p1.2.2.2.2.2.2.2.2.2.2.2.2.2.1, .int .u32 p1.2.2.2.2.2.2.2.2.2.2.2.2.2.2.1, .int .u32 p1.2.2.2.2.2.2.2.2.2.2.2.2.2.2.2])] [] w := hW
      refine ls_nil ?_
      refine b_normal ?_
      refine c_then ?_
      refine reg_list ?_
      refine ls hF hW rfl ((y_add hF rfl rfl rfl).q) (fun a w hF hW => ?_)
      refine ls hF hW rfl ((y_move hF rfl).q) (fun a w hF hW => ?_)
      refine ls_nil ?_
      refine c_then ?_
      have hW := hW.frontM (i := 2) rfl rfl
      have hW := hW.frontM (i := 2) rfl rfl
      have hW := hW.frontM (i := 2) rfl rfl
      exact ⟨_, H, hF.re ⟨rfl, rfl, rfl, rfl, rfl, rfl, trivial⟩, hW⟩
    ·
      have H := iteF (of_decide_eq_false hb) H
      rw [hb] at hF
      clear hb
      refine wp_exit ?_
      refine e_then ?_
      refine e_then ?_
      refine e_block ?_
      refine c_then ?_
      have hW := hW.frontM (i := 2) rfl rfl
      have hW := hW.frontM (i := 2) rfl rfl
      have hW := hW.frontM (i := 2) rfl rfl
      have H := L2 _ H
      exact ⟨_, _, _, _, _, _, _, _, _, _, _, _, _, _, _, _, H, hF.re ⟨rfl, rfl, rfl, rfl, rfl, trivial⟩, hW⟩
  rintro a w ⟨x1, x2, x3, x4, x5, x6, x7, x8, x9, x10, x11, x12, x13, x14, x15, x16, hj, hF, hW⟩
  have hj := Option.some.inj hj
  subst hj
  have H := K1
  clear G1 K1
  refine c_seq ?_
  refine reg_list ?_
  refine ls hF hW rfl ((y_move hF rfl).q) (fun a w hF hW => ?_)
  obtain ⟨x35, h2, H⟩ := bindE H
  refine ls hF hW rfl ((y_indexP (0 + (p2).toNat * 1) Ar55 hF rfl rfl rfl h2 rfl).q) (fun a w hF hW => ?_)
  refine l_store_dyn (o := 0) (m := 16) (i := p2) (l := ([x1, x2, x3, x4, x5, x6, x7, x8, x9, x10, x11, x12, x13, x14, x15, x16] : List Int)) (x := x35) (cs := [.int .i64 x1, .int .i64 x2, .int .i64 x3, .int .i64 x4, .int .i64 x5, .int .i64 x6, .int .i64 x7, .int .i64 x8, .int .i64 x9, .int .i64 x10, .int .i64 x11, .int .i64 x12, .int .i64 x13, .int .i64 x14, .int .i64 x15, .int .i64 x16]) (cs' := [.int .i64 (if p2 = 0 then 0 else x1), .int .i64 (if p2 = 1 then 0 else x2), .int .i64 (if p2 = 2 then 0 else x3), .int .i64 (if p2 = 3 then 0 else x4), .int .i64 (if p2 = 4 then 0 else x5), .int .i64 (if p2 = 5 then 0 else x6), .int .i64 (if p2 = 6 then 0 else x7), .int .i64 (if p2 = 7 then 0 else x8), .int .i64 (if p2 = 8 then 0 else x9), .int .i64 (if p2 = 9 then 0 else x10), .int .i64 (if p2 = 10 then 0 else x11), .int .i64 (if p2 = 11 then 0 else x12), .int .i64 (if p2 = 12 then 0 else x13), .int .i64 (if p2 = 13 then 0 else x14), .int .i64 (if p2 = 14 then 0 else x15), .int .i64 (if p2 = 15 then 0 else x16)]) 0 hF hW rfl rfl rfl T3 rfl rfl rfl rfl h2 (by intro k hk hn; rw [hk]; match k, hn with | 0, _ => rfl | 1, _ => rfl | 2, _ => rfl | 3, _ => rfl | 4, _ => rfl | 5, _ => rfl | 6, _ => rfl | 7, _ => rfl | 8, _ => rfl | 9, _ => rfl | 10, _ => rfl | 11, _ => rfl | 12, _ => rfl | 13, _ => rfl | 14, _ => rfl | 15, _ => rfl | (z + 16), h => exact absurd h (by omega)) (fun w hW => ?_)
  have hW : Stw ⟨Y, [], w0⟩ [(b3, [.int .i64 (if p2 = 0 then 0 else x1), .int .i64 (if p2 = 1 then 0 else x2), .int .i64 (if p2 = 2 then 0 else x3), .int .i64 (if p2 = 3 then 0 else x4), .int .i64 (if p2 = 4 then 0 else x5), .int .i64 (if p2 = 5 then 0 else x6), .int .i64 (if p2 = 6 then 0 else x7), .int .i64 (if p2 = 7 then 0 else x8), .int .i64 (if p2 = 8 then 0 else x9), .int .i64 (if p2 = 9 then 0 else x10), .int .i64 (if p2 = 10 then 0 else x11), .int .i64 (if p2 = 11 then 0 else x12), .int .i64 (if p2 = 12 then 0 else x13), .int .i64 (if p2 = 13 then 0 else x14), .int .i64 (if p2 = 14 then 0 else x15), .int .i64 (if p2 = 15 then 0 else x16)]), (b2, [.int .i64 0, .int .i64 0, .int .i64 0, .int .i64 0, .int .i64 0, .int .i64 0, .int .i64 0, .int .i64 0, .int .i64 0, .int .i64 0, .int .i64 0, .int .i64 0, .int .i64 0, .int .i64 0, .int .i64 0, .int .i64 0]), (b1, [.int .u32 p1.1, .int .u32 p1.2.1, .int .u32 p1.2.2.1, .int .u32 p1.2.2.2.1, .int .u32 p1.2.2.2.2.1, .int .u32 p1.2.2.2.2.2.1, .int .u32 p1.2.2.2.2.2.2.1, .int .u32 p1.2.2.2.2.2.2.2.1, .int .u32 p1.2.2.2.2.2.2.2.2.1, .int .u32 p1.2.2.2.2.2.2.2.2.2.1, .int .u32 p1.2.2.2.2.2.2.2.2.2.2.1, .int .u32 p1.2.2.2.2.2.2.2.2.2.2.2.1, .int .u32 p1.2.2.2.2.2.2.2.2.2.2.2.2.1, .int .u32 p1.2.2.2.2.2.2.2.2.2.2.2.2.2.1, .int .u32 p1.2.2.2.2.2.2.2.2.2.2.2.2.2.2.1, .int .u32 p1.2.2.2.2.2.2.2.2.2.2.2.2.2.2.2])] [] w := hW
  refine ls_nil ?_
  refine c_then ?_
  refine c_seq ?_
  refine reg_quiet hW MO (by kernel_rfl) ?_
  refine qs hF rfl ((y_move hF rfl).q) (fun a hF => ?_)
  obtain ⟨x36, h3, H⟩ := bindE H
  refine qs hF rfl ((y_indexP (0 + (p2).toNat * 1) Ar46 hF rfl rfl rfl h3 rfl).q) (fun a hF => ?_)
  refine qs hF rfl ((y_load (v := Value.int .u32 x36) 2 hF rfl rfl T45 (rdv_dyn (base := 0) (m := 16) (l := [p1.1, p1.2.1, p1.2.2.1, p1.2.2.2.1, p1.2.2.2.2.1, p1.2.2.2.2.2.1, p1.2.2.2.2.2.2.1, p1.2.2.2.2.2.2.2.1, p1.2.2.2.2.2.2.2.2.1, p1.2.2.2.2.2.2.2.2.2.1, p1.2.2.2.2.2.2.2.2.2.2.1, p1.2.2.2.2.2.2.2.2.2.2.2.1, p1.2.2.2.2.2.2.2.2.2.2.2.2.1, p1.2.2.2.2.2.2.2.2.2.2.2.2.2.1, p1.2.2.2.2.2.2.2.2.2.2.2.2.2.2.1, p1.2.2.2.2.2.2.2.2.2.2.2.2.2.2.2]) (enc := Value.int .u32) rfl h3)).q) (fun a hF => ?_)
  refine qs hF rfl ((y_move hF rfl).q) (fun a hF => ?_)
  obtain ⟨x37, h4, H⟩ := bindE H
  refine qs hF rfl (y_call (v := Value.int .u32 x37) hF H23 rfl (fun w hW => graph_set_with_c any w 0 p2 _ h4)) (fun a hF => ?_)
  refine qs hF rfl ((y_assign hF rfl).q) (fun a hF => ?_)
  refine qs hF rfl ((y_assign hF rfl).q) (fun a hF => ?_)
  refine quiet_end (fun w hW => ?_)
  refine c_then ?_
  obtain ⟨o3, G3, K3⟩ := bindE H
  refine c_seqJ (fun a w => ∃ x38 : Int, ∃ x39 : Int, ∃ x40 : Int, ∃ x41 : Int, ∃ x42 : Int, ∃ x43 : Int, ∃ x44 : Int, ∃ x45 : Int, ∃ x46 : Int, ∃ x47 : Int, ∃ x48 : Int, ∃ x49 : Int, ∃ x50 : Int, ∃ x51 : Int, ∃ x52 : Int, ∃ x53 : Int, some ((x38, x39, x40, x41, x42, x43, x44, x45, x46, x47, x48, x49, x50, x51, x52, x53)) = some o3 ∧ Fr 60 [] [(6, .pointer (some ⟨b2, 0, none⟩)), (7, .pointer (some ⟨b3, 0, none⟩))] a ∧ Stw ⟨Y, [], w0⟩ [(b3, [.int .i64 x38, .int .i64 x39, .int .i64 x40, .int .i64 x41, .int .i64 x42, .int .i64 x43, .int .i64 x44, .int .i64 x45, .int .i64 x46, .int .i64 x47, .int .i64 x48, .int .i64 x49, .int .i64 x50, .int .i64 x51, .int .i64 x52, .int .i64 x53]), (b2, [.int .i64 0, .int .i64 0, .int .i64 0, .int .i64 0, .int .i64 0, .int .i64 0, .int .i64 0, .int .i64 0, .int .i64 0, .int .i64 0, .int .i64 0, .int .i64 0, .int .i64 0, .int .i64 0, .int .i64 0, .int .i64 0]), (b1, [.int .u32 p1.1, .int .u32 p1.2.1, .int .u32 p1.2.2.1, .int .u32 p1.2.2.2.1, .int .u32 p1.2.2.2.2.1, .int .u32 p1.2.2.2.2.2.1, .int .u32 p1.2.2.2.2.2.2.1, .int .u32 p1.2.2.2.2.2.2.2.1, .int .u32 p1.2.2.2.2.2.2.2.2.1, .int .u32 p1.2.2.2.2.2.2.2.2.2.1, .int .u32 p1.2.2.2.2.2.2.2.2.2.2.1, .int .u32 p1.2.2.2.2.2.2.2.2.2.2.2.1, .int .u32 p1.2.2.2.2.2.2.2.2.2.2.2.2.1, .int .u32 p1.2.2.2.2.2.2.2.2.2.2.2.2.2.1, .int .u32 p1.2.2.2.2.2.2.2.2.2.2.2.2.2.2.1, .int .u32 p1.2.2.2.2.2.2.2.2.2.2.2.2.2.2.2])] [] w) ?_ ?_
  ·
    have H := G3
    clear G3 K3
    refine c_seq ?_
    refine reg_list ?_
    refine ls hF hW rfl ((y_move hF rfl).q) (fun a w hF hW => ?_)
    refine ls hF hW rfl ((y_move hF rfl).q) (fun a w hF hW => ?_)
    refine ls_nil ?_
    refine c_then ?_
    refine wp_block ?_
    have hW := hW.frontM (i := 2) rfl rfl
    have hW := hW.frontM (i := 2) rfl rfl
    have hW := hW.frontM (i := 2) rfl rfl
    refine c_loopW H (fun s a w => Fr 60 [] [(0, .int .i64 p0), (4, .pointer (some ⟨b1, 0, none⟩)), (6, .pointer (some ⟨b2, 0, none⟩)), (7, .pointer (some ⟨b3, 0, none⟩)), (9, .int .u32 s.1), (10, .int .u32 s.2.1), (27, .int .i64 p0), (28, .int .i64 s.2.2.1)] a ∧ Stw ⟨Y, [], w0⟩ [(b3, [.int .i64 s.2.2.2.1, .int .i64 s.2.2.2.2.1, .int .i64 s.2.2.2.2.2.1, .int .i64 s.2.2.2.2.2.2.1, .int .i64 s.2.2.2.2.2.2.2.1, .int .i64 s.2.2.2.2.2.2.2.2.1, .int .i64 s.2.2.2.2.2.2.2.2.2.1, .int .i64 s.2.2.2.2.2.2.2.2.2.2.1, .int .i64 s.2.2.2.2.2.2.2.2.2.2.2.1, .int .i64 s.2.2.2.2.2.2.2.2.2.2.2.2.1, .int .i64 s.2.2.2.2.2.2.2.2.2.2.2.2.2.1, .int .i64 s.2.2.2.2.2.2.2.2.2.2.2.2.2.2.1, .int .i64 s.2.2.2.2.2.2.2.2.2.2.2.2.2.2.2.1, .int .i64 s.2.2.2.2.2.2.2.2.2.2.2.2.2.2.2.2.1, .int .i64 s.2.2.2.2.2.2.2.2.2.2.2.2.2.2.2.2.2.1, .int .i64 s.2.2.2.2.2.2.2.2.2.2.2.2.2.2.2.2.2.2]), (b2, [.int .i64 0, .int .i64 0, .int .i64 0, .int .i64 0, .int .i64 0, .int .i64 0, .int .i64 0, .int .i64 0, .int .i64 0, .int .i64 0, .int .i64 0, .int .i64 0, .int .i64 0, .int .i64 0, .int .i64 0, .int .i64 0]), (b1, [.int .u32 p1.1, .int .u32 p1.2.1, .int .u32 p1.2.2.1, .int .u32 p1.2.2.2.1, .int .u32 p1.2.2.2.2.1, .int .u32 p1.2.2.2.2.2.1, .int .u32 p1.2.2.2.2.2.2.1, .int .u32 p1.2.2.2.2.2.2.2.1, .int .u32 p1.2.2.2.2.2.2.2.2.1, .int .u32 p1.2.2.2.2.2.2.2.2.2.1, .int .u32 p1.2.2.2.2.2.2.2.2.2.2.1, .int .u32 p1.2.2.2.2.2.2.2.2.2.2.2.1, .int .u32 p1.2.2.2.2.2.2.2.2.2.2.2.2.1, .int .u32 p1.2.2.2.2.2.2.2.2.2.2.2.2.2.1, .int .u32 p1.2.2.2.2.2.2.2.2.2.2.2.2.2.2.1, .int .u32 p1.2.2.2.2.2.2.2.2.2.2.2.2.2.2.2])] [] w) ⟨hF.re ⟨rfl, rfl, rfl, rfl, rfl, rfl, rfl, rfl, trivial⟩, hW⟩ (fun s o a w H L4 hR => ?_)
    obtain ⟨x54, x55, x56, x57, x58, x59, x60, x61, x62, x63, x64, x65, x66, x67, x68, x69, x70, x71, x72⟩ := s
    obtain ⟨hF, hW⟩ := hR
    have hF : Fr 60 [] [(0, .int .i64 p0), (4, .pointer (some ⟨b1, 0, none⟩)), (6, .pointer (some ⟨b2, 0, none⟩)), (7, .pointer (some ⟨b3, 0, none⟩)), (9, .int .u32 x54), (10, .int .u32 x55), (27, .int .i64 p0), (28, .int .i64 x56)] a := hF
    have hW : Stw ⟨Y, [], w0⟩ [(b3, [.int .i64 x57, .int .i64 x58, .int .i64 x59, .int .i64 x60, .int .i64 x61, .int .i64 x62, .int .i64 x63, .int .i64 x64, .int .i64 x65, .int .i64 x66, .int .i64 x67, .int .i64 x68, .int .i64 x69, .int .i64 x70, .int .i64 x71, .int .i64 x72]), (b2, [.int .i64 0, .int .i64 0, .int .i64 0, .int .i64 0, .int .i64 0, .int .i64 0, .int .i64 0, .int .i64 0, .int .i64 0, .int .i64 0, .int .i64 0, .int .i64 0, .int .i64 0, .int .i64 0, .int .i64 0, .int .i64 0]), (b1, [.int .u32 p1.1, .int .u32 p1.2.1, .int .u32 p1.2.2.1, .int .u32 p1.2.2.2.1, .int .u32 p1.2.2.2.2.1, .int .u32 p1.2.2.2.2.2.1, .int .u32 p1.2.2.2.2.2.2.1, .int .u32 p1.2.2.2.2.2.2.2.1, .int .u32 p1.2.2.2.2.2.2.2.2.1, .int .u32 p1.2.2.2.2.2.2.2.2.2.1, .int .u32 p1.2.2.2.2.2.2.2.2.2.2.1, .int .u32 p1.2.2.2.2.2.2.2.2.2.2.2.1, .int .u32 p1.2.2.2.2.2.2.2.2.2.2.2.2.1, .int .u32 p1.2.2.2.2.2.2.2.2.2.2.2.2.2.1, .int .u32 p1.2.2.2.2.2.2.2.2.2.2.2.2.2.2.1, .int .u32 p1.2.2.2.2.2.2.2.2.2.2.2.2.2.2.2])] [] w := hW
    rw [graph_distances_l2] at H
    refine c_seq ?_
    refine reg_list ?_
    refine ls hF hW rfl ((y_lss hF rfl rfl).q) (fun a w hF hW => ?_)
    refine ls_nil ?_
    refine c_then ?_
    refine c_seq ?_
    refine c_cond hF rfl (fun hb => ?_) (fun hb => ?_)
    ·
      have H := iteT (of_decide_eq_true hb) H
      rw [hb] at hF
      clear hb
      refine wp_skip ?_
      refine c_then ?_
      obtain ⟨o5, G5, K5⟩ := bindE H
      refine c_seqJ (fun a w => ∃ x73 : Int, ∃ x74 : Int, ∃ x75 : Int, ∃ x76 : Int, ∃ x77 : Int, ∃ x78 : Int, ∃ x79 : Int, ∃ x80 : Int, ∃ x81 : Int, ∃ x82 : Int, ∃ x83 : Int, ∃ x84 : Int, ∃ x85 : Int, ∃ x86 : Int, ∃ x87 : Int, ∃ x88 : Int, ∃ x89 : Int, some ((x73, x74, x75, x76, x77, x78, x79, x80, x81, x82, x83, x84, x85, x86, x87, x88, x89)) = some o5 ∧ Fr 60 [] [(0, .int .i64 p0), (4, .pointer (some ⟨b1, 0, none⟩)), (6, .pointer (some ⟨b2, 0, none⟩)), (7, .pointer (some ⟨b3, 0, none⟩)), (9, .int .u32 x73), (10, .int .u32 (orI .u32 x55 x54)), (27, .int .i64 p0), (28, .int .i64 x56)] a ∧ Stw ⟨Y, [], w0⟩ [(b3, [.int .i64 x74, .int .i64 x75, .int .i64 x76, .int .i64 x77, .int .i64 x78, .int .i64 x79, .int .i64 x80, .int .i64 x81, .int .i64 x82, .int .i64 x83, .int .i64 x84, .int .i64 x85, .int .i64 x86, .int .i64 x87, .int .i64 x88, .int .i64 x89]), (b2, [.int .i64 0, .int .i64 0, .int .i64 0, .int .i64 0, .int .i64 0, .int .i64 0, .int .i64 0, .int .i64 0, .int .i64 0, .int .i64 0, .int .i64 0, .int .i64 0, .int .i64 0, .int .i64 0, .int .i64 0, .int .i64 0]), (b1, [.int .u32 p1.1, .int .u32 p1.2.1, .int .u32 p1.2.2.1, .int .u32 p1.2.2.2.1, .int .u32 p1.2.2.2.2.1, .int .u32 p1.2.2.2.2.2.1, .int .u32 p1.2.2.2.2.2.2.1, .int .u32 p1.2.2.2.2.2.2.2.1, .int .u32 p1.2.2.2.2.2.2.2.2.1, .int .u32 p1.2.2.2.2.2.2.2.2.2.1, .int .u32 p1.2.2.2.2.2.2.2.2.2.2.1, .int .u32 p1.2.2.2.2.2.2.2.2.2.2.2.1, .int .u32 p1.2.2.2.2.2.2.2.2.2.2.2.2.1, .int .u32 p1.2.2.2.2.2.2.2.2.2.2.2.2.2.1, .int .u32 p1.2.2.2.2.2.2.2.2.2.2.2.2.2.2.1, .int .u32 p1.2.2.2.2.2.2.2.2.2.2.2.2.2.2.2])] [] w) ?_ ?_
      ·
        have H := G5
        clear G5 K5
        refine wp_block ?_
        refine c_seq ?_
        refine reg_list ?_
        refine ls hF hW rfl ((y_move hF rfl).q) (fun a w hF hW => ?_)
        refine ls hF hW rfl ((y_assign hF rfl).q) (fun a w hF hW => ?_)
        refine ls_nil ?_
        refine c_then ?_
        refine c_seq ?_
        refine reg_list ?_
        refine ls hF hW rfl ((y_assign hF rfl).q) (fun a w hF hW => ?_)
        refine ls_nil ?_
        refine c_then ?_
        obtain ⟨o6, G6, K6⟩ := bindE H
        refine c_seqJ (fun a w => ∃ x90 : Int, ∃ x91 : Int, ∃ x92 : Int, ∃ x93 : Int, ∃ x94 : Int, ∃ x95 : Int, ∃ x96 : Int, ∃ x97 : Int, ∃ x98 : Int, ∃ x99 : Int, ∃ x100 : Int, ∃ x101 : Int, ∃ x102 : Int, ∃ x103 : Int, ∃ x104 : Int, ∃ x105 : Int, ∃ x106 : Int, some ((x90, x91, x92, x93, x94, x95, x96, x97, x98, x99, x100, x101, x102, x103, x104, x105, x106)) = some o6 ∧ Fr 60 [] [(0, .int .i64 p0), (4, .pointer (some ⟨b1, 0, none⟩)), (6, .pointer (some ⟨b2, 0, none⟩)), (7, .pointer (some ⟨b3, 0, none⟩)), (9, .int .u32 x54), (10, .int .u32 x55), (12, .int .u32 x90), (27, .int .i64 p0), (28, .int .i64 x56)] a ∧ Stw ⟨Y, [], w0⟩ [(b3, [.int .i64 x91, .int .i64 x92, .int .i64 x93, .int .i64 x94, .int .i64 x95, .int .i64 x96, .int .i64 x97, .int .i64 x98, .int .i64 x99, .int .i64 x100, .int .i64 x101, .int .i64 x102, .int .i64 x103, .int .i64 x104, .int .i64 x105, .int .i64 x106]), (b2, [.int .i64 0, .int .i64 0, .int .i64 0, .int .i64 0, .int .i64 0, .int .i64 0, .int .i64 0, .int .i64 0, .int .i64 0, .int .i64 0, .int .i64 0, .int .i64 0, .int .i64 0, .int .i64 0, .int .i64 0, .int .i64 0]), (b1, [.int .u32 p1.1, .int .u32 p1.2.1, .int .u32 p1.2.2.1, .int .u32 p1.2.2.2.1, .int .u32 p1.2.2.2.2.1, .int .u32 p1.2.2.2.2.2.1, .int .u32 p1.2.2.2.2.2.2.1, .int .u32 p1.2.2.2.2.2.2.2.1, .int .u32 p1.2.2.2.2.2.2.2.2.1, .int .u32 p1.2.2.2.2.2.2.2.2.2.1, .int .u32 p1.2.2.2.2.2.2.2.2.2.2.1, .int .u32 p1.2.2.2.2.2.2.2.2.2.2.2.1, .int .u32 p1.2.2.2.2.2.2.2.2.2.2.2.2.1, .int .u32 p1.2.2.2.2.2.2.2.2.2.2.2.2.2.1, .int .u32 p1.2.2.2.2.2.2.2.2.2.2.2.2.2.2.1, .int .u32 p1.2.2.2.2.2.2.2.2.2.2.2.2.2.2.2])] [] w) ?_ ?_
        ·
          have H := G6
          clear G6 K6
          refine c_seq ?_
          refine reg_list ?_
          refine ls hF hW rfl ((y_move hF rfl).q) (fun a w hF hW => ?_)
          refine ls hF hW rfl ((y_move hF rfl).q) (fun a w hF hW => ?_)
          refine ls_nil ?_
          refine c_then ?_
          refine wp_block ?_
          have hW := hW.frontM (i := 2) rfl rfl
          have hW := hW.frontM (i := 2) rfl rfl
          have hW := hW.frontM (i := 2) rfl rfl
          refine c_loopW H (fun s a w => Fr 60 [] [(0, .int .i64 p0), (4, .pointer (some ⟨b1, 0, none⟩)), (6, .pointer (some ⟨b2, 0, none⟩)), (7, .pointer (some ⟨b3, 0, none⟩)), (9, .int .u32 x54), (10, .int .u32 x55), (11, .int .i64 x56), (12, .int .u32 s.1), (27, .int .i64 p0), (28, .int .i64 x56), (31, .int .i64 p0), (32, .int .i64 s.2.1)] a ∧ Stw ⟨Y, [], w0⟩ [(b3, [.int .i64 s.2.2.1, .int .i64 s.2.2.2.1, .int .i64 s.2.2.2.2.1, .int .i64 s.2.2.2.2.2.1, .int .i64 s.2.2.2.2.2.2.1, .int .i64 s.2.2.2.2.2.2.2.1, .int .i64 s.2.2.2.2.2.2.2.2.1, .int .i64 s.2.2.2.2.2.2.2.2.2.1, .int .i64 s.2.2.2.2.2.2.2.2.2.2.1, .int .i64 s.2.2.2.2.2.2.2.2.2.2.2.1, .int .i64 s.2.2.2.2.2.2.2.2.2.2.2.2.1, .int .i64 s.2.2.2.2.2.2.2.2.2.2.2.2.2.1, .int .i64 s.2.2.2.2.2.2.2.2.2.2.2.2.2.2.1, .int .i64 s.2.2.2.2.2.2.2.2.2.2.2.2.2.2.2.1, .int .i64 s.2.2.2.2.2.2.2.2.2.2.2.2.2.2.2.2.1, .int .i64 s.2.2.2.2.2.2.2.2.2.2.2.2.2.2.2.2.2]), (b2, [.int .i64 0, .int .i64 0, .int .i64 0, .int .i64 0, .int .i64 0, .int .i64 0, .int .i64 0, .int .i64 0, .int .i64 0, .int .i64 0, .int .i64 0, .int .i64 0, .int .i64 0, .int .i64 0, .int .i64 0, .int .i64 0]), (b1, [.int .u32 p1.1, .int .u32 p1.2.1, .int .u32 p1.2.2.1, .int .u32 p1.2.2.2.1, .int .u32 p1.2.2.2.2.1, .int .u32 p1.2.2.2.2.2.1, .int .u32 p1.2.2.2.2.2.2.1, .int .u32 p1.2.2.2.2.2.2.2.1, .int .u32 p1.2.2.2.2.2.2.2.2.1, .int .u32 p1.2.2.2.2.2.2.2.2.2.1, .int .u32 p1.2.2.2.2.2.2.2.2.2.2.1, .int .u32 p1.2.2.2.2.2.2.2.2.2.2.2.1, .int .u32 p1.2.2.2.2.2.2.2.2.2.2.2.2.1, .int .u32 p1.2.2.2.2.2.2.2.2.2.2.2.2.2.1, .int .u32 p1.2.2.2.2.2.2.2.2.2.2.2.2.2.2.1, .int .u32 p1.2.2.2.2.2.2.2.2.2.2.2.2.2.2.2])] [] w) ⟨hF.re ⟨rfl, rfl, rfl, rfl, rfl, rfl, rfl, rfl, rfl, rfl, rfl, rfl, trivial⟩, hW⟩ (fun s o a w H L7 hR => ?_)
          obtain ⟨x107, x108, x109, x110, x111, x112, x113, x114, x115, x116, x117, x118, x119, x120, x121, x122, x123, x124⟩ := s
          obtain ⟨hF, hW⟩ := hR
          have hF : Fr 60 [] [(0, .int .i64 p0), (4, .pointer (some ⟨b1, 0, none⟩)), (6, .pointer (some ⟨b2, 0, none⟩)), (7, .pointer (some ⟨b3, 0, none⟩)), (9, .int .u32 x54), (10, .int .u32 x55), (11, .int .i64 x56), (12, .int .u32 x107), (27, .int .i64 p0), (28, .int .i64 x56), (31, .int .i64 p0), (32, .int .i64 x108)] a := hF
          have hW : Stw ⟨Y, [], w0⟩ [(b3, [.int .i64 x109, .int .i64 x110, .int .i64 x111, .int .i64 x112, .int .i64 x113, .int .i64 x114, .int .i64 x115, .int .i64 x116, .int .i64 x117, .int .i64 x118, .int .i64 x119, .int .i64 x120, .int .i64 x121, .int .i64 x122, .int .i64 x123, .int .i64 x124]), (b2, [.int .i64 0, .int .i64 0, .int .i64 0, .int .i64 0, .int .i64 0, .int .i64 0, .int .i64 0, .int .i64 0, .int .i64 0, .int .i64 0, .int .i64 0, .int .i64 0, .int .i64 0, .int .i64 0, .int .i64 0, .int .i64 0]), (b1, [.int .u32 p1.1, .int .u32 p1.2.1, .int .u32 p1.2.2.1, .int .u32 p1.2.2.2.1, .int .u32 p1.2.2.2.2.1, .int .u32 p1.2.2.2.2.2.1, .int .u32 p1.2.2.2.2.2.2.1, .int .u32 p1.2.2.2.2.2.2.2.1, .int .u32 p1.2.2.2.2.2.2.2.2.1, .int .u32 p1.2.2.2.2.2.2.2.2.2.1, .int .u32 p1.2.2.2.2.2.2.2.2.2.2.1, .int .u32 p1.2.2.2.2.2.2.2.2.2.2.2.1, .int .u32 p1.2.2.2.2.2.2.2.2.2.2.2.2.1, .int .u32 p1.2.2.2.2.2.2.2.2.2.2.2.2.2.1, .int .u32 p1.2.2.2.2.2.2.2.2.2.2.2.2.2.2.1, .int .u32 p1.2.2.2.2.2.2.2.2.2.2.2.2.2.2.2])] [] w := hW
          rw [graph_distances_l3] at H
          refine c_seq ?_
          refine reg_list ?_
          refine ls hF hW rfl ((y_lss hF rfl rfl).q) (fun a w hF hW => ?_)
          refine ls_nil ?_
          refine c_then ?_
          refine c_seq ?_
          refine c_cond hF rfl (fun hb => ?_) (fun hb => ?_)
          ·
            have H := iteT (of_decide_eq_true hb) H
            rw [hb] at hF
            clear hb
            refine wp_skip ?_
            refine c_then ?_
            obtain ⟨o8, G8, K8⟩ := bindE H
            refine c_seqJ (fun a w => ∃ x125 : Int, ∃ x126 : Int, ∃ x127 : Int, ∃ x128 : Int, ∃ x129 : Int, ∃ x130 : Int, ∃ x131 : Int, ∃ x132 : Int, ∃ x133 : Int, ∃ x134 : Int, ∃ x135 : Int, ∃ x136 : Int, ∃ x137 : Int, ∃ x138 : Int, ∃ x139 : Int, ∃ x140 : Int, ∃ x141 : Int, some ((x125, x126, x127, x128, x129, x130, x131, x132, x133, x134, x135, x136, x137, x138, x139, x140, x141)) = some o8 ∧ Fr 60 [] [(0, .int .i64 p0), (4, .pointer (some ⟨b1, 0, none⟩)), (6, .pointer (some ⟨b2, 0, none⟩)), (7, .pointer (some ⟨b3, 0, none⟩)), (9, .int .u32 x54), (10, .int .u32 x55), (11, .int .i64 x56), (12, .int .u32 x125), (27, .int .i64 p0), (28, .int .i64 x56), (31, .int .i64 p0), (32, .int .i64 x108)] a ∧ Stw ⟨Y, [], w0⟩ [(b3, [.int .i64 x126, .int .i64 x127, .int .i64 x128, .int .i64 x129, .int .i64 x130, .int .i64 x131, .int .i64 x132, .int .i64 x133, .int .i64 x134, .int .i64 x135, .int .i64 x136, .int .i64 x137, .int .i64 x138, .int .i64 x139, .int .i64 x140, .int .i64 x141]), (b2, [.int .i64 0, .int .i64 0, .int .i64 0, .int .i64 0, .int .i64 0, .int .i64 0, .int .i64 0, .int .i64 0, .int .i64 0, .int .i64 0, .int .i64 0, .int .i64 0, .int .i64 0, .int .i64 0, .int .i64 0, .int .i64 0]), (b1, [.int .u32 p1.1, .int .u32 p1.2.1, .int .u32 p1.2.2.1, .int .u32 p1.2.2.2.1, .int .u32 p1.2.2.2.2.1, .int .u32 p1.2.2.2.2.2.1, .int .u32 p1.2.2.2.2.2.2.1, .int .u32 p1.2.2.2.2.2.2.2.1, .int .u32 p1.2.2.2.2.2.2.2.2.1, .int .u32 p1.2.2.2.2.2.2.2.2.2.1, .int .u32 p1.2.2.2.2.2.2.2.2.2.2.1, .int .u32 p1.2.2.2.2.2.2.2.2.2.2.2.1, .int .u32 p1.2.2.2.2.2.2.2.2.2.2.2.2.1, .int .u32 p1.2.2.2.2.2.2.2.2.2.2.2.2.2.1, .int .u32 p1.2.2.2.2.2.2.2.2.2.2.2.2.2.2.1, .int .u32 p1.2.2.2.2.2.2.2.2.2.2.2.2.2.2.2])] [] w) ?_ ?_
            ·
              have H := G8
              clear G8 K8
              refine wp_block ?_
              refine c_seq ?_
              refine reg_list ?_
              refine ls hF hW rfl ((y_move hF rfl).q) (fun a w hF hW => ?_)
              refine ls hF hW rfl ((y_assign hF rfl).q) (fun a w hF hW => ?_)
              refine ls_nil ?_
              refine c_then ?_
              obtain ⟨o9, G9, K9⟩ := bindE H
              refine c_seqJ (fun a w => ∃ x142 : Bool, some (x142) = some o9 ∧ Fr 60 [] [(0, .int .i64 p0), (4, .pointer (some ⟨b1, 0, none⟩)), (6, .pointer (some ⟨b2, 0, none⟩)), (7, .pointer (some ⟨b3, 0, none⟩)), (9, .int .u32 x54), (10, .int .u32 x55), (11, .int .i64 x56), (12, .int .u32 x107), (13, .int .i64 x108), (27, .int .i64 p0), (28, .int .i64 x56), (31, .int .i64 p0), (32, .int .i64 x108), (43, .bool x142)] a ∧ Stw ⟨Y, [], w0⟩ [(b3, [.int .i64 x109, .int .i64 x110, .int .i64 x111, .int .i64 x112, .int .i64 x113, .int .i64 x114, .int .i64 x115, .int .i64 x116, .int .i64 x117, .int .i64 x118, .int .i64 x119, .int .i64 x120, .int .i64 x121, .int .i64 x122, .int .i64 x123, .int .i64 x124]), (b2, [.int .i64 0, .int .i64 0, .int .i64 0, .int .i64 0, .int .i64 0, .int .i64 0, .int .i64 0, .int .i64 0, .int .i64 0, .int .i64 0, .int .i64 0, .int .i64 0, .int .i64 0, .int .i64 0, .int .i64 0, .int .i64 0]), (b1, [.int .u32 p1.1, .int .u32 p1.2.1, .int .u32 p1.2.2.1, .int .u32 p1.2.2.2.1, .int .u32 p1.2.2.2.2.1, .int .u32 p1.2.2.2.2.2.1, .int .u32 p1.2.2.2.2.2.2.1, .int .u32 p1.2.2.2.2.2.2.2.1, .int .u32 p1.2.2.2.2.2.2.2.2.1, .int .u32 p1.2.2.2.2.2.2.2.2.2.1, .int .u32 p1.2.2.2.2.2.2.2.2.2.2.1, .int .u32 p1.2.2.2.2.2.2.2.2.2.2.2.1, .int .u32 p1.2.2.2.2.2.2.2.2.2.2.2.2.1, .int .u32 p1.2.2.2.2.2.2.2.2.2.2.2.2.2.1, .int .u32 p1.2.2.2.2.2.2.2.2.2.2.2.2.2.2.1, .int .u32 p1.2.2.2.2.2.2.2.2.2.2.2.2.2.2.2])] [] w) ?_ ?_
              ·
                have H := G9
                clear G9 K9
                refine reg_list ?_
                refine ls hF hW rfl ((y_move hF rfl).q) (fun a w hF hW => ?_)
                refine ls hF hW rfl ((y_move hF rfl).q) (fun a w hF hW => ?_)
                obtain ⟨x143, h5, H⟩ := bindE H
                refine ls hF hW rfl (y_call (v := Value.bool x143) hF H30 rfl (fun w hW => graph_set_has_c any w x54 x108 _ h5)) (fun a w hF hW => ?_)
                refine ls hF hW rfl ((y_move hF rfl).q) (fun a w hF hW => ?_)
                rcases Bool.eq_false_or_eq_true x143 with hb | hb
                ·
                  have H := iteT hb H
                  rw [hb] at hF
                  clear hb
                  refine ls_w hF hW (wanted_y hF rfl rfl rfl rfl) rfl (Nat.le_of_ble_eq_true rfl) ((y_move hF rfl).q) (fun a w hF hW => ?_)
                  refine ls_w hF hW (wanted_y hF rfl rfl rfl rfl) rfl (Nat.le_of_ble_eq_true rfl) ((y_move hF rfl).q) (fun a w hF hW => ?_)
                  refine ls_g (wanted_y hF rfl rfl rfl rfl) ?_
                  obtain ⟨x144, h6, H⟩ := bindE H
                  refine ls hF hW rfl (y_call (v := Value.bool x144) hF H30 rfl (fun w hW => graph_set_has_c any w x55 x108 _ h6)) (fun a w hF hW => ?_)
                  refine ls_w hF hW (wanted_y hF rfl rfl rfl rfl) rfl (Nat.le_of_ble_eq_true rfl) ((y_not hF rfl).q) (fun a w hF hW => ?_)
                  refine ls hF hW rfl ((y_pick_t hF rfl rfl rfl).q) (fun a w hF hW => ?_)
                  refine ls_nil ?_
                  refine c_then ?_
                  have hW := hW.frontM (i := 2) rfl rfl
                  have hW := hW.frontM (i := 2) rfl rfl
                  have hW := hW.frontM (i := 2) rfl rfl
                  exact ⟨_, H, hF.re ⟨rfl, rfl, rfl, rfl, rfl, rfl, rfl, rfl, rfl, rfl, rfl, rfl, rfl, rfl, trivial⟩, hW⟩
                ·
                  have H := iteF (by rw [hb]; decide) H
                  rw [hb] at hF
                  clear hb
                  refine ls_skip hF (wanted_n hF rfl rfl rfl rfl rfl) rfl rfl (fun a hF => ?_)
                  refine ls_skip hF (wanted_n hF rfl rfl rfl rfl rfl) rfl rfl (fun a hF => ?_)
                  refine ls_skip hF (wanted_n hF rfl rfl rfl rfl rfl) rfl rfl (fun a hF => ?_)
                  refine ls_skip hF (wanted_n hF rfl rfl rfl rfl rfl) rfl rfl (fun a hF => ?_)
                  refine ls hF hW rfl ((y_pick_f hF rfl rfl rfl).q) (fun a w hF hW => ?_)
                  refine ls_nil ?_
                  refine c_then ?_
                  have hW := hW.frontM (i := 2) rfl rfl
                  have hW := hW.frontM (i := 2) rfl rfl
                  have hW := hW.frontM (i := 2) rfl rfl
                  exact ⟨_, H, hF.re ⟨rfl, rfl, rfl, rfl, rfl, rfl, rfl, rfl, rfl, rfl, rfl, rfl, rfl, rfl, trivial⟩, hW⟩
              rintro a w ⟨x142, hj, hF, hW⟩
              have hj := Option.some.inj hj
              subst hj
              have H := K9
              clear G9 K9
              refine c_cond hF rfl (fun hb => ?_) (fun hb => ?_)
              ·
                have H := iteT hb H
                rw [hb] at hF
                clear hb
                refine c_seq ?_
                refine reg_list ?_
                refine ls hF hW rfl ((y_move hF rfl).q) (fun a w hF hW => ?_)
                refine ls hF hW rfl ((y_move hF rfl).q) (fun a w hF hW => ?_)
                refine ls hF hW rfl ((y_add hF rfl rfl rfl).q) (fun a w hF hW => ?_)
                obtain ⟨x145, h7, H⟩ := bindE H
                refine ls hF hW rfl ((y_indexP (0 + (x108).toNat * 1) Ar55 hF rfl rfl rfl h7 rfl).q) (fun a w hF hW => ?_)
                refine l_store_dyn (o := 0) (m := 16) (i := x108) (l := ([x109, x110, x111, x112, x113, x114, x115, x116, x117, x118, x119, x120, x121, x122, x123, x124] : List Int)) (x := x145) (cs := [.int .i64 x109, .int .i64 x110, .int .i64 x111, .int .i64 x112, .int .i64 x113, .int .i64 x114, .int .i64 x115, .int .i64 x116, .int .i64 x117, .int .i64 x118, .int .i64 x119, .int .i64 x120, .int .i64 x121, .int .i64 x122, .int .i64 x123, .int .i64 x124]) (cs' := [.int .i64 (if x108 = 0 then w64 (x56 + 1) else x109), .int .i64 (if x108 = 1 then w64 (x56 + 1) else x110), .int .i64 (if x108 = 2 then w64 (x56 + 1) else x111), .int .i64 (if x108 = 3 then w64 (x56 + 1) else x112), .int .i64 (if x108 = 4 then w64 (x56 + 1) else x113), .int .i64 (if x108 = 5 then w64 (x56 + 1) else x114), .int .i64 (if x108 = 6 then w64 (x56 + 1) else x115), .int .i64 (if x108 = 7 then w64 (x56 + 1) else x116), .int .i64 (if x108 = 8 then w64 (x56 + 1) else x117), .int .i64 (if x108 = 9 then w64 (x56 + 1) else x118), .int .i64 (if x108 = 10 then w64 (x56 + 1) else x119), .int .i64 (if x108 = 11 then w64 (x56 + 1) else x120), .int .i64 (if x108 = 12 then w64 (x56 + 1) else x121), .int .i64 (if x108 = 13 then w64 (x56 + 1) else x122), .int .i64 (if x108 = 14 then w64 (x56 + 1) else x123), .int .i64 (if x108 = 15 then w64 (x56 + 1) else x124)]) 0 hF hW rfl rfl rfl T3 rfl rfl rfl rfl h7 (by intro k hk hn; rw [hk]; match k, hn with | 0, _ => rfl | 1, _ => rfl | 2, _ => rfl | 3, _ => rfl | 4, _ => rfl | 5, _ => rfl | 6, _ => rfl | 7, _ => rfl | 8, _ => rfl | 9, _ => rfl | 10, _ => rfl | 11, _ => rfl | 12, _ => rfl | 13, _ => rfl | 14, _ => rfl | 15, _ => rfl | (z + 16), h => exact absurd h (by omega)) (fun w hW => ?_)
                have hW : Stw ⟨Y, [], w0⟩ [(b3, [.int .i64 (if x108 = 0 then w64 (x56 + 1) else x109), .int .i64 (if x108 = 1 then w64 (x56 + 1) else x110), .int .i64 (if x108 = 2 then w64 (x56 + 1) else x111), .int .i64 (if x108 = 3 then w64 (x56 + 1) else x112), .int .i64 (if x108 = 4 then w64 (x56 + 1) else x113), .int .i64 (if x108 = 5 then w64 (x56 + 1) else x114), .int .i64 (if x108 = 6 then w64 (x56 + 1) else x115), .int .i64 (if x108 = 7 then w64 (x56 + 1) else x116), .int .i64 (if x108 = 8 then w64 (x56 + 1) else x117), .int .i64 (if x108 = 9 then w64 (x56 + 1) else x118), .int .i64 (if x108 = 10 then w64 (x56 + 1) else x119), .int .i64 (if x108 = 11 then w64 (x56 + 1) else x120), .int .i64 (if x108 = 12 then w64 (x56 + 1) else x121), .int .i64 (if x108 = 13 then w64 (x56 + 1) else x122), .int .i64 (if x108 = 14 then w64 (x56 + 1) else x123), .int .i64 (if x108 = 15 then w64 (x56 + 1) else x124)]), (b2, [.int .i64 0, .int .i64 0, .int .i64 0, .int .i64 0, .int .i64 0, .int .i64 0, .int .i64 0, .int .i64 0, .int .i64 0, .int .i64 0, .int .i64 0, .int .i64 0, .int .i64 0, .int .i64 0, .int .i64 0, .int .i64 0]), (b1, [.int .u32 p1.1, .int .u32 p1.2.1, .int .u32 p1.2.2.1, .int .u32 p1.2.2.2.1, .int .u32 p1.2.2.2.2.1, .int .u32 p1.2.2.2.2.2.1, .int .u32 p1.2.2.2.2.2.2.1, .int .u32 p1.2.2.2.2.2.2.2.1, .int .u32 p1.2.2.2.2.2.2.2.2.1, .int .u32 p1.2.2.2.2.2.2.2.2.2.1, .int .u32 p1.2.2.2.2.2.2.2.2.2.2.1, .int .u32 p1.2.2.2.2.2.2.2.2.2.2.2.1, .int .u32 p1.2.2.2.2.2.2.2.2.2.2.2.2.1, .int .u32 p1.2.2.2.2.2.2.2.2.2.2.2.2.2.1, .int .u32 p1.2.2.2.2.2.2.2.2.2.2.2.2.2.2.1, .int .u32 p1.2.2.2.2.2.2.2.2.2.2.2.2.2.2.2])] [] w := hW
                refine ls_nil ?_
                refine c_then ?_
                refine reg_list ?_
                refine ls hF hW rfl ((y_move hF rfl).q) (fun a w hF hW => ?_)
                refine ls hF hW rfl ((y_move hF rfl).q) (fun a w hF hW => ?_)
                obtain ⟨x146, h8, H⟩ := bindE H
                refine ls hF hW rfl ((y_indexP (0 + (x108).toNat * 1) Ar46 hF rfl rfl rfl h8 rfl).q) (fun a w hF hW => ?_)
                refine ls hF hW rfl ((y_load (v := Value.int .u32 x146) 2 hF rfl rfl T45 (rdv_dyn (base := 0) (m := 16) (l := [p1.1, p1.2.1, p1.2.2.1, p1.2.2.2.1, p1.2.2.2.2.1, p1.2.2.2.2.2.1, p1.2.2.2.2.2.2.1, p1.2.2.2.2.2.2.2.1, p1.2.2.2.2.2.2.2.2.1, p1.2.2.2.2.2.2.2.2.2.1, p1.2.2.2.2.2.2.2.2.2.2.1, p1.2.2.2.2.2.2.2.2.2.2.2.1, p1.2.2.2.2.2.2.2.2.2.2.2.2.1, p1.2.2.2.2.2.2.2.2.2.2.2.2.2.1, p1.2.2.2.2.2.2.2.2.2.2.2.2.2.2.1, p1.2.2.2.2.2.2.2.2.2.2.2.2.2.2.2]) (enc := Value.int .u32) rfl h8)).q) (fun a w hF hW => ?_)
                refine ls hF hW rfl ((y_or hF rfl rfl).q) (fun a w hF hW => ?_)
                refine ls hF hW rfl ((y_assign hF rfl).q) (fun a w hF hW => ?_)
                refine ls_nil ?_
                refine b_normal ?_
                refine c_then ?_
                have hW := hW.frontM (i := 2) rfl rfl
                have hW := hW.frontM (i := 2) rfl rfl
                have hW := hW.frontM (i := 2) rfl rfl
                exact ⟨_, _, _, _, _, _, _, _, _, _, _, _, _, _, _, _, _, H, hF.re ⟨rfl, rfl, rfl, rfl, rfl, rfl, rfl, rfl, rfl, rfl, rfl, rfl, trivial⟩, hW⟩
              ·
                have H := iteF (by rw [hb]; decide) H
                rw [hb] at hF
                clear hb
                refine wp_skip ?_
                refine b_normal ?_
                refine c_then ?_
                have hW := hW.frontM (i := 2) rfl rfl
                have hW := hW.frontM (i := 2) rfl rfl
                have hW := hW.frontM (i := 2) rfl rfl
                exact ⟨_, _, _, _, _, _, _, _, _, _, _, _, _, _, _, _, _, H, hF.re ⟨rfl, rfl, rfl, rfl, rfl, rfl, rfl, rfl, rfl, rfl, rfl, rfl, trivial⟩, hW⟩
            rintro a w ⟨x125, x126, x127, x128, x129, x130, x131, x132, x133, x134, x135, x136, x137, x138, x139, x140, x141, hj, hF, hW⟩
            have hj := Option.some.inj hj
            subst hj
            have H := K8
            clear G8 K8
            refine reg_list ?_
            refine ls hF hW rfl ((y_add hF rfl rfl rfl).q) (fun a w hF hW => ?_)
            refine ls hF hW rfl ((y_move hF rfl).q) (fun a w hF hW => ?_)
            refine ls_nil ?_
            refine c_then ?_
            have hW := hW.frontM (i := 2) rfl rfl
            have hW := hW.frontM (i := 2) rfl rfl
            have hW := hW.frontM (i := 2) rfl rfl
            exact ⟨_, H, hF.re ⟨rfl, rfl, rfl, rfl, rfl, rfl, rfl, rfl, rfl, rfl, rfl, rfl, trivial⟩, hW⟩
          ·
            have H := iteF (of_decide_eq_false hb) H
            rw [hb] at hF
            clear hb
            refine wp_exit ?_
            refine e_then ?_
            refine e_then ?_
            refine e_block ?_
            refine c_then ?_
            have hW := hW.frontM (i := 2) rfl rfl
            have hW := hW.frontM (i := 2) rfl rfl
            have hW := hW.frontM (i := 2) rfl rfl
            have H := L7 _ H
            exact ⟨_, _, _, _, _, _, _, _, _, _, _, _, _, _, _, _, _, H, hF.re ⟨rfl, rfl, rfl, rfl, rfl, rfl, rfl, rfl, rfl, trivial⟩, hW⟩
        rintro a w ⟨x90, x91, x92, x93, x94, x95, x96, x97, x98, x99, x100, x101, x102, x103, x104, x105, x106, hj, hF, hW⟩
        have hj := Option.some.inj hj
        subst hj
        have H := K6
        clear G6 K6
        refine c_seq ?_
        refine reg_list ?_
        refine ls hF hW rfl ((y_move hF rfl).q) (fun a w hF hW => ?_)
        refine ls hF hW rfl ((y_move hF rfl).q) (fun a w hF hW => ?_)
        refine ls hF hW rfl ((y_or hF rfl rfl).q) (fun a w hF hW => ?_)
        refine ls hF hW rfl ((y_assign hF rfl).q) (fun a w hF hW => ?_)
        refine ls_nil ?_
        refine c_then ?_
        refine reg_list ?_
        refine ls hF hW rfl ((y_move hF rfl).q) (fun a w hF hW => ?_)
        refine ls hF hW rfl ((y_assign hF rfl).q) (fun a w hF hW => ?_)
        refine ls_nil ?_
        refine b_normal ?_
        refine c_then ?_
        have hW := hW.frontM (i := 2) rfl rfl
        have hW := hW.frontM (i := 2) rfl rfl
        have hW := hW.frontM (i := 2) rfl rfl
        exact ⟨_, _, _, _, _, _, _, _, _, _, _, _, _, _, _, _, _, H, hF.re ⟨rfl, rfl, rfl, rfl, rfl, rfl, rfl, rfl, trivial⟩, hW⟩
      rintro a w ⟨x73, x74, x75, x76, x77, x78, x79, x80, x81, x82, x83, x84, x85, x86, x87, x88, x89, hj, hF, hW⟩
      have hj := Option.some.inj hj
      subst hj
      have H := K5
      clear G5 K5
      refine reg_list ?_
      refine ls hF hW rfl ((y_add hF rfl rfl rfl).q) (fun a w hF hW => ?_)
      refine ls hF hW rfl ((y_move hF rfl).q) (fun a w hF hW => ?_)
      refine ls_nil ?_
      refine c_then ?_
      have hW := hW.frontM (i := 2) rfl rfl
      have hW := hW.frontM (i := 2) rfl rfl
      have hW := hW.frontM (i := 2) rfl rfl
      exact ⟨_, H, hF.re ⟨rfl, rfl, rfl, rfl, rfl, rfl, rfl, rfl, trivial⟩, hW⟩
    ·
      have H := iteF (of_decide_eq_false hb) H
      rw [hb] at hF
      clear hb
      refine wp_exit ?_
      refine e_then ?_
      refine e_then ?_
      refine e_block ?_
      refine c_then ?_
      have hW := hW.frontM (i := 2) rfl rfl
      have hW := hW.frontM (i := 2) rfl rfl
      have hW := hW.frontM (i := 2) rfl rfl
      have H := L4 _ H
      exact ⟨_, _, _, _, _, _, _, _, _, _, _, _, _, _, _, _, H, hF.re ⟨rfl, rfl, trivial⟩, hW⟩
  rintro a w ⟨x38, x39, x40, x41, x42, x43, x44, x45, x46, x47, x48, x49, x50, x51, x52, x53, hj, hF, hW⟩
  have hj := Option.some.inj hj
  subst hj
  have H := K3
  clear G3 K3
  refine c_seq ?_
  refine reg_list ?_
  refine ls hF hW rfl ((y_load (v := Value.agg #[.int .i64 x38, .int .i64 x39, .int .i64 x40, .int .i64 x41, .int .i64 x42, .int .i64 x43, .int .i64 x44, .int .i64 x45, .int .i64 x46, .int .i64 x47, .int .i64 x48, .int .i64 x49, .int .i64 x50, .int .i64 x51, .int .i64 x52, .int .i64 x53]) 0 hF rfl rfl T55 rfl).q) (fun a w hF hW => ?_)
  refine l_store (vs := [.int .i64 x38, .int .i64 x39, .int .i64 x40, .int .i64 x41, .int .i64 x42, .int .i64 x43, .int .i64 x44, .int .i64 x45, .int .i64 x46, .int .i64 x47, .int .i64 x48, .int .i64 x49, .int .i64 x50, .int .i64 x51, .int .i64 x52, .int .i64 x53]) (M' := [(b3, [.int .i64 x38, .int .i64 x39, .int .i64 x40, .int .i64 x41, .int .i64 x42, .int .i64 x43, .int .i64 x44, .int .i64 x45, .int .i64 x46, .int .i64 x47, .int .i64 x48, .int .i64 x49, .int .i64 x50, .int .i64 x51, .int .i64 x52, .int .i64 x53]), (b2, [.int .i64 x38, .int .i64 x39, .int .i64 x40, .int .i64 x41, .int .i64 x42, .int .i64 x43, .int .i64 x44, .int .i64 x45, .int .i64 x46, .int .i64 x47, .int .i64 x48, .int .i64 x49, .int .i64 x50, .int .i64 x51, .int .i64 x52, .int .i64 x53]), (b1, [.int .u32 p1.1, .int .u32 p1.2.1, .int .u32 p1.2.2.1, .int .u32 p1.2.2.2.1, .int .u32 p1.2.2.2.2.1, .int .u32 p1.2.2.2.2.2.1, .int .u32 p1.2.2.2.2.2.2.1, .int .u32 p1.2.2.2.2.2.2.2.1, .int .u32 p1.2.2.2.2.2.2.2.2.1, .int .u32 p1.2.2.2.2.2.2.2.2.2.1, .int .u32 p1.2.2.2.2.2.2.2.2.2.2.1, .int .u32 p1.2.2.2.2.2.2.2.2.2.2.2.1, .int .u32 p1.2.2.2.2.2.2.2.2.2.2.2.2.1, .int .u32 p1.2.2.2.2.2.2.2.2.2.2.2.2.2.1, .int .u32 p1.2.2.2.2.2.2.2.2.2.2.2.2.2.2.1, .int .u32 p1.2.2.2.2.2.2.2.2.2.2.2.2.2.2.2])]) 1 hF hW rfl rfl rfl T55 rfl rfl rfl rfl rfl (fun w hW => ?_)
  refine ls_nil ?_
  refine c_then ?_
  refine wp_ret ?_
  have H := Option.some.inj H
  subst H
  refine post1 (.inl rfl) hF hW rfl (rv_cell 1 hF rfl rfl T55 rfl) ?_
  exact ⟨rfl, hW.done⟩

theorem H31 : Has Try.prog 31 := ⟨fun args w => run_callFunc_body Try.func31 rfl (by decide) args w⟩
noncomputable def graph_nearest_l1 (p0 : Int) (p1 : Int) (p2 : Int × Int × Int × Int × Int × Int × Int × Int × Int × Int × Int × Int × Int × Int × Int × Int) : (Int × Int) → Option ((Int × Int) ⊕ Int)
  | (x2, x3) => (if x3 < p0 then (((graph_set_has p1 x3).bind fun x6 => (if x6 = true then (ix ([p2.1, p2.2.1, p2.2.2.1, p2.2.2.2.1, p2.2.2.2.2.1, p2.2.2.2.2.2.1, p2.2.2.2.2.2.2.1, p2.2.2.2.2.2.2.2.1, p2.2.2.2.2.2.2.2.2.1, p2.2.2.2.2.2.2.2.2.2.1, p2.2.2.2.2.2.2.2.2.2.2.1, p2.2.2.2.2.2.2.2.2.2.2.2.1, p2.2.2.2.2.2.2.2.2.2.2.2.2.1, p2.2.2.2.2.2.2.2.2.2.2.2.2.2.1, p2.2.2.2.2.2.2.2.2.2.2.2.2.2.2.1, p2.2.2.2.2.2.2.2.2.2.2.2.2.2.2.2] : List Int) x3).bind fun x7 => (if 0 ≤ x7 then (if x2 < 0 then some true else (ix ([p2.1, p2.2.1, p2.2.2.1, p2.2.2.2.1, p2.2.2.2.2.1, p2.2.2.2.2.2.1, p2.2.2.2.2.2.2.1, p2.2.2.2.2.2.2.2.1, p2.2.2.2.2.2.2.2.2.1, p2.2.2.2.2.2.2.2.2.2.1, p2.2.2.2.2.2.2.2.2.2.2.1, p2.2.2.2.2.2.2.2.2.2.2.2.1, p2.2.2.2.2.2.2.2.2.2.2.2.2.1, p2.2.2.2.2.2.2.2.2.2.2.2.2.2.1, p2.2.2.2.2.2.2.2.2.2.2.2.2.2.2.1, p2.2.2.2.2.2.2.2.2.2.2.2.2.2.2.2] : List Int) x3).bind fun x8 => (ix ([p2.1, p2.2.1, p2.2.2.1, p2.2.2.2.1, p2.2.2.2.2.1, p2.2.2.2.2.2.1, p2.2.2.2.2.2.2.1, p2.2.2.2.2.2.2.2.1, p2.2.2.2.2.2.2.2.2.1, p2.2.2.2.2.2.2.2.2.2.1, p2.2.2.2.2.2.2.2.2.2.2.1, p2.2.2.2.2.2.2.2.2.2.2.2.1, p2.2.2.2.2.2.2.2.2.2.2.2.2.1, p2.2.2.2.2.2.2.2.2.2.2.2.2.2.1, p2.2.2.2.2.2.2.2.2.2.2.2.2.2.2.1, p2.2.2.2.2.2.2.2.2.2.2.2.2.2.2.2] : List Int) x2).bind fun x9 => some (decide (x8 < x9))) else some false) else some false)).bind fun x5 => (if x5 = true then some x3 else some x2)).bind fun x4 => some (.inl (x4, w64 (x3 + 1))) else some (.inr x2))
noncomputable def graph_nearest (p0 : Int) (p1 : Int) (p2 : Int × Int × Int × Int × Int × Int × Int × Int × Int × Int × Int × Int × Int × Int × Int × Int) : Option Int := (loopW (graph_nearest_l1 p0 p1 p2) ((-1), 0)).bind fun x1 => some x1
theorem graph_nearest_c (Y : Nat → Prop) (w0 : World)  (p0 : Int) (p1 : Int) (p2 : Int × Int × Int × Int × Int × Int × Int × Int × Int × Int × Int × Int × Int × Int × Int × Int) (r : Int) (H : graph_nearest p0 p1 p2 = some r)  :
    Calls Try.prog 32 #[.int .i64 p0, .int .u32 p1, .agg #[.int .i64 p2.1, .int .i64 p2.2.1, .int .i64 p2.2.2.1, .int .i64 p2.2.2.2.1, .int .i64 p2.2.2.2.2.1, .int .i64 p2.2.2.2.2.2.1, .int .i64 p2.2.2.2.2.2.2.1, .int .i64 p2.2.2.2.2.2.2.2.1, .int .i64 p2.2.2.2.2.2.2.2.2.1, .int .i64 p2.2.2.2.2.2.2.2.2.2.1, .int .i64 p2.2.2.2.2.2.2.2.2.2.2.1, .int .i64 p2.2.2.2.2.2.2.2.2.2.2.2.1, .int .i64 p2.2.2.2.2.2.2.2.2.2.2.2.2.1, .int .i64 p2.2.2.2.2.2.2.2.2.2.2.2.2.2.1, .int .i64 p2.2.2.2.2.2.2.2.2.2.2.2.2.2.2.1, .int .i64 p2.2.2.2.2.2.2.2.2.2.2.2.2.2.2.2]] w0 fun e w' => e = .returned (.int .i64 r) ∧ Below w0.heap.size w0 w' := by
  refine enter Try.func32 rfl Try.ntmps32 rfl (fun a hF => ?_)
  have hW := Stw.start Y w0
  unfold graph_nearest at H
  refine c_seq ?_
  refine reg_list ?_
  refine l_box (cs := [.int .i64 p2.1, .int .i64 p2.2.1, .int .i64 p2.2.2.1, .int .i64 p2.2.2.2.1, .int .i64 p2.2.2.2.2.1, .int .i64 p2.2.2.2.2.2.1, .int .i64 p2.2.2.2.2.2.2.1, .int .i64 p2.2.2.2.2.2.2.2.1, .int .i64 p2.2.2.2.2.2.2.2.2.1, .int .i64 p2.2.2.2.2.2.2.2.2.2.1, .int .i64 p2.2.2.2.2.2.2.2.2.2.2.1, .int .i64 p2.2.2.2.2.2.2.2.2.2.2.2.1, .int .i64 p2.2.2.2.2.2.2.2.2.2.2.2.2.1, .int .i64 p2.2.2.2.2.2.2.2.2.2.2.2.2.2.1, .int .i64 p2.2.2.2.2.2.2.2.2.2.2.2.2.2.2.1, .int .i64 p2.2.2.2.2.2.2.2.2.2.2.2.2.2.2.2]) hF hW rfl rfl rfl (fun b1 a w hF hW => ?_)
  refine ls hF hW rfl ((y_assign hF rfl).q) (fun a w hF hW => ?_)
  refine ls_nil ?_
  refine c_then ?_
  refine c_seq ?_
  refine reg_list ?_
  refine ls hF hW rfl ((y_assign hF rfl).q) (fun a w hF hW => ?_)
  refine ls_nil ?_
  refine c_then ?_
  obtain ⟨o1, G1, K1⟩ := bindE H
  refine c_seqJ (fun a w => ∃ x1 : Int, some (x1) = some o1 ∧ Fr 38 [] [(6, .int .i64 0), (7, .int .i64 x1)] a ∧ Stw ⟨Y, [], w0⟩ [(b1, [.int .i64 p2.1, .int .i64 p2.2.1, .int .i64 p2.2.2.1, .int .i64 p2.2.2.2.1, .int .i64 p2.2.2.2.2.1, .int .i64 p2.2.2.2.2.2.1, .int .i64 p2.2.2.2.2.2.2.1, .int .i64 p2.2.2.2.2.2.2.2.1, .int .i64 p2.2.2.2.2.2.2.2.2.1, .int .i64 p2.2.2.2.2.2.2.2.2.2.1, .int .i64 p2.2.2.2.2.2.2.2.2.2.2.1, .int .i64 p2.2.2.2.2.2.2.2.2.2.2.2.1, .int .i64 p2.2.2.2.2.2.2.2.2.2.2.2.2.1, .int .i64 p2.2.2.2.2.2.2.2.2.2.2.2.2.2.1, .int .i64 p2.2.2.2.2.2.2.2.2.2.2.2.2.2.2.1, .int .i64 p2.2.2.2.2.2.2.2.2.2.2.2.2.2.2.2])] [] w) ?_ ?_
  ·
    have H := G1
    clear G1 K1
    refine c_seq ?_
    refine reg_list ?_
    refine ls hF hW rfl ((y_move hF rfl).q) (fun a w hF hW => ?_)
    refine ls hF hW rfl ((y_move hF rfl).q) (fun a w hF hW => ?_)
    refine ls_nil ?_
    refine c_then ?_
    refine wp_block ?_
    refine c_loopW H (fun s a w => Fr 38 [] [(1, .int .u32 p1), (5, .pointer (some ⟨b1, 0, none⟩)), (6, .int .i64 0), (7, .int .i64 s.1), (9, .int .i64 p0), (10, .int .i64 s.2)] a ∧ Stw ⟨Y, [], w0⟩ [(b1, [.int .i64 p2.1, .int .i64 p2.2.1, .int .i64 p2.2.2.1, .int .i64 p2.2.2.2.1, .int .i64 p2.2.2.2.2.1, .int .i64 p2.2.2.2.2.2.1, .int .i64 p2.2.2.2.2.2.2.1, .int .i64 p2.2.2.2.2.2.2.2.1, .int .i64 p2.2.2.2.2.2.2.2.2.1, .int .i64 p2.2.2.2.2.2.2.2.2.2.1, .int .i64 p2.2.2.2.2.2.2.2.2.2.2.1, .int .i64 p2.2.2.2.2.2.2.2.2.2.2.2.1, .int .i64 p2.2.2.2.2.2.2.2.2.2.2.2.2.1, .int .i64 p2.2.2.2.2.2.2.2.2.2.2.2.2.2.1, .int .i64 p2.2.2.2.2.2.2.2.2.2.2.2.2.2.2.1, .int .i64 p2.2.2.2.2.2.2.2.2.2.2.2.2.2.2.2])] [] w) ⟨hF.re ⟨rfl, rfl, rfl, rfl, rfl, rfl, trivial⟩, hW⟩ (fun s o a w H L2 hR => ?_)
    obtain ⟨x2, x3⟩ := s
    obtain ⟨hF, hW⟩ := hR
    have hF : Fr 38 [] [(1, .int .u32 p1), (5, .pointer (some ⟨b1, 0, none⟩)), (6, .int .i64 0), (7, .int .i64 x2), (9, .int .i64 p0), (10, .int .i64 x3)] a := hF
    have hW : Stw ⟨Y, [], w0⟩ [(b1, [.int .i64 p2.1, .int .i64 p2.2.1, .int .i64 p2.2.2.1, .int .i64 p2.2.2.2.1, .int .i64 p2.2.2.2.2.1, .int .i64 p2.2.2.2.2.2.1, .int .i64 p2.2.2.2.2.2.2.1, .int .i64 p2.2.2.2.2.2.2.2.1, .int .i64 p2.2.2.2.2.2.2.2.2.1, .int .i64 p2.2.2.2.2.2.2.2.2.2.1, .int .i64 p2.2.2.2.2.2.2.2.2.2.2.1, .int .i64 p2.2.2.2.2.2.2.2.2.2.2.2.1, .int .i64 p2.2.2.2.2.2.2.2.2.2.2.2.2.1, .int .i64 p2.2.2.2.2.2.2.2.2.2.2.2.2.2.1, .int .i64 p2.2.2.2.2.2.2.2.2.2.2.2.2.2.2.1, .int .i64 p2.2.2.2.2.2.2.2.2.2.2.2.2.2.2.2])] [] w := hW
    rw [graph_nearest_l1] at H
    refine c_seq ?_
    refine reg_list ?_
    refine ls hF hW rfl ((y_lss hF rfl rfl).q) (fun a w hF hW => ?_)
    refine ls_nil ?_
    refine c_then ?_
    refine c_seq ?_
    refine c_cond hF rfl (fun hb => ?_) (fun hb => ?_)
    ·
      have H := iteT (of_decide_eq_true hb) H
      rw [hb] at hF
      clear hb
      refine wp_skip ?_
      refine c_then ?_
      obtain ⟨o3, G3, K3⟩ := bindE H
      refine c_seqJ (fun a w => ∃ x4 : Int, some (x4) = some o3 ∧ Fr 38 [] [(1, .int .u32 p1), (5, .pointer (some ⟨b1, 0, none⟩)), (6, .int .i64 0), (7, .int .i64 x4), (9, .int .i64 p0), (10, .int .i64 x3)] a ∧ Stw ⟨Y, [], w0⟩ [(b1, [.int .i64 p2.1, .int .i64 p2.2.1, .int .i64 p2.2.2.1, .int .i64 p2.2.2.2.1, .int .i64 p2.2.2.2.2.1, .int .i64 p2.2.2.2.2.2.1, .int .i64 p2.2.2.2.2.2.2.1, .int .i64 p2.2.2.2.2.2.2.2.1, .int .i64 p2.2.2.2.2.2.2.2.2.1, .int .i64 p2.2.2.2.2.2.2.2.2.2.1, .int .i64 p2.2.2.2.2.2.2.2.2.2.2.1, .int .i64 p2.2.2.2.2.2.2.2.2.2.2.2.1, .int .i64 p2.2.2.2.2.2.2.2.2.2.2.2.2.1, .int .i64 p2.2.2.2.2.2.2.2.2.2.2.2.2.2.1, .int .i64 p2.2.2.2.2.2.2.2.2.2.2.2.2.2.2.1, .int .i64 p2.2.2.2.2.2.2.2.2.2.2.2.2.2.2.2])] [] w) ?_ ?_
      ·
        have H := G3
        clear G3 K3
        refine wp_block ?_
        refine c_seq ?_
        refine reg_list ?_
        refine ls hF hW rfl ((y_move hF rfl).q) (fun a w hF hW => ?_)
        refine ls hF hW rfl ((y_assign hF rfl).q) (fun a w hF hW => ?_)
        refine ls_nil ?_
        refine c_then ?_
        obtain ⟨o4, G4, K4⟩ := bindE H
        refine c_seqJ (fun a w => ∃ x5 : Bool, some (x5) = some o4 ∧ Fr 38 [] [(1, .int .u32 p1), (5, .pointer (some ⟨b1, 0, none⟩)), (6, .int .i64 0), (7, .int .i64 x2), (8, .int .i64 x3), (9, .int .i64 p0), (10, .int .i64 x3), (34, .bool x5)] a ∧ Stw ⟨Y, [], w0⟩ [(b1, [.int .i64 p2.1, .int .i64 p2.2.1, .int .i64 p2.2.2.1, .int .i64 p2.2.2.2.1, .int .i64 p2.2.2.2.2.1, .int .i64 p2.2.2.2.2.2.1, .int .i64 p2.2.2.2.2.2.2.1, .int .i64 p2.2.2.2.2.2.2.2.1, .int .i64 p2.2.2.2.2.2.2.2.2.1, .int .i64 p2.2.2.2.2.2.2.2.2.2.1, .int .i64 p2.2.2.2.2.2.2.2.2.2.2.1, .int .i64 p2.2.2.2.2.2.2.2.2.2.2.2.1, .int .i64 p2.2.2.2.2.2.2.2.2.2.2.2.2.1, .int .i64 p2.2.2.2.2.2.2.2.2.2.2.2.2.2.1, .int .i64 p2.2.2.2.2.2.2.2.2.2.2.2.2.2.2.1, .int .i64 p2.2.2.2.2.2.2.2.2.2.2.2.2.2.2.2])] [] w) ?_ ?_
        ·
          have H := G4
          clear G4 K4
          refine reg_quiet hW MO (by kernel_rfl) ?_
          refine qs hF rfl ((y_move hF rfl).q) (fun a hF => ?_)
          refine qs hF rfl ((y_move hF rfl).q) (fun a hF => ?_)
          obtain ⟨x6, h1, H⟩ := bindE H
          refine qs hF rfl (y_call (v := Value.bool x6) hF H30 rfl (fun w hW => graph_set_has_c any w p1 x3 _ h1)) (fun a hF => ?_)
          refine qs hF rfl ((y_move hF rfl).q) (fun a hF => ?_)
          rcases Bool.eq_false_or_eq_true x6 with hb | hb
          ·
            have H := iteT hb H
            rw [hb] at hF
            clear hb
            refine qs_w hF (wanted_y hF rfl rfl rfl rfl) rfl (Nat.le_of_ble_eq_true rfl) ((y_move hF rfl).q) (fun a hF => ?_)
            obtain ⟨x7, h2, H⟩ := bindE H
            refine qs_w hF (wanted_y hF rfl rfl rfl rfl) rfl (Nat.le_of_ble_eq_true rfl) ((y_indexP (0 + (x3).toNat * 1) Ar55 hF rfl rfl rfl h2 rfl).q) (fun a hF => ?_)
            refine qs_w hF (wanted_y hF rfl rfl rfl rfl) rfl (Nat.le_of_ble_eq_true rfl) ((y_load (v := Value.int .i64 x7) 0 hF rfl rfl T3 (rdv_dyn (base := 0) (m := 16) (l := [p2.1, p2.2.1, p2.2.2.1, p2.2.2.2.1, p2.2.2.2.2.1, p2.2.2.2.2.2.1, p2.2.2.2.2.2.2.1, p2.2.2.2.2.2.2.2.1, p2.2.2.2.2.2.2.2.2.1, p2.2.2.2.2.2.2.2.2.2.1, p2.2.2.2.2.2.2.2.2.2.2.1, p2.2.2.2.2.2.2.2.2.2.2.2.1, p2.2.2.2.2.2.2.2.2.2.2.2.2.1, p2.2.2.2.2.2.2.2.2.2.2.2.2.2.1, p2.2.2.2.2.2.2.2.2.2.2.2.2.2.2.1, p2.2.2.2.2.2.2.2.2.2.2.2.2.2.2.2]) (enc := Value.int .i64) rfl h2)).q) (fun a hF => ?_)
            refine qs_w hF (wanted_y hF rfl rfl rfl rfl) rfl (Nat.le_of_ble_eq_true rfl) ((y_geq hF rfl rfl).q) (fun a hF => ?_)
            refine qs hF rfl ((y_pick_t hF rfl rfl rfl).q) (fun a hF => ?_)
            refine qs hF rfl ((y_move hF rfl).q) (fun a hF => ?_)
            rcases Bool.eq_false_or_eq_true (decide (0 ≤ x7)) with hb | hb
            ·
              have H := iteT (of_decide_eq_true hb) H
              rw [hb] at hF
              clear hb
              refine qs_w hF (wanted_y hF rfl rfl rfl rfl) rfl (Nat.le_of_ble_eq_true rfl) ((y_move hF rfl).q) (fun a hF => ?_)
              refine qs_w hF (wanted_y hF rfl rfl rfl rfl) rfl (Nat.le_of_ble_eq_true rfl) ((y_lss hF rfl rfl).q) (fun a hF => ?_)
              refine qs_w hF (wanted_y hF rfl rfl rfl rfl) rfl (Nat.le_of_ble_eq_true rfl) ((y_move hF rfl).q) (fun a hF => ?_)
              rcases Bool.eq_false_or_eq_true (decide (x2 < 0)) with hb | hb
              ·
                have H := iteT (of_decide_eq_true hb) H
                rw [hb] at hF
                clear hb
                refine qs_skip hF (wanted_n hF rfl rfl rfl rfl rfl) rfl rfl (fun a hF => ?_)
                refine qs_skip hF (wanted_n hF rfl rfl rfl rfl rfl) rfl rfl (fun a hF => ?_)
                refine qs_skip hF (wanted_n hF rfl rfl rfl rfl rfl) rfl rfl (fun a hF => ?_)
                refine qs_skip hF (wanted_n hF rfl rfl rfl rfl rfl) rfl rfl (fun a hF => ?_)
                refine qs_skip hF (wanted_n hF rfl rfl rfl rfl rfl) rfl rfl (fun a hF => ?_)
                refine qs_skip hF (wanted_n hF rfl rfl rfl rfl rfl) rfl rfl (fun a hF => ?_)
                refine qs_skip hF (wanted_n hF rfl rfl rfl rfl rfl) rfl rfl (fun a hF => ?_)
                refine qs_w hF (wanted_y hF rfl rfl rfl rfl) rfl (Nat.le_of_ble_eq_true rfl) ((y_pick_t hF rfl rfl rfl).q) (fun a hF => ?_)
                refine qs hF rfl ((y_pick_t hF rfl rfl rfl).q) (fun a hF => ?_)
                refine quiet_end (fun w hW => ?_)
                refine c_then ?_
                exact ⟨_, H, hF.re ⟨rfl, rfl, rfl, rfl, rfl, rfl, rfl, rfl, trivial⟩, hW⟩
              ·
                have H := iteF (of_decide_eq_false hb) H
                rw [hb] at hF
                clear hb
                refine qs_w hF (wanted_y hF rfl rfl rfl rfl) rfl (Nat.le_of_ble_eq_true rfl) ((y_move hF rfl).q) (fun a hF => ?_)
                obtain ⟨x8, h3, H⟩ := bindE H
                refine qs_w hF (wanted_y hF rfl rfl rfl rfl) rfl (Nat.le_of_ble_eq_true rfl) ((y_indexP (0 + (x3).toNat * 1) Ar55 hF rfl rfl rfl h3 rfl).q) (fun a hF => ?_)
                refine qs_w hF (wanted_y hF rfl rfl rfl rfl) rfl (Nat.le_of_ble_eq_true rfl) ((y_load (v := Value.int .i64 x8) 0 hF rfl rfl T3 (rdv_dyn (base := 0) (m := 16) (l := [p2.1, p2.2.1, p2.2.2.1, p2.2.2.2.1, p2.2.2.2.2.1, p2.2.2.2.2.2.1, p2.2.2.2.2.2.2.1, p2.2.2.2.2.2.2.2.1, p2.2.2.2.2.2.2.2.2.1, p2.2.2.2.2.2.2.2.2.2.1, p2.2.2.2.2.2.2.2.2.2.2.1, p2.2.2.2.2.2.2.2.2.2.2.2.1, p2.2.2.2.2.2.2.2.2.2.2.2.2.1, p2.2.2.2.2.2.2.2.2.2.2.2.2.2.1, p2.2.2.2.2.2.2.2.2.2.2.2.2.2.2.1, p2.2.2.2.2.2.2.2.2.2.2.2.2.2.2.2]) (enc := Value.int .i64) rfl h3)).q) (fun a hF => ?_)
                refine qs_w hF (wanted_y hF rfl rfl rfl rfl) rfl (Nat.le_of_ble_eq_true rfl) ((y_move hF rfl).q) (fun a hF => ?_)
                obtain ⟨x9, h4, H⟩ := bindE H
                refine qs_w hF (wanted_y hF rfl rfl rfl rfl) rfl (Nat.le_of_ble_eq_true rfl) ((y_indexP (0 + (x2).toNat * 1) Ar55 hF rfl rfl rfl h4 rfl).q) (fun a hF => ?_)
                refine qs_w hF (wanted_y hF rfl rfl rfl rfl) rfl (Nat.le_of_ble_eq_true rfl) ((y_load (v := Value.int .i64 x9) 0 hF rfl rfl T3 (rdv_dyn (base := 0) (m := 16) (l := [p2.1, p2.2.1, p2.2.2.1, p2.2.2.2.1, p2.2.2.2.2.1, p2.2.2.2.2.2.1, p2.2.2.2.2.2.2.1, p2.2.2.2.2.2.2.2.1, p2.2.2.2.2.2.2.2.2.1, p2.2.2.2.2.2.2.2.2.2.1, p2.2.2.2.2.2.2.2.2.2.2.1, p2.2.2.2.2.2.2.2.2.2.2.2.1, p2.2.2.2.2.2.2.2.2.2.2.2.2.1, p2.2.2.2.2.2.2.2.2.2.2.2.2.2.1, p2.2.2.2.2.2.2.2.2.2.2.2.2.2.2.1, p2.2.2.2.2.2.2.2.2.2.2.2.2.2.2.2]) (enc := Value.int .i64) rfl h4)).q) (fun a hF => ?_)
                refine qs_w hF (wanted_y hF rfl rfl rfl rfl) rfl (Nat.le_of_ble_eq_true rfl) ((y_lss hF rfl rfl).q) (fun a hF => ?_)
                refine qs_w hF (wanted_y hF rfl rfl rfl rfl) rfl (Nat.le_of_ble_eq_true rfl) ((y_pick_f hF rfl rfl rfl).q) (fun a hF => ?_)
                refine qs hF rfl ((y_pick_t hF rfl rfl rfl).q) (fun a hF => ?_)
                refine quiet_end (fun w hW => ?_)
                refine c_then ?_
                exact ⟨_, H, hF.re ⟨rfl, rfl, rfl, rfl, rfl, rfl, rfl, rfl, trivial⟩, hW⟩
            ·
              have H := iteF (of_decide_eq_false hb) H
              rw [hb] at hF
              clear hb
              refine qs_skip hF (wanted_n hF rfl rfl rfl rfl rfl) rfl rfl (fun a hF => ?_)
              refine qs_skip hF (wanted_n hF rfl rfl rfl rfl rfl) rfl rfl (fun a hF => ?_)
              refine qs_skip hF (wanted_n hF rfl rfl rfl rfl rfl) rfl rfl (fun a hF => ?_)
              refine qs_skip hF (wanted_undef hF rfl rfl rfl rfl) rfl rfl (fun a hF => ?_)
              refine qs_skip hF (wanted_undef hF rfl rfl rfl rfl) rfl rfl (fun a hF => ?_)
              refine qs_skip hF (wanted_undef hF rfl rfl rfl rfl) rfl rfl (fun a hF => ?_)
              refine qs_skip hF (wanted_undef hF rfl rfl rfl rfl) rfl rfl (fun a hF => ?_)
              refine qs_skip hF (wanted_undef hF rfl rfl rfl rfl) rfl rfl (fun a hF => ?_)
              refine qs_skip hF (wanted_undef hF rfl rfl rfl rfl) rfl rfl (fun a hF => ?_)
              refine qs_skip hF (wanted_undef hF rfl rfl rfl rfl) rfl rfl (fun a hF => ?_)
              refine qs_skip hF (wanted_n hF rfl rfl rfl rfl rfl) rfl rfl (fun a hF => ?_)
              refine qs hF rfl ((y_pick_f hF rfl rfl rfl).q) (fun a hF => ?_)
              refine quiet_end (fun w hW => ?_)
              refine c_then ?_
              exact ⟨_, H, hF.re ⟨rfl, rfl, rfl, rfl, rfl, rfl, rfl, rfl, trivial⟩, hW⟩
          ·
            have H := iteF (by rw [hb]; decide) H
            rw [hb] at hF
            clear hb
            refine qs_skip hF (wanted_n hF rfl rfl rfl rfl rfl) rfl rfl (fun a hF => ?_)
            refine qs_skip hF (wanted_n hF rfl rfl rfl rfl rfl) rfl rfl (fun a hF => ?_)
            refine qs_skip hF (wanted_n hF rfl rfl rfl rfl rfl) rfl rfl (fun a hF => ?_)
            refine qs_skip hF (wanted_n hF rfl rfl rfl rfl rfl) rfl rfl (fun a hF => ?_)
            refine qs hF rfl ((y_pick_f hF rfl rfl rfl).q) (fun a hF => ?_)
            refine qs hF rfl ((y_move hF rfl).q) (fun a hF => ?_)
            refine qs_skip hF (wanted_n hF rfl rfl rfl rfl rfl) rfl rfl (fun a hF => ?_)
            refine qs_skip hF (wanted_n hF rfl rfl rfl rfl rfl) rfl rfl (fun a hF => ?_)
            refine qs_skip hF (wanted_n hF rfl rfl rfl rfl rfl) rfl rfl (fun a hF => ?_)
            refine qs_skip hF (wanted_undef hF rfl rfl rfl rfl) rfl rfl (fun a hF => ?_)
            refine qs_skip hF (wanted_undef hF rfl rfl rfl rfl) rfl rfl (fun a hF => ?_)
            refine qs_skip hF (wanted_undef hF rfl rfl rfl rfl) rfl rfl (fun a hF => ?_)
            refine qs_skip hF (wanted_undef hF rfl rfl rfl rfl) rfl rfl (fun a hF => ?_)
            refine qs_skip hF (wanted_undef hF rfl rfl rfl rfl) rfl rfl (fun a hF => ?_)
            refine qs_skip hF (wanted_undef hF rfl rfl rfl rfl) rfl rfl (fun a hF => ?_)
            refine qs_skip hF (wanted_undef hF rfl rfl rfl rfl) rfl rfl (fun a hF => ?_)
            refine qs_skip hF (wanted_n hF rfl rfl rfl rfl rfl) rfl rfl (fun a hF => ?_)
            refine qs hF rfl ((y_pick_f hF rfl rfl rfl).q) (fun a hF => ?_)
            refine quiet_end (fun w hW => ?_)
            refine c_then ?_
            exact ⟨_, H, hF.re ⟨rfl, rfl, rfl, rfl, rfl, rfl, rfl, rfl, trivial⟩, hW⟩
        rintro a w ⟨x5, hj, hF, hW⟩
        have hj := Option.some.inj hj
        subst hj
        have H := K4
        clear G4 K4
        refine c_cond hF rfl (fun hb => ?_) (fun hb => ?_)
        ·
          have H := iteT hb H
          rw [hb] at hF
          clear hb
          refine reg_list ?_
          refine ls hF hW rfl ((y_move hF rfl).q) (fun a w hF hW => ?_)
          refine ls hF hW rfl ((y_assign hF rfl).q) (fun a w hF hW => ?_)
          refine ls_nil ?_
          refine b_normal ?_
          refine c_then ?_
          exact ⟨_, H, hF.re ⟨rfl, rfl, rfl, rfl, rfl, rfl, trivial⟩, hW⟩
        ·
          have H := iteF (by rw [hb]; decide) H
          rw [hb] at hF
          clear hb
          refine wp_skip ?_
          refine b_normal ?_
          refine c_then ?_
          exact ⟨_, H, hF.re ⟨rfl, rfl, rfl, rfl, rfl, rfl, trivial⟩, hW⟩
      rintro a w ⟨x4, hj, hF, hW⟩
      have hj := Option.some.inj hj
      subst hj
      have H := K3
      clear G3 K3
      refine reg_list ?_
      refine ls hF hW rfl ((y_add hF rfl rfl rfl).q) (fun a w hF hW => ?_)
      refine ls hF hW rfl ((y_move hF rfl).q) (fun a w hF hW => ?_)
      refine ls_nil ?_
      refine c_then ?_
      exact ⟨_, H, hF.re ⟨rfl, rfl, rfl, rfl, rfl, rfl, trivial⟩, hW⟩
    ·
      have H := iteF (of_decide_eq_false hb) H
      rw [hb] at hF
      clear hb
      refine wp_exit ?_
      refine e_then ?_
      refine e_then ?_
      refine e_block ?_
      refine c_then ?_
      have H := L2 _ H
      exact ⟨_, H, hF.re ⟨rfl, rfl, trivial⟩, hW⟩
  rintro a w ⟨x1, hj, hF, hW⟩
  have hj := Option.some.inj hj
  subst hj
  have H := K1
  clear G1 K1
  refine c_seq ?_
  refine reg_list ?_
  refine ls hF hW rfl ((y_move hF rfl).q) (fun a w hF hW => ?_)
  refine ls hF hW rfl ((y_assign hF rfl).q) (fun a w hF hW => ?_)
  refine ls_nil ?_
  refine c_then ?_
  refine wp_ret ?_
  have H := Option.some.inj H
  subst H
  refine post1 (.inl rfl) hF hW rfl (rv_tmp hF rfl) ?_
  exact ⟨rfl, hW.done⟩

theorem H32 : Has Try.prog 32 := ⟨fun args w => run_callFunc_body Try.func32 rfl (by decide) args w⟩
noncomputable def graph_Loop_l2 (p0 : Int) (x2 : (Int × Int × Int × Int × Int × Int × Int × Int × Int × Int × Int × Int × Int × Int × Int × Int)) (x3 : Int) (x5 : (Int × Int × Int × Int × Int × Int × Int × Int × Int × Int × Int × Int × Int × Int × Int × Int)) : (List Int × Int) → Option ((List Int × Int) ⊕ (List Int))
  | (x9, x10) => (if x10 ≠ x3 then (app x9 ([x10] : List Int)).bind fun x11 => (ix ([x2.1, x2.2.1, x2.2.2.1, x2.2.2.2.1, x2.2.2.2.2.1, x2.2.2.2.2.2.1, x2.2.2.2.2.2.2.1, x2.2.2.2.2.2.2.2.1, x2.2.2.2.2.2.2.2.2.1, x2.2.2.2.2.2.2.2.2.2.1, x2.2.2.2.2.2.2.2.2.2.2.1, x2.2.2.2.2.2.2.2.2.2.2.2.1, x2.2.2.2.2.2.2.2.2.2.2.2.2.1, x2.2.2.2.2.2.2.2.2.2.2.2.2.2.1, x2.2.2.2.2.2.2.2.2.2.2.2.2.2.2.1, x2.2.2.2.2.2.2.2.2.2.2.2.2.2.2.2] : List Int) x10).bind fun x12 => (graph_nearest p0 x12 x5).bind fun x13 => some (.inl (x11, x13)) else some (.inr x9))
noncomputable def graph_Loop_l1 (p0 : Int) (p1 : List (Int × Int)) (x2 : (Int × Int × Int × Int × Int × Int × Int × Int × Int × Int × Int × Int × Int × Int × Int × Int)) : Int → Option (Int ⊕ (Unit ⊕ (List Int)))
  | x3 => (if x3 < p0 then orR ((graph_predecessors p1).bind fun x4 => (graph_distances p0 x4 x3).bind fun x5 => (ix ([x2.1, x2.2.1, x2.2.2.1, x2.2.2.2.1, x2.2.2.2.2.1, x2.2.2.2.2.2.1, x2.2.2.2.2.2.2.1, x2.2.2.2.2.2.2.2.1, x2.2.2.2.2.2.2.2.2.1, x2.2.2.2.2.2.2.2.2.2.1, x2.2.2.2.2.2.2.2.2.2.2.1, x2.2.2.2.2.2.2.2.2.2.2.2.1, x2.2.2.2.2.2.2.2.2.2.2.2.2.1, x2.2.2.2.2.2.2.2.2.2.2.2.2.2.1, x2.2.2.2.2.2.2.2.2.2.2.2.2.2.2.1, x2.2.2.2.2.2.2.2.2.2.2.2.2.2.2.2] : List Int) x3).bind fun x6 => (graph_nearest p0 x6 x5).bind fun x7 => (if x7 < 0 then some (.inl ()) else (loopW (graph_Loop_l2 p0 x2 x3 x5) (([x3] : List Int), x7)).bind fun x8 => some (.inr (.inr (.inr x8))))) fun _ => some (.inl (w64 (x3 + 1))) else some (.inr (.inl ())))
noncomputable def graph_Loop (p0 : Int) (p1 : List (Int × Int)) : Option (List Int) := (graph_Right p0 p1).bind fun x1 => (if (!x1) = true then some ([] : List Int) else (graph_successors p1).bind fun x2 => orR (loopW (graph_Loop_l1 p0 p1 x2) 0) fun _ => some ([] : List Int))
theorem graph_Loop_c (Y : Nat → Prop) (w0 : World) (v1 : Value) (p0 : Int) (p1 : List (Int × Int)) (r : List Int) (H : graph_Loop p0 p1 = some r) (h_v1 : Sl w0 (NX []) R42 v1 p1) :
    Calls Try.prog 17 #[.int .i64 p0, v1] w0 fun e w' => ∃ x : Value, e = .returned (x) ∧ Stw ⟨Y, [], w0⟩ [] [row (x) 3 (Rp.int .i64) r] w' := by
  refine enter Try.func17 rfl Try.ntmps17 rfl (fun a hF => ?_)
  have hW := Stw.start Y w0
  unfold graph_Loop at H
  refine c_seq ?_
  refine reg_list ?_
  refine ls hF hW rfl ((y_assign hF rfl).q) (fun a w hF hW => ?_)
  refine ls_nil ?_
  refine c_then ?_
  refine c_seq ?_
  refine c_seq ?_
  refine reg_list ?_
  refine ls hF hW rfl ((y_move hF rfl).q) (fun a w hF hW => ?_)
  refine ls hF hW rfl ((y_move hF rfl).q) (fun a w hF hW => ?_)
  obtain ⟨x1, h1, H⟩ := bindE H
  refine ls hF hW rfl (y_call (v := Value.bool x1) hF H10 rfl (fun w hW => graph_Right_c any w (v1) p0 p1 _ h1 (((rdc_ro h_v1) : Rdc _ _ _ _ _ _) w hW).nx)) (fun a w hF hW => ?_)
  refine ls hF hW rfl ((y_not hF rfl).q) (fun a w hF hW => ?_)
  refine ls_nil ?_
  refine c_then ?_
  refine c_cond hF rfl (fun hb => ?_) (fun hb => ?_)
  ·
    have H := iteT hb H
    rw [hb] at hF
    clear hb
    refine c_seq ?_
    refine reg_list ?_
    refine ls hF hW rfl ((y_assign hF rfl).q) (fun a w hF hW => ?_)
    refine ls_nil ?_
    refine c_then ?_
    refine wp_ret ?_
    refine r_then ?_
    have H := Option.some.inj H
    subst H
    refine post1 (.inl rfl) hF hW rfl (rv_tmp hF rfl) ?_
    have hW := hW.nilRow 3 (Rp.int .i64)
    exact ⟨(Value.slice none 0 0), rfl, hW⟩
  ·
    have H := iteF (by rw [hb]; decide) H
    rw [hb] at hF
    clear hb
    refine wp_skip ?_
    refine c_then ?_
    refine c_seq ?_
    refine reg_list ?_
    refine ls hF hW rfl ((y_move hF rfl).q) (fun a w hF hW => ?_)
    obtain ⟨x2, h2, H⟩ := bindE H
    refine ls hF hW rfl (y_call (v := Value.agg #[.int .u32 x2.1, .int .u32 x2.2.1, .int .u32 x2.2.2.1, .int .u32 x2.2.2.2.1, .int .u32 x2.2.2.2.2.1, .int .u32 x2.2.2.2.2.2.1, .int .u32 x2.2.2.2.2.2.2.1, .int .u32 x2.2.2.2.2.2.2.2.1, .int .u32 x2.2.2.2.2.2.2.2.2.1, .int .u32 x2.2.2.2.2.2.2.2.2.2.1, .int .u32 x2.2.2.2.2.2.2.2.2.2.2.1, .int .u32 x2.2.2.2.2.2.2.2.2.2.2.2.1, .int .u32 x2.2.2.2.2.2.2.2.2.2.2.2.2.1, .int .u32 x2.2.2.2.2.2.2.2.2.2.2.2.2.2.1, .int .u32 x2.2.2.2.2.2.2.2.2.2.2.2.2.2.2.1, .int .u32 x2.2.2.2.2.2.2.2.2.2.2.2.2.2.2.2]) hF H27 rfl (fun w hW => graph_successors_c any w (v1) p1 _ h2 (((rdc_ro h_v1) : Rdc _ _ _ _ _ _) w hW).nx)) (fun a w hF hW => ?_)
    refine l_alloc (cs := [.int .u32 0, .int .u32 0, .int .u32 0, .int .u32 0, .int .u32 0, .int .u32 0, .int .u32 0, .int .u32 0, .int .u32 0, .int .u32 0, .int .u32 0, .int .u32 0, .int .u32 0, .int .u32 0, .int .u32 0, .int .u32 0]) hF hW rfl Z46 rfl (fun b1 a w hF hW => ?_)
    refine l_store (vs := [.int .u32 x2.1, .int .u32 x2.2.1, .int .u32 x2.2.2.1, .int .u32 x2.2.2.2.1, .int .u32 x2.2.2.2.2.1, .int .u32 x2.2.2.2.2.2.1, .int .u32 x2.2.2.2.2.2.2.1, .int .u32 x2.2.2.2.2.2.2.2.1, .int .u32 x2.2.2.2.2.2.2.2.2.1, .int .u32 x2.2.2.2.2.2.2.2.2.2.1, .int .u32 x2.2.2.2.2.2.2.2.2.2.2.1, .int .u32 x2.2.2.2.2.2.2.2.2.2.2.2.1, .int .u32 x2.2.2.2.2.2.2.2.2.2.2.2.2.1, .int .u32 x2.2.2.2.2.2.2.2.2.2.2.2.2.2.1, .int .u32 x2.2.2.2.2.2.2.2.2.2.2.2.2.2.2.1, .int .u32 x2.2.2.2.2.2.2.2.2.2.2.2.2.2.2.2]) (M' := [(b1, [.int .u32 x2.1, .int .u32 x2.2.1, .int .u32 x2.2.2.1, .int .u32 x2.2.2.2.1, .int .u32 x2.2.2.2.2.1, .int .u32 x2.2.2.2.2.2.1, .int .u32 x2.2.2.2.2.2.2.1, .int .u32 x2.2.2.2.2.2.2.2.1, .int .u32 x2.2.2.2.2.2.2.2.2.1, .int .u32 x2.2.2.2.2.2.2.2.2.2.1, .int .u32 x2.2.2.2.2.2.2.2.2.2.2.1, .int .u32 x2.2.2.2.2.2.2.2.2.2.2.2.1, .int .u32 x2.2.2.2.2.2.2.2.2.2.2.2.2.1, .int .u32 x2.2.2.2.2.2.2.2.2.2.2.2.2.2.1, .int .u32 x2.2.2.2.2.2.2.2.2.2.2.2.2.2.2.1, .int .u32 x2.2.2.2.2.2.2.2.2.2.2.2.2.2.2.2])]) 0 hF hW rfl rfl rfl T46 rfl rfl rfl rfl rfl (fun w hW => ?_)
    refine ls_nil ?_
    refine c_then ?_
    obtain ⟨o1, G1, K1, L1⟩ := orE H
    refine c_seqJ (fun a w => some (Sum.inl ()) = some o1 ∧ Fr 52 [] [(4, .slice none 0 0)] a ∧ Stw ⟨Y, [], w0⟩ [(b1, [.int .u32 x2.1, .int .u32 x2.2.1, .int .u32 x2.2.2.1, .int .u32 x2.2.2.2.1, .int .u32 x2.2.2.2.2.1, .int .u32 x2.2.2.2.2.2.1, .int .u32 x2.2.2.2.2.2.2.1, .int .u32 x2.2.2.2.2.2.2.2.1, .int .u32 x2.2.2.2.2.2.2.2.2.1, .int .u32 x2.2.2.2.2.2.2.2.2.2.1, .int .u32 x2.2.2.2.2.2.2.2.2.2.2.1, .int .u32 x2.2.2.2.2.2.2.2.2.2.2.2.1, .int .u32 x2.2.2.2.2.2.2.2.2.2.2.2.2.1, .int .u32 x2.2.2.2.2.2.2.2.2.2.2.2.2.2.1, .int .u32 x2.2.2.2.2.2.2.2.2.2.2.2.2.2.2.1, .int .u32 x2.2.2.2.2.2.2.2.2.2.2.2.2.2.2.2])] [] w) ?_ ?_
    ·
      have H := G1
      clear G1 K1
      refine c_seq ?_
      refine reg_list ?_
      refine ls hF hW rfl ((y_move hF rfl).q) (fun a w hF hW => ?_)
      refine ls hF hW rfl ((y_move hF rfl).q) (fun a w hF hW => ?_)
      refine ls_nil ?_
      refine c_then ?_
      refine wp_block ?_
      refine c_loopW H (fun s a w => Fr 52 [] [(0, .int .i64 p0), (1, v1), (4, .slice none 0 0), (5, .pointer (some ⟨b1, 0, none⟩)), (17, .int .i64 p0), (18, .int .i64 s)] a ∧ Stw ⟨Y, [], w0⟩ [(b1, [.int .u32 x2.1, .int .u32 x2.2.1, .int .u32 x2.2.2.1, .int .u32 x2.2.2.2.1, .int .u32 x2.2.2.2.2.1, .int .u32 x2.2.2.2.2.2.1, .int .u32 x2.2.2.2.2.2.2.1, .int .u32 x2.2.2.2.2.2.2.2.1, .int .u32 x2.2.2.2.2.2.2.2.2.1, .int .u32 x2.2.2.2.2.2.2.2.2.2.1, .int .u32 x2.2.2.2.2.2.2.2.2.2.2.1, .int .u32 x2.2.2.2.2.2.2.2.2.2.2.2.1, .int .u32 x2.2.2.2.2.2.2.2.2.2.2.2.2.1, .int .u32 x2.2.2.2.2.2.2.2.2.2.2.2.2.2.1, .int .u32 x2.2.2.2.2.2.2.2.2.2.2.2.2.2.2.1, .int .u32 x2.2.2.2.2.2.2.2.2.2.2.2.2.2.2.2])] [] w) ⟨hF.re ⟨rfl, rfl, rfl, rfl, rfl, rfl, trivial⟩, hW⟩ (fun s o a w H L2 hR => ?_)
      obtain ⟨x3, rfl⟩ : ∃ x, x = s := ⟨s, rfl⟩
      obtain ⟨hF, hW⟩ := hR
      have hF : Fr 52 [] [(0, .int .i64 p0), (1, v1), (4, .slice none 0 0), (5, .pointer (some ⟨b1, 0, none⟩)), (17, .int .i64 p0), (18, .int .i64 x3)] a := hF
      have hW : Stw ⟨Y, [], w0⟩ [(b1, [.int .u32 x2.1, .int .u32 x2.2.1, .int .u32 x2.2.2.1, .int .u32 x2.2.2.2.1, .int .u32 x2.2.2.2.2.1, .int .u32 x2.2.2.2.2.2.1, .int .u32 x2.2.2.2.2.2.2.1, .int .u32 x2.2.2.2.2.2.2.2.1, .int .u32 x2.2.2.2.2.2.2.2.2.1, .int .u32 x2.2.2.2.2.2.2.2.2.2.1, .int .u32 x2.2.2.2.2.2.2.2.2.2.2.1, .int .u32 x2.2.2.2.2.2.2.2.2.2.2.2.1, .int .u32 x2.2.2.2.2.2.2.2.2.2.2.2.2.1, .int .u32 x2.2.2.2.2.2.2.2.2.2.2.2.2.2.1, .int .u32 x2.2.2.2.2.2.2.2.2.2.2.2.2.2.2.1, .int .u32 x2.2.2.2.2.2.2.2.2.2.2.2.2.2.2.2])] [] w := hW
      rw [graph_Loop_l1] at H
      refine c_seq ?_
      refine reg_list ?_
      refine ls hF hW rfl ((y_lss hF rfl rfl).q) (fun a w hF hW => ?_)
      refine ls_nil ?_
      refine c_then ?_
      refine c_seq ?_
      refine c_cond hF rfl (fun hb => ?_) (fun hb => ?_)
      ·
        have H := iteT (of_decide_eq_true hb) H
        rw [hb] at hF
        clear hb
        refine wp_skip ?_
        refine c_then ?_
        obtain ⟨o3, G3, K3, L3⟩ := orE H
        refine c_seqJ (fun a w => some (Sum.inl ()) = some o3 ∧ Fr 52 [] [(0, .int .i64 p0), (1, v1), (4, .slice none 0 0), (5, .pointer (some ⟨b1, 0, none⟩)), (17, .int .i64 p0), (18, .int .i64 x3)] a ∧ Stw ⟨Y, [], w0⟩ [(b1, [.int .u32 x2.1, .int .u32 x2.2.1, .int .u32 x2.2.2.1, .int .u32 x2.2.2.2.1, .int .u32 x2.2.2.2.2.1, .int .u32 x2.2.2.2.2.2.1, .int .u32 x2.2.2.2.2.2.2.1, .int .u32 x2.2.2.2.2.2.2.2.1, .int .u32 x2.2.2.2.2.2.2.2.2.1, .int .u32 x2.2.2.2.2.2.2.2.2.2.1, .int .u32 x2.2.2.2.2.2.2.2.2.2.2.1, .int .u32 x2.2.2.2.2.2.2.2.2.2.2.2.1, .int .u32 x2.2.2.2.2.2.2.2.2.2.2.2.2.1, .int .u32 x2.2.2.2.2.2.2.2.2.2.2.2.2.2.1, .int .u32 x2.2.2.2.2.2.2.2.2.2.2.2.2.2.2.1, .int .u32 x2.2.2.2.2.2.2.2.2.2.2.2.2.2.2.2])] [] w) ?_ ?_
        ·
          have H := G3
          clear G3 K3
          refine wp_block ?_
          refine c_seq ?_
          refine reg_list ?_
          refine ls hF hW rfl ((y_move hF rfl).q) (fun a w hF hW => ?_)
          refine ls hF hW rfl ((y_assign hF rfl).q) (fun a w hF hW => ?_)
          refine ls_nil ?_
          refine c_then ?_
          refine c_seq ?_
          refine reg_list ?_
          refine ls hF hW rfl ((y_move hF rfl).q) (fun a w hF hW => ?_)
          refine ls hF hW rfl ((y_move hF rfl).q) (fun a w hF hW => ?_)
          obtain ⟨x4, h3, H⟩ := bindE H
          refine ls hF hW rfl (y_call (v := Value.agg #[.int .u32 x4.1, .int .u32 x4.2.1, .int .u32 x4.2.2.1, .int .u32 x4.2.2.2.1, .int .u32 x4.2.2.2.2.1, .int .u32 x4.2.2.2.2.2.1, .int .u32 x4.2.2.2.2.2.2.1, .int .u32 x4.2.2.2.2.2.2.2.1, .int .u32 x4.2.2.2.2.2.2.2.2.1, .int .u32 x4.2.2.2.2.2.2.2.2.2.1, .int .u32 x4.2.2.2.2.2.2.2.2.2.2.1, .int .u32 x4.2.2.2.2.2.2.2.2.2.2.2.1, .int .u32 x4.2.2.2.2.2.2.2.2.2.2.2.2.1, .int .u32 x4.2.2.2.2.2.2.2.2.2.2.2.2.2.1, .int .u32 x4.2.2.2.2.2.2.2.2.2.2.2.2.2.2.1, .int .u32 x4.2.2.2.2.2.2.2.2.2.2.2.2.2.2.2]) hF H21 rfl (fun w hW => graph_predecessors_c any w (v1) p1 _ h3 (((rdc_ro h_v1) : Rdc _ _ _ _ _ _) w hW).nx)) (fun a w hF hW => ?_)
          refine ls hF hW rfl ((y_move hF rfl).q) (fun a w hF hW => ?_)
          obtain ⟨x5, h4, H⟩ := bindE H
          refine ls hF hW rfl (y_call (v := Value.agg #[.int .i64 x5.1, .int .i64 x5.2.1, .int .i64 x5.2.2.1, .int .i64 x5.2.2.2.1, .int .i64 x5.2.2.2.2.1, .int .i64 x5.2.2.2.2.2.1, .int .i64 x5.2.2.2.2.2.2.1, .int .i64 x5.2.2.2.2.2.2.2.1, .int .i64 x5.2.2.2.2.2.2.2.2.1, .int .i64 x5.2.2.2.2.2.2.2.2.2.1, .int .i64 x5.2.2.2.2.2.2.2.2.2.2.1, .int .i64 x5.2.2.2.2.2.2.2.2.2.2.2.1, .int .i64 x5.2.2.2.2.2.2.2.2.2.2.2.2.1, .int .i64 x5.2.2.2.2.2.2.2.2.2.2.2.2.2.1, .int .i64 x5.2.2.2.2.2.2.2.2.2.2.2.2.2.2.1, .int .i64 x5.2.2.2.2.2.2.2.2.2.2.2.2.2.2.2]) hF H31 rfl (fun w hW => graph_distances_c any w p0 x4 x3 _ h4)) (fun a w hF hW => ?_)
          refine l_alloc (cs := [.int .i64 0, .int .i64 0, .int .i64 0, .int .i64 0, .int .i64 0, .int .i64 0, .int .i64 0, .int .i64 0, .int .i64 0, .int .i64 0, .int .i64 0, .int .i64 0, .int .i64 0, .int .i64 0, .int .i64 0, .int .i64 0]) hF hW rfl Z55 rfl (fun b2 a w hF hW => ?_)
          refine l_store (vs := [.int .i64 x5.1, .int .i64 x5.2.1, .int .i64 x5.2.2.1, .int .i64 x5.2.2.2.1, .int .i64 x5.2.2.2.2.1, .int .i64 x5.2.2.2.2.2.1, .int .i64 x5.2.2.2.2.2.2.1, .int .i64 x5.2.2.2.2.2.2.2.1, .int .i64 x5.2.2.2.2.2.2.2.2.1, .int .i64 x5.2.2.2.2.2.2.2.2.2.1, .int .i64 x5.2.2.2.2.2.2.2.2.2.2.1, .int .i64 x5.2.2.2.2.2.2.2.2.2.2.2.1, .int .i64 x5.2.2.2.2.2.2.2.2.2.2.2.2.1, .int .i64 x5.2.2.2.2.2.2.2.2.2.2.2.2.2.1, .int .i64 x5.2.2.2.2.2.2.2.2.2.2.2.2.2.2.1, .int .i64 x5.2.2.2.2.2.2.2.2.2.2.2.2.2.2.2]) (M' := [(b2, [.int .i64 x5.1, .int .i64 x5.2.1, .int .i64 x5.2.2.1, .int .i64 x5.2.2.2.1, .int .i64 x5.2.2.2.2.1, .int .i64 x5.2.2.2.2.2.1, .int .i64 x5.2.2.2.2.2.2.1, .int .i64 x5.2.2.2.2.2.2.2.1, .int .i64 x5.2.2.2.2.2.2.2.2.1, .int .i64 x5.2.2.2.2.2.2.2.2.2.1, .int .i64 x5.2.2.2.2.2.2.2.2.2.2.1, .int .i64 x5.2.2.2.2.2.2.2.2.2.2.2.1, .int .i64 x5.2.2.2.2.2.2.2.2.2.2.2.2.1, .int .i64 x5.2.2.2.2.2.2.2.2.2.2.2.2.2.1, .int .i64 x5.2.2.2.2.2.2.2.2.2.2.2.2.2.2.1, .int .i64 x5.2.2.2.2.2.2.2.2.2.2.2.2.2.2.2]), (b1, [.int .u32 x2.1, .int .u32 x2.2.1, .int .u32 x2.2.2.1, .int .u32 x2.2.2.2.1, .int .u32 x2.2.2.2.2.1, .int .u32 x2.2.2.2.2.2.1, .int .u32 x2.2.2.2.2.2.2.1, .int .u32 x2.2.2.2.2.2.2.2.1, .int .u32 x2.2.2.2.2.2.2.2.2.1, .int .u32 x2.2.2.2.2.2.2.2.2.2.1, .int .u32 x2.2.2.2.2.2.2.2.2.2.2.1, .int .u32 x2.2.2.2.2.2.2.2.2.2.2.2.1, .int .u32 x2.2.2.2.2.2.2.2.2.2.2.2.2.1, .int .u32 x2.2.2.2.2.2.2.2.2.2.2.2.2.2.1, .int .u32 x2.2.2.2.2.2.2.2.2.2.2.2.2.2.2.1, .int .u32 x2.2.2.2.2.2.2.2.2.2.2.2.2.2.2.2])]) 0 hF hW rfl rfl rfl T55 rfl rfl rfl rfl rfl (fun w hW => ?_)
          refine ls_nil ?_
          refine c_then ?_
          refine c_seq ?_
          refine reg_quiet hW MO (by kernel_rfl) ?_
          refine qs hF rfl ((y_move hF rfl).q) (fun a hF => ?_)
          refine qs hF rfl ((y_move hF rfl).q) (fun a hF => ?_)
          obtain ⟨x6, h5, H⟩ := bindE H
          refine qs hF rfl ((y_indexP (0 + (x3).toNat * 1) Ar46 hF rfl rfl rfl h5 rfl).q) (fun a hF => ?_)
          refine qs hF rfl ((y_load (v := Value.int .u32 x6) 1 hF rfl rfl T45 (rdv_dyn (base := 0) (m := 16) (l := [x2.1, x2.2.1, x2.2.2.1, x2.2.2.2.1, x2.2.2.2.2.1, x2.2.2.2.2.2.1, x2.2.2.2.2.2.2.1, x2.2.2.2.2.2.2.2.1, x2.2.2.2.2.2.2.2.2.1, x2.2.2.2.2.2.2.2.2.2.1, x2.2.2.2.2.2.2.2.2.2.2.1, x2.2.2.2.2.2.2.2.2.2.2.2.1, x2.2.2.2.2.2.2.2.2.2.2.2.2.1, x2.2.2.2.2.2.2.2.2.2.2.2.2.2.1, x2.2.2.2.2.2.2.2.2.2.2.2.2.2.2.1, x2.2.2.2.2.2.2.2.2.2.2.2.2.2.2.2]) (enc := Value.int .u32) rfl h5)).q) (fun a hF => ?_)
          refine qs hF rfl ((y_load (v := Value.agg #[.int .i64 x5.1, .int .i64 x5.2.1, .int .i64 x5.2.2.1, .int .i64 x5.2.2.2.1, .int .i64 x5.2.2.2.2.1, .int .i64 x5.2.2.2.2.2.1, .int .i64 x5.2.2.2.2.2.2.1, .int .i64 x5.2.2.2.2.2.2.2.1, .int .i64 x5.2.2.2.2.2.2.2.2.1, .int .i64 x5.2.2.2.2.2.2.2.2.2.1, .int .i64 x5.2.2.2.2.2.2.2.2.2.2.1, .int .i64 x5.2.2.2.2.2.2.2.2.2.2.2.1, .int .i64 x5.2.2.2.2.2.2.2.2.2.2.2.2.1, .int .i64 x5.2.2.2.2.2.2.2.2.2.2.2.2.2.1, .int .i64 x5.2.2.2.2.2.2.2.2.2.2.2.2.2.2.1, .int .i64 x5.2.2.2.2.2.2.2.2.2.2.2.2.2.2.2]) 0 hF rfl rfl T55 rfl).q) (fun a hF => ?_)
          obtain ⟨x7, h6, H⟩ := bindE H
          refine qs hF rfl (y_call (v := Value.int .i64 x7) hF H32 rfl (fun w hW => graph_nearest_c any w p0 x6 x5 _ h6)) (fun a hF => ?_)
          refine qs hF rfl ((y_assign hF rfl).q) (fun a hF => ?_)
          refine quiet_end (fun w hW => ?_)
          refine c_then ?_
          refine c_seq ?_
          refine c_seq ?_
          refine reg_list ?_
          refine ls hF hW rfl ((y_move hF rfl).q) (fun a w hF hW => ?_)
          refine ls hF hW rfl ((y_lss hF rfl rfl).q) (fun a w hF hW => ?_)
          refine ls_nil ?_
          refine c_then ?_
          refine c_cond hF rfl (fun hb => ?_) (fun hb => ?_)
          ·
            have H := iteT (of_decide_eq_true hb) H
            rw [hb] at hF
            clear hb
            refine wp_exit ?_
            refine e_then ?_
            refine e_block ?_
            refine c_then ?_
            have hW := hW.frontM (i := 1) rfl rfl
            have hW := hW.sub (M' := [(b1, [.int .u32 x2.1, .int .u32 x2.2.1, .int .u32 x2.2.2.1, .int .u32 x2.2.2.2.1, .int .u32 x2.2.2.2.2.1, .int .u32 x2.2.2.2.2.2.1, .int .u32 x2.2.2.2.2.2.2.1, .int .u32 x2.2.2.2.2.2.2.2.1, .int .u32 x2.2.2.2.2.2.2.2.2.1, .int .u32 x2.2.2.2.2.2.2.2.2.2.1, .int .u32 x2.2.2.2.2.2.2.2.2.2.2.1, .int .u32 x2.2.2.2.2.2.2.2.2.2.2.2.1, .int .u32 x2.2.2.2.2.2.2.2.2.2.2.2.2.1, .int .u32 x2.2.2.2.2.2.2.2.2.2.2.2.2.2.1, .int .u32 x2.2.2.2.2.2.2.2.2.2.2.2.2.2.2.1, .int .u32 x2.2.2.2.2.2.2.2.2.2.2.2.2.2.2.2])]) (Z' := []) (List.Sublist.cons_cons _ (List.nil_sublist _)) (List.Sublist.refl _)
            exact ⟨H, hF.re ⟨rfl, rfl, rfl, rfl, rfl, rfl, trivial⟩, hW⟩
          ·
            have H := iteF (of_decide_eq_false hb) H
            rw [hb] at hF
            clear hb
            refine wp_skip ?_
            refine c_then ?_
            refine c_seq ?_
            refine reg_list ?_
            refine ls hF hW rfl ((y_move hF rfl).q) (fun a w hF hW => ?_)
            refine l_lit (z := Value.int .i64 0) (cs := [.int .i64 x3]) (Rp.int .i64) ([x3] : List Int) hF hW rfl L26 Z3 rfl rfl rfl rfl rfl rfl (Fl.int.repL _ _ ([x3] : List Int)) (fun v2 a w hF hW => ?_)
            refine ls hF hW rfl ((y_assign hF rfl).q) (fun a w hF hW => ?_)
            refine ls_nil ?_
            refine c_then ?_
            obtain ⟨o4, G4, K4⟩ := bindE H
            refine c_seqJ (fun a w => ∃ x8 : List Int, ∃ v3 : Value, some (x8) = some o4 ∧ Fr 52 [] [(0, .int .i64 p0), (1, v1), (4, .slice none 0 0), (5, .pointer (some ⟨b1, 0, none⟩)), (9, v3), (17, .int .i64 p0), (18, .int .i64 x3)] a ∧ Stw ⟨Y, [], w0⟩ [(b2, [.int .i64 x5.1, .int .i64 x5.2.1, .int .i64 x5.2.2.1, .int .i64 x5.2.2.2.1, .int .i64 x5.2.2.2.2.1, .int .i64 x5.2.2.2.2.2.1, .int .i64 x5.2.2.2.2.2.2.1, .int .i64 x5.2.2.2.2.2.2.2.1, .int .i64 x5.2.2.2.2.2.2.2.2.1, .int .i64 x5.2.2.2.2.2.2.2.2.2.1, .int .i64 x5.2.2.2.2.2.2.2.2.2.2.1, .int .i64 x5.2.2.2.2.2.2.2.2.2.2.2.1, .int .i64 x5.2.2.2.2.2.2.2.2.2.2.2.2.1, .int .i64 x5.2.2.2.2.2.2.2.2.2.2.2.2.2.1, .int .i64 x5.2.2.2.2.2.2.2.2.2.2.2.2.2.2.1, .int .i64 x5.2.2.2.2.2.2.2.2.2.2.2.2.2.2.2]), (b1, [.int .u32 x2.1, .int .u32 x2.2.1, .int .u32 x2.2.2.1, .int .u32 x2.2.2.2.1, .int .u32 x2.2.2.2.2.1, .int .u32 x2.2.2.2.2.2.1, .int .u32 x2.2.2.2.2.2.2.1, .int .u32 x2.2.2.2.2.2.2.2.1, .int .u32 x2.2.2.2.2.2.2.2.2.1, .int .u32 x2.2.2.2.2.2.2.2.2.2.1, .int .u32 x2.2.2.2.2.2.2.2.2.2.2.1, .int .u32 x2.2.2.2.2.2.2.2.2.2.2.2.1, .int .u32 x2.2.2.2.2.2.2.2.2.2.2.2.2.1, .int .u32 x2.2.2.2.2.2.2.2.2.2.2.2.2.2.1, .int .u32 x2.2.2.2.2.2.2.2.2.2.2.2.2.2.2.1, .int .u32 x2.2.2.2.2.2.2.2.2.2.2.2.2.2.2.2])] [row v3 3 (Rp.int .i64) x8] w) ?_ ?_
            ·
              have H := G4
              clear G4 K4
              refine c_seq ?_
              refine reg_list ?_
              refine ls hF hW rfl ((y_move hF rfl).q) (fun a w hF hW => ?_)
              refine ls hF hW rfl ((y_assign hF rfl).q) (fun a w hF hW => ?_)
              refine ls_nil ?_
              refine c_then ?_
              refine wp_block ?_
              have hW := hW.frontM (i := 1) rfl rfl
              have hW := hW.frontM (i := 1) rfl rfl
              refine c_loopW H (fun s a w => ∃ v4 : Value, Fr 52 [] [(0, .int .i64 p0), (1, v1), (4, .slice none 0 0), (5, .pointer (some ⟨b1, 0, none⟩)), (6, .int .i64 x3), (7, .pointer (some ⟨b2, 0, none⟩)), (9, v4), (10, .int .i64 s.2), (17, .int .i64 p0), (18, .int .i64 x3)] a ∧ Stw ⟨Y, [], w0⟩ [(b2, [.int .i64 x5.1, .int .i64 x5.2.1, .int .i64 x5.2.2.1, .int .i64 x5.2.2.2.1, .int .i64 x5.2.2.2.2.1, .int .i64 x5.2.2.2.2.2.1, .int .i64 x5.2.2.2.2.2.2.1, .int .i64 x5.2.2.2.2.2.2.2.1, .int .i64 x5.2.2.2.2.2.2.2.2.1, .int .i64 x5.2.2.2.2.2.2.2.2.2.1, .int .i64 x5.2.2.2.2.2.2.2.2.2.2.1, .int .i64 x5.2.2.2.2.2.2.2.2.2.2.2.1, .int .i64 x5.2.2.2.2.2.2.2.2.2.2.2.2.1, .int .i64 x5.2.2.2.2.2.2.2.2.2.2.2.2.2.1, .int .i64 x5.2.2.2.2.2.2.2.2.2.2.2.2.2.2.1, .int .i64 x5.2.2.2.2.2.2.2.2.2.2.2.2.2.2.2]), (b1, [.int .u32 x2.1, .int .u32 x2.2.1, .int .u32 x2.2.2.1, .int .u32 x2.2.2.2.1, .int .u32 x2.2.2.2.2.1, .int .u32 x2.2.2.2.2.2.1, .int .u32 x2.2.2.2.2.2.2.1, .int .u32 x2.2.2.2.2.2.2.2.1, .int .u32 x2.2.2.2.2.2.2.2.2.1, .int .u32 x2.2.2.2.2.2.2.2.2.2.1, .int .u32 x2.2.2.2.2.2.2.2.2.2.2.1, .int .u32 x2.2.2.2.2.2.2.2.2.2.2.2.1, .int .u32 x2.2.2.2.2.2.2.2.2.2.2.2.2.1, .int .u32 x2.2.2.2.2.2.2.2.2.2.2.2.2.2.1, .int .u32 x2.2.2.2.2.2.2.2.2.2.2.2.2.2.2.1, .int .u32 x2.2.2.2.2.2.2.2.2.2.2.2.2.2.2.2])] [row v4 3 (Rp.int .i64) s.1] w) ⟨(v2), hF.re ⟨rfl, rfl, rfl, rfl, rfl, rfl, rfl, rfl, rfl, rfl, trivial⟩, hW⟩ (fun s o a w H L5 hR => ?_)
              obtain ⟨x9, x10⟩ := s
              obtain ⟨v4, hF, hW⟩ := hR
              have hF : Fr 52 [] [(0, .int .i64 p0), (1, v1), (4, .slice none 0 0), (5, .pointer (some ⟨b1, 0, none⟩)), (6, .int .i64 x3), (7, .pointer (some ⟨b2, 0, none⟩)), (9, v4), (10, .int .i64 x10), (17, .int .i64 p0), (18, .int .i64 x3)] a := hF
              have hW : Stw ⟨Y, [], w0⟩ [(b2, [.int .i64 x5.1, .int .i64 x5.2.1, .int .i64 x5.2.2.1, .int .i64 x5.2.2.2.1, .int .i64 x5.2.2.2.2.1, .int .i64 x5.2.2.2.2.2.1, .int .i64 x5.2.2.2.2.2.2.1, .int .i64 x5.2.2.2.2.2.2.2.1, .int .i64 x5.2.2.2.2.2.2.2.2.1, .int .i64 x5.2.2.2.2.2.2.2.2.2.1, .int .i64 x5.2.2.2.2.2.2.2.2.2.2.1, .int .i64 x5.2.2.2.2.2.2.2.2.2.2.2.1, .int .i64 x5.2.2.2.2.2.2.2.2.2.2.2.2.1, .int .i64 x5.2.2.2.2.2.2.2.2.2.2.2.2.2.1, .int .i64 x5.2.2.2.2.2.2.2.2.2.2.2.2.2.2.1, .int .i64 x5.2.2.2.2.2.2.2.2.2.2.2.2.2.2.2]), (b1, [.int .u32 x2.1, .int .u32 x2.2.1, .int .u32 x2.2.2.1, .int .u32 x2.2.2.2.1, .int .u32 x2.2.2.2.2.1, .int .u32 x2.2.2.2.2.2.1, .int .u32 x2.2.2.2.2.2.2.1, .int .u32 x2.2.2.2.2.2.2.2.1, .int .u32 x2.2.2.2.2.2.2.2.2.1, .int .u32 x2.2.2.2.2.2.2.2.2.2.1, .int .u32 x2.2.2.2.2.2.2.2.2.2.2.1, .int .u32 x2.2.2.2.2.2.2.2.2.2.2.2.1, .int .u32 x2.2.2.2.2.2.2.2.2.2.2.2.2.1, .int .u32 x2.2.2.2.2.2.2.2.2.2.2.2.2.2.1, .int .u32 x2.2.2.2.2.2.2.2.2.2.2.2.2.2.2.1, .int .u32 x2.2.2.2.2.2.2.2.2.2.2.2.2.2.2.2])] [row v4 3 (Rp.int .i64) x9] w := hW
              rw [graph_Loop_l2] at H
              refine c_seq ?_
              refine c_seq ?_
              refine reg_list ?_
              refine ls hF hW rfl ((y_move hF rfl).q) (fun a w hF hW => ?_)
              refine ls hF hW rfl ((y_move hF rfl).q) (fun a w hF hW => ?_)
              refine ls hF hW rfl ((y_neq hF rfl rfl).q) (fun a w hF hW => ?_)
              refine ls_nil ?_
              refine c_then ?_
              refine c_cond hF rfl (fun hb => ?_) (fun hb => ?_)
              ·
                have H := iteT (of_decide_eq_true hb) H
                rw [hb] at hF
                clear hb
                refine wp_skip ?_
                refine c_then ?_
                refine c_seq ?_
                refine wp_block ?_
                refine reg_list ?_
                refine ls hF hW rfl ((y_move hF rfl).q) (fun a w hF hW => ?_)
                refine ls hF hW rfl ((y_move hF rfl).q) (fun a w hF hW => ?_)
                refine l_lit (z := Value.int .i64 0) (cs := [.int .i64 x10]) (Rp.int .i64) ([x10] : List Int) hF hW rfl L26 Z3 rfl rfl rfl rfl rfl rfl (Fl.int.repL _ _ ([x10] : List Int)) (fun v5 a w hF hW => ?_)
                obtain ⟨x11, h7, H⟩ := bindE H
                refine l_append (r := (Rp.int .i64)) (i := 1) hF hW rfl L26 rfl rfl rfl rfl (src_row hW 0 rfl) h7 rfl (fun v6 a w hF hW => ?_)
                have hW : Stw ⟨Y, [], w0⟩ [(b2, [.int .i64 x5.1, .int .i64 x5.2.1, .int .i64 x5.2.2.1, .int .i64 x5.2.2.2.1, .int .i64 x5.2.2.2.2.1, .int .i64 x5.2.2.2.2.2.1, .int .i64 x5.2.2.2.2.2.2.1, .int .i64 x5.2.2.2.2.2.2.2.1, .int .i64 x5.2.2.2.2.2.2.2.2.1, .int .i64 x5.2.2.2.2.2.2.2.2.2.1, .int .i64 x5.2.2.2.2.2.2.2.2.2.2.1, .int .i64 x5.2.2.2.2.2.2.2.2.2.2.2.1, .int .i64 x5.2.2.2.2.2.2.2.2.2.2.2.2.1, .int .i64 x5.2.2.2.2.2.2.2.2.2.2.2.2.2.1, .int .i64 x5.2.2.2.2.2.2.2.2.2.2.2.2.2.2.1, .int .i64 x5.2.2.2.2.2.2.2.2.2.2.2.2.2.2.2]), (b1, [.int .u32 x2.1, .int .u32 x2.2.1, .int .u32 x2.2.2.1, .int .u32 x2.2.2.2.1, .int .u32 x2.2.2.2.2.1, .int .u32 x2.2.2.2.2.2.1, .int .u32 x2.2.2.2.2.2.2.1, .int .u32 x2.2.2.2.2.2.2.2.1, .int .u32 x2.2.2.2.2.2.2.2.2.1, .int .u32 x2.2.2.2.2.2.2.2.2.2.1, .int .u32 x2.2.2.2.2.2.2.2.2.2.2.1, .int .u32 x2.2.2.2.2.2.2.2.2.2.2.2.1, .int .u32 x2.2.2.2.2.2.2.2.2.2.2.2.2.1, .int .u32 x2.2.2.2.2.2.2.2.2.2.2.2.2.2.1, .int .u32 x2.2.2.2.2.2.2.2.2.2.2.2.2.2.2.1, .int .u32 x2.2.2.2.2.2.2.2.2.2.2.2.2.2.2.2])] [row v6 3 (Rp.int .i64) x11, row v5 3 (Rp.int .i64) ([x10] : List Int)] w := hW
                refine ls hF hW rfl ((y_assign hF rfl).q) (fun a w hF hW => ?_)
                refine ls_nil ?_
                refine b_normal ?_
                refine c_then ?_
                refine reg_quiet hW MO (by kernel_rfl) ?_
                refine qs hF rfl ((y_move hF rfl).q) (fun a hF => ?_)
                refine qs hF rfl ((y_move hF rfl).q) (fun a hF => ?_)
                obtain ⟨x12, h8, H⟩ := bindE H
                refine qs hF rfl ((y_indexP (0 + (x10).toNat * 1) Ar46 hF rfl rfl rfl h8 rfl).q) (fun a hF => ?_)
                refine qs hF rfl ((y_load (v := Value.int .u32 x12) 1 hF rfl rfl T45 (rdv_dyn (base := 0) (m := 16) (l := [x2.1, x2.2.1, x2.2.2.1, x2.2.2.2.1, x2.2.2.2.2.1, x2.2.2.2.2.2.1, x2.2.2.2.2.2.2.1, x2.2.2.2.2.2.2.2.1, x2.2.2.2.2.2.2.2.2.1, x2.2.2.2.2.2.2.2.2.2.1, x2.2.2.2.2.2.2.2.2.2.2.1, x2.2.2.2.2.2.2.2.2.2.2.2.1, x2.2.2.2.2.2.2.2.2.2.2.2.2.1, x2.2.2.2.2.2.2.2.2.2.2.2.2.2.1, x2.2.2.2.2.2.2.2.2.2.2.2.2.2.2.1, x2.2.2.2.2.2.2.2.2.2.2.2.2.2.2.2]) (enc := Value.int .u32) rfl h8)).q) (fun a hF => ?_)
                refine qs hF rfl ((y_load (v := Value.agg #[.int .i64 x5.1, .int .i64 x5.2.1, .int .i64 x5.2.2.1, .int .i64 x5.2.2.2.1, .int .i64 x5.2.2.2.2.1, .int .i64 x5.2.2.2.2.2.1, .int .i64 x5.2.2.2.2.2.2.1, .int .i64 x5.2.2.2.2.2.2.2.1, .int .i64 x5.2.2.2.2.2.2.2.2.1, .int .i64 x5.2.2.2.2.2.2.2.2.2.1, .int .i64 x5.2.2.2.2.2.2.2.2.2.2.1, .int .i64 x5.2.2.2.2.2.2.2.2.2.2.2.1, .int .i64 x5.2.2.2.2.2.2.2.2.2.2.2.2.1, .int .i64 x5.2.2.2.2.2.2.2.2.2.2.2.2.2.1, .int .i64 x5.2.2.2.2.2.2.2.2.2.2.2.2.2.2.1, .int .i64 x5.2.2.2.2.2.2.2.2.2.2.2.2.2.2.2]) 0 hF rfl rfl T55 rfl).q) (fun a hF => ?_)
                obtain ⟨x13, h9, H⟩ := bindE H
                refine qs hF rfl (y_call (v := Value.int .i64 x13) hF H32 rfl (fun w hW => graph_nearest_c any w p0 x12 x5 _ h9)) (fun a hF => ?_)
                refine qs hF rfl ((y_assign hF rfl).q) (fun a hF => ?_)
                refine quiet_end (fun w hW => ?_)
                refine c_then ?_
                have hW := hW.frontM (i := 1) rfl rfl
                have hW := hW.frontM (i := 1) rfl rfl
                have hW := hW.sub (M' := [(b2, [.int .i64 x5.1, .int .i64 x5.2.1, .int .i64 x5.2.2.1, .int .i64 x5.2.2.2.1, .int .i64 x5.2.2.2.2.1, .int .i64 x5.2.2.2.2.2.1, .int .i64 x5.2.2.2.2.2.2.1, .int .i64 x5.2.2.2.2.2.2.2.1, .int .i64 x5.2.2.2.2.2.2.2.2.1, .int .i64 x5.2.2.2.2.2.2.2.2.2.1, .int .i64 x5.2.2.2.2.2.2.2.2.2.2.1, .int .i64 x5.2.2.2.2.2.2.2.2.2.2.2.1, .int .i64 x5.2.2.2.2.2.2.2.2.2.2.2.2.1, .int .i64 x5.2.2.2.2.2.2.2.2.2.2.2.2.2.1, .int .i64 x5.2.2.2.2.2.2.2.2.2.2.2.2.2.2.1, .int .i64 x5.2.2.2.2.2.2.2.2.2.2.2.2.2.2.2]), (b1, [.int .u32 x2.1, .int .u32 x2.2.1, .int .u32 x2.2.2.1, .int .u32 x2.2.2.2.1, .int .u32 x2.2.2.2.2.1, .int .u32 x2.2.2.2.2.2.1, .int .u32 x2.2.2.2.2.2.2.1, .int .u32 x2.2.2.2.2.2.2.2.1, .int .u32 x2.2.2.2.2.2.2.2.2.1, .int .u32 x2.2.2.2.2.2.2.2.2.2.1, .int .u32 x2.2.2.2.2.2.2.2.2.2.2.1, .int .u32 x2.2.2.2.2.2.2.2.2.2.2.2.1, .int .u32 x2.2.2.2.2.2.2.2.2.2.2.2.2.1, .int .u32 x2.2.2.2.2.2.2.2.2.2.2.2.2.2.1, .int .u32 x2.2.2.2.2.2.2.2.2.2.2.2.2.2.2.1, .int .u32 x2.2.2.2.2.2.2.2.2.2.2.2.2.2.2.2])]) (Z' := [row v6 3 (Rp.int .i64) x11]) (List.Sublist.refl _) (List.Sublist.cons_cons _ (List.nil_sublist _))
                exact ⟨_, H, (v6), hF.re ⟨rfl, rfl, rfl, rfl, rfl, rfl, rfl, rfl, rfl, rfl, trivial⟩, hW⟩
              ·
                have H := iteF (of_decide_eq_false hb) H
                rw [hb] at hF
                clear hb
                refine wp_exit ?_
                refine e_then ?_
                refine e_then ?_
                refine e_block ?_
                refine c_then ?_
                have hW := hW.frontM (i := 1) rfl rfl
                have hW := hW.frontM (i := 1) rfl rfl
                have H := L5 _ H
                exact ⟨_, (v4), H, hF.re ⟨rfl, rfl, rfl, rfl, rfl, rfl, rfl, trivial⟩, hW⟩
            rintro a w ⟨x8, v3, hj, hF, hW⟩
            have hj := Option.some.inj hj
            subst hj
            have H := K4
            clear G4 K4
            refine c_seq ?_
            refine reg_list ?_
            refine ls hF hW rfl ((y_move hF rfl).q) (fun a w hF hW => ?_)
            refine ls hF hW rfl ((y_assign hF rfl).q) (fun a w hF hW => ?_)
            refine ls_nil ?_
            refine c_then ?_
            refine wp_ret ?_
            refine r_block ?_
            refine r_then ?_
            refine r_then ?_
            refine r_block ?_
            refine r_then ?_
            have H := L3 _ H
            have H := L2 _ H
            have H := L1 _ H
            have H := Option.some.inj H
            subst H
            refine post1 (.inl rfl) hF hW rfl (rv_tmp hF rfl) ?_
            have hW := hW.sub (M' := []) (Z' := [row v3 3 (Rp.int .i64) x8]) (List.nil_sublist _) (List.Sublist.refl _)
            exact ⟨(v3), rfl, hW⟩
        rintro a w ⟨hj, hF, hW⟩
        have H := K3 _ hj
        clear hj G3 K3 L3
        refine reg_list ?_
        refine ls hF hW rfl ((y_add hF rfl rfl rfl).q) (fun a w hF hW => ?_)
        refine ls hF hW rfl ((y_move hF rfl).q) (fun a w hF hW => ?_)
        refine ls_nil ?_
        refine c_then ?_
        exact ⟨_, H, hF.re ⟨rfl, rfl, rfl, rfl, rfl, rfl, trivial⟩, hW⟩
      ·
        have H := iteF (of_decide_eq_false hb) H
        rw [hb] at hF
        clear hb
        refine wp_exit ?_
        refine e_then ?_
        refine e_then ?_
        refine e_block ?_
        refine c_then ?_
        have H := L2 _ H
        exact ⟨H, hF.re ⟨rfl, trivial⟩, hW⟩
    rintro a w ⟨hj, hF, hW⟩
    have H := K1 _ hj
    clear hj G1 K1 L1
    refine c_seq ?_
    refine reg_list ?_
    refine ls hF hW rfl ((y_assign hF rfl).q) (fun a w hF hW => ?_)
    refine ls_nil ?_
    refine c_then ?_
    refine wp_ret ?_
    have H := Option.some.inj H
    subst H
    refine post1 (.inl rfl) hF hW rfl (rv_tmp hF rfl) ?_
    have hW := hW.nilRow 3 (Rp.int .i64)
    have hW := hW.sub (M' := []) (Z' := [row (Value.slice none 0 0) 3 (Rp.int .i64) ([])]) (List.nil_sublist _) (List.Sublist.refl _)
    exact ⟨(Value.slice none 0 0), rfl, hW⟩

end Go.Proofs.Ytkgajpmlehfcnaa
