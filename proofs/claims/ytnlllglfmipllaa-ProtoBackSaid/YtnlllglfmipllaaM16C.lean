/- Layer 16: bytes, reading. Conditions: none. -/
import Derived.Test.YtnlllglfmipllaaM16
namespace Go.Proofs.Ytnlllglfmipllaa
set_option linter.unusedVariables false
set_option linter.unusedSimpArgs false
open Go Go.RowKit
/-! ### Bytes of a message -/
def opt (p : Prop) [Decidable p] (x : List UInt8) : List UInt8 := if p then x else []
theorem opt_len (p : Prop) [Decidable p] (x : List UInt8) : (opt p x).length ≤ x.length := by unfold opt; split <;> simp
def codeC (x : Mo) : List UInt8 := be 1 x.1 ++ octet_Flag x.2.2 ++ codeR x.2.1
def codeK (l : List Mo) : List UInt8 := be 1 (l.length : Int) ++ (l.map codeC).flatten
theorem flag_len (b : Bool) : (octet_Flag b).length = 1 := by cases b <;> rfl
theorem codeR_len {x : Rl} (h : OkR 8 x) : (codeR x).length ≤ 60 := by
  have l1 := codeM_len x.2.1
  have l2 := codeA_len h.2.2
  unfold codeR
  rw [List.length_append, List.length_append, be_len, l1]; omega
theorem codeC_len {x : Mo} (h : OkC x) : (codeC x).length ≤ 62 := by
  have := codeR_len h.2
  unfold codeC
  rw [List.length_append, List.length_append, be_len, flag_len]; omega
theorem flatC_len : ∀ {l : List Mo}, (∀ x ∈ l, OkC x) → ((l.map codeC).flatten).length ≤ 62 * l.length
  | [], _ => Nat.le_refl _
  | x :: l, h => by
    have h1 := codeC_len (h x (List.mem_cons_self ..))
    have h2 := flatC_len (l := l) (fun y hy => h y (List.mem_cons_of_mem _ hy))
    simp only [List.map_cons, List.flatten_cons, List.length_append, List.length_cons]; omega
theorem codeK_len {l : List Mo} (hl : l.length ≤ 16) (h : ∀ x ∈ l, OkC x) : (codeK l).length ≤ 1000 := by
  have := flatC_len h
  unfold codeK
  rw [List.length_append, be_len]; omega
theorem codemods_eq {l : List Mo} (hl : l.length ≤ 16) (h : ∀ x ∈ l, OkC x) : proto_codeMods l = some (codeK l) := by
  have key : ∀ (d k : Nat), k + d = l.length → loopW (proto_codeMods_l1 l) ((k : Int), be 1 (l.length : Int) ++ ((l.take k).map codeC).flatten) = some (codeK l) := by
    intro d
    induction d with
    | zero =>
      intro k hk
      rw [loopW_end (by rw [proto_codeMods_l1, if_neg (by omega)]), List.take_of_length_le (by omega)]; rfl
    | succ d ih =>
      intro k hk
      have hkl : k < l.length := by omega
      have hx := h _ (List.getElem_mem hkl)
      have l0 := codeR_len hx.2
      have l1 := flatC_len (l := l.take k) (fun y hy => h y (List.mem_of_mem_take hy))
      rw [List.length_take] at l1
      rw [loopW_go (s' := (((k + 1 : Nat) : Int), be 1 (l.length : Int) ++ ((l.take (k + 1)).map codeC).flatten)) ?_]
      · exact ih (k + 1) (by omega)
      · rw [proto_codeMods_l1, if_pos (by omega), ix_nat (List.getElem?_eq_getElem hkl), Option.bind_some, num_eq, Option.bind_some, num1 (by have := hx.1; constructor <;> omega), app_is (by rw [be_len, flag_len]; omega), Option.bind_some, rulecode_eq (by decide) hx.2, Option.bind_some, app_is (by rw [List.length_append, be_len, flag_len]; omega), Option.bind_some, app_is (by rw [List.length_append, List.length_append, List.length_append, be_len, be_len, flag_len]; omega), Option.bind_some, w64_id (by omega), List.take_succ_eq_append_getElem hkl, List.map_append, List.flatten_append]
        have : ([l[k]].map codeC).flatten = be 1 l[k].1 ++ octet_Flag l[k].2.2 ++ codeR l[k].2.1 := by simp [codeC]
        rw [this, List.append_assoc]; rfl
  have hk := codeK_len hl h
  unfold proto_codeMods
  rw [num_eq, Option.bind_some, num1 (by constructor <;> omega), app_is (by rw [be_len]; simp), Option.bind_some, List.nil_append]
  have h0 := key l.length 0 (by omega)
  rw [List.take_zero, List.map_nil, List.flatten_nil, List.append_nil] at h0
  have h0' : loopW (proto_codeMods_l1 l) (0, be 1 (l.length : Int)) = some (codeK l) := h0
  rw [h0', Option.bind_some, lenB_is (by omega)]; rfl
/-! Which bits a kind has. -/
theorem bit0 {k : Int} (h : ¬ (1 ≤ k ∧ k ≤ 8)) (e : proto_fields k = (0, false)) (b : Int) : andI .i64 (proto_fields k).1 b = 0 := by
  rw [e]
  have : IntKind.i64.wrap 0 = 0 := by decide
  simp [andI, this]
theorem bit1 (k : Int) : (andI .i64 (proto_fields k).1 1 ≠ 0) ↔ (k = 1 ∨ k = 2) := by
  rcases fld k with ⟨rfl, e⟩ | ⟨rfl, e⟩ | ⟨rfl, e⟩ | ⟨rfl, e⟩ | ⟨rfl, e⟩ | ⟨rfl, e⟩ | ⟨rfl, e⟩ | ⟨rfl, e⟩ | ⟨hk, e⟩
  iterate 8 (· rw [e]; decide)
  · rw [bit0 hk e]; simp; omega
theorem bit2 (k : Int) : (andI .i64 (proto_fields k).1 2 ≠ 0) ↔ (k = 2 ∨ k = 4) := by
  rcases fld k with ⟨rfl, e⟩ | ⟨rfl, e⟩ | ⟨rfl, e⟩ | ⟨rfl, e⟩ | ⟨rfl, e⟩ | ⟨rfl, e⟩ | ⟨rfl, e⟩ | ⟨rfl, e⟩ | ⟨hk, e⟩
  iterate 8 (· rw [e]; decide)
  · rw [bit0 hk e]; simp; omega
theorem bit4 (k : Int) : (andI .i64 (proto_fields k).1 4 ≠ 0) ↔ (k = 2 ∨ k = 7 ∨ k = 8) := by
  rcases fld k with ⟨rfl, e⟩ | ⟨rfl, e⟩ | ⟨rfl, e⟩ | ⟨rfl, e⟩ | ⟨rfl, e⟩ | ⟨rfl, e⟩ | ⟨rfl, e⟩ | ⟨rfl, e⟩ | ⟨hk, e⟩
  iterate 8 (· rw [e]; decide)
  · rw [bit0 hk e]; simp; omega
theorem bit8 (k : Int) : (andI .i64 (proto_fields k).1 8 ≠ 0) ↔ (3 ≤ k ∧ k ≤ 8) := by
  rcases fld k with ⟨rfl, e⟩ | ⟨rfl, e⟩ | ⟨rfl, e⟩ | ⟨rfl, e⟩ | ⟨rfl, e⟩ | ⟨rfl, e⟩ | ⟨rfl, e⟩ | ⟨rfl, e⟩ | ⟨hk, e⟩
  iterate 8 (· rw [e]; decide)
  · rw [bit0 hk e]; simp; omega
theorem bit16 (k : Int) : (andI .i64 (proto_fields k).1 16 ≠ 0) ↔ (3 ≤ k ∧ k ≤ 8 ∧ k ≠ 6) := by
  rcases fld k with ⟨rfl, e⟩ | ⟨rfl, e⟩ | ⟨rfl, e⟩ | ⟨rfl, e⟩ | ⟨rfl, e⟩ | ⟨rfl, e⟩ | ⟨rfl, e⟩ | ⟨rfl, e⟩ | ⟨hk, e⟩
  iterate 8 (· rw [e]; decide)
  · rw [bit0 hk e]; simp; omega
theorem bit32 (k : Int) : (andI .i64 (proto_fields k).1 32 ≠ 0) ↔ (k = 7 ∨ k = 8) := by
  rcases fld k with ⟨rfl, e⟩ | ⟨rfl, e⟩ | ⟨rfl, e⟩ | ⟨rfl, e⟩ | ⟨rfl, e⟩ | ⟨rfl, e⟩ | ⟨rfl, e⟩ | ⟨rfl, e⟩ | ⟨hk, e⟩
  iterate 8 (· rw [e]; decide)
  · rw [bit0 hk e]; simp; omega
theorem bit64 (k : Int) : (andI .i64 (proto_fields k).1 64 ≠ 0) ↔ (k = 6 ∨ k = 8) := by
  rcases fld k with ⟨rfl, e⟩ | ⟨rfl, e⟩ | ⟨rfl, e⟩ | ⟨rfl, e⟩ | ⟨rfl, e⟩ | ⟨rfl, e⟩ | ⟨rfl, e⟩ | ⟨rfl, e⟩ | ⟨hk, e⟩
  iterate 8 (· rw [e]; decide)
  · rw [bit0 hk e]; simp; omega
theorem bit128 (k : Int) : (andI .i64 (proto_fields k).1 128 ≠ 0) ↔ k = 3 := by
  rcases fld k with ⟨rfl, e⟩ | ⟨rfl, e⟩ | ⟨rfl, e⟩ | ⟨rfl, e⟩ | ⟨rfl, e⟩ | ⟨rfl, e⟩ | ⟨rfl, e⟩ | ⟨rfl, e⟩ | ⟨hk, e⟩
  iterate 8 (· rw [e]; decide)
  · rw [bit0 hk e]; simp; omega
theorem code1_eq {b has : Int} {p : Prop} [Decidable p] (h : andI .i64 has b ≠ 0 ↔ p) (x s : List UInt8) (hl : x.length + s.length ≤ 100000) : proto_Code_1 b x has s = some (s ++ opt p x) := by
  unfold proto_Code_1 opt
  by_cases c : p
  · rw [if_pos (h.2 c), if_pos c, app_is (by omega)]; rfl
  · rw [if_neg (fun hh => c (h.1 hh)), if_neg c, List.append_nil]
/-- The numbers of one that may be. -/
theorem ok_nums {m : Ms} (h : Ok16 m) : (0 ≤ m.2.2.1 ∧ m.2.2.1 ≤ 65535) ∧ (-1 ≤ m.2.2.2.1 ∧ m.2.2.2.1 ≤ 7) ∧ (-1125899906842624 ≤ m.2.2.2.2.1 ∧ m.2.2.2.2.1 ≤ 1125899906842624) ∧ (-1125899906842624 ≤ m.2.2.2.2.2.1 ∧ m.2.2.2.2.2.1 ≤ 1125899906842624) ∧ (0 ≤ m.2.2.2.2.2.2.1 ∧ m.2.2.2.2.2.2.1 ≤ 65535) ∧ (0 ≤ m.2.2.2.2.2.2.2.1 ∧ m.2.2.2.2.2.2.2.1 ≤ 255) ∧ (0 ≤ m.2.2.2.2.2.2.2.2.1 ∧ m.2.2.2.2.2.2.2.2.1 ≤ 255) := by
  obtain ⟨h1, h2, h3, h4, h5, h6⟩ := h
  obtain ⟨k, s, u, r, t1, t2, lf, o, c, ms⟩ := m
  unfold CleanP cleanV at h3
  simp only [Prod.mk.injEq, true_and] at h3
  obtain ⟨q1, q2, q3, q4, q5, q6, q7, q8⟩ := h3
  simp only at h1 h2 h4 ⊢
  clear h5 h6 q8 q3 q4 q5 q7
  have hu : 3 ≤ k ∨ u = 0 := by
    by_cases c : 3 ≤ k ∧ k ≤ 8
    · exact .inl c.1
    · rw [if_neg c] at q1; exact .inr q1
  have hr : (3 ≤ k) ∨ r = 0 := by
    by_cases c : 3 ≤ k ∧ k ≤ 8 ∧ k ≠ 6
    · exact .inl c.1
    · rw [if_neg c] at q2; exact .inr q2
  have ho : k = 7 ∨ k = 8 ∨ o = 0 := by
    by_cases c : k = 7 ∨ k = 8
    · rcases c with c | c
      · exact .inl c
      · exact .inr (.inl c)
    · rw [if_neg c] at q6; exact .inr (.inr q6)
  omega
def msgV (m : Ms) : List UInt8 := ((((((((be 1 m.1 ++ be 1 m.2.1) ++ opt (m.1 = 1 ∨ m.1 = 2) (be 8 m.2.2.2.2.1)) ++ opt (m.1 = 2 ∨ m.1 = 4) (be 8 m.2.2.2.2.2.1)) ++ opt (m.1 = 2 ∨ m.1 = 7 ∨ m.1 = 8) (be 2 m.2.2.2.2.2.2.1)) ++ opt (3 ≤ m.1 ∧ m.1 ≤ 8) (be 2 m.2.2.1)) ++ opt (3 ≤ m.1 ∧ m.1 ≤ 8 ∧ m.1 ≠ 6) (be 1 (m.2.2.2.1 + 1))) ++ opt (m.1 = 7 ∨ m.1 = 8) (be 1 m.2.2.2.2.2.2.2.1)) ++ opt (m.1 = 6 ∨ m.1 = 8) (be 1 m.2.2.2.2.2.2.2.2.1)) ++ opt (m.1 = 3) (codeK m.2.2.2.2.2.2.2.2.2)
theorem code16_eq {m : Ms} (h : Ok16 m) (hs : Sm m.2.2.2.2.2.2.2.2.2) (hi : Im m.2.2.2.2.2.2.2.2.2) : proto_Code m = some (msgV m) ∧ (msgV m).length ≤ 1100 := by
  obtain ⟨n1, n2, n3, n4, n5, n6, n7⟩ := ok_nums h
  have hk := codeK_len h.2.2.2.2.1 h.2.2.2.2.2
  have o1 := opt_len (m.1 = 1 ∨ m.1 = 2) (be 8 m.2.2.2.2.1)
  have o2 := opt_len (m.1 = 2 ∨ m.1 = 4) (be 8 m.2.2.2.2.2.1)
  have o3 := opt_len (m.1 = 2 ∨ m.1 = 7 ∨ m.1 = 8) (be 2 m.2.2.2.2.2.2.1)
  have o4 := opt_len (3 ≤ m.1 ∧ m.1 ≤ 8) (be 2 m.2.2.1)
  have o5 := opt_len (3 ≤ m.1 ∧ m.1 ≤ 8 ∧ m.1 ≠ 6) (be 1 (m.2.2.2.1 + 1))
  have o6 := opt_len (m.1 = 7 ∨ m.1 = 8) (be 1 m.2.2.2.2.2.2.2.1)
  have o7 := opt_len (m.1 = 6 ∨ m.1 = 8) (be 1 m.2.2.2.2.2.2.2.2.1)
  have o8 := opt_len (m.1 = 3) (codeK m.2.2.2.2.2.2.2.2.2)
  simp only [be_len] at o1 o2 o3 o4 o5 o6 o7
  have hlen : (msgV m).length ≤ 1100 := by
    unfold msgV
    simp only [List.length_append, be_len]; omega
  refine ⟨?_, hlen⟩
  unfold proto_Code
  rw [right16_eq hs hi, decide_eq_true h, Option.bind_some, if_neg (by decide), num_eq, Option.bind_some, num_eq, Option.bind_some, num1 (by have := h.1; constructor <;> omega), num1 (by have := h.2.1; constructor <;> omega), app_is (by rw [be_len, be_len]; omega), Option.bind_some, app_is (by simp only [List.length_append, be_len, List.length_nil]; omega), Option.bind_some, List.nil_append,
    int_eq, Option.bind_some, code1_eq (bit1 m.1) _ _ (by simp only [List.length_append, be_len]; omega), Option.bind_some,
    int_eq, Option.bind_some, code1_eq (bit2 m.1) _ _ (by simp only [List.length_append, be_len]; omega), Option.bind_some,
    num_eq, Option.bind_some, num2 n5, code1_eq (bit4 m.1) _ _ (by simp only [List.length_append, be_len]; omega), Option.bind_some,
    num_eq, Option.bind_some, num2 n1, code1_eq (bit8 m.1) _ _ (by simp only [List.length_append, be_len]; omega), Option.bind_some,
    w64_id (by omega), num_eq, Option.bind_some, num1 (v := m.2.2.2.1 + 1) (by constructor <;> omega), code1_eq (bit16 m.1) _ _ (by simp only [List.length_append, be_len]; omega), Option.bind_some,
    num_eq, Option.bind_some, num1 n6, code1_eq (bit32 m.1) _ _ (by simp only [List.length_append, be_len]; omega), Option.bind_some,
    num_eq, Option.bind_some, num1 n7, code1_eq (bit64 m.1) _ _ (by simp only [List.length_append, be_len]; omega), Option.bind_some,
    codemods_eq h.2.2.2.2.1 h.2.2.2.2.2, Option.bind_some, code1_eq (bit128 m.1) _ _ (by simp only [List.length_append, be_len]; omega), Option.bind_some]
  show ((lenB (msgV m)).bind fun x => some x) = _
  rw [lenB_is (by omega)]; rfl
/-! ### Reading -/
theorem rd_num {w : Nat} {v : Int} (hw : 1 ≤ w ∧ w ≤ 7) (hv : 0 ≤ v ∧ v < 256 ^ w) (hv2 : v ≤ 9223372036854775807) (t : List UInt8) (ht : t.length ≤ 900000) : octet_Reader_Num (be w v ++ t, 0) (w : Int) = some (v, (t, 0)) := by
  rw [rnumR_eq _ _ (by rw [List.length_append, be_len]; omega), preN_ok (by omega), takeR_app _ _ _ (by rw [be_len])]
  rw [val_be, Int.emod_eq_of_lt hv.1 hv.2, w64_id (by omega)]
theorem rd_num1 {v : Int} (hv : 0 ≤ v ∧ v ≤ 255) (t : List UInt8) (ht : t.length ≤ 900000) : octet_Reader_Num (be 1 v ++ t, 0) 1 = some (v, (t, 0)) := rd_num (w := 1) (by decide) ⟨hv.1, by show v < 256; omega⟩ (by omega) t ht
theorem rd_num2 {v : Int} (hv : 0 ≤ v ∧ v ≤ 65535) (t : List UInt8) (ht : t.length ≤ 900000) : octet_Reader_Num (be 2 v ++ t, 0) 2 = some (v, (t, 0)) := rd_num (w := 2) (by decide) ⟨hv.1, by show v < 65536; omega⟩ (by omega) t ht
theorem rd_int {v : Int} (hv : -9223372036854775808 ≤ v ∧ v ≤ 9223372036854775807) (t : List UInt8) (ht : t.length ≤ 900000) : octet_Reader_Int (be 8 v ++ t, 0) = some (v, (t, 0)) := by
  rw [rintR_eq _ (by rw [List.length_append, be_len]; omega), takeR_app _ _ 8 (by rw [be_len]; rfl), w64_val_be8 v hv]
theorem aread_acts_code {ports : Int} (hp : ports ≤ 256) {l : List A3} (h : OkAs ports l) (px : Rd) (r : List UInt8) (hr : r.length ≤ 800000) : ∀ (d k : Nat), k + d = l.length → loopW (act_Read_l1 ports ((l.length : Int), px)) (l.take k, (k : Int), ((l.drop k).map byte3).flatten ++ r, 0) = some (l, r, 0) := by
  have hl := h.1
  intro d
  induction d with
  | zero =>
    intro k hk
    refine loopW_end ?_
    rw [act_Read_l1, if_neg (by simp only; omega), List.drop_eq_nil_of_le (by omega), List.take_of_length_le (by omega)]; rfl
  | succ d ih =>
    intro k hk
    have hkl : k < l.length := by omega
    have ho := h.2 _ (List.getElem_mem hkl)
    obtain ⟨b1, b2, b3⟩ := oka_by hp ho
    obtain ⟨x, ex, vx⟩ := be1_byte b1
    obtain ⟨y, ey, vy⟩ := be1_byte b2
    obtain ⟨z, ez, vz⟩ := be1_byte b3
    have hf : ((l.drop k).map byte3).flatten ++ r = x :: y :: z :: (((l.drop (k + 1)).map byte3).flatten ++ r) := by
      rw [List.drop_eq_getElem_cons hkl]
      show byte3 l[k] ++ _ ++ _ = _
      unfold byte3
      rw [ex, ey, ez]; rfl
    have hfl : (((l.drop (k + 1)).map byte3).flatten ++ r).length ≤ 800100 := by
      rw [List.length_append, flat_len, List.length_drop]; omega
    rw [← ih (k + 1) (by omega), List.take_succ_eq_append_getElem hkl]
    refine loopW_go ?_
    rw [act_Read_l1, if_pos (by simp only; omega), hf, num_byte x _ (by rw [List.length_cons, List.length_cons]; omega), Option.bind_some, num_byte y _ (by rw [List.length_cons]; omega), Option.bind_some, num_byte z _ (by omega), Option.bind_some]
    simp only
    rw [vx, vy, vz, act_eq, decide_eq_true (show OkA ports (l[k].1, l[k].2.1, l[k].2.2) from ho), Option.bind_some, if_neg (by decide), Option.bind_some, app_is (by simp; omega), Option.bind_some, w64_id (by omega)]; rfl
theorem count_code {n : Nat} (hn : n ≤ 16) (t : List UInt8) (ht : t.length ≤ 900000) : octet_Reader_Count (be 1 (n : Int) ++ t, 0) 16 = some ((n : Int), (t, 0)) := by
  unfold octet_Reader_Count
  rw [rd_num1 (by omega) t ht, Option.bind_some]
  simp only
  rw [if_neg (by omega), Option.bind_some]; rfl
theorem aread_codeg {ports : Int} (hp : ports ≤ 256) {l : List A3} (h : OkAs ports l) (r : List UInt8) (hr : r.length ≤ 800000) : act_Read (codeA l ++ r, 0) ports = some (l, (r, 0)) := by
  have hl := h.1
  have hfl := flat_len l
  have hc : codeA l ++ r = be 1 (l.length : Int) ++ ((l.map byte3).flatten ++ r) := by unfold codeA; rw [List.append_assoc]
  have e := aread_acts_code hp h ((l.map byte3).flatten ++ r, 0) r hr l.length 0 (by omega)
  have e' : loopW (act_Read_l1 ports ((l.length : Int), ((l.map byte3).flatten ++ r, 0))) ([], 0, (l.map byte3).flatten ++ r, 0) = some (l, r, 0) := e
  unfold act_Read
  rw [hc, count_code (by omega) _ (by rw [List.length_append, hfl]; omega), Option.bind_some, e']; rfl
theorem rread_codeg {x : Rl} (h : OkR 8 x) (r : List UInt8) (hr : r.length ≤ 950) : rule_Read (codeR x ++ r, 0) 8 = some (x, (r, 0)) := by
  have l2 := codeA_len h.2.2
  have l1 := codeM_len x.2.1
  have e : codeR x ++ r = be 2 x.1 ++ (codeM x.2.1 ++ (codeA x.2.2 ++ r)) := by unfold codeR; simp only [List.append_assoc]
  unfold rule_Read
  rw [e, rd_num2 h.1 _ (by simp only [List.length_append]; omega), Option.bind_some, read_code8g h.2.1 _ (by rw [List.length_append]; omega), Option.bind_some, aread_codeg (by decide) h.2.2 r (by omega)]; rfl
theorem flag_read (b : Bool) (t : List UInt8) (ht : t.length ≤ 900000) : octet_Reader_Flag (octet_Flag b ++ t, 0) = some (b, (t, 0)) := by
  unfold octet_Reader_Flag
  cases b
  · rw [show octet_Flag false = be 1 0 from rfl, rd_num1 (by decide) t ht]; rfl
  · rw [show octet_Flag true = be 1 1 from rfl, rd_num1 (by decide) t ht]; rfl
theorem readmods_code {l : List Mo} (hl : l.length ≤ 16) (h : ∀ x ∈ l, OkC x) (r : List UInt8) (hr : r.length ≤ 1) : proto_readMods (codeK l ++ r, 0) = some (l, (r, 0)) := by
  have key : ∀ (px : Rd) (d k : Nat), k + d = l.length → loopW (proto_readMods_l1 ((l.length : Int), px)) (l.take k, (k : Int), ((l.drop k).map codeC).flatten ++ r, 0) = some (l, r, 0) := by
    intro px d
    induction d with
    | zero =>
      intro k hk
      refine loopW_end ?_
      rw [proto_readMods_l1, if_neg (by simp only; omega), List.drop_eq_nil_of_le (by omega), List.take_of_length_le (by omega)]; rfl
    | succ d ih =>
      intro k hk
      have hkl : k < l.length := by omega
      have hx := h _ (List.getElem_mem hkl)
      have hf : ((l.drop k).map codeC).flatten ++ r = be 1 l[k].1 ++ (octet_Flag l[k].2.2 ++ (codeR l[k].2.1 ++ (((l.drop (k + 1)).map codeC).flatten ++ r))) := by
        rw [List.drop_eq_getElem_cons hkl]
        show codeC l[k] ++ _ ++ _ = _
        unfold codeC
        simp only [List.append_assoc]
      have l1 := flatC_len (l := l.drop (k + 1)) (fun y hy => h y (List.mem_of_mem_drop hy))
      rw [List.length_drop] at l1
      have hfl : (((l.drop (k + 1)).map codeC).flatten ++ r).length ≤ 950 := by
        rw [List.length_append]; omega
      have l0 := codeR_len hx.2
      rw [← ih (k + 1) (by omega), List.take_succ_eq_append_getElem hkl]
      refine loopW_go ?_
      rw [proto_readMods_l1, if_pos (by simp only; omega), hf, rd_num1 (by have := hx.1; omega) _ (by rw [List.length_append, List.length_append, flag_len]; omega), Option.bind_some, flag_read _ _ (by rw [List.length_append]; omega), Option.bind_some, rread_codeg hx.2 _ hfl, Option.bind_some, app_is (by simp; omega), Option.bind_some, w64_id (by omega)]; rfl
  have hc : codeK l ++ r = be 1 (l.length : Int) ++ ((l.map codeC).flatten ++ r) := by unfold codeK; rw [List.append_assoc]
  have l1 := flatC_len h
  have e := key ((l.map codeC).flatten ++ r, 0) l.length 0 (by omega)
  have e' : loopW (proto_readMods_l1 ((l.length : Int), ((l.map codeC).flatten ++ r, 0))) ([], 0, (l.map codeC).flatten ++ r, 0) = some (l, r, 0) := e
  unfold proto_readMods
  rw [hc, count_code hl _ (by rw [List.length_append]; omega), Option.bind_some, e']; rfl
theorem opt_rd {α : Type} {has b : Int} {c : Prop} [Decidable c] (h : andI .i64 has b ≠ 0 ↔ c) {F : Rd → Option (α × Rd)} {x rest : List UInt8} {v d : α} (hF : c → F (x ++ rest, 0) = some (v, (rest, 0))) (hv : ¬ c → v = d) :
    (if andI .i64 has b ≠ 0 then (F (opt c x ++ rest, 0)).bind fun y => some (y.2.1, y.2.2, y.1) else some (opt c x ++ rest, 0, d)) = some (rest, (0 : Int), v) := by
  unfold opt
  by_cases hc : c
  · rw [if_pos (h.2 hc), if_pos hc, hF hc]; rfl
  · rw [if_neg (fun hh => hc (h.1 hh)), if_neg hc, hv hc]; rfl
theorem opt_rd1 {has b : Int} {c : Prop} [Decidable c] (h : andI .i64 has b ≠ 0 ↔ c) {F : Rd → Option (Int × Rd)} {x rest : List UInt8} {v d : Int} (hF : c → F (x ++ rest, 0) = some (v + 1, (rest, 0))) (hb : -1000 ≤ v ∧ v ≤ 1000) (hv : ¬ c → v = d) :
    (if andI .i64 has b ≠ 0 then (F (opt c x ++ rest, 0)).bind fun y => some (y.2.1, y.2.2, w64 (y.1 - 1)) else some (opt c x ++ rest, 0, d)) = some (rest, (0 : Int), v) := by
  unfold opt
  by_cases hc : c
  · rw [if_pos (h.2 hc), if_pos hc, hF hc, Option.bind_some]
    show some (rest, (0 : Int), w64 (v + 1 - 1)) = _
    rw [w64_id (by omega), show v + 1 - 1 = v by omega]
  · rw [if_neg (fun hh => hc (h.1 hh)), if_neg hc, hv hc]; rfl
theorem fields_known {k : Int} (h : 1 ≤ k ∧ k ≤ 8) : (proto_fields k).2 = true := by
  rcases fld k with ⟨_, e⟩ | ⟨_, e⟩ | ⟨_, e⟩ | ⟨_, e⟩ | ⟨_, e⟩ | ⟨_, e⟩ | ⟨_, e⟩ | ⟨_, e⟩ | ⟨hk, e⟩
  iterate 8 (· rw [e])
  · exact absurd h hk
/-- What was told is read. -/
theorem read_msg {m : Ms} (h : Ok16 m) (r : List UInt8) (hr : r.length ≤ 1) : proto_read (octet_Open (msgV m ++ r)) = some (m, (r, 0)) := by
  obtain ⟨n1, n2, n3, n4, n5, n6, n7⟩ := ok_nums h
  have hk := codeK_len h.2.2.2.2.1 h.2.2.2.2.2
  have o1 := opt_len (m.1 = 1 ∨ m.1 = 2) (be 8 m.2.2.2.2.1)
  have o2 := opt_len (m.1 = 2 ∨ m.1 = 4) (be 8 m.2.2.2.2.2.1)
  have o3 := opt_len (m.1 = 2 ∨ m.1 = 7 ∨ m.1 = 8) (be 2 m.2.2.2.2.2.2.1)
  have o4 := opt_len (3 ≤ m.1 ∧ m.1 ≤ 8) (be 2 m.2.2.1)
  have o5 := opt_len (3 ≤ m.1 ∧ m.1 ≤ 8 ∧ m.1 ≠ 6) (be 1 (m.2.2.2.1 + 1))
  have o6 := opt_len (m.1 = 7 ∨ m.1 = 8) (be 1 m.2.2.2.2.2.2.2.1)
  have o7 := opt_len (m.1 = 6 ∨ m.1 = 8) (be 1 m.2.2.2.2.2.2.2.2.1)
  have o8 := opt_len (m.1 = 3) (codeK m.2.2.2.2.2.2.2.2.2)
  simp only [be_len] at o1 o2 o3 o4 o5 o6 o7
  have hc := h.2.2.1
  unfold CleanP at hc
  have hcf : ∀ {a : Ms}, a = cleanV m → (a.2.2.1 = (cleanV m).2.2.1 ∧ a.2.2.2.1 = (cleanV m).2.2.2.1 ∧ a.2.2.2.2.1 = (cleanV m).2.2.2.2.1 ∧ a.2.2.2.2.2.1 = (cleanV m).2.2.2.2.2.1 ∧ a.2.2.2.2.2.2.1 = (cleanV m).2.2.2.2.2.2.1 ∧ a.2.2.2.2.2.2.2.1 = (cleanV m).2.2.2.2.2.2.2.1 ∧ a.2.2.2.2.2.2.2.2.1 = (cleanV m).2.2.2.2.2.2.2.2.1 ∧ a.2.2.2.2.2.2.2.2.2 = (cleanV m).2.2.2.2.2.2.2.2.2) := by
    rintro a rfl
    exact ⟨rfl, rfl, rfl, rfl, rfl, rfl, rfl, rfl⟩
  obtain ⟨q1, q2, q3, q4, q5, q6, q7, q8⟩ := hcf hc
  have z1 : ¬ (m.1 = 1 ∨ m.1 = 2) → m.2.2.2.2.1 = 0 := fun hn => q3.trans (if_neg hn)
  have z2 : ¬ (m.1 = 2 ∨ m.1 = 4) → m.2.2.2.2.2.1 = 0 := fun hn => q4.trans (if_neg hn)
  have z3 : ¬ (m.1 = 2 ∨ m.1 = 7 ∨ m.1 = 8) → m.2.2.2.2.2.2.1 = 0 := fun hn => q5.trans (if_neg hn)
  have z4 : ¬ (3 ≤ m.1 ∧ m.1 ≤ 8) → m.2.2.1 = 0 := fun hn => q1.trans (if_neg hn)
  have z5 : ¬ (3 ≤ m.1 ∧ m.1 ≤ 8 ∧ m.1 ≠ 6) → m.2.2.2.1 = 0 := fun hn => q2.trans (if_neg hn)
  have z6 : ¬ (m.1 = 7 ∨ m.1 = 8) → m.2.2.2.2.2.2.2.1 = 0 := fun hn => q6.trans (if_neg hn)
  have z7 : ¬ (m.1 = 6 ∨ m.1 = 8) → m.2.2.2.2.2.2.2.2.1 = 0 := fun hn => q7.trans (if_neg hn)
  have z8 : ¬ m.1 = 3 → m.2.2.2.2.2.2.2.2.2 = [] := fun hn => q8.trans (if_neg hn)
  have g8 := opt_rd (bit128 m.1) (F := proto_readMods) (x := codeK m.2.2.2.2.2.2.2.2.2) (rest := r) (fun _ => readmods_code h.2.2.2.2.1 h.2.2.2.2.2 r hr) z8
  have g7 := opt_rd (bit64 m.1) (F := fun p => octet_Reader_Num p 1) (x := be 1 m.2.2.2.2.2.2.2.2.1) (rest := opt (m.1 = 3) (codeK m.2.2.2.2.2.2.2.2.2) ++ r) (fun _ => rd_num1 n7 _ (by simp only [List.length_append]; omega)) z7
  have g6 := opt_rd (bit32 m.1) (F := fun p => octet_Reader_Num p 1) (x := be 1 m.2.2.2.2.2.2.2.1) (rest := opt (m.1 = 6 ∨ m.1 = 8) (be 1 m.2.2.2.2.2.2.2.2.1) ++ (opt (m.1 = 3) (codeK m.2.2.2.2.2.2.2.2.2) ++ r)) (fun _ => rd_num1 n6 _ (by simp only [List.length_append]; omega)) z6
  have g5 := opt_rd1 (bit16 m.1) (F := fun p => octet_Reader_Num p 1) (x := be 1 (m.2.2.2.1 + 1)) (rest := opt (m.1 = 7 ∨ m.1 = 8) (be 1 m.2.2.2.2.2.2.2.1) ++ (opt (m.1 = 6 ∨ m.1 = 8) (be 1 m.2.2.2.2.2.2.2.2.1) ++ (opt (m.1 = 3) (codeK m.2.2.2.2.2.2.2.2.2) ++ r))) (fun _ => rd_num1 (by omega) _ (by simp only [List.length_append]; omega)) (by omega) z5
  have g4 := opt_rd (bit8 m.1) (F := fun p => octet_Reader_Num p 2) (x := be 2 m.2.2.1) (rest := opt (3 ≤ m.1 ∧ m.1 ≤ 8 ∧ m.1 ≠ 6) (be 1 (m.2.2.2.1 + 1)) ++ (opt (m.1 = 7 ∨ m.1 = 8) (be 1 m.2.2.2.2.2.2.2.1) ++ (opt (m.1 = 6 ∨ m.1 = 8) (be 1 m.2.2.2.2.2.2.2.2.1) ++ (opt (m.1 = 3) (codeK m.2.2.2.2.2.2.2.2.2) ++ r)))) (fun _ => rd_num2 n1 _ (by simp only [List.length_append]; omega)) z4
  have g3 := opt_rd (bit4 m.1) (F := fun p => octet_Reader_Num p 2) (x := be 2 m.2.2.2.2.2.2.1) (rest := opt (3 ≤ m.1 ∧ m.1 ≤ 8) (be 2 m.2.2.1) ++ (opt (3 ≤ m.1 ∧ m.1 ≤ 8 ∧ m.1 ≠ 6) (be 1 (m.2.2.2.1 + 1)) ++ (opt (m.1 = 7 ∨ m.1 = 8) (be 1 m.2.2.2.2.2.2.2.1) ++ (opt (m.1 = 6 ∨ m.1 = 8) (be 1 m.2.2.2.2.2.2.2.2.1) ++ (opt (m.1 = 3) (codeK m.2.2.2.2.2.2.2.2.2) ++ r))))) (fun _ => rd_num2 n5 _ (by simp only [List.length_append]; omega)) z3
  have g2 := opt_rd (bit2 m.1) (F := octet_Reader_Int) (x := be 8 m.2.2.2.2.2.1) (rest := opt (m.1 = 2 ∨ m.1 = 7 ∨ m.1 = 8) (be 2 m.2.2.2.2.2.2.1) ++ (opt (3 ≤ m.1 ∧ m.1 ≤ 8) (be 2 m.2.2.1) ++ (opt (3 ≤ m.1 ∧ m.1 ≤ 8 ∧ m.1 ≠ 6) (be 1 (m.2.2.2.1 + 1)) ++ (opt (m.1 = 7 ∨ m.1 = 8) (be 1 m.2.2.2.2.2.2.2.1) ++ (opt (m.1 = 6 ∨ m.1 = 8) (be 1 m.2.2.2.2.2.2.2.2.1) ++ (opt (m.1 = 3) (codeK m.2.2.2.2.2.2.2.2.2) ++ r)))))) (fun _ => rd_int (by omega) _ (by simp only [List.length_append]; omega)) z2
  have g1 := opt_rd (bit1 m.1) (F := octet_Reader_Int) (x := be 8 m.2.2.2.2.1) (rest := opt (m.1 = 2 ∨ m.1 = 4) (be 8 m.2.2.2.2.2.1) ++ (opt (m.1 = 2 ∨ m.1 = 7 ∨ m.1 = 8) (be 2 m.2.2.2.2.2.2.1) ++ (opt (3 ≤ m.1 ∧ m.1 ≤ 8) (be 2 m.2.2.1) ++ (opt (3 ≤ m.1 ∧ m.1 ≤ 8 ∧ m.1 ≠ 6) (be 1 (m.2.2.2.1 + 1)) ++ (opt (m.1 = 7 ∨ m.1 = 8) (be 1 m.2.2.2.2.2.2.2.1) ++ (opt (m.1 = 6 ∨ m.1 = 8) (be 1 m.2.2.2.2.2.2.2.2.1) ++ (opt (m.1 = 3) (codeK m.2.2.2.2.2.2.2.2.2) ++ r))))))) (fun _ => rd_int (by omega) _ (by simp only [List.length_append]; omega)) z1
  unfold proto_read octet_Open msgV
  simp only [List.append_assoc]
  rw [rd_num1 (by have := h.1; omega) _ (by simp only [List.length_append, be_len]; omega), Option.bind_some, rd_num1 (by have := h.2.1; omega) _ (by simp only [List.length_append]; omega), Option.bind_some, fields_known h.1, if_neg (by decide), Option.bind_some]
  refine (congrArg (fun z : Option (List UInt8 × Int × Int) => z.bind _) g1).trans ?_
  rw [Option.bind_some]
  refine (congrArg (fun z : Option (List UInt8 × Int × Int) => z.bind _) g2).trans ?_
  rw [Option.bind_some]
  refine (congrArg (fun z : Option (List UInt8 × Int × Int) => z.bind _) g3).trans ?_
  rw [Option.bind_some]
  refine (congrArg (fun z : Option (List UInt8 × Int × Int) => z.bind _) g4).trans ?_
  rw [Option.bind_some]
  refine (congrArg (fun z : Option (List UInt8 × Int × Int) => z.bind _) g5).trans ?_
  rw [Option.bind_some]
  refine (congrArg (fun z : Option (List UInt8 × Int × Int) => z.bind _) g6).trans ?_
  rw [Option.bind_some]
  refine (congrArg (fun z : Option (List UInt8 × Int × Int) => z.bind _) g7).trans ?_
  rw [Option.bind_some]
  refine (congrArg (fun z : Option (List UInt8 × Int × List Mo) => z.bind _) g8).trans ?_
  rfl
theorem parse_msg {m : Ms} (h : Ok16 m) (hs : Sm m.2.2.2.2.2.2.2.2.2) (hi : Im m.2.2.2.2.2.2.2.2.2) : proto_Parse (msgV m) = some (m, 0) := by
  have e := read_msg h [] (by decide)
  rw [List.append_nil] at e
  unfold proto_Parse
  rw [e, Option.bind_some, endR_eq, Option.bind_some]
  show (if (0 : Int) ≠ 0 then _ else (proto_Right m).bind _) = _
  rw [if_neg (by decide), right16_eq hs hi, decide_eq_true h]; rfl
theorem awake16_core (m : Ms) (hm : m = (1, 3, 0, 0, 9, 0, 0, 0, 0, [])) (hok : Ok16 m) (hl : (msgV m).length = 10) : L16_awake = some true := by
  have hs : Sm m.2.2.2.2.2.2.2.2.2 := by subst hm; exact ⟨by decide, fun x hx => by simp at hx⟩
  have hi : Im m.2.2.2.2.2.2.2.2.2 := by subst hm; exact fun x hx => by simp at hx
  have e1 := (code16_eq hok hs hi).1
  have e2 := parse_msg hok hs hi
  unfold L16_awake
  rw [← hm, e1, Option.bind_some, e2, Option.bind_some, Option.bind_some, if_pos (by omega), if_pos rfl]
  show (((proto_Same m m).bind _).bind _) = _
  rw [same16_eq hs.lm, right16_eq hs hi, decide_eq_true hok, decide_eq_true rfl]; rfl
theorem awake16 : L16_awake = some true :=
  awake16_core _ rfl ⟨by decide, by decide, by unfold CleanP cleanV; decide, by decide, by decide, fun x hx => by simp at hx⟩ (by simp [msgV, opt, be_len])
/-! ### What is handed in -/
abbrev W64 : Int → Prop := fun n => (Lit.int .i64 n).wf = true
abbrev okMo : Mo → Prop := okP W64 (okP (okP W64 (okP (okP W64 (okP (okP W64 (okP W64 (okP W64 W64))) (okP W64 (okP W64 (okP W64 W64))))) (okL (okP W64 (okP W64 W64))))) okT)
abbrev okMs : Ms → Prop := okP W64 (okP W64 (okP W64 (okP W64 (okP W64 (okP W64 (okP W64 (okP W64 (okP W64 (okL okMo)))))))))
theorem ok_lm {m : Ms} (h : okMs m) : Lm m.2.2.2.2.2.2.2.2.2 := ⟨h.2.2.2.2.2.2.2.2.2.1, fun x hx => (h.2.2.2.2.2.2.2.2.2.2 x hx).2.1.2.2.1⟩
theorem ok_im {m : Ms} (h : okMs m) : Im m.2.2.2.2.2.2.2.2.2 := fun x hx => by
  have := (h.2.2.2.2.2.2.2.2.2.2 x hx).2.1.2.1.2.1
  exact ⟨wf_i64 this.1, wf_i64 this.2.1, wf_i64 this.2.2.1, wf_i64 this.2.2.2⟩
end Go.Proofs.Ytnlllglfmipllaa
