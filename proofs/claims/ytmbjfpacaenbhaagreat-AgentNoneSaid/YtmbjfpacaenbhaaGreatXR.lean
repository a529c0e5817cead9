/- AgentNone's run, computed. Conditions: none. -/
import Derived.Test.YtmbjfpacaenbhaaGreatXT
namespace Go.Proofs.YtmbjfpacaenbhaaGreat
set_option linter.unusedVariables false
set_option maxRecDepth 100000
open Go Go.RowKit
def oqL : Nat → Nat → List CW
  | _, 0 => []
  | i, n + 1 => .opq i :: oqL (i + 1) n
def anA : List AW := [.one (.opq 0), .agg (oqL 1 10), .agg (oqL 11 4)]
theorem anE : (match evF Tryz.prog tbl ftb rtb 20 6 anA ⟨[], [], [], 0⟩ with | some (.one (.bool b'), _) => b' == true | _ => false) = true := by kernel_rfl
theorem oqL_dn {e : En} : ∀ {l : List Value} {i : Nat}, (∀ j v, l[j]? = some v → e.g (i + j) = some v) → l.all (·.oneCell') = true → dnL e (oqL i l.length) = some l
  | [], i, _, _ => rfl
  | v :: l, i, h, h1 => by
    simp only [List.all_cons, Bool.and_eq_true] at h1
    refine dnL_mk ?_ (oqL_dn (fun j u hj => ?_) h1.2)
    · have := h 0 v rfl
      rw [Nat.add_zero] at this
      simp only [CW.dn, this, Option.bind_some, if_pos h1.1]
    · rw [show i + 1 + j = i + (j + 1) from by omega]; exact h (j + 1) u hj
theorem an_c (w : World) (v : Value) (c d : List Value) (hv : v.oneCell' = true) (hc : c.length = 10) (hd : d.length = 4) (h1 : c.all (·.oneCell') = true) (h2 : d.all (·.oneCell') = true) :
    Calls Tryz.prog 6 #[v, .agg c.toArray, .agg d.toArray] w fun en w' => en = .returned (.bool true) ∧ Below w.heap.size w w' :=
  run_ok (us := [v, .agg c.toArray, .agg d.toArray]) (g := fun i => (v :: (c ++ d))[i]?) tblk mord fto anE (by
    have e1 := oqL_dn (e := ⟨fun _ => none, fun _ => 0, fun i => (v :: (c ++ d))[i]?⟩) (l := c) (i := 1) (fun j u hj => by
      show (v :: (c ++ d))[1 + j]? = _
      rw [Nat.add_comm, List.getElem?_cons_succ, List.getElem?_append_left (List.getElem?_eq_some_iff.1 hj).1]; exact hj) h1
    have e2 := oqL_dn (e := ⟨fun _ => none, fun _ => 0, fun i => (v :: (c ++ d))[i]?⟩) (l := d) (i := 11) (fun j u hj => by
      show (v :: (c ++ d))[11 + j]? = _
      rw [show 11 + j = (10 + j) + 1 from by omega, List.getElem?_cons_succ, List.getElem?_append_right (by omega), hc, Nat.add_sub_cancel_left]; exact hj) h2
    rw [hc] at e1
    rw [hd] at e2
    refine dnAs_mk ?_ (dnAs_mk ?_ (dnAs_mk ?_ rfl))
    · simp only [AW.dn, CW.dn, List.getElem?_cons_zero, Option.bind_some, if_pos hv]
    · simp only [AW.dn, e1, Option.map_some]
    · simp only [AW.dn, e2, Option.map_some]) w
end Go.Proofs.YtmbjfpacaenbhaaGreat
