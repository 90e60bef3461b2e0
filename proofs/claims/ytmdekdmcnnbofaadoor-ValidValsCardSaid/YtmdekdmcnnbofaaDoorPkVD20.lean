/- Several texts in one: SchIn, SchAt, RvC, SchTwo, Bx3. What each proves, and its conditions, stands at its own head. -/
import Derived.Test.YtmdekdmcnnbofaaDoorChecked
import Derived.Test.YtmdekdmcnnbofaaDoorPkVD19
import Derived.Test.YtmdekdmcnnbofaaDoorPkVD5
import Derived.Test.YtmdekdmcnnbofaaDoorPkVD0
import Derived.OpenShut
import Derived.ProofKit
import Derived.SizedLaws
import Derived.Test.YtmdekdmcnnbofaaDoorPkVD3
import Derived.WalkKit
import Derived.OwnWalk
import Derived.RowKitTokens
import Derived.Lib.Hide
import Derived.BigQuiet
import Derived.Deep.QuietTactic
import Derived.IntWalk
import Derived.Deep.LoopGhost
import Derived.Test.YtmdekdmcnnbofaaDoorPkVD10
/- Schemas in memory: what is read, what came in. Conditions: those that each theorem names. -/
namespace Go.Proofs.YtmdekdmcnnbofaaDoor
open Go.RowKit Go.ChangeShapes Go.WideShapes
set_option linter.unusedVariables false
set_option maxRecDepth 100000

def vlR (w : World) (cs : List Value) (x : Vl) : Prop := cs = [.string (strOf x.name), .int .i64 x.num]
def fdCells (f : Fd) : List Value := [.string (strOf f.name), .int .i64 f.num, .int .i64 f.ty, .string (strOf f.ref), .bool f.rep, .bool f.loose, .string (strOf f.one)]
def fdR (w : World) (cs : List Value) (x : Fd) : Prop := cs = fdCells x
def inR (w : World) (cs : List Value) (x : Int) : Prop := cs = [.int .i64 x]
def enR (S : Nat → Nat → Prop) (w : World) (cs : List Value) (x : En) : Prop := ∃ A cap, cs = [.string (strOf x.name), .slice A x.values.length cap] ∧ Lst 2 (S 0) vlR w A cap x.values
def msR (S : Nat → Nat → Prop) (w : World) (cs : List Value) (x : Ms) : Prop := ∃ A cap A2 cap2, cs = [.string (strOf x.name), .slice A x.fields.length cap, .slice A2 x.barred.length cap2] ∧ Lst 7 (S 1) fdR w A cap x.fields ∧ Lst 1 (S 2) inR w A2 cap2 x.barred
def scR (S : Nat → Nat → Prop) (w : World) (cs : List Value) (x : Sc) : Prop := ∃ A cap A2 cap2, cs = [.slice A x.enums.length cap, .slice A2 x.msgs.length cap2] ∧ Lst 2 (S 3) (enR S) w A cap x.enums ∧ Lst 3 (S 4) (msR S) w A2 cap2 x.msgs
def lenM : Nat := 140737488351232
def VlOk (x : Vl) : Prop := Int64 x.num ∧ x.name.length ≤ lenM
def FdOk (f : Fd) : Prop := Int64 f.num ∧ Int64 f.ty ∧ f.name.length ≤ lenM ∧ f.ref.length ≤ lenM ∧ f.one.length ≤ lenM
def EnOk (x : En) : Prop := x.name.length ≤ lenM ∧ x.values.length ≤ lenM ∧ ∀ v ∈ x.values, VlOk v
def MsOk (x : Ms) : Prop := x.name.length ≤ lenM ∧ x.fields.length ≤ lenM ∧ x.barred.length ≤ lenM ∧ (∀ f ∈ x.fields, FdOk f) ∧ ∀ n ∈ x.barred, Int64 n
def ScOk (x : Sc) : Prop := x.enums.length ≤ lenM ∧ x.msgs.length ≤ lenM ∧ (∀ e ∈ x.enums, EnOk e) ∧ ∀ m ∈ x.msgs, MsOk m

section
variable {S S' : Nat → Nat → Prop} {w w' : World} {cs : List Value}
theorem vlR_keep : ∀ cs (x : Vl), vlR w cs x → vlR w' cs x := fun _ _ h => h
theorem fdR_keep : ∀ cs (x : Fd), fdR w cs x → fdR w' cs x := fun _ _ h => h
theorem inR_keep : ∀ cs (x : Int), inR w cs x → inR w' cs x := fun _ _ h => h
theorem enR_keep (hS : ∀ k g, S k g → S' k g) (hk : ∀ k (p : Addr), S k p.block → p.block < w.heap.size → w'.cell? p = w.cell? p) : ∀ cs (x : En), enR S w cs x → enR S' w' cs x :=
  fun cs x ⟨A, cap, e, h⟩ => ⟨A, cap, e, lst_keep h vlR_keep (hS 0) (hk 0)⟩
theorem msR_keep (hS : ∀ k g, S k g → S' k g) (hk : ∀ k (p : Addr), S k p.block → p.block < w.heap.size → w'.cell? p = w.cell? p) : ∀ cs (x : Ms), msR S w cs x → msR S' w' cs x :=
  fun cs x ⟨A, cap, A2, cap2, e, h, h2⟩ => ⟨A, cap, A2, cap2, e, lst_keep h fdR_keep (hS 1) (hk 1), lst_keep h2 inR_keep (hS 2) (hk 2)⟩
theorem bel_keep {T : Nat → Prop} (hb : Below w.heap.size w w') : ∀ p : Addr, T p.block → p.block < w.heap.size → w'.cell? p = w.cell? p := fun p _ hp => hb.cell hp
end

section
variable {H : Type} {enc : TypeId × Value → H} {w : World} {base : Nat} {spare : Nat → Bool} {held : Bool} {fuel : Nat} {cs : List Value} {x : DataW H × List MemPlace}
theorem cs_str : Tryd.prog.cellsOf 9 = 1 := by kernel_rfl
theorem cs_int : Tryd.prog.cellsOf 3 = 1 := by kernel_rfl
theorem cs_bool : Tryd.prog.cellsOf 4 = 1 := by kernel_rfl
theorem cs_Vl : Tryd.prog.cellsOf 54 = 2 := by kernel_rfl
theorem cs_Fd : Tryd.prog.cellsOf 35 = 7 := by kernel_rfl
theorem cs_En : Tryd.prog.cellsOf 48 = 2 := by kernel_rfl
theorem cs_Ms : Tryd.prog.cellsOf 52 = 3 := by kernel_rfl
theorem cs_Sc : Tryd.prog.cellsOf 25 = 2 := by kernel_rfl
theorem cs_lVl : Tryd.prog.cellsOf 46 = 1 := by kernel_rfl
theorem by_Vl : 1 ≤ Tryd.prog.bytesOf 54 := of_decide_eq_true (by kernel_rfl)
theorem cs_lFd : Tryd.prog.cellsOf 49 = 1 := by kernel_rfl
theorem by_Fd : 1 ≤ Tryd.prog.bytesOf 35 := of_decide_eq_true (by kernel_rfl)
theorem cs_lEn : Tryd.prog.cellsOf 22 = 1 := by kernel_rfl
theorem by_En : 1 ≤ Tryd.prog.bytesOf 48 := of_decide_eq_true (by kernel_rfl)
theorem cs_lMs : Tryd.prog.cellsOf 23 = 1 := by kernel_rfl
theorem by_Ms : 1 ≤ Tryd.prog.bytesOf 52 := of_decide_eq_true (by kernel_rfl)
theorem cs_lIn : Tryd.prog.cellsOf 50 = 1 := by kernel_rfl
theorem by_In : 1 ≤ Tryd.prog.bytesOf 3 := of_decide_eq_true (by kernel_rfl)
theorem str_data (s : ByteArray) : s = strOf s.data.toList := by cases s; simp [strOf]
theorem len_all {P : Program} {e : TypeId} {y : DataW H} {n : Nat} (h : ∀ n ∈ y.weights P e, n ≤ lenM) (he : y.weights P e = [n]) : n ≤ lenM := h n (by rw [he]; simp)
theorem in_came : ∀ fuel cs (x : DataW H × List MemPlace), DataW.trod enc Tryd.prog w base spare held fuel 3 cs = some x → (∀ n ∈ x.1.weights Tryd.prog 3, n ≤ lenM) → ∃ v : Int, inR w cs v ∧ Int64 v := by
  intro fuel cs x h _
  obtain ⟨n, q, z, ww⟩ := DataW.trod_int Tryd.underlying3 h
  exact ⟨n, q, i64_came ww⟩
theorem vl_came : ∀ fuel cs (x : DataW H × List MemPlace), DataW.trod enc Tryd.prog w base spare held fuel 54 cs = some x → (∀ n ∈ x.1.weights Tryd.prog 54, n ≤ lenM) → ∃ v : Vl, vlR w cs v ∧ VlOk v := by
  intro fuel cs x h hz
  obtain ⟨ys, m, _, rfl, hl, hn, he⟩ := DataW.trod_struct Tryd.underlying54 h
  rw [cs_Vl] at hl
  match cs, hl, ys, hn with
  | [v0, v1], _, [y0, y1], _ =>
    have hw : ∀ n ∈ DataW.weightsEach Tryd.prog [9, 3] [y0.1, y1.1], n ≤ lenM := by
      intro n hn
      apply hz
      simp only [DataW.weights, Tryd.underlying54]
      exact hn
    have g0 : DataW.trod enc Tryd.prog w base spare held m 9 (([v0, v1].drop 0).take (Tryd.prog.cellsOf 9)) = some y0 := he 0 _ rfl
    have w0 : ∀ n ∈ y0.1.weights Tryd.prog 9, n ≤ lenM := fun n hn => hw n (DataW.weights_mem_each (j := 0) rfl rfl n hn)
    rw [cs_str] at g0
    have g1 : DataW.trod enc Tryd.prog w base spare held m 3 (([v0, v1].drop 1).take (Tryd.prog.cellsOf 3)) = some y1 := he 1 _ rfl
    have w1 : ∀ n ∈ y1.1.weights Tryd.prog 3, n ≤ lenM := fun n hn => hw n (DataW.weights_mem_each (j := 1) rfl rfl n hn)
    rw [cs_int] at g1
    simp only [List.drop_zero, List.drop_succ_cons, List.take_succ_cons, List.take_zero] at g0 g1
    obtain ⟨s0, q0, z0, _⟩ := DataW.trod_string Tryd.underlying9 g0
    have b0 : s0.data.toList.length ≤ lenM := len_all w0 (by rw [z0]; rfl)
    obtain ⟨s1, q1, z1, b1⟩ := DataW.trod_int Tryd.underlying3 g1
    simp only [List.cons.injEq, and_true] at q0 q1
    subst q0 q1
    exact ⟨⟨s0.data.toList, s1⟩, by unfold vlR; rw [← str_data], i64_came b1, b0⟩

theorem fd_came : ∀ fuel cs (x : DataW H × List MemPlace), DataW.trod enc Tryd.prog w base spare held fuel 35 cs = some x → (∀ n ∈ x.1.weights Tryd.prog 35, n ≤ lenM) → ∃ v : Fd, fdR w cs v ∧ FdOk v := by
  intro fuel cs x h hz
  obtain ⟨ys, m, _, rfl, hl, hn, he⟩ := DataW.trod_struct Tryd.underlying35 h
  rw [cs_Fd] at hl
  match cs, hl, ys, hn with
  | [v0, v1, v2, v3, v4, v5, v6], _, [y0, y1, y2, y3, y4, y5, y6], _ =>
    have hw : ∀ n ∈ DataW.weightsEach Tryd.prog [9, 3, 3, 9, 4, 4, 9] [y0.1, y1.1, y2.1, y3.1, y4.1, y5.1, y6.1], n ≤ lenM := by
      intro n hn
      apply hz
      simp only [DataW.weights, Tryd.underlying35]
      exact hn
    have g0 : DataW.trod enc Tryd.prog w base spare held m 9 (([v0, v1, v2, v3, v4, v5, v6].drop 0).take (Tryd.prog.cellsOf 9)) = some y0 := he 0 _ rfl
    have w0 : ∀ n ∈ y0.1.weights Tryd.prog 9, n ≤ lenM := fun n hn => hw n (DataW.weights_mem_each (j := 0) rfl rfl n hn)
    rw [cs_str] at g0
    have g1 : DataW.trod enc Tryd.prog w base spare held m 3 (([v0, v1, v2, v3, v4, v5, v6].drop 1).take (Tryd.prog.cellsOf 3)) = some y1 := he 1 _ rfl
    have w1 : ∀ n ∈ y1.1.weights Tryd.prog 3, n ≤ lenM := fun n hn => hw n (DataW.weights_mem_each (j := 1) rfl rfl n hn)
    rw [cs_int] at g1
    have g2 : DataW.trod enc Tryd.prog w base spare held m 3 (([v0, v1, v2, v3, v4, v5, v6].drop 2).take (Tryd.prog.cellsOf 3)) = some y2 := he 2 _ rfl
    have w2 : ∀ n ∈ y2.1.weights Tryd.prog 3, n ≤ lenM := fun n hn => hw n (DataW.weights_mem_each (j := 2) rfl rfl n hn)
    rw [cs_int] at g2
    have g3 : DataW.trod enc Tryd.prog w base spare held m 9 (([v0, v1, v2, v3, v4, v5, v6].drop 3).take (Tryd.prog.cellsOf 9)) = some y3 := he 3 _ rfl
    have w3 : ∀ n ∈ y3.1.weights Tryd.prog 9, n ≤ lenM := fun n hn => hw n (DataW.weights_mem_each (j := 3) rfl rfl n hn)
    rw [cs_str] at g3
    have g4 : DataW.trod enc Tryd.prog w base spare held m 4 (([v0, v1, v2, v3, v4, v5, v6].drop 4).take (Tryd.prog.cellsOf 4)) = some y4 := he 4 _ rfl
    have w4 : ∀ n ∈ y4.1.weights Tryd.prog 4, n ≤ lenM := fun n hn => hw n (DataW.weights_mem_each (j := 4) rfl rfl n hn)
    rw [cs_bool] at g4
    have g5 : DataW.trod enc Tryd.prog w base spare held m 4 (([v0, v1, v2, v3, v4, v5, v6].drop 5).take (Tryd.prog.cellsOf 4)) = some y5 := he 5 _ rfl
    have w5 : ∀ n ∈ y5.1.weights Tryd.prog 4, n ≤ lenM := fun n hn => hw n (DataW.weights_mem_each (j := 5) rfl rfl n hn)
    rw [cs_bool] at g5
    have g6 : DataW.trod enc Tryd.prog w base spare held m 9 (([v0, v1, v2, v3, v4, v5, v6].drop 6).take (Tryd.prog.cellsOf 9)) = some y6 := he 6 _ rfl
    have w6 : ∀ n ∈ y6.1.weights Tryd.prog 9, n ≤ lenM := fun n hn => hw n (DataW.weights_mem_each (j := 6) rfl rfl n hn)
    rw [cs_str] at g6
    simp only [List.drop_zero, List.drop_succ_cons, List.take_succ_cons, List.take_zero] at g0 g1 g2 g3 g4 g5 g6
    obtain ⟨s0, q0, z0, _⟩ := DataW.trod_string Tryd.underlying9 g0
    have b0 : s0.data.toList.length ≤ lenM := len_all w0 (by rw [z0]; rfl)
    obtain ⟨s1, q1, z1, b1⟩ := DataW.trod_int Tryd.underlying3 g1
    obtain ⟨s2, q2, z2, b2⟩ := DataW.trod_int Tryd.underlying3 g2
    obtain ⟨s3, q3, z3, _⟩ := DataW.trod_string Tryd.underlying9 g3
    have b3 : s3.data.toList.length ≤ lenM := len_all w3 (by rw [z3]; rfl)
    obtain ⟨s4, q4, z4⟩ := DataW.trod_bool Tryd.underlying4 g4
    obtain ⟨s5, q5, z5⟩ := DataW.trod_bool Tryd.underlying4 g5
    obtain ⟨s6, q6, z6, _⟩ := DataW.trod_string Tryd.underlying9 g6
    have b6 : s6.data.toList.length ≤ lenM := len_all w6 (by rw [z6]; rfl)
    simp only [List.cons.injEq, and_true] at q0 q1 q2 q3 q4 q5 q6
    subst q0 q1 q2 q3 q4 q5 q6
    exact ⟨⟨s0.data.toList, s1, s2, s3.data.toList, s4, s5, s6.data.toList⟩, by unfold fdR fdCells; rw [← str_data, ← str_data, ← str_data], i64_came b1, i64_came b2, b0, b3, b6⟩

instance : Inhabited Vl := ⟨⟨[], 0⟩⟩
instance : Inhabited Fd := ⟨⟨[], 0, 0, [], false, false, []⟩⟩
instance : Inhabited En := ⟨⟨[], []⟩⟩
instance : Inhabited Ms := ⟨⟨[], [], []⟩⟩
theorem en_came : ∀ fuel cs (x : DataW H × List MemPlace), DataW.trod enc Tryd.prog w base spare held fuel 48 cs = some x → (∀ n ∈ x.1.weights Tryd.prog 48, n ≤ lenM) → ∃ v : En, enR (fun _ g => g < w.heap.size) w cs v ∧ EnOk v := by
  intro fuel cs x h hz
  obtain ⟨ys, m, _, rfl, hl, hn, he⟩ := DataW.trod_struct Tryd.underlying48 h
  rw [cs_En] at hl
  match cs, hl, ys, hn with
  | [v0, v1], _, [y0, y1], _ =>
    have hw : ∀ n ∈ DataW.weightsEach Tryd.prog [9, 46] [y0.1, y1.1], n ≤ lenM := by
      intro n hn
      apply hz
      simp only [DataW.weights, Tryd.underlying48]
      exact hn
    have g0 : DataW.trod enc Tryd.prog w base spare held m 9 (([v0, v1].drop 0).take (Tryd.prog.cellsOf 9)) = some y0 := he 0 _ rfl
    have w0 : ∀ n ∈ y0.1.weights Tryd.prog 9, n ≤ lenM := fun n hn => hw n (DataW.weights_mem_each (j := 0) rfl rfl n hn)
    rw [cs_str] at g0
    have g1 : DataW.trod enc Tryd.prog w base spare held m 46 (([v0, v1].drop 1).take (Tryd.prog.cellsOf 46)) = some y1 := he 1 _ rfl
    have w1 : ∀ n ∈ y1.1.weights Tryd.prog 46, n ≤ lenM := fun n hn => hw n (DataW.weights_mem_each (j := 1) rfl rfl n hn)
    rw [cs_lVl] at g1
    simp only [List.drop_zero, List.drop_succ_cons, List.take_succ_cons, List.take_zero] at g0 g1
    obtain ⟨s0, q0, z0, _⟩ := DataW.trod_string Tryd.underlying9 g0
    have b0 : s0.data.toList.length ≤ lenM := len_all w0 (by rw [z0]; rfl)
    obtain ⟨s1, A1, cap1, q1, b1, c1, d1⟩ := lst_came (k := 2) (M := lenM) Tryd.underlying46 cs_Vl (by decide) by_Vl vl_came g1 w1
    simp only [List.cons.injEq, and_true] at q0 q1
    subst q0 q1
    exact ⟨⟨s0.data.toList, s1⟩, ⟨A1, cap1, by rw [← str_data], b1⟩, b0, d1, c1⟩

theorem ms_came : ∀ fuel cs (x : DataW H × List MemPlace), DataW.trod enc Tryd.prog w base spare held fuel 52 cs = some x → (∀ n ∈ x.1.weights Tryd.prog 52, n ≤ lenM) → ∃ v : Ms, msR (fun _ g => g < w.heap.size) w cs v ∧ MsOk v := by
  intro fuel cs x h hz
  obtain ⟨ys, m, _, rfl, hl, hn, he⟩ := DataW.trod_struct Tryd.underlying52 h
  rw [cs_Ms] at hl
  match cs, hl, ys, hn with
  | [v0, v1, v2], _, [y0, y1, y2], _ =>
    have hw : ∀ n ∈ DataW.weightsEach Tryd.prog [9, 49, 50] [y0.1, y1.1, y2.1], n ≤ lenM := by
      intro n hn
      apply hz
      simp only [DataW.weights, Tryd.underlying52]
      exact hn
    have g0 : DataW.trod enc Tryd.prog w base spare held m 9 (([v0, v1, v2].drop 0).take (Tryd.prog.cellsOf 9)) = some y0 := he 0 _ rfl
    have w0 : ∀ n ∈ y0.1.weights Tryd.prog 9, n ≤ lenM := fun n hn => hw n (DataW.weights_mem_each (j := 0) rfl rfl n hn)
    rw [cs_str] at g0
    have g1 : DataW.trod enc Tryd.prog w base spare held m 49 (([v0, v1, v2].drop 1).take (Tryd.prog.cellsOf 49)) = some y1 := he 1 _ rfl
    have w1 : ∀ n ∈ y1.1.weights Tryd.prog 49, n ≤ lenM := fun n hn => hw n (DataW.weights_mem_each (j := 1) rfl rfl n hn)
    rw [cs_lFd] at g1
    have g2 : DataW.trod enc Tryd.prog w base spare held m 50 (([v0, v1, v2].drop 2).take (Tryd.prog.cellsOf 50)) = some y2 := he 2 _ rfl
    have w2 : ∀ n ∈ y2.1.weights Tryd.prog 50, n ≤ lenM := fun n hn => hw n (DataW.weights_mem_each (j := 2) rfl rfl n hn)
    rw [cs_lIn] at g2
    simp only [List.drop_zero, List.drop_succ_cons, List.take_succ_cons, List.take_zero] at g0 g1 g2
    obtain ⟨s0, q0, z0, _⟩ := DataW.trod_string Tryd.underlying9 g0
    have b0 : s0.data.toList.length ≤ lenM := len_all w0 (by rw [z0]; rfl)
    obtain ⟨s1, A1, cap1, q1, b1, c1, d1⟩ := lst_came (k := 7) (M := lenM) Tryd.underlying49 cs_Fd (by decide) by_Fd fd_came g1 w1
    obtain ⟨s2, A2, cap2, q2, b2, c2, d2⟩ := lst_came (k := 1) (M := lenM) Tryd.underlying50 cs_int (by decide) by_In in_came g2 w2
    simp only [List.cons.injEq, and_true] at q0 q1 q2
    subst q0 q1 q2
    exact ⟨⟨s0.data.toList, s1, s2⟩, ⟨A1, cap1, A2, cap2, by rw [← str_data], b1, b2⟩, b0, d1, d2, c1, c2⟩

theorem sc_came : ∀ fuel cs (x : DataW H × List MemPlace), DataW.trod enc Tryd.prog w base spare held fuel 25 cs = some x → (∀ n ∈ x.1.weights Tryd.prog 25, n ≤ lenM) → ∃ v : Sc, scR (fun _ g => g < w.heap.size) w cs v ∧ ScOk v := by
  intro fuel cs x h hz
  obtain ⟨ys, m, _, rfl, hl, hn, he⟩ := DataW.trod_struct Tryd.underlying25 h
  rw [cs_Sc] at hl
  match cs, hl, ys, hn with
  | [v0, v1], _, [y0, y1], _ =>
    have hw : ∀ n ∈ DataW.weightsEach Tryd.prog [22, 23] [y0.1, y1.1], n ≤ lenM := by
      intro n hn
      apply hz
      simp only [DataW.weights, Tryd.underlying25]
      exact hn
    have g0 : DataW.trod enc Tryd.prog w base spare held m 22 (([v0, v1].drop 0).take (Tryd.prog.cellsOf 22)) = some y0 := he 0 _ rfl
    have w0 : ∀ n ∈ y0.1.weights Tryd.prog 22, n ≤ lenM := fun n hn => hw n (DataW.weights_mem_each (j := 0) rfl rfl n hn)
    rw [cs_lEn] at g0
    have g1 : DataW.trod enc Tryd.prog w base spare held m 23 (([v0, v1].drop 1).take (Tryd.prog.cellsOf 23)) = some y1 := he 1 _ rfl
    have w1 : ∀ n ∈ y1.1.weights Tryd.prog 23, n ≤ lenM := fun n hn => hw n (DataW.weights_mem_each (j := 1) rfl rfl n hn)
    rw [cs_lMs] at g1
    simp only [List.drop_zero, List.drop_succ_cons, List.take_succ_cons, List.take_zero] at g0 g1
    obtain ⟨s0, A0, cap0, q0, b0, c0, d0⟩ := lst_came (k := 2) (M := lenM) Tryd.underlying22 cs_En (by decide) by_En en_came g0 w0
    obtain ⟨s1, A1, cap1, q1, b1, c1, d1⟩ := lst_came (k := 3) (M := lenM) Tryd.underlying23 cs_Ms (by decide) by_Ms ms_came g1 w1
    simp only [List.cons.injEq, and_true] at q0 q1
    subst q0 q1
    exact ⟨⟨s0, s1⟩, ⟨A0, cap0, A1, cap1, rfl, b0, b1⟩, d0, d1, c0, c1⟩

end
end Go.Proofs.YtmdekdmcnnbofaaDoor

/- Schemas in memory, as the walks ask for them: a schema that was handed over, one thing of a list, the box that a call keeps it in. Conditions: those that each theorem names. -/
namespace Go.Proofs.YtmdekdmcnnbofaaDoor
open Go.RowKit
set_option linter.unusedVariables false
set_option maxRecDepth 100000

/-- A schema as it is handed over. -/
structure ScAt (S : Nat → Nat → Prop) (w : World) (A : Option Addr) (n cap : Nat) (A2 : Option Addr) (n2 cap2 : Nat) (s : Sc) : Prop where
  s_e : Lst 2 (S 3) (enR S) w A cap s.enums
  s_m : Lst 3 (S 4) (msR S) w A2 cap2 s.msgs
  s_ne : n = s.enums.length
  s_nm : n2 = s.msgs.length
theorem scAt_bel {S : Nat → Nat → Prop} {w w' : World} {A A2 : Option Addr} {n cap n2 cap2 : Nat} {s : Sc} (h : ScAt S w A n cap A2 n2 cap2 s) (hb : Below w.heap.size w w') : ScAt S w' A n cap A2 n2 cap2 s :=
  ⟨lst_keep h.s_e (enR_keep (fun _ _ h => h) (fun _ => bel_keep hb)) (fun _ h => h) (bel_keep hb), lst_keep h.s_m (msR_keep (fun _ _ h => h) (fun _ => bel_keep hb)) (fun _ h => h) (bel_keep hb), h.s_ne, h.s_nm⟩
theorem scAt_max {S : Nat → Nat → Prop} {w : World} {A A2 : Option Addr} {n cap n2 cap2 : Nat} {s : Sc} (h : ScAt S w A n cap A2 n2 cap2 s) : n ≤ cap ∧ cap ≤ 9223372036854775807 ∧ n2 ≤ cap2 ∧ cap2 ≤ 9223372036854775807 := by
  have h1 := h.s_e.l_le
  have h2 := h.s_e.l_max
  have h3 := h.s_m.l_le
  have h4 := h.s_m.l_max
  unfold maxLen at h2 h4
  rw [← h.s_ne] at h1
  rw [← h.s_nm] at h3
  exact ⟨h1, h2, h3, h4⟩

/-- The call's own box stands as it was made; all that is older is as it was. -/
structure Bx (w wr : World) (o : Obj) : Prop where
  b_bel : Below w.heap.size w wr
  b_blk : wr.heap[w.heap.size]? = some o
theorem bx_start (w : World) (cs : Array Value) (t : TypeId) : Bx w (w.alloc (.cells cs t)) (.cells cs t (0, 0)) := ⟨(Below.refl _ w).alloc (Nat.le_refl _) _, heap_alloc_new w _⟩
theorem bx_step {w wr w2 : World} {o : Obj} (h : Bx w wr o) (hb : Below wr.heap.size wr w2) : Bx w w2 o := ⟨h.b_bel.trans (hb.mono h.b_bel.size), (hb.block _ (lt_of_block h.b_blk)).trans h.b_blk⟩
theorem drewN_under (w : World) (n : Nat) : Below w.heap.size w (w.drewN n) := ⟨rfl, rfl, rfl, Nat.le_refl _, fun _ _ => rfl⟩
theorem bx_drew {w wr : World} {o : Obj} (h : Bx w wr o) (k : Nat) : Bx w (wr.drewN k) o := bx_step h (drewN_under wr k)
theorem cell_under {w wr : World} {p : Addr} {v : Value} (hb : Below w.heap.size w wr) (h : w.cell? p = some v) : wr.cell? p = some v := (hb.cell (World.block_lt_of_cell? w _ h)).trans h
section
variable {S : Nat → Prop} {w : World} {A : Option Addr} {cap i : Nat}
theorem vl_at {l : List Vl} {x : Vl} (h : Lst 2 S vlR w A cap l) (hi : l[i]? = some x) : ∃ g off, A = some ⟨g, off, none⟩ ∧ S g ∧ ∀ wr, Below w.heap.size w wr → wr.cell? ⟨g, off + i * 2, none⟩ = some (.string (strOf x.name)) ∧ wr.cell? ⟨g, off + i * 2 + 1, none⟩ = some (.int .i64 x.num) := by
  obtain ⟨g, off, cs, e, hs, _, rfl, hc⟩ := h.l_at i x hi
  exact ⟨g, off, e, hs, fun wr hb => ⟨cell_under hb (hc 0 _ rfl), cell_under hb (hc 1 _ rfl)⟩⟩
theorem fd_at {l : List Fd} {x : Fd} (h : Lst 7 S fdR w A cap l) (hi : l[i]? = some x) : ∃ g off, A = some ⟨g, off, none⟩ ∧ S g ∧ ∀ wr, Below w.heap.size w wr → wr.cell? ⟨g, off + i * 7, none⟩ = some (.string (strOf x.name)) ∧ wr.cell? ⟨g, off + i * 7 + 1, none⟩ = some (.int .i64 x.num) ∧ wr.cell? ⟨g, off + i * 7 + 2, none⟩ = some (.int .i64 x.ty) ∧ wr.cell? ⟨g, off + i * 7 + 3, none⟩ = some (.string (strOf x.ref)) ∧ wr.cell? ⟨g, off + i * 7 + 4, none⟩ = some (.bool x.rep) ∧ wr.cell? ⟨g, off + i * 7 + 5, none⟩ = some (.bool x.loose) ∧ wr.cell? ⟨g, off + i * 7 + 6, none⟩ = some (.string (strOf x.one)) := by
  obtain ⟨g, off, cs, e, hs, _, rfl, hc⟩ := h.l_at i x hi
  exact ⟨g, off, e, hs, fun wr hb => ⟨cell_under hb (hc 0 _ rfl), cell_under hb (hc 1 _ rfl), cell_under hb (hc 2 _ rfl), cell_under hb (hc 3 _ rfl), cell_under hb (hc 4 _ rfl), cell_under hb (hc 5 _ rfl), cell_under hb (hc 6 _ rfl)⟩⟩
theorem en_at {S : Nat → Nat → Prop} {l : List En} {x : En} (h : Lst 2 (S 3) (enR S) w A cap l) (hi : l[i]? = some x) : ∃ g off A1 cap1, A = some ⟨g, off, none⟩ ∧ S 3 g ∧ (∀ wr, Below w.heap.size w wr → wr.cell? ⟨g, off + i * 2, none⟩ = some (.string (strOf x.name)) ∧ wr.cell? ⟨g, off + i * 2 + 1, none⟩ = some (.slice A1 x.values.length cap1)) ∧ Lst 2 (S 0) vlR w A1 cap1 x.values := by
  obtain ⟨g, off, cs, e, hs, _, ⟨A1, cap1, rfl, h1⟩, hc⟩ := h.l_at i x hi
  exact ⟨g, off, A1, cap1, e, hs, fun wr hb => ⟨cell_under hb (hc 0 _ rfl), cell_under hb (hc 1 _ rfl)⟩, h1⟩
theorem ms_at {S : Nat → Nat → Prop} {l : List Ms} {x : Ms} (h : Lst 3 (S 4) (msR S) w A cap l) (hi : l[i]? = some x) : ∃ g off A1 cap1 A2 cap2, A = some ⟨g, off, none⟩ ∧ S 4 g ∧ (∀ wr, Below w.heap.size w wr → wr.cell? ⟨g, off + i * 3, none⟩ = some (.string (strOf x.name)) ∧ wr.cell? ⟨g, off + i * 3 + 1, none⟩ = some (.slice A1 x.fields.length cap1) ∧ wr.cell? ⟨g, off + i * 3 + 2, none⟩ = some (.slice A2 x.barred.length cap2)) ∧ Lst 7 (S 1) fdR w A1 cap1 x.fields ∧ Lst 1 (S 2) inR w A2 cap2 x.barred := by
  obtain ⟨g, off, cs, e, hs, _, ⟨A1, cap1, A2, cap2, rfl, h1, h2⟩, hc⟩ := h.l_at i x hi
  exact ⟨g, off, A1, cap1, A2, cap2, e, hs, fun wr hb => ⟨cell_under hb (hc 0 _ rfl), cell_under hb (hc 1 _ rfl), cell_under hb (hc 2 _ rfl)⟩, h1, h2⟩
end
end Go.Proofs.YtmdekdmcnnbofaaDoor

/- The document's layer 15: numbers that rise, a number in a list, messages and enums by name. Conditions: those that each theorem names. -/
namespace Go.Proofs.YtmdekdmcnnbofaaDoor
open Go.RowKit
set_option linter.unusedVariables false
set_option maxRecDepth 100000

set_option maxHeartbeats 4000000 in
theorem rvmessage_any {S : Nat → Nat → Prop} (w : World) {A A2 : Option Addr} {n cap n2 cap2 : Nat} {s : Sc} (h : ScAt S w A n cap A2 n2 cap2 s) (t : List UInt8) :
    Calls Tryd.prog 15 #[.agg #[.slice A n cap, .slice A2 n2 cap2], .string (strOf t)] w fun e w' => e = .returned (.int .i64 (messageT s t)) ∧ Below w.heap.size w w' := by
  obtain ⟨m1, m2, m3, m4⟩ := scAt_max h
  have H := Lib.hid h
  have HBX := Lib.hid (bx_start w #[.slice A n cap, .slice A2 n2 cap2] 25)
  obtain ⟨st, hst⟩ : ∃ st, st = strOf t := ⟨_, rfl⟩
  have HST := Lib.hid hst
  rw [← hst]
  clear h hst
  have r0 := obj_cell (HBX.out).b_blk 0
  have r1 := obj_cell (HBX.out).b_blk 1
  go_enter Tryd.func15, Tryd.ntmps15
  go_wp2
  clear r0 r1
  go_loopg [5] n2 (fun gz x0 wr => ∃ i : Nat, x0 = .int .i64 (i : Int) ∧ i + gz = n2 ∧ (∀ (j : Nat) y, j < i → (mNames s)[j]? = some y → y ≠ t) ∧ Bx w wr (.cells #[.slice A n cap, .slice A2 n2 cap2] 25 (0, 0)))
  case atStart => exact ⟨0, rfl, by omega, fun j y hj => absurd hj (Nat.not_lt_zero _), HBX.out⟩
  case round =>
    obtain ⟨i, rfl, hi, hall, hbx⟩ := hrel
    have HBX := Lib.hid hbx
    clear hbx
    have r0 := obj_cell (HBX.out).b_blk 0
    have r1 := obj_cell (HBX.out).b_blk 1
    obtain ⟨g0, hg0⟩ : ∃ g0, g0 = gk := ⟨_, rfl⟩
    subst hg0
    by_cases hlti : i < n2
    · have ti : decide ((i : Int) < (n2 : Int)) = true := decide_eq_true (by omega)
      obtain ⟨x, hx⟩ : ∃ x, s.msgs[i]? = some x := ⟨_, List.getElem?_eq_getElem (by have := H.out.s_nm; omega)⟩
      have HXI := Lib.hid hx
      obtain ⟨ge, oe, A1, cap1, A3, cap3, rfl, _, hc, hl, hl2⟩ := ms_at H.out.s_m hx
      have q1 := hl.l_le
      have q2 := hl.l_max
      have q3 := hl2.l_le
      have q4 := hl2.l_max
      unfold maxLen at q2 q4
      have HL := Lib.hid hl
      have HL2 := Lib.hid hl2
      obtain ⟨nf, hnf⟩ : ∃ nf, nf = x.fields.length := ⟨_, rfl⟩
      obtain ⟨nb, hnb⟩ : ∃ nb, nb = x.barred.length := ⟨_, rfl⟩
      have HNF := Lib.hid hnf
      have HNB := Lib.hid hnb
      rw [← hnf] at hc q1
      rw [← hnb] at hc q3
      obtain ⟨sn, hsn⟩ : ∃ sn, sn = strOf x.name := ⟨_, rfl⟩
      have HSN := Lib.hid hsn
      rw [← hsn] at hc
      have HC := Lib.hid hc
      clear hx hl hl2 hnf hnb hsn hc
      obtain ⟨c0, c1, c2⟩ := HC.out _ HBX.out.b_bel
      have HALL := Lib.hid hall
      clear hall
      by_cases hab : x.name = t
      · have HO : Hid (messageT s t = (i : Int)) := Lib.hid (placeT_hit (by unfold mNames; rw [List.getElem?_map, HXI.out, ← hab]; rfl) (fun j y hj hy => HALL.out j y hj hy))
        have es : sn = st := by rw [HSN.out, HST.out, hab]
        subst es
        go_wp2
        go_ret
        exact ⟨ret_int' HO.out.symm, HBX.out.b_bel⟩
      · have hne : ¬ sn.toList = st.toList := by rw [HSN.out, HST.out, str_list, str_list]; exact hab
        have hne2 : (sn.toList == st.toList) = false := by rw [HSN.out, HST.out, strOf_beq]; exact decide_eq_false hab
        have HAB := Lib.hid hab
        clear hab
        go_wp2
        go_roundg (g0 - 1)
        case measure => omega
        case rel => exact ⟨i + 1, by go_num, by omega, (fun j y hj hy => by
                      by_cases hji : j < i
                      · exact HALL.out j y hji hy
                      · have : j = i := by omega
                        subst this
                        unfold mNames at hy
                        rw [List.getElem?_map, HXI.out] at hy
                        injection hy with hy
                        rw [← hy]
                        exact HAB.out), HBX.out⟩
    · have ti : decide ((i : Int) < (n2 : Int)) = false := decide_eq_false (by omega)
      have HO : Hid (messageT s t = -1) := Lib.hid (placeT_miss (fun j y hy => hall j y (by have := (List.getElem?_eq_some_iff.mp hy).1; unfold mNames at this; rw [List.length_map] at this; have := H.out.s_nm; omega) hy))
      clear hall
      go_wp2
      go_ret
      exact ⟨ret_int' HO.out.symm, HBX.out.b_bel⟩
end Go.Proofs.YtmdekdmcnnbofaaDoor

/- Two schemas side by side: what is the same, two boxes, numbers compared. Conditions: those that each theorem names. -/
namespace Go.Proofs.YtmdekdmcnnbofaaDoor
open Go.RowKit
set_option linter.unusedVariables false
set_option maxRecDepth 100000

instance : DecidableEq Vl := fun ⟨a, b⟩ ⟨c, d⟩ => if h : a = c ∧ b = d then .isTrue (by rw [h.1, h.2]) else .isFalse (fun e => by injection e with e1 e2; exact h ⟨e1, e2⟩)
instance : DecidableEq Fd := fun ⟨a, b, c, d, e, f, g⟩ ⟨a', b', c', d', e', f', g'⟩ =>
  if h : a = a' ∧ b = b' ∧ c = c' ∧ d = d' ∧ e = e' ∧ f = f' ∧ g = g' then .isTrue (by obtain ⟨rfl, rfl, rfl, rfl, rfl, rfl, rfl⟩ := h; rfl)
  else .isFalse (fun e => by injection e with e1 e2 e3 e4 e5 e6 e7; exact h ⟨e1, e2, e3, e4, e5, e6, e7⟩)
instance : DecidableEq En := fun ⟨a, b⟩ ⟨c, d⟩ => if h : a = c ∧ b = d then .isTrue (by rw [h.1, h.2]) else .isFalse (fun e => by injection e with e1 e2; exact h ⟨e1, e2⟩)
instance : DecidableEq Ms := fun ⟨a, b, x⟩ ⟨c, d, y⟩ => if h : a = c ∧ b = d ∧ x = y then .isTrue (by rw [h.1, h.2.1, h.2.2]) else .isFalse (fun e => by injection e with e1 e2 e3; exact h ⟨e1, e2, e3⟩)
instance : DecidableEq Sc := fun ⟨a, b⟩ ⟨c, d⟩ => if h : a = c ∧ b = d then .isTrue (by rw [h.1, h.2]) else .isFalse (fun e => by injection e with e1 e2; exact h ⟨e1, e2⟩)

/-- Two boxes of the call's own. -/
structure Bx2 (w wr : World) (o p : Obj) : Prop where
  b2_bel : Below w.heap.size w wr
  b2_one : wr.heap[w.heap.size]? = some o
  b2_two : wr.heap[w.heap.size + 1]? = some p
theorem bx2_start (w : World) (cs ds : Array Value) (t u : TypeId) : Bx2 w ((w.alloc (.cells cs t)).alloc (.cells ds u)) (.cells cs t (0, 0)) (.cells ds u (0, 0)) :=
  ⟨((Below.refl _ w).alloc (Nat.le_refl _) _).alloc (by simp) _, (Below.heap_alloc _ _ _ (by simp)).trans (heap_alloc_new w _), by have h := heap_alloc_new (w.alloc (.cells cs t)) (.cells ds u); rw [World.size_alloc] at h; exact h⟩
theorem bx2_step {w wr w2 : World} {o p : Obj} (h : Bx2 w wr o p) (hb : Below wr.heap.size wr w2) : Bx2 w w2 o p :=
  ⟨h.b2_bel.trans (hb.mono h.b2_bel.size), (hb.block _ (lt_of_block h.b2_one)).trans h.b2_one, (hb.block _ (lt_of_block h.b2_two)).trans h.b2_two⟩

end Go.Proofs.YtmdekdmcnnbofaaDoor

/- Three boxes of a call's own (no program here). Conditions: those that each theorem names. -/
namespace Go.Proofs.YtmdekdmcnnbofaaDoor
open Go.RowKit
set_option linter.unusedVariables false
set_option maxRecDepth 100000

/-- Three boxes of a call. -/
structure Bx3 (w wr : World) (o p q : Obj) : Prop where
  b3_bel : Below w.heap.size w wr
  b3_one : wr.heap[w.heap.size]? = some o
  b3_two : wr.heap[w.heap.size + 1]? = some p
  b3_thr : wr.heap[w.heap.size + 1 + 1]? = some q
theorem bx3_start (w : World) (cs ds es : Array Value) (t u v : TypeId) : Bx3 w (((w.alloc (.cells cs t)).alloc (.cells ds u)).alloc (.cells es v)) (.cells cs t (0, 0)) (.cells ds u (0, 0)) (.cells es v (0, 0)) := by
  have h := bx2_start w cs ds t u
  have hz : ((w.alloc (.cells cs t)).alloc (.cells ds u)).heap.size = w.heap.size + 1 + 1 := by simp
  refine ⟨h.b2_bel.alloc (by omega) _, (Below.heap_alloc _ _ _ (by omega)).trans h.b2_one, (Below.heap_alloc _ _ _ (by omega)).trans h.b2_two, ?_⟩
  rw [← hz]
  exact heap_alloc_new _ _
theorem bx3_step {w wr w2 : World} {o p q : Obj} (h : Bx3 w wr o p q) (hb : Below wr.heap.size wr w2) : Bx3 w w2 o p q :=
  ⟨h.b3_bel.trans (hb.mono h.b3_bel.size), (hb.block _ (lt_of_block h.b3_one)).trans h.b3_one, (hb.block _ (lt_of_block h.b3_two)).trans h.b3_two, (hb.block _ (lt_of_block h.b3_thr)).trans h.b3_thr⟩

end Go.Proofs.YtmdekdmcnnbofaaDoor
