/- Several texts in one: SchIn, SchAt, IntApp, RvA, SchTwo. What each proves, and its conditions, stands at its own head. -/
import Derived.Test.YtpbhokmpbcmdcaaGreatDoorChecked
import Derived.Test.YtpbhokmpbcmdcaaGreatDoorPkp16
import Derived.Test.YtpbhokmpbcmdcaaGreatDoorPkp6
import Derived.Test.YtpbhokmpbcmdcaaGreatDoorPkp0
import Derived.OpenShut
import Derived.ProofKit
import Derived.SizedLaws
import Derived.Test.YtpbhokmpbcmdcaaGreatDoorPkp2
import Derived.WalkKit
import Derived.OwnWalk
import Derived.RowKitTokens
import Derived.Lib.Hide
import Derived.BigQuiet
import Derived.Deep.QuietTactic
import Derived.IntWalk
import Derived.Deep.LoopGhost
import Derived.Test.YtpbhokmpbcmdcaaGreatDoorPkp3
/- Schemas in memory: what is read, what came in. Conditions: those that each theorem names. -/
namespace Go.Proofs.YtpbhokmpbcmdcaaGreatDoor
open Go.RowKit Go.ChangeShapes Go.WideShapes
set_option linter.unusedVariables false
set_option maxRecDepth 100000

def vlR (w : World) (cs : List Value) (x : Vl) : Prop := cs = [.string (strOf x.name), .int .i64 x.num]
def fdCells (f : Fd) : List Value := [.string (strOf f.name), .int .i64 f.num, .int .i64 f.ty, .string (strOf f.ref), .bool f.rep, .bool f.loose, .string (strOf f.one)]
def fdR (w : World) (cs : List Value) (x : Fd) : Prop := cs = fdCells x
def inR (w : World) (cs : List Value) (x : Int) : Prop := cs = [.int .i64 x]
def enR (S : Nat → Nat → Prop) (w : World) (cs : List Value) (x : En) : Prop := ∃ A cap, cs = [.string (strOf x.name), .slice A x.values.length cap] ∧ Lst 2 (S 0) vlR w A cap x.values
def msR (S : Nat → Nat → Prop) (w : World) (cs : List Value) (x : Ms) : Prop := ∃ A cap A2 cap2, cs = [.string (strOf x.name), .slice A x.fields.length cap, .slice A2 x.barred.length cap2] ∧ Lst 7 (S 1) fdR w A cap x.fields ∧ Lst 1 (S 2) inR w A2 cap2 x.barred
def scR (S : Nat → Nat → Prop) (w : World) (cs : List Value) (x : Sc) : Prop := ∃ A cap A2 cap2, cs = [.slice A x.enums.length cap, .slice A2 x.msgs.length cap2] ∧ Lst 2 (S 3) (enR S) w A cap x.enums ∧ Lst 3 (S 4) (msR S) w A2 cap2 x.msgs
def lenM : Nat := 140737488351232
def VlOk (x : Vl) : Prop := Int64 x.num ∧ x.name.length ≤ lenM
def FdOk (f : Fd) : Prop := Int64 f.num ∧ Int64 f.ty ∧ f.name.length ≤ lenM ∧ f.ref.length ≤ lenM ∧ f.one.length ≤ lenM
def EnOk (x : En) : Prop := x.name.length ≤ lenM ∧ x.values.length ≤ lenM ∧ ∀ v ∈ x.values, VlOk v
def MsOk (x : Ms) : Prop := x.name.length ≤ lenM ∧ x.fields.length ≤ lenM ∧ x.barred.length ≤ lenM ∧ (∀ f ∈ x.fields, FdOk f) ∧ ∀ n ∈ x.barred, Int64 n
def ScOk (x : Sc) : Prop := x.enums.length ≤ lenM ∧ x.msgs.length ≤ lenM ∧ (∀ e ∈ x.enums, EnOk e) ∧ ∀ m ∈ x.msgs, MsOk m

section
variable {S S' : Nat → Nat → Prop} {w w' : World} {cs : List Value}
theorem vlR_keep : ∀ cs (x : Vl), vlR w cs x → vlR w' cs x := fun _ _ h => h
theorem fdR_keep : ∀ cs (x : Fd), fdR w cs x → fdR w' cs x := fun _ _ h => h
theorem inR_keep : ∀ cs (x : Int), inR w cs x → inR w' cs x := fun _ _ h => h
theorem enR_keep (hS : ∀ k g, S k g → S' k g) (hk : ∀ k (p : Addr), S k p.block → p.block < w.heap.size → w'.cell? p = w.cell? p) : ∀ cs (x : En), enR S w cs x → enR S' w' cs x :=
  fun cs x ⟨A, cap, e, h⟩ => ⟨A, cap, e, lst_keep h vlR_keep (hS 0) (hk 0)⟩
theorem msR_keep (hS : ∀ k g, S k g → S' k g) (hk : ∀ k (p : Addr), S k p.block → p.block < w.heap.size → w'.cell? p = w.cell? p) : ∀ cs (x : Ms), msR S w cs x → msR S' w' cs x :=
  fun cs x ⟨A, cap, A2, cap2, e, h, h2⟩ => ⟨A, cap, A2, cap2, e, lst_keep h fdR_keep (hS 1) (hk 1), lst_keep h2 inR_keep (hS 2) (hk 2)⟩
theorem bel_keep {T : Nat → Prop} (hb : Below w.heap.size w w') : ∀ p : Addr, T p.block → p.block < w.heap.size → w'.cell? p = w.cell? p := fun p _ hp => hb.cell hp
end

section
variable {H : Type} {enc : TypeId × Value → H} {w : World} {base : Nat} {spare : Nat → Bool} {held : Bool} {fuel : Nat} {cs : List Value} {x : DataW H × List MemPlace}
theorem cs_str : Tryz.prog.cellsOf 9 = 1 := by kernel_rfl
theorem cs_int : Tryz.prog.cellsOf 3 = 1 := by kernel_rfl
theorem cs_bool : Tryz.prog.cellsOf 4 = 1 := by kernel_rfl
theorem cs_Vl : Tryz.prog.cellsOf 44 = 2 := by kernel_rfl
theorem cs_Fd : Tryz.prog.cellsOf 39 = 7 := by kernel_rfl
theorem cs_En : Tryz.prog.cellsOf 42 = 2 := by kernel_rfl
theorem cs_Ms : Tryz.prog.cellsOf 37 = 3 := by kernel_rfl
theorem cs_Sc : Tryz.prog.cellsOf 25 = 2 := by kernel_rfl
theorem cs_lVl : Tryz.prog.cellsOf 40 = 1 := by kernel_rfl
theorem by_Vl : 1 ≤ Tryz.prog.bytesOf 44 := of_decide_eq_true (by kernel_rfl)
theorem cs_lFd : Tryz.prog.cellsOf 34 = 1 := by kernel_rfl
theorem by_Fd : 1 ≤ Tryz.prog.bytesOf 39 := of_decide_eq_true (by kernel_rfl)
theorem cs_lEn : Tryz.prog.cellsOf 22 = 1 := by kernel_rfl
theorem by_En : 1 ≤ Tryz.prog.bytesOf 42 := of_decide_eq_true (by kernel_rfl)
theorem cs_lMs : Tryz.prog.cellsOf 23 = 1 := by kernel_rfl
theorem by_Ms : 1 ≤ Tryz.prog.bytesOf 37 := of_decide_eq_true (by kernel_rfl)
theorem cs_lIn : Tryz.prog.cellsOf 35 = 1 := by kernel_rfl
theorem by_In : 1 ≤ Tryz.prog.bytesOf 3 := of_decide_eq_true (by kernel_rfl)
theorem str_data (s : ByteArray) : s = strOf s.data.toList := by cases s; simp [strOf]
theorem len_all {P : Program} {e : TypeId} {y : DataW H} {n : Nat} (h : ∀ n ∈ y.weights P e, n ≤ lenM) (he : y.weights P e = [n]) : n ≤ lenM := h n (by rw [he]; simp)
theorem in_came : ∀ fuel cs (x : DataW H × List MemPlace), DataW.trod enc Tryz.prog w base spare held fuel 3 cs = some x → (∀ n ∈ x.1.weights Tryz.prog 3, n ≤ lenM) → ∃ v : Int, inR w cs v ∧ Int64 v := by
  intro fuel cs x h _
  obtain ⟨n, q, z, ww⟩ := DataW.trod_int Tryz.underlying3 h
  exact ⟨n, q, i64_came ww⟩
theorem vl_came : ∀ fuel cs (x : DataW H × List MemPlace), DataW.trod enc Tryz.prog w base spare held fuel 44 cs = some x → (∀ n ∈ x.1.weights Tryz.prog 44, n ≤ lenM) → ∃ v : Vl, vlR w cs v ∧ VlOk v := by
  intro fuel cs x h hz
  obtain ⟨ys, m, _, rfl, hl, hn, he⟩ := DataW.trod_struct Tryz.underlying44 h
  rw [cs_Vl] at hl
  match cs, hl, ys, hn with
  | [v0, v1], _, [y0, y1], _ =>
    have hw : ∀ n ∈ DataW.weightsEach Tryz.prog [9, 3] [y0.1, y1.1], n ≤ lenM := by
      intro n hn
      apply hz
      simp only [DataW.weights, Tryz.underlying44]
      exact hn
    have g0 : DataW.trod enc Tryz.prog w base spare held m 9 (([v0, v1].drop 0).take (Tryz.prog.cellsOf 9)) = some y0 := he 0 _ rfl
    have w0 : ∀ n ∈ y0.1.weights Tryz.prog 9, n ≤ lenM := fun n hn => hw n (DataW.weights_mem_each (j := 0) rfl rfl n hn)
    rw [cs_str] at g0
    have g1 : DataW.trod enc Tryz.prog w base spare held m 3 (([v0, v1].drop 1).take (Tryz.prog.cellsOf 3)) = some y1 := he 1 _ rfl
    have w1 : ∀ n ∈ y1.1.weights Tryz.prog 3, n ≤ lenM := fun n hn => hw n (DataW.weights_mem_each (j := 1) rfl rfl n hn)
    rw [cs_int] at g1
    simp only [List.drop_zero, List.drop_succ_cons, List.take_succ_cons, List.take_zero] at g0 g1
    obtain ⟨s0, q0, z0, _⟩ := DataW.trod_string Tryz.underlying9 g0
    have b0 : s0.data.toList.length ≤ lenM := len_all w0 (by rw [z0]; rfl)
    obtain ⟨s1, q1, z1, b1⟩ := DataW.trod_int Tryz.underlying3 g1
    simp only [List.cons.injEq, and_true] at q0 q1
    subst q0 q1
    exact ⟨⟨s0.data.toList, s1⟩, by unfold vlR; rw [← str_data], i64_came b1, b0⟩

theorem fd_came : ∀ fuel cs (x : DataW H × List MemPlace), DataW.trod enc Tryz.prog w base spare held fuel 39 cs = some x → (∀ n ∈ x.1.weights Tryz.prog 39, n ≤ lenM) → ∃ v : Fd, fdR w cs v ∧ FdOk v := by
  intro fuel cs x h hz
  obtain ⟨ys, m, _, rfl, hl, hn, he⟩ := DataW.trod_struct Tryz.underlying39 h
  rw [cs_Fd] at hl
  match cs, hl, ys, hn with
  | [v0, v1, v2, v3, v4, v5, v6], _, [y0, y1, y2, y3, y4, y5, y6], _ =>
    have hw : ∀ n ∈ DataW.weightsEach Tryz.prog [9, 3, 3, 9, 4, 4, 9] [y0.1, y1.1, y2.1, y3.1, y4.1, y5.1, y6.1], n ≤ lenM := by
      intro n hn
      apply hz
      simp only [DataW.weights, Tryz.underlying39]
      exact hn
    have g0 : DataW.trod enc Tryz.prog w base spare held m 9 (([v0, v1, v2, v3, v4, v5, v6].drop 0).take (Tryz.prog.cellsOf 9)) = some y0 := he 0 _ rfl
    have w0 : ∀ n ∈ y0.1.weights Tryz.prog 9, n ≤ lenM := fun n hn => hw n (DataW.weights_mem_each (j := 0) rfl rfl n hn)
    rw [cs_str] at g0
    have g1 : DataW.trod enc Tryz.prog w base spare held m 3 (([v0, v1, v2, v3, v4, v5, v6].drop 1).take (Tryz.prog.cellsOf 3)) = some y1 := he 1 _ rfl
    have w1 : ∀ n ∈ y1.1.weights Tryz.prog 3, n ≤ lenM := fun n hn => hw n (DataW.weights_mem_each (j := 1) rfl rfl n hn)
    rw [cs_int] at g1
    have g2 : DataW.trod enc Tryz.prog w base spare held m 3 (([v0, v1, v2, v3, v4, v5, v6].drop 2).take (Tryz.prog.cellsOf 3)) = some y2 := he 2 _ rfl
    have w2 : ∀ n ∈ y2.1.weights Tryz.prog 3, n ≤ lenM := fun n hn => hw n (DataW.weights_mem_each (j := 2) rfl rfl n hn)
    rw [cs_int] at g2
    have g3 : DataW.trod enc Tryz.prog w base spare held m 9 (([v0, v1, v2, v3, v4, v5, v6].drop 3).take (Tryz.prog.cellsOf 9)) = some y3 := he 3 _ rfl
    have w3 : ∀ n ∈ y3.1.weights Tryz.prog 9, n ≤ lenM := fun n hn => hw n (DataW.weights_mem_each (j := 3) rfl rfl n hn)
    rw [cs_str] at g3
    have g4 : DataW.trod enc Tryz.prog w base spare held m 4 (([v0, v1, v2, v3, v4, v5, v6].drop 4).take (Tryz.prog.cellsOf 4)) = some y4 := he 4 _ rfl
    have w4 : ∀ n ∈ y4.1.weights Tryz.prog 4, n ≤ lenM := fun n hn => hw n (DataW.weights_mem_each (j := 4) rfl rfl n hn)
    rw [cs_bool] at g4
    have g5 : DataW.trod enc Tryz.prog w base spare held m 4 (([v0, v1, v2, v3, v4, v5, v6].drop 5).take (Tryz.prog.cellsOf 4)) = some y5 := he 5 _ rfl
    have w5 : ∀ n ∈ y5.1.weights Tryz.prog 4, n ≤ lenM := fun n hn => hw n (DataW.weights_mem_each (j := 5) rfl rfl n hn)
    rw [cs_bool] at g5
    have g6 : DataW.trod enc Tryz.prog w base spare held m 9 (([v0, v1, v2, v3, v4, v5, v6].drop 6).take (Tryz.prog.cellsOf 9)) = some y6 := he 6 _ rfl
    have w6 : ∀ n ∈ y6.1.weights Tryz.prog 9, n ≤ lenM := fun n hn => hw n (DataW.weights_mem_each (j := 6) rfl rfl n hn)
    rw [cs_str] at g6
    simp only [List.drop_zero, List.drop_succ_cons, List.take_succ_cons, List.take_zero] at g0 g1 g2 g3 g4 g5 g6
    obtain ⟨s0, q0, z0, _⟩ := DataW.trod_string Tryz.underlying9 g0
    have b0 : s0.data.toList.length ≤ lenM := len_all w0 (by rw [z0]; rfl)
    obtain ⟨s1, q1, z1, b1⟩ := DataW.trod_int Tryz.underlying3 g1
    obtain ⟨s2, q2, z2, b2⟩ := DataW.trod_int Tryz.underlying3 g2
    obtain ⟨s3, q3, z3, _⟩ := DataW.trod_string Tryz.underlying9 g3
    have b3 : s3.data.toList.length ≤ lenM := len_all w3 (by rw [z3]; rfl)
    obtain ⟨s4, q4, z4⟩ := DataW.trod_bool Tryz.underlying4 g4
    obtain ⟨s5, q5, z5⟩ := DataW.trod_bool Tryz.underlying4 g5
    obtain ⟨s6, q6, z6, _⟩ := DataW.trod_string Tryz.underlying9 g6
    have b6 : s6.data.toList.length ≤ lenM := len_all w6 (by rw [z6]; rfl)
    simp only [List.cons.injEq, and_true] at q0 q1 q2 q3 q4 q5 q6
    subst q0 q1 q2 q3 q4 q5 q6
    exact ⟨⟨s0.data.toList, s1, s2, s3.data.toList, s4, s5, s6.data.toList⟩, by unfold fdR fdCells; rw [← str_data, ← str_data, ← str_data], i64_came b1, i64_came b2, b0, b3, b6⟩

instance : Inhabited Vl := ⟨⟨[], 0⟩⟩
instance : Inhabited Fd := ⟨⟨[], 0, 0, [], false, false, []⟩⟩
instance : Inhabited En := ⟨⟨[], []⟩⟩
instance : Inhabited Ms := ⟨⟨[], [], []⟩⟩
theorem en_came : ∀ fuel cs (x : DataW H × List MemPlace), DataW.trod enc Tryz.prog w base spare held fuel 42 cs = some x → (∀ n ∈ x.1.weights Tryz.prog 42, n ≤ lenM) → ∃ v : En, enR (fun _ g => g < w.heap.size) w cs v ∧ EnOk v := by
  intro fuel cs x h hz
  obtain ⟨ys, m, _, rfl, hl, hn, he⟩ := DataW.trod_struct Tryz.underlying42 h
  rw [cs_En] at hl
  match cs, hl, ys, hn with
  | [v0, v1], _, [y0, y1], _ =>
    have hw : ∀ n ∈ DataW.weightsEach Tryz.prog [9, 40] [y0.1, y1.1], n ≤ lenM := by
      intro n hn
      apply hz
      simp only [DataW.weights, Tryz.underlying42]
      exact hn
    have g0 : DataW.trod enc Tryz.prog w base spare held m 9 (([v0, v1].drop 0).take (Tryz.prog.cellsOf 9)) = some y0 := he 0 _ rfl
    have w0 : ∀ n ∈ y0.1.weights Tryz.prog 9, n ≤ lenM := fun n hn => hw n (DataW.weights_mem_each (j := 0) rfl rfl n hn)
    rw [cs_str] at g0
    have g1 : DataW.trod enc Tryz.prog w base spare held m 40 (([v0, v1].drop 1).take (Tryz.prog.cellsOf 40)) = some y1 := he 1 _ rfl
    have w1 : ∀ n ∈ y1.1.weights Tryz.prog 40, n ≤ lenM := fun n hn => hw n (DataW.weights_mem_each (j := 1) rfl rfl n hn)
    rw [cs_lVl] at g1
    simp only [List.drop_zero, List.drop_succ_cons, List.take_succ_cons, List.take_zero] at g0 g1
    obtain ⟨s0, q0, z0, _⟩ := DataW.trod_string Tryz.underlying9 g0
    have b0 : s0.data.toList.length ≤ lenM := len_all w0 (by rw [z0]; rfl)
    obtain ⟨s1, A1, cap1, q1, b1, c1, d1⟩ := lst_came (k := 2) (M := lenM) Tryz.underlying40 cs_Vl (by decide) by_Vl vl_came g1 w1
    simp only [List.cons.injEq, and_true] at q0 q1
    subst q0 q1
    exact ⟨⟨s0.data.toList, s1⟩, ⟨A1, cap1, by rw [← str_data], b1⟩, b0, d1, c1⟩

theorem ms_came : ∀ fuel cs (x : DataW H × List MemPlace), DataW.trod enc Tryz.prog w base spare held fuel 37 cs = some x → (∀ n ∈ x.1.weights Tryz.prog 37, n ≤ lenM) → ∃ v : Ms, msR (fun _ g => g < w.heap.size) w cs v ∧ MsOk v := by
  intro fuel cs x h hz
  obtain ⟨ys, m, _, rfl, hl, hn, he⟩ := DataW.trod_struct Tryz.underlying37 h
  rw [cs_Ms] at hl
  match cs, hl, ys, hn with
  | [v0, v1, v2], _, [y0, y1, y2], _ =>
    have hw : ∀ n ∈ DataW.weightsEach Tryz.prog [9, 34, 35] [y0.1, y1.1, y2.1], n ≤ lenM := by
      intro n hn
      apply hz
      simp only [DataW.weights, Tryz.underlying37]
      exact hn
    have g0 : DataW.trod enc Tryz.prog w base spare held m 9 (([v0, v1, v2].drop 0).take (Tryz.prog.cellsOf 9)) = some y0 := he 0 _ rfl
    have w0 : ∀ n ∈ y0.1.weights Tryz.prog 9, n ≤ lenM := fun n hn => hw n (DataW.weights_mem_each (j := 0) rfl rfl n hn)
    rw [cs_str] at g0
    have g1 : DataW.trod enc Tryz.prog w base spare held m 34 (([v0, v1, v2].drop 1).take (Tryz.prog.cellsOf 34)) = some y1 := he 1 _ rfl
    have w1 : ∀ n ∈ y1.1.weights Tryz.prog 34, n ≤ lenM := fun n hn => hw n (DataW.weights_mem_each (j := 1) rfl rfl n hn)
    rw [cs_lFd] at g1
    have g2 : DataW.trod enc Tryz.prog w base spare held m 35 (([v0, v1, v2].drop 2).take (Tryz.prog.cellsOf 35)) = some y2 := he 2 _ rfl
    have w2 : ∀ n ∈ y2.1.weights Tryz.prog 35, n ≤ lenM := fun n hn => hw n (DataW.weights_mem_each (j := 2) rfl rfl n hn)
    rw [cs_lIn] at g2
    simp only [List.drop_zero, List.drop_succ_cons, List.take_succ_cons, List.take_zero] at g0 g1 g2
    obtain ⟨s0, q0, z0, _⟩ := DataW.trod_string Tryz.underlying9 g0
    have b0 : s0.data.toList.length ≤ lenM := len_all w0 (by rw [z0]; rfl)
    obtain ⟨s1, A1, cap1, q1, b1, c1, d1⟩ := lst_came (k := 7) (M := lenM) Tryz.underlying34 cs_Fd (by decide) by_Fd fd_came g1 w1
    obtain ⟨s2, A2, cap2, q2, b2, c2, d2⟩ := lst_came (k := 1) (M := lenM) Tryz.underlying35 cs_int (by decide) by_In in_came g2 w2
    simp only [List.cons.injEq, and_true] at q0 q1 q2
    subst q0 q1 q2
    exact ⟨⟨s0.data.toList, s1, s2⟩, ⟨A1, cap1, A2, cap2, by rw [← str_data], b1, b2⟩, b0, d1, d2, c1, c2⟩

theorem sc_came : ∀ fuel cs (x : DataW H × List MemPlace), DataW.trod enc Tryz.prog w base spare held fuel 25 cs = some x → (∀ n ∈ x.1.weights Tryz.prog 25, n ≤ lenM) → ∃ v : Sc, scR (fun _ g => g < w.heap.size) w cs v ∧ ScOk v := by
  intro fuel cs x h hz
  obtain ⟨ys, m, _, rfl, hl, hn, he⟩ := DataW.trod_struct Tryz.underlying25 h
  rw [cs_Sc] at hl
  match cs, hl, ys, hn with
  | [v0, v1], _, [y0, y1], _ =>
    have hw : ∀ n ∈ DataW.weightsEach Tryz.prog [22, 23] [y0.1, y1.1], n ≤ lenM := by
      intro n hn
      apply hz
      simp only [DataW.weights, Tryz.underlying25]
      exact hn
    have g0 : DataW.trod enc Tryz.prog w base spare held m 22 (([v0, v1].drop 0).take (Tryz.prog.cellsOf 22)) = some y0 := he 0 _ rfl
    have w0 : ∀ n ∈ y0.1.weights Tryz.prog 22, n ≤ lenM := fun n hn => hw n (DataW.weights_mem_each (j := 0) rfl rfl n hn)
    rw [cs_lEn] at g0
    have g1 : DataW.trod enc Tryz.prog w base spare held m 23 (([v0, v1].drop 1).take (Tryz.prog.cellsOf 23)) = some y1 := he 1 _ rfl
    have w1 : ∀ n ∈ y1.1.weights Tryz.prog 23, n ≤ lenM := fun n hn => hw n (DataW.weights_mem_each (j := 1) rfl rfl n hn)
    rw [cs_lMs] at g1
    simp only [List.drop_zero, List.drop_succ_cons, List.take_succ_cons, List.take_zero] at g0 g1
    obtain ⟨s0, A0, cap0, q0, b0, c0, d0⟩ := lst_came (k := 2) (M := lenM) Tryz.underlying22 cs_En (by decide) by_En en_came g0 w0
    obtain ⟨s1, A1, cap1, q1, b1, c1, d1⟩ := lst_came (k := 3) (M := lenM) Tryz.underlying23 cs_Ms (by decide) by_Ms ms_came g1 w1
    simp only [List.cons.injEq, and_true] at q0 q1
    subst q0 q1
    exact ⟨⟨s0, s1⟩, ⟨A0, cap0, A1, cap1, rfl, b0, b1⟩, d0, d1, c0, c1⟩

end
end Go.Proofs.YtpbhokmpbcmdcaaGreatDoor

/- Schemas in memory, as the walks ask for them: a schema that was handed over, one thing of a list, the box that a call keeps it in. Conditions: those that each theorem names. -/
namespace Go.Proofs.YtpbhokmpbcmdcaaGreatDoor
open Go.RowKit
set_option linter.unusedVariables false
set_option maxRecDepth 100000

/-- A schema as it is handed over. -/
structure ScAt (S : Nat → Nat → Prop) (w : World) (A : Option Addr) (n cap : Nat) (A2 : Option Addr) (n2 cap2 : Nat) (s : Sc) : Prop where
  s_e : Lst 2 (S 3) (enR S) w A cap s.enums
  s_m : Lst 3 (S 4) (msR S) w A2 cap2 s.msgs
  s_ne : n = s.enums.length
  s_nm : n2 = s.msgs.length
theorem scAt_bel {S : Nat → Nat → Prop} {w w' : World} {A A2 : Option Addr} {n cap n2 cap2 : Nat} {s : Sc} (h : ScAt S w A n cap A2 n2 cap2 s) (hb : Below w.heap.size w w') : ScAt S w' A n cap A2 n2 cap2 s :=
  ⟨lst_keep h.s_e (enR_keep (fun _ _ h => h) (fun _ => bel_keep hb)) (fun _ h => h) (bel_keep hb), lst_keep h.s_m (msR_keep (fun _ _ h => h) (fun _ => bel_keep hb)) (fun _ h => h) (bel_keep hb), h.s_ne, h.s_nm⟩
theorem scAt_max {S : Nat → Nat → Prop} {w : World} {A A2 : Option Addr} {n cap n2 cap2 : Nat} {s : Sc} (h : ScAt S w A n cap A2 n2 cap2 s) : n ≤ cap ∧ cap ≤ 9223372036854775807 ∧ n2 ≤ cap2 ∧ cap2 ≤ 9223372036854775807 := by
  have h1 := h.s_e.l_le
  have h2 := h.s_e.l_max
  have h3 := h.s_m.l_le
  have h4 := h.s_m.l_max
  unfold maxLen at h2 h4
  rw [← h.s_ne] at h1
  rw [← h.s_nm] at h3
  exact ⟨h1, h2, h3, h4⟩

/-- The call's own box stands as it was made; all that is older is as it was. -/
structure Bx (w wr : World) (o : Obj) : Prop where
  b_bel : Below w.heap.size w wr
  b_blk : wr.heap[w.heap.size]? = some o
theorem bx_start (w : World) (cs : Array Value) (t : TypeId) : Bx w (w.alloc (.cells cs t)) (.cells cs t (0, 0)) := ⟨(Below.refl _ w).alloc (Nat.le_refl _) _, heap_alloc_new w _⟩
theorem bx_step {w wr w2 : World} {o : Obj} (h : Bx w wr o) (hb : Below wr.heap.size wr w2) : Bx w w2 o := ⟨h.b_bel.trans (hb.mono h.b_bel.size), (hb.block _ (lt_of_block h.b_blk)).trans h.b_blk⟩
theorem drewN_under (w : World) (n : Nat) : Below w.heap.size w (w.drewN n) := ⟨rfl, rfl, rfl, Nat.le_refl _, fun _ _ => rfl⟩
theorem bx_drew {w wr : World} {o : Obj} (h : Bx w wr o) (k : Nat) : Bx w (wr.drewN k) o := bx_step h (drewN_under wr k)
theorem cell_under {w wr : World} {p : Addr} {v : Value} (hb : Below w.heap.size w wr) (h : w.cell? p = some v) : wr.cell? p = some v := (hb.cell (World.block_lt_of_cell? w _ h)).trans h
section
variable {S : Nat → Prop} {w : World} {A : Option Addr} {cap i : Nat}
theorem vl_at {l : List Vl} {x : Vl} (h : Lst 2 S vlR w A cap l) (hi : l[i]? = some x) : ∃ g off, A = some ⟨g, off, none⟩ ∧ S g ∧ ∀ wr, Below w.heap.size w wr → wr.cell? ⟨g, off + i * 2, none⟩ = some (.string (strOf x.name)) ∧ wr.cell? ⟨g, off + i * 2 + 1, none⟩ = some (.int .i64 x.num) := by
  obtain ⟨g, off, cs, e, hs, _, rfl, hc⟩ := h.l_at i x hi
  exact ⟨g, off, e, hs, fun wr hb => ⟨cell_under hb (hc 0 _ rfl), cell_under hb (hc 1 _ rfl)⟩⟩
theorem fd_at {l : List Fd} {x : Fd} (h : Lst 7 S fdR w A cap l) (hi : l[i]? = some x) : ∃ g off, A = some ⟨g, off, none⟩ ∧ S g ∧ ∀ wr, Below w.heap.size w wr → wr.cell? ⟨g, off + i * 7, none⟩ = some (.string (strOf x.name)) ∧ wr.cell? ⟨g, off + i * 7 + 1, none⟩ = some (.int .i64 x.num) ∧ wr.cell? ⟨g, off + i * 7 + 2, none⟩ = some (.int .i64 x.ty) ∧ wr.cell? ⟨g, off + i * 7 + 3, none⟩ = some (.string (strOf x.ref)) ∧ wr.cell? ⟨g, off + i * 7 + 4, none⟩ = some (.bool x.rep) ∧ wr.cell? ⟨g, off + i * 7 + 5, none⟩ = some (.bool x.loose) ∧ wr.cell? ⟨g, off + i * 7 + 6, none⟩ = some (.string (strOf x.one)) := by
  obtain ⟨g, off, cs, e, hs, _, rfl, hc⟩ := h.l_at i x hi
  exact ⟨g, off, e, hs, fun wr hb => ⟨cell_under hb (hc 0 _ rfl), cell_under hb (hc 1 _ rfl), cell_under hb (hc 2 _ rfl), cell_under hb (hc 3 _ rfl), cell_under hb (hc 4 _ rfl), cell_under hb (hc 5 _ rfl), cell_under hb (hc 6 _ rfl)⟩⟩
theorem in_at {l : List Int} {x : Int} (h : Lst 1 S inR w A cap l) (hi : l[i]? = some x) : ∃ g off, A = some ⟨g, off, none⟩ ∧ S g ∧ ∀ wr, Below w.heap.size w wr → wr.cell? ⟨g, off + i, none⟩ = some (.int .i64 x) := by
  obtain ⟨g, off, cs, e, hs, _, rfl, hc⟩ := h.l_at i x hi
  exact ⟨g, off, e, hs, fun wr hb => cell_under hb (by have := hc 0 _ rfl; rwa [Nat.mul_one] at this)⟩
theorem en_at {S : Nat → Nat → Prop} {l : List En} {x : En} (h : Lst 2 (S 3) (enR S) w A cap l) (hi : l[i]? = some x) : ∃ g off A1 cap1, A = some ⟨g, off, none⟩ ∧ S 3 g ∧ (∀ wr, Below w.heap.size w wr → wr.cell? ⟨g, off + i * 2, none⟩ = some (.string (strOf x.name)) ∧ wr.cell? ⟨g, off + i * 2 + 1, none⟩ = some (.slice A1 x.values.length cap1)) ∧ Lst 2 (S 0) vlR w A1 cap1 x.values := by
  obtain ⟨g, off, cs, e, hs, _, ⟨A1, cap1, rfl, h1⟩, hc⟩ := h.l_at i x hi
  exact ⟨g, off, A1, cap1, e, hs, fun wr hb => ⟨cell_under hb (hc 0 _ rfl), cell_under hb (hc 1 _ rfl)⟩, h1⟩
theorem ms_at {S : Nat → Nat → Prop} {l : List Ms} {x : Ms} (h : Lst 3 (S 4) (msR S) w A cap l) (hi : l[i]? = some x) : ∃ g off A1 cap1 A2 cap2, A = some ⟨g, off, none⟩ ∧ S 4 g ∧ (∀ wr, Below w.heap.size w wr → wr.cell? ⟨g, off + i * 3, none⟩ = some (.string (strOf x.name)) ∧ wr.cell? ⟨g, off + i * 3 + 1, none⟩ = some (.slice A1 x.fields.length cap1) ∧ wr.cell? ⟨g, off + i * 3 + 2, none⟩ = some (.slice A2 x.barred.length cap2)) ∧ Lst 7 (S 1) fdR w A1 cap1 x.fields ∧ Lst 1 (S 2) inR w A2 cap2 x.barred := by
  obtain ⟨g, off, cs, e, hs, _, ⟨A1, cap1, A2, cap2, rfl, h1, h2⟩, hc⟩ := h.l_at i x hi
  exact ⟨g, off, A1, cap1, A2, cap2, e, hs, fun wr hb => ⟨cell_under hb (hc 0 _ rfl), cell_under hb (hc 1 _ rfl), cell_under hb (hc 2 _ rfl)⟩, h1, h2⟩
end
end Go.Proofs.YtpbhokmpbcmdcaaGreatDoor

/- append of numbers onto a row of numbers of the call's own. Conditions: those that each theorem names. -/
namespace Go.Proofs.YtpbhokmpbcmdcaaGreatDoor
open Go.RowKit
set_option linter.unusedVariables false
set_option maxRecDepth 100000

/-- The cells of numbers. -/
def zcell (x : Int) : List Value := [.int .i64 x]
def zs (l : List Int) : List Value := l.flatMap zcell
theorem zcell_length (x : Int) : (zcell x).length = 1 := rfl
theorem zs_length (l : List Int) : (zs l).length = l.length := by
  have := flat_length zcell 1 zcell_length l
  unfold zs
  omega
theorem zs_append (a b : List Int) : zs (a ++ b) = zs a ++ zs b := by simp [zs]
theorem zs_one (l : List Int) : ∀ u ∈ zs l, u.oneCell' = true := by
  intro u hu
  obtain ⟨x, _, hx⟩ := List.mem_flatMap.1 hu
  simp [zcell] at hx
  subst hx
  rfl
theorem info_int1 : (Tryz.prog.info? 3).map (fun i => (i.zero, i.size, i.bytes)) = some (some (.int .i64 0), 1, 8) := by kernel_rfl
/-- A literal list of one number. -/
theorem sl_int1 (w : World) (t : TypeId) (x : Int) : Sl (w.alloc (.cells #[.int .i64 x] t)) (some ⟨w.heap.size, 0, none⟩) 1 (zs [x]) := by
  refine ⟨Nat.le_refl _, by decide, (fun h => by cases h), fun j u hj => ⟨_, _, rfl, ?_⟩⟩
  rw [cell_of_row _ w.heap.size (0 + j) _ t (0, 0) (heap_alloc_new w _), Nat.zero_add, ← Array.getElem?_toList]
  exact hj
theorem wpList_append_zs {w : World} {ops : Array Oper} {rest : List Oper} {o : Oper} {a : Act} {Q : Exit → Act → World → Prop} (hgd : o.guard = none) (s x : Operand)
    (ho : o.op = .call { callee := .builtin .append, args := #[s, x], argTypes := #[35, 35] })
    (base : Nat) (v : Value) (n : Nat) (pre : List Int) (hs : a.eval s = v) (hown : w.ownsRow base 3 1 v n (zs pre))
    (A : Option Addr) (m c : Nat) (bs : List Int) (hx : a.eval x = .slice A m c) (hm : m = bs.length) (hb : Sl w A c (zs bs))
    (h47 : pre.length + bs.length ≤ 1000000) (hbase : base ≤ w.heap.size)
    (h : ∀ v' w', w'.ownsRow base 3 1 v' (pre.length + bs.length) (zs (pre ++ bs)) → w.grownBy w' v.ownBlock → wpList Tryz.prog ops Q rest (a.put o.dst v') w') : wpList Tryz.prog ops Q (o :: rest) a w := by
  obtain ⟨i, hi, hz, hsize, hby⟩ := info_parts info_int1
  subst hm
  obtain ⟨hn, _⟩ := Sl.own hown
  rw [zs_length] at hn
  subst hn
  rcases A with _ | ad
  · have h0 := hb.nil rfl
    have hle := hb.le
    rw [zs_length] at hle
    have hbs : bs = [] := List.eq_nil_of_length_eq_zero (by omega)
    subst hbs h0
    refine wpList_plain hgd fun K hK' => ?_
    have hrun := run_append_owned_none (P := Tryz.prog) w base 35 o.type 3 i 1 Tryz.underlying35 hi v pre.length (zs pre) hown
    unfold Oper.wp
    simp [execOp, ho, resolve, invoke, builtin, hs, hx, hrun, Result.andThen]
    exact hK' _ _ (h v w (by simpa using hown) (World.grownBy.refl _ _))
  · exact wpList_append_own w hgd s x 35 ho base 3 i (.int .i64 0) 1 8 Tryz.underlying35 hi hz hsize hby rfl (by decide) v pre.length (zs pre) hs hown ad bs.length c (zs bs) hx
      (by rw [zs_length]; omega) (fun j u hu => by
        obtain ⟨bl, off, ea, hcell⟩ := hb.at_ j u hu
        cases ea
        have hplain : (⟨bl, off, none⟩ : Addr).add j = ⟨bl, off + j, none⟩ := by unfold Addr.add; split <;> simp_all
        rw [hplain]; exact hcell) (zs_one bs) (by unfold maxLen; omega) (by omega) hbase (fun v' w' h1 h2 _ => h v' w' (by rw [zs_append]; exact h1) h2)
/-- Such a row as a list of numbers. -/
theorem zs_own {w : World} {base n : Nat} {v : Value} {l : List Int} (h : w.ownsRow base 3 1 v n (zs l)) : n = l.length ∧ ∃ A cap, v = .slice A l.length cap ∧ Lst 1 (fun g => base ≤ g ∧ g < w.heap.size) inR w A cap l :=
  lst_own (R := inR) (by decide) zcell_length (fun x _ => rfl) h
end Go.Proofs.YtpbhokmpbcmdcaaGreatDoor

/- The document's layer 15: too many, none. Conditions: those that each theorem names. -/
namespace Go.Proofs.YtpbhokmpbcmdcaaGreatDoor
open Go.RowKit
set_option linter.unusedVariables false
set_option maxRecDepth 100000

theorem nat_eqz (k : Nat) : ((k : Int) == 0) = decide (k = 0) := by
  rw [Bool.eq_iff_iff, beq_iff_eq, decide_eq_true_iff]
  omega

end Go.Proofs.YtpbhokmpbcmdcaaGreatDoor

/- Two schemas side by side: what is the same, two boxes, numbers compared. Conditions: those that each theorem names. -/
namespace Go.Proofs.YtpbhokmpbcmdcaaGreatDoor
open Go.RowKit
set_option linter.unusedVariables false
set_option maxRecDepth 100000

instance : DecidableEq Vl := fun ⟨a, b⟩ ⟨c, d⟩ => if h : a = c ∧ b = d then .isTrue (by rw [h.1, h.2]) else .isFalse (fun e => by injection e with e1 e2; exact h ⟨e1, e2⟩)
instance : DecidableEq Fd := fun ⟨a, b, c, d, e, f, g⟩ ⟨a', b', c', d', e', f', g'⟩ =>
  if h : a = a' ∧ b = b' ∧ c = c' ∧ d = d' ∧ e = e' ∧ f = f' ∧ g = g' then .isTrue (by obtain ⟨rfl, rfl, rfl, rfl, rfl, rfl, rfl⟩ := h; rfl)
  else .isFalse (fun e => by injection e with e1 e2 e3 e4 e5 e6 e7; exact h ⟨e1, e2, e3, e4, e5, e6, e7⟩)
instance : DecidableEq En := fun ⟨a, b⟩ ⟨c, d⟩ => if h : a = c ∧ b = d then .isTrue (by rw [h.1, h.2]) else .isFalse (fun e => by injection e with e1 e2; exact h ⟨e1, e2⟩)
instance : DecidableEq Ms := fun ⟨a, b, x⟩ ⟨c, d, y⟩ => if h : a = c ∧ b = d ∧ x = y then .isTrue (by rw [h.1, h.2.1, h.2.2]) else .isFalse (fun e => by injection e with e1 e2 e3; exact h ⟨e1, e2, e3⟩)
instance : DecidableEq Sc := fun ⟨a, b⟩ ⟨c, d⟩ => if h : a = c ∧ b = d then .isTrue (by rw [h.1, h.2]) else .isFalse (fun e => by injection e with e1 e2; exact h ⟨e1, e2⟩)

theorem lists_eq {α : Type} {l m : List α} (hn : l.length = m.length) (h : ∀ (j : Nat) a b, l[j]? = some a → m[j]? = some b → a = b) : l = m :=
  List.ext_getElem hn (fun j h1 h2 => h j _ _ (List.getElem?_eq_getElem h1) (List.getElem?_eq_getElem h2))
theorem lists_ne {α : Type} {l m : List α} {j : Nat} {a b : α} (ha : l[j]? = some a) (hb : m[j]? = some b) (h : ¬ a = b) : ¬ l = m := fun e => by
  subst e
  rw [ha] at hb
  exact h (Option.some.inj hb)

/-- Two boxes of the call's own. -/
structure Bx2 (w wr : World) (o p : Obj) : Prop where
  b2_bel : Below w.heap.size w wr
  b2_one : wr.heap[w.heap.size]? = some o
  b2_two : wr.heap[w.heap.size + 1]? = some p
theorem bx2_start (w : World) (cs ds : Array Value) (t u : TypeId) : Bx2 w ((w.alloc (.cells cs t)).alloc (.cells ds u)) (.cells cs t (0, 0)) (.cells ds u (0, 0)) :=
  ⟨((Below.refl _ w).alloc (Nat.le_refl _) _).alloc (by simp) _, (Below.heap_alloc _ _ _ (by simp)).trans (heap_alloc_new w _), by have h := heap_alloc_new (w.alloc (.cells cs t)) (.cells ds u); rw [World.size_alloc] at h; exact h⟩
theorem bx2_step {w wr w2 : World} {o p : Obj} (h : Bx2 w wr o p) (hb : Below wr.heap.size wr w2) : Bx2 w w2 o p :=
  ⟨h.b2_bel.trans (hb.mono h.b2_bel.size), (hb.block _ (lt_of_block h.b2_one)).trans h.b2_one, (hb.block _ (lt_of_block h.b2_two)).trans h.b2_two⟩

theorem run_neq_vl (a b : Vl) (w : World) : (binOp .neq 44 (.agg #[.string (strOf a.name), .int .i64 a.num]) (.agg #[.string (strOf b.name), .int .i64 b.num])).run Tryz.prog w = .ok (.bool (!decide (a = b))) w := by
  obtain ⟨n1, x1⟩ := a
  obtain ⟨n2, x2⟩ := b
  go_simp
  rw [ByteArray.toList_eq, ByteArray.toList_eq, show (strOf n1).data.toList = n1 by simp [strOf], show (strOf n2).data.toList = n2 by simp [strOf]]
  by_cases h1 : n1 = n2 <;> by_cases h2 : x1 = x2 <;> simp [h1, h2]
theorem run_neq_fd (a b : Fd) (w : World) : (binOp .neq 39 (.agg #[.string (strOf a.name), .int .i64 a.num, .int .i64 a.ty, .string (strOf a.ref), .bool a.rep, .bool a.loose, .string (strOf a.one)]) (.agg #[.string (strOf b.name), .int .i64 b.num, .int .i64 b.ty, .string (strOf b.ref), .bool b.rep, .bool b.loose, .string (strOf b.one)])).run Tryz.prog w = .ok (.bool (!decide (a = b))) w := by
  obtain ⟨n1, x1, t1, r1, p1, l1, o1⟩ := a
  obtain ⟨n2, x2, t2, r2, p2, l2, o2⟩ := b
  go_simp
  simp only [ByteArray.toList_eq, show ∀ l : List UInt8, (strOf l).data.toList = l by intro l; simp [strOf]]
  by_cases h1 : n1 = n2 <;> by_cases h2 : x1 = x2 <;> by_cases h3 : t1 = t2 <;> by_cases h4 : r1 = r2 <;> by_cases h5 : p1 = p2 <;> by_cases h6 : l1 = l2 <;> by_cases h7 : o1 = o2 <;> simp [h1, h2, h3, h4, h5, h6, h7]

set_option maxHeartbeats 4000000 in
theorem vints_any {S T : Nat → Prop} (w : World) {A B : Option Addr} {cap cb n m : Nat} {l k : List Int} (h : Lst 1 S inR w A cap l) (h' : Lst 1 T inR w B cb k) (hn : n = l.length) (hm : m = k.length) :
    Calls Tryz.prog 86 #[.slice A n cap, .slice B m cb] w fun e w' => e = .returned (.bool (decide (l = k))) ∧ ∃ d, w' = w.drewN d := by
  have hle := h.l_le
  have hmx := h.l_max
  have hle' := h'.l_le
  have hmx' := h'.l_max
  rw [← hn] at hle
  rw [← hm] at hle'
  unfold maxLen at hmx hmx'
  have H := Lib.hid h
  have H' := Lib.hid h'
  have HN := Lib.hid hn
  have HM := Lib.hid hm
  clear h h' hn hm
  by_cases hnm : n = m
  · subst hnm
    go_enter Tryz.func86, Tryz.ntmps86
    go_wp2
    go_loopg [5] n (fun gz x wr => ∃ i : Nat, x = .int .i64 (i : Int) ∧ i + gz = n ∧ (∃ d, wr = w.drewN d) ∧ ∀ (j : Nat) a b, j < i → l[j]? = some a → k[j]? = some b → a = b)
    case atStart => exact ⟨0, rfl, by omega, ⟨0, rfl⟩, fun j a b hj => absurd hj (Nat.not_lt_zero _)⟩
    case round =>
      obtain ⟨i, rfl, hi, ⟨d, rfl⟩, hall⟩ := hrel
      have HALL := Lib.hid hall
      clear hall
      obtain ⟨g0, hg0⟩ : ∃ g0, g0 = gk := ⟨_, rfl⟩
      subst hg0
      by_cases hlt : i < n
      · have g1 : decide ((i : Int) < (n : Int)) = true := decide_eq_true (by omega)
        obtain ⟨a, ha⟩ : ∃ a, l[i]? = some a := ⟨_, List.getElem?_eq_getElem (by have := HN.out; omega)⟩
        obtain ⟨b, hb⟩ : ∃ b, k[i]? = some b := ⟨_, List.getElem?_eq_getElem (by have := HM.out; omega)⟩
        obtain ⟨ga, oa, rfl, _, q0⟩ := in_at H.out ha
        obtain ⟨gb, ob, rfl, _, q1⟩ := in_at H'.out hb
        have c0 := q0 w (Below.refl _ _)
        have c1 := q1 w (Below.refl _ _)
        have HA := Lib.hid ha
        have HB := Lib.hid hb
        clear ha hb q0 q1
        by_cases hab : a = b
        · have g2 : (a == b) = true := by rw [hab]; exact beq_self_eq_true b
          have g3 : (a != b) = false := by simp [hab]
          have HAB := Lib.hid hab
          clear hab
          go_wp2
          go_quiet (fail)
          go_wp2
          go_roundg (g0 - 1)
          case measure => omega
          case rel =>
            refine ⟨i + 1, by go_num, by omega, ⟨d + nq, rfl⟩, fun j x y hj hx hy => ?_⟩
            by_cases hji : j < i
            · exact HALL.out j x y hji hx hy
            · have : j = i := by omega
              subst this
              have e1 := HA.out.symm.trans hx
              have e2 := HB.out.symm.trans hy
              injection e1 with e1
              injection e2 with e2
              subst e1 e2
              exact HAB.out
        · have g2 : (a == b) = false := beq_false_of_ne hab
          have g3 : (a != b) = true := by simp [hab]
          have HO : Hid (decide (l = k) = false) := Lib.hid (decide_eq_false (lists_ne HA.out HB.out hab))
          go_wp2
          go_quiet (fail)
          go_wp2
          go_ret
          exact ⟨ret_bool' HO.out.symm, _, World.drewN_drewN _ _ _⟩
      · have g1 : decide ((i : Int) < (n : Int)) = false := decide_eq_false (by omega)
        have HO : Hid (decide (l = k) = true) := Lib.hid (decide_eq_true (lists_eq (by have := HN.out; have := HM.out; omega) (fun j a b ha hb => HALL.out j a b (by have := (List.getElem?_eq_some_iff.mp ha).1; have := HN.out; omega) ha hb)))
        go_wp2
        go_ret
        exact ⟨ret_bool' HO.out.symm, _, rfl⟩
  · have g1 : ((n : Int) == (m : Int)) = false := beq_false_of_ne (by omega)
    have g2 : ((n : Int) != (m : Int)) = true := by simp; omega
    have HO : Hid (decide (l = k) = false) := Lib.hid (decide_eq_false (fun e => hnm (by have := HN.out; have := HM.out; rw [e] at *; omega)))
    go_enter Tryz.func86, Tryz.ntmps86
    go_wp2
    go_ret
    exact ⟨ret_bool' HO.out.symm, 0, rfl⟩
end Go.Proofs.YtpbhokmpbcmdcaaGreatDoor
