/- Several texts in one: SchIn, SchAt, IntApp, RvA, RvC, SchTwo, Bx3, FlIn, FxA, FxM. What each proves, and its conditions, stands at its own head. -/
import Derived.Test.YtloheacncefkgaaGreatDoorChecked
import Derived.Test.YtloheacncefkgaaGreatDoorPkET19
import Derived.Test.YtloheacncefkgaaGreatDoorPkET11
import Derived.Test.YtloheacncefkgaaGreatDoorPkET0
import Derived.OpenShut
import Derived.ProofKit
import Derived.SizedLaws
import Derived.Test.YtloheacncefkgaaGreatDoorPkET2
import Derived.WalkKit
import Derived.OwnWalk
import Derived.RowKitTokens
import Derived.Lib.Hide
import Derived.BigQuiet
import Derived.Deep.QuietTactic
import Derived.IntWalk
import Derived.Deep.LoopGhost
import Derived.Test.YtloheacncefkgaaGreatDoorPkET3
import Derived.Test.YtloheacncefkgaaGreatDoorPkET4
import Derived.Shelf.Abstract
import Derived.Deep.RegionHeld3
import Derived.Maps.OwnSet
import Derived.Maps.OwnIn
import Derived.Below
import Derived.Test.YtloheacncefkgaaGreatDoorPkET18
/- Schemas in memory: what is read, what came in. Conditions: those that each theorem names. -/
namespace Go.Proofs.YtloheacncefkgaaGreatDoor
open Go.RowKit Go.ChangeShapes Go.WideShapes
set_option linter.unusedVariables false
set_option maxRecDepth 100000

def vlR (w : World) (cs : List Value) (x : Vl) : Prop := cs = [.string (strOf x.name), .int .i64 x.num]
def fdCells (f : Fd) : List Value := [.string (strOf f.name), .int .i64 f.num, .int .i64 f.ty, .string (strOf f.ref), .bool f.rep, .bool f.loose, .string (strOf f.one)]
def fdR (w : World) (cs : List Value) (x : Fd) : Prop := cs = fdCells x
def inR (w : World) (cs : List Value) (x : Int) : Prop := cs = [.int .i64 x]
def enR (S : Nat → Nat → Prop) (w : World) (cs : List Value) (x : En) : Prop := ∃ A cap, cs = [.string (strOf x.name), .slice A x.values.length cap] ∧ Lst 2 (S 0) vlR w A cap x.values
def msR (S : Nat → Nat → Prop) (w : World) (cs : List Value) (x : Ms) : Prop := ∃ A cap A2 cap2, cs = [.string (strOf x.name), .slice A x.fields.length cap, .slice A2 x.barred.length cap2] ∧ Lst 7 (S 1) fdR w A cap x.fields ∧ Lst 1 (S 2) inR w A2 cap2 x.barred
def scR (S : Nat → Nat → Prop) (w : World) (cs : List Value) (x : Sc) : Prop := ∃ A cap A2 cap2, cs = [.slice A x.enums.length cap, .slice A2 x.msgs.length cap2] ∧ Lst 2 (S 3) (enR S) w A cap x.enums ∧ Lst 3 (S 4) (msR S) w A2 cap2 x.msgs
def lenM : Nat := 140737488351232
def VlOk (x : Vl) : Prop := Int64 x.num ∧ x.name.length ≤ lenM
def FdOk (f : Fd) : Prop := Int64 f.num ∧ Int64 f.ty ∧ f.name.length ≤ lenM ∧ f.ref.length ≤ lenM ∧ f.one.length ≤ lenM
def EnOk (x : En) : Prop := x.name.length ≤ lenM ∧ x.values.length ≤ lenM ∧ ∀ v ∈ x.values, VlOk v
def MsOk (x : Ms) : Prop := x.name.length ≤ lenM ∧ x.fields.length ≤ lenM ∧ x.barred.length ≤ lenM ∧ (∀ f ∈ x.fields, FdOk f) ∧ ∀ n ∈ x.barred, Int64 n
def ScOk (x : Sc) : Prop := x.enums.length ≤ lenM ∧ x.msgs.length ≤ lenM ∧ (∀ e ∈ x.enums, EnOk e) ∧ ∀ m ∈ x.msgs, MsOk m

section
variable {S S' : Nat → Nat → Prop} {w w' : World} {cs : List Value}
theorem vlR_keep : ∀ cs (x : Vl), vlR w cs x → vlR w' cs x := fun _ _ h => h
theorem fdR_keep : ∀ cs (x : Fd), fdR w cs x → fdR w' cs x := fun _ _ h => h
theorem inR_keep : ∀ cs (x : Int), inR w cs x → inR w' cs x := fun _ _ h => h
theorem enR_keep (hS : ∀ k g, S k g → S' k g) (hk : ∀ k (p : Addr), S k p.block → p.block < w.heap.size → w'.cell? p = w.cell? p) : ∀ cs (x : En), enR S w cs x → enR S' w' cs x :=
  fun cs x ⟨A, cap, e, h⟩ => ⟨A, cap, e, lst_keep h vlR_keep (hS 0) (hk 0)⟩
theorem msR_keep (hS : ∀ k g, S k g → S' k g) (hk : ∀ k (p : Addr), S k p.block → p.block < w.heap.size → w'.cell? p = w.cell? p) : ∀ cs (x : Ms), msR S w cs x → msR S' w' cs x :=
  fun cs x ⟨A, cap, A2, cap2, e, h, h2⟩ => ⟨A, cap, A2, cap2, e, lst_keep h fdR_keep (hS 1) (hk 1), lst_keep h2 inR_keep (hS 2) (hk 2)⟩
theorem bel_keep {T : Nat → Prop} (hb : Below w.heap.size w w') : ∀ p : Addr, T p.block → p.block < w.heap.size → w'.cell? p = w.cell? p := fun p _ hp => hb.cell hp
end

section
variable {H : Type} {enc : TypeId × Value → H} {w : World} {base : Nat} {spare : Nat → Bool} {held : Bool} {fuel : Nat} {cs : List Value} {x : DataW H × List MemPlace}
theorem cs_str : Tryz.prog.cellsOf 9 = 1 := by kernel_rfl
theorem cs_int : Tryz.prog.cellsOf 3 = 1 := by kernel_rfl
theorem cs_bool : Tryz.prog.cellsOf 4 = 1 := by kernel_rfl
theorem cs_Vl : Tryz.prog.cellsOf 59 = 2 := by kernel_rfl
theorem cs_Fd : Tryz.prog.cellsOf 44 = 7 := by kernel_rfl
theorem cs_En : Tryz.prog.cellsOf 53 = 2 := by kernel_rfl
theorem cs_Ms : Tryz.prog.cellsOf 57 = 3 := by kernel_rfl
theorem cs_Sc : Tryz.prog.cellsOf 25 = 2 := by kernel_rfl
theorem cs_lVl : Tryz.prog.cellsOf 51 = 1 := by kernel_rfl
theorem by_Vl : 1 ≤ Tryz.prog.bytesOf 59 := of_decide_eq_true (by kernel_rfl)
theorem cs_lFd : Tryz.prog.cellsOf 54 = 1 := by kernel_rfl
theorem by_Fd : 1 ≤ Tryz.prog.bytesOf 44 := of_decide_eq_true (by kernel_rfl)
theorem cs_lEn : Tryz.prog.cellsOf 22 = 1 := by kernel_rfl
theorem by_En : 1 ≤ Tryz.prog.bytesOf 53 := of_decide_eq_true (by kernel_rfl)
theorem cs_lMs : Tryz.prog.cellsOf 23 = 1 := by kernel_rfl
theorem by_Ms : 1 ≤ Tryz.prog.bytesOf 57 := of_decide_eq_true (by kernel_rfl)
theorem cs_lIn : Tryz.prog.cellsOf 55 = 1 := by kernel_rfl
theorem by_In : 1 ≤ Tryz.prog.bytesOf 3 := of_decide_eq_true (by kernel_rfl)
theorem str_data (s : ByteArray) : s = strOf s.data.toList := by cases s; simp [strOf]
theorem len_all {P : Program} {e : TypeId} {y : DataW H} {n : Nat} (h : ∀ n ∈ y.weights P e, n ≤ lenM) (he : y.weights P e = [n]) : n ≤ lenM := h n (by rw [he]; simp)
theorem in_came : ∀ fuel cs (x : DataW H × List MemPlace), DataW.trod enc Tryz.prog w base spare held fuel 3 cs = some x → (∀ n ∈ x.1.weights Tryz.prog 3, n ≤ lenM) → ∃ v : Int, inR w cs v ∧ Int64 v := by
  intro fuel cs x h _
  obtain ⟨n, q, z, ww⟩ := DataW.trod_int Tryz.underlying3 h
  exact ⟨n, q, i64_came ww⟩
theorem vl_came : ∀ fuel cs (x : DataW H × List MemPlace), DataW.trod enc Tryz.prog w base spare held fuel 59 cs = some x → (∀ n ∈ x.1.weights Tryz.prog 59, n ≤ lenM) → ∃ v : Vl, vlR w cs v ∧ VlOk v := by
  intro fuel cs x h hz
  obtain ⟨ys, m, _, rfl, hl, hn, he⟩ := DataW.trod_struct Tryz.underlying59 h
  rw [cs_Vl] at hl
  match cs, hl, ys, hn with
  | [v0, v1], _, [y0, y1], _ =>
    have hw : ∀ n ∈ DataW.weightsEach Tryz.prog [9, 3] [y0.1, y1.1], n ≤ lenM := by
      intro n hn
      apply hz
      simp only [DataW.weights, Tryz.underlying59]
      exact hn
    have g0 : DataW.trod enc Tryz.prog w base spare held m 9 (([v0, v1].drop 0).take (Tryz.prog.cellsOf 9)) = some y0 := he 0 _ rfl
    have w0 : ∀ n ∈ y0.1.weights Tryz.prog 9, n ≤ lenM := fun n hn => hw n (DataW.weights_mem_each (j := 0) rfl rfl n hn)
    rw [cs_str] at g0
    have g1 : DataW.trod enc Tryz.prog w base spare held m 3 (([v0, v1].drop 1).take (Tryz.prog.cellsOf 3)) = some y1 := he 1 _ rfl
    have w1 : ∀ n ∈ y1.1.weights Tryz.prog 3, n ≤ lenM := fun n hn => hw n (DataW.weights_mem_each (j := 1) rfl rfl n hn)
    rw [cs_int] at g1
    simp only [List.drop_zero, List.drop_succ_cons, List.take_succ_cons, List.take_zero] at g0 g1
    obtain ⟨s0, q0, z0, _⟩ := DataW.trod_string Tryz.underlying9 g0
    have b0 : s0.data.toList.length ≤ lenM := len_all w0 (by rw [z0]; rfl)
    obtain ⟨s1, q1, z1, b1⟩ := DataW.trod_int Tryz.underlying3 g1
    simp only [List.cons.injEq, and_true] at q0 q1
    subst q0 q1
    exact ⟨⟨s0.data.toList, s1⟩, by unfold vlR; rw [← str_data], i64_came b1, b0⟩

theorem fd_came : ∀ fuel cs (x : DataW H × List MemPlace), DataW.trod enc Tryz.prog w base spare held fuel 44 cs = some x → (∀ n ∈ x.1.weights Tryz.prog 44, n ≤ lenM) → ∃ v : Fd, fdR w cs v ∧ FdOk v := by
  intro fuel cs x h hz
  obtain ⟨ys, m, _, rfl, hl, hn, he⟩ := DataW.trod_struct Tryz.underlying44 h
  rw [cs_Fd] at hl
  match cs, hl, ys, hn with
  | [v0, v1, v2, v3, v4, v5, v6], _, [y0, y1, y2, y3, y4, y5, y6], _ =>
    have hw : ∀ n ∈ DataW.weightsEach Tryz.prog [9, 3, 3, 9, 4, 4, 9] [y0.1, y1.1, y2.1, y3.1, y4.1, y5.1, y6.1], n ≤ lenM := by
      intro n hn
      apply hz
      simp only [DataW.weights, Tryz.underlying44]
      exact hn
    have g0 : DataW.trod enc Tryz.prog w base spare held m 9 (([v0, v1, v2, v3, v4, v5, v6].drop 0).take (Tryz.prog.cellsOf 9)) = some y0 := he 0 _ rfl
    have w0 : ∀ n ∈ y0.1.weights Tryz.prog 9, n ≤ lenM := fun n hn => hw n (DataW.weights_mem_each (j := 0) rfl rfl n hn)
    rw [cs_str] at g0
    have g1 : DataW.trod enc Tryz.prog w base spare held m 3 (([v0, v1, v2, v3, v4, v5, v6].drop 1).take (Tryz.prog.cellsOf 3)) = some y1 := he 1 _ rfl
    have w1 : ∀ n ∈ y1.1.weights Tryz.prog 3, n ≤ lenM := fun n hn => hw n (DataW.weights_mem_each (j := 1) rfl rfl n hn)
    rw [cs_int] at g1
    have g2 : DataW.trod enc Tryz.prog w base spare held m 3 (([v0, v1, v2, v3, v4, v5, v6].drop 2).take (Tryz.prog.cellsOf 3)) = some y2 := he 2 _ rfl
    have w2 : ∀ n ∈ y2.1.weights Tryz.prog 3, n ≤ lenM := fun n hn => hw n (DataW.weights_mem_each (j := 2) rfl rfl n hn)
    rw [cs_int] at g2
    have g3 : DataW.trod enc Tryz.prog w base spare held m 9 (([v0, v1, v2, v3, v4, v5, v6].drop 3).take (Tryz.prog.cellsOf 9)) = some y3 := he 3 _ rfl
    have w3 : ∀ n ∈ y3.1.weights Tryz.prog 9, n ≤ lenM := fun n hn => hw n (DataW.weights_mem_each (j := 3) rfl rfl n hn)
    rw [cs_str] at g3
    have g4 : DataW.trod enc Tryz.prog w base spare held m 4 (([v0, v1, v2, v3, v4, v5, v6].drop 4).take (Tryz.prog.cellsOf 4)) = some y4 := he 4 _ rfl
    have w4 : ∀ n ∈ y4.1.weights Tryz.prog 4, n ≤ lenM := fun n hn => hw n (DataW.weights_mem_each (j := 4) rfl rfl n hn)
    rw [cs_bool] at g4
    have g5 : DataW.trod enc Tryz.prog w base spare held m 4 (([v0, v1, v2, v3, v4, v5, v6].drop 5).take (Tryz.prog.cellsOf 4)) = some y5 := he 5 _ rfl
    have w5 : ∀ n ∈ y5.1.weights Tryz.prog 4, n ≤ lenM := fun n hn => hw n (DataW.weights_mem_each (j := 5) rfl rfl n hn)
    rw [cs_bool] at g5
    have g6 : DataW.trod enc Tryz.prog w base spare held m 9 (([v0, v1, v2, v3, v4, v5, v6].drop 6).take (Tryz.prog.cellsOf 9)) = some y6 := he 6 _ rfl
    have w6 : ∀ n ∈ y6.1.weights Tryz.prog 9, n ≤ lenM := fun n hn => hw n (DataW.weights_mem_each (j := 6) rfl rfl n hn)
    rw [cs_str] at g6
    simp only [List.drop_zero, List.drop_succ_cons, List.take_succ_cons, List.take_zero] at g0 g1 g2 g3 g4 g5 g6
    obtain ⟨s0, q0, z0, _⟩ := DataW.trod_string Tryz.underlying9 g0
    have b0 : s0.data.toList.length ≤ lenM := len_all w0 (by rw [z0]; rfl)
    obtain ⟨s1, q1, z1, b1⟩ := DataW.trod_int Tryz.underlying3 g1
    obtain ⟨s2, q2, z2, b2⟩ := DataW.trod_int Tryz.underlying3 g2
    obtain ⟨s3, q3, z3, _⟩ := DataW.trod_string Tryz.underlying9 g3
    have b3 : s3.data.toList.length ≤ lenM := len_all w3 (by rw [z3]; rfl)
    obtain ⟨s4, q4, z4⟩ := DataW.trod_bool Tryz.underlying4 g4
    obtain ⟨s5, q5, z5⟩ := DataW.trod_bool Tryz.underlying4 g5
    obtain ⟨s6, q6, z6, _⟩ := DataW.trod_string Tryz.underlying9 g6
    have b6 : s6.data.toList.length ≤ lenM := len_all w6 (by rw [z6]; rfl)
    simp only [List.cons.injEq, and_true] at q0 q1 q2 q3 q4 q5 q6
    subst q0 q1 q2 q3 q4 q5 q6
    exact ⟨⟨s0.data.toList, s1, s2, s3.data.toList, s4, s5, s6.data.toList⟩, by unfold fdR fdCells; rw [← str_data, ← str_data, ← str_data], i64_came b1, i64_came b2, b0, b3, b6⟩

instance : Inhabited Vl := ⟨⟨[], 0⟩⟩
instance : Inhabited Fd := ⟨⟨[], 0, 0, [], false, false, []⟩⟩
instance : Inhabited En := ⟨⟨[], []⟩⟩
instance : Inhabited Ms := ⟨⟨[], [], []⟩⟩
theorem en_came : ∀ fuel cs (x : DataW H × List MemPlace), DataW.trod enc Tryz.prog w base spare held fuel 53 cs = some x → (∀ n ∈ x.1.weights Tryz.prog 53, n ≤ lenM) → ∃ v : En, enR (fun _ g => g < w.heap.size) w cs v ∧ EnOk v := by
  intro fuel cs x h hz
  obtain ⟨ys, m, _, rfl, hl, hn, he⟩ := DataW.trod_struct Tryz.underlying53 h
  rw [cs_En] at hl
  match cs, hl, ys, hn with
  | [v0, v1], _, [y0, y1], _ =>
    have hw : ∀ n ∈ DataW.weightsEach Tryz.prog [9, 51] [y0.1, y1.1], n ≤ lenM := by
      intro n hn
      apply hz
      simp only [DataW.weights, Tryz.underlying53]
      exact hn
    have g0 : DataW.trod enc Tryz.prog w base spare held m 9 (([v0, v1].drop 0).take (Tryz.prog.cellsOf 9)) = some y0 := he 0 _ rfl
    have w0 : ∀ n ∈ y0.1.weights Tryz.prog 9, n ≤ lenM := fun n hn => hw n (DataW.weights_mem_each (j := 0) rfl rfl n hn)
    rw [cs_str] at g0
    have g1 : DataW.trod enc Tryz.prog w base spare held m 51 (([v0, v1].drop 1).take (Tryz.prog.cellsOf 51)) = some y1 := he 1 _ rfl
    have w1 : ∀ n ∈ y1.1.weights Tryz.prog 51, n ≤ lenM := fun n hn => hw n (DataW.weights_mem_each (j := 1) rfl rfl n hn)
    rw [cs_lVl] at g1
    simp only [List.drop_zero, List.drop_succ_cons, List.take_succ_cons, List.take_zero] at g0 g1
    obtain ⟨s0, q0, z0, _⟩ := DataW.trod_string Tryz.underlying9 g0
    have b0 : s0.data.toList.length ≤ lenM := len_all w0 (by rw [z0]; rfl)
    obtain ⟨s1, A1, cap1, q1, b1, c1, d1⟩ := lst_came (k := 2) (M := lenM) Tryz.underlying51 cs_Vl (by decide) by_Vl vl_came g1 w1
    simp only [List.cons.injEq, and_true] at q0 q1
    subst q0 q1
    exact ⟨⟨s0.data.toList, s1⟩, ⟨A1, cap1, by rw [← str_data], b1⟩, b0, d1, c1⟩

theorem ms_came : ∀ fuel cs (x : DataW H × List MemPlace), DataW.trod enc Tryz.prog w base spare held fuel 57 cs = some x → (∀ n ∈ x.1.weights Tryz.prog 57, n ≤ lenM) → ∃ v : Ms, msR (fun _ g => g < w.heap.size) w cs v ∧ MsOk v := by
  intro fuel cs x h hz
  obtain ⟨ys, m, _, rfl, hl, hn, he⟩ := DataW.trod_struct Tryz.underlying57 h
  rw [cs_Ms] at hl
  match cs, hl, ys, hn with
  | [v0, v1, v2], _, [y0, y1, y2], _ =>
    have hw : ∀ n ∈ DataW.weightsEach Tryz.prog [9, 54, 55] [y0.1, y1.1, y2.1], n ≤ lenM := by
      intro n hn
      apply hz
      simp only [DataW.weights, Tryz.underlying57]
      exact hn
    have g0 : DataW.trod enc Tryz.prog w base spare held m 9 (([v0, v1, v2].drop 0).take (Tryz.prog.cellsOf 9)) = some y0 := he 0 _ rfl
    have w0 : ∀ n ∈ y0.1.weights Tryz.prog 9, n ≤ lenM := fun n hn => hw n (DataW.weights_mem_each (j := 0) rfl rfl n hn)
    rw [cs_str] at g0
    have g1 : DataW.trod enc Tryz.prog w base spare held m 54 (([v0, v1, v2].drop 1).take (Tryz.prog.cellsOf 54)) = some y1 := he 1 _ rfl
    have w1 : ∀ n ∈ y1.1.weights Tryz.prog 54, n ≤ lenM := fun n hn => hw n (DataW.weights_mem_each (j := 1) rfl rfl n hn)
    rw [cs_lFd] at g1
    have g2 : DataW.trod enc Tryz.prog w base spare held m 55 (([v0, v1, v2].drop 2).take (Tryz.prog.cellsOf 55)) = some y2 := he 2 _ rfl
    have w2 : ∀ n ∈ y2.1.weights Tryz.prog 55, n ≤ lenM := fun n hn => hw n (DataW.weights_mem_each (j := 2) rfl rfl n hn)
    rw [cs_lIn] at g2
    simp only [List.drop_zero, List.drop_succ_cons, List.take_succ_cons, List.take_zero] at g0 g1 g2
    obtain ⟨s0, q0, z0, _⟩ := DataW.trod_string Tryz.underlying9 g0
    have b0 : s0.data.toList.length ≤ lenM := len_all w0 (by rw [z0]; rfl)
    obtain ⟨s1, A1, cap1, q1, b1, c1, d1⟩ := lst_came (k := 7) (M := lenM) Tryz.underlying54 cs_Fd (by decide) by_Fd fd_came g1 w1
    obtain ⟨s2, A2, cap2, q2, b2, c2, d2⟩ := lst_came (k := 1) (M := lenM) Tryz.underlying55 cs_int (by decide) by_In in_came g2 w2
    simp only [List.cons.injEq, and_true] at q0 q1 q2
    subst q0 q1 q2
    exact ⟨⟨s0.data.toList, s1, s2⟩, ⟨A1, cap1, A2, cap2, by rw [← str_data], b1, b2⟩, b0, d1, d2, c1, c2⟩

theorem sc_came : ∀ fuel cs (x : DataW H × List MemPlace), DataW.trod enc Tryz.prog w base spare held fuel 25 cs = some x → (∀ n ∈ x.1.weights Tryz.prog 25, n ≤ lenM) → ∃ v : Sc, scR (fun _ g => g < w.heap.size) w cs v ∧ ScOk v := by
  intro fuel cs x h hz
  obtain ⟨ys, m, _, rfl, hl, hn, he⟩ := DataW.trod_struct Tryz.underlying25 h
  rw [cs_Sc] at hl
  match cs, hl, ys, hn with
  | [v0, v1], _, [y0, y1], _ =>
    have hw : ∀ n ∈ DataW.weightsEach Tryz.prog [22, 23] [y0.1, y1.1], n ≤ lenM := by
      intro n hn
      apply hz
      simp only [DataW.weights, Tryz.underlying25]
      exact hn
    have g0 : DataW.trod enc Tryz.prog w base spare held m 22 (([v0, v1].drop 0).take (Tryz.prog.cellsOf 22)) = some y0 := he 0 _ rfl
    have w0 : ∀ n ∈ y0.1.weights Tryz.prog 22, n ≤ lenM := fun n hn => hw n (DataW.weights_mem_each (j := 0) rfl rfl n hn)
    rw [cs_lEn] at g0
    have g1 : DataW.trod enc Tryz.prog w base spare held m 23 (([v0, v1].drop 1).take (Tryz.prog.cellsOf 23)) = some y1 := he 1 _ rfl
    have w1 : ∀ n ∈ y1.1.weights Tryz.prog 23, n ≤ lenM := fun n hn => hw n (DataW.weights_mem_each (j := 1) rfl rfl n hn)
    rw [cs_lMs] at g1
    simp only [List.drop_zero, List.drop_succ_cons, List.take_succ_cons, List.take_zero] at g0 g1
    obtain ⟨s0, A0, cap0, q0, b0, c0, d0⟩ := lst_came (k := 2) (M := lenM) Tryz.underlying22 cs_En (by decide) by_En en_came g0 w0
    obtain ⟨s1, A1, cap1, q1, b1, c1, d1⟩ := lst_came (k := 3) (M := lenM) Tryz.underlying23 cs_Ms (by decide) by_Ms ms_came g1 w1
    simp only [List.cons.injEq, and_true] at q0 q1
    subst q0 q1
    exact ⟨⟨s0, s1⟩, ⟨A0, cap0, A1, cap1, rfl, b0, b1⟩, d0, d1, c0, c1⟩

end
end Go.Proofs.YtloheacncefkgaaGreatDoor

/- Schemas in memory, as the walks ask for them: a schema that was handed over, one thing of a list, the box that a call keeps it in. Conditions: those that each theorem names. -/
namespace Go.Proofs.YtloheacncefkgaaGreatDoor
open Go.RowKit
set_option linter.unusedVariables false
set_option maxRecDepth 100000

/-- A schema as it is handed over. -/
structure ScAt (S : Nat → Nat → Prop) (w : World) (A : Option Addr) (n cap : Nat) (A2 : Option Addr) (n2 cap2 : Nat) (s : Sc) : Prop where
  s_e : Lst 2 (S 3) (enR S) w A cap s.enums
  s_m : Lst 3 (S 4) (msR S) w A2 cap2 s.msgs
  s_ne : n = s.enums.length
  s_nm : n2 = s.msgs.length
theorem scAt_bel {S : Nat → Nat → Prop} {w w' : World} {A A2 : Option Addr} {n cap n2 cap2 : Nat} {s : Sc} (h : ScAt S w A n cap A2 n2 cap2 s) (hb : Below w.heap.size w w') : ScAt S w' A n cap A2 n2 cap2 s :=
  ⟨lst_keep h.s_e (enR_keep (fun _ _ h => h) (fun _ => bel_keep hb)) (fun _ h => h) (bel_keep hb), lst_keep h.s_m (msR_keep (fun _ _ h => h) (fun _ => bel_keep hb)) (fun _ h => h) (bel_keep hb), h.s_ne, h.s_nm⟩
theorem scAt_max {S : Nat → Nat → Prop} {w : World} {A A2 : Option Addr} {n cap n2 cap2 : Nat} {s : Sc} (h : ScAt S w A n cap A2 n2 cap2 s) : n ≤ cap ∧ cap ≤ 9223372036854775807 ∧ n2 ≤ cap2 ∧ cap2 ≤ 9223372036854775807 := by
  have h1 := h.s_e.l_le
  have h2 := h.s_e.l_max
  have h3 := h.s_m.l_le
  have h4 := h.s_m.l_max
  unfold maxLen at h2 h4
  rw [← h.s_ne] at h1
  rw [← h.s_nm] at h3
  exact ⟨h1, h2, h3, h4⟩

/-- The call's own box stands as it was made; all that is older is as it was. -/
structure Bx (w wr : World) (o : Obj) : Prop where
  b_bel : Below w.heap.size w wr
  b_blk : wr.heap[w.heap.size]? = some o
theorem bx_start (w : World) (cs : Array Value) (t : TypeId) : Bx w (w.alloc (.cells cs t)) (.cells cs t (0, 0)) := ⟨(Below.refl _ w).alloc (Nat.le_refl _) _, heap_alloc_new w _⟩
theorem bx_step {w wr w2 : World} {o : Obj} (h : Bx w wr o) (hb : Below wr.heap.size wr w2) : Bx w w2 o := ⟨h.b_bel.trans (hb.mono h.b_bel.size), (hb.block _ (lt_of_block h.b_blk)).trans h.b_blk⟩
theorem drewN_under (w : World) (n : Nat) : Below w.heap.size w (w.drewN n) := ⟨rfl, rfl, rfl, Nat.le_refl _, fun _ _ => rfl⟩
theorem bx_drew {w wr : World} {o : Obj} (h : Bx w wr o) (k : Nat) : Bx w (wr.drewN k) o := bx_step h (drewN_under wr k)
theorem cell_under {w wr : World} {p : Addr} {v : Value} (hb : Below w.heap.size w wr) (h : w.cell? p = some v) : wr.cell? p = some v := (hb.cell (World.block_lt_of_cell? w _ h)).trans h
section
variable {S : Nat → Prop} {w : World} {A : Option Addr} {cap i : Nat}
theorem vl_at {l : List Vl} {x : Vl} (h : Lst 2 S vlR w A cap l) (hi : l[i]? = some x) : ∃ g off, A = some ⟨g, off, none⟩ ∧ S g ∧ ∀ wr, Below w.heap.size w wr → wr.cell? ⟨g, off + i * 2, none⟩ = some (.string (strOf x.name)) ∧ wr.cell? ⟨g, off + i * 2 + 1, none⟩ = some (.int .i64 x.num) := by
  obtain ⟨g, off, cs, e, hs, _, rfl, hc⟩ := h.l_at i x hi
  exact ⟨g, off, e, hs, fun wr hb => ⟨cell_under hb (hc 0 _ rfl), cell_under hb (hc 1 _ rfl)⟩⟩
theorem fd_at {l : List Fd} {x : Fd} (h : Lst 7 S fdR w A cap l) (hi : l[i]? = some x) : ∃ g off, A = some ⟨g, off, none⟩ ∧ S g ∧ ∀ wr, Below w.heap.size w wr → wr.cell? ⟨g, off + i * 7, none⟩ = some (.string (strOf x.name)) ∧ wr.cell? ⟨g, off + i * 7 + 1, none⟩ = some (.int .i64 x.num) ∧ wr.cell? ⟨g, off + i * 7 + 2, none⟩ = some (.int .i64 x.ty) ∧ wr.cell? ⟨g, off + i * 7 + 3, none⟩ = some (.string (strOf x.ref)) ∧ wr.cell? ⟨g, off + i * 7 + 4, none⟩ = some (.bool x.rep) ∧ wr.cell? ⟨g, off + i * 7 + 5, none⟩ = some (.bool x.loose) ∧ wr.cell? ⟨g, off + i * 7 + 6, none⟩ = some (.string (strOf x.one)) := by
  obtain ⟨g, off, cs, e, hs, _, rfl, hc⟩ := h.l_at i x hi
  exact ⟨g, off, e, hs, fun wr hb => ⟨cell_under hb (hc 0 _ rfl), cell_under hb (hc 1 _ rfl), cell_under hb (hc 2 _ rfl), cell_under hb (hc 3 _ rfl), cell_under hb (hc 4 _ rfl), cell_under hb (hc 5 _ rfl), cell_under hb (hc 6 _ rfl)⟩⟩
theorem in_at {l : List Int} {x : Int} (h : Lst 1 S inR w A cap l) (hi : l[i]? = some x) : ∃ g off, A = some ⟨g, off, none⟩ ∧ S g ∧ ∀ wr, Below w.heap.size w wr → wr.cell? ⟨g, off + i, none⟩ = some (.int .i64 x) := by
  obtain ⟨g, off, cs, e, hs, _, rfl, hc⟩ := h.l_at i x hi
  exact ⟨g, off, e, hs, fun wr hb => cell_under hb (by have := hc 0 _ rfl; rwa [Nat.mul_one] at this)⟩
theorem en_at {S : Nat → Nat → Prop} {l : List En} {x : En} (h : Lst 2 (S 3) (enR S) w A cap l) (hi : l[i]? = some x) : ∃ g off A1 cap1, A = some ⟨g, off, none⟩ ∧ S 3 g ∧ (∀ wr, Below w.heap.size w wr → wr.cell? ⟨g, off + i * 2, none⟩ = some (.string (strOf x.name)) ∧ wr.cell? ⟨g, off + i * 2 + 1, none⟩ = some (.slice A1 x.values.length cap1)) ∧ Lst 2 (S 0) vlR w A1 cap1 x.values := by
  obtain ⟨g, off, cs, e, hs, _, ⟨A1, cap1, rfl, h1⟩, hc⟩ := h.l_at i x hi
  exact ⟨g, off, A1, cap1, e, hs, fun wr hb => ⟨cell_under hb (hc 0 _ rfl), cell_under hb (hc 1 _ rfl)⟩, h1⟩
theorem ms_at {S : Nat → Nat → Prop} {l : List Ms} {x : Ms} (h : Lst 3 (S 4) (msR S) w A cap l) (hi : l[i]? = some x) : ∃ g off A1 cap1 A2 cap2, A = some ⟨g, off, none⟩ ∧ S 4 g ∧ (∀ wr, Below w.heap.size w wr → wr.cell? ⟨g, off + i * 3, none⟩ = some (.string (strOf x.name)) ∧ wr.cell? ⟨g, off + i * 3 + 1, none⟩ = some (.slice A1 x.fields.length cap1) ∧ wr.cell? ⟨g, off + i * 3 + 2, none⟩ = some (.slice A2 x.barred.length cap2)) ∧ Lst 7 (S 1) fdR w A1 cap1 x.fields ∧ Lst 1 (S 2) inR w A2 cap2 x.barred := by
  obtain ⟨g, off, cs, e, hs, _, ⟨A1, cap1, A2, cap2, rfl, h1, h2⟩, hc⟩ := h.l_at i x hi
  exact ⟨g, off, A1, cap1, A2, cap2, e, hs, fun wr hb => ⟨cell_under hb (hc 0 _ rfl), cell_under hb (hc 1 _ rfl), cell_under hb (hc 2 _ rfl)⟩, h1, h2⟩
end
end Go.Proofs.YtloheacncefkgaaGreatDoor

/- append of numbers onto a row of numbers of the call's own. Conditions: those that each theorem names. -/
namespace Go.Proofs.YtloheacncefkgaaGreatDoor
open Go.RowKit
set_option linter.unusedVariables false
set_option maxRecDepth 100000

/-- The cells of numbers. -/
def zcell (x : Int) : List Value := [.int .i64 x]
def zs (l : List Int) : List Value := l.flatMap zcell
theorem zcell_length (x : Int) : (zcell x).length = 1 := rfl
theorem zs_length (l : List Int) : (zs l).length = l.length := by
  have := flat_length zcell 1 zcell_length l
  unfold zs
  omega
theorem zs_append (a b : List Int) : zs (a ++ b) = zs a ++ zs b := by simp [zs]
theorem zs_one (l : List Int) : ∀ u ∈ zs l, u.oneCell' = true := by
  intro u hu
  obtain ⟨x, _, hx⟩ := List.mem_flatMap.1 hu
  simp [zcell] at hx
  subst hx
  rfl
theorem info_int1 : (Tryz.prog.info? 3).map (fun i => (i.zero, i.size, i.bytes)) = some (some (.int .i64 0), 1, 8) := by kernel_rfl
theorem own0_int (w : World) : (w.alloc (.cells #[] 3)).ownsRow w.heap.size 3 1 (.slice (some ⟨w.heap.size, 0, none⟩) 0 0) 0 (zs []) :=
  World.ownsRow_made w #[] 0 (Nat.le_refl _) (by decide) rfl
/-- A literal list of one number. -/
theorem sl_int1 (w : World) (t : TypeId) (x : Int) : Sl (w.alloc (.cells #[.int .i64 x] t)) (some ⟨w.heap.size, 0, none⟩) 1 (zs [x]) := by
  refine ⟨Nat.le_refl _, by decide, (fun h => by cases h), fun j u hj => ⟨_, _, rfl, ?_⟩⟩
  rw [cell_of_row _ w.heap.size (0 + j) _ t (0, 0) (heap_alloc_new w _), Nat.zero_add, ← Array.getElem?_toList]
  exact hj
theorem wpList_append_zs {w : World} {ops : Array Oper} {rest : List Oper} {o : Oper} {a : Act} {Q : Exit → Act → World → Prop} (hgd : o.guard = none) (s x : Operand)
    (ho : o.op = .call { callee := .builtin .append, args := #[s, x], argTypes := #[55, 55] })
    (base : Nat) (v : Value) (n : Nat) (pre : List Int) (hs : a.eval s = v) (hown : w.ownsRow base 3 1 v n (zs pre))
    (A : Option Addr) (m c : Nat) (bs : List Int) (hx : a.eval x = .slice A m c) (hm : m = bs.length) (hb : Sl w A c (zs bs))
    (h47 : pre.length + bs.length ≤ 1000000) (hbase : base ≤ w.heap.size)
    (h : ∀ v' w', w'.ownsRow base 3 1 v' (pre.length + bs.length) (zs (pre ++ bs)) → w.grownBy w' v.ownBlock → wpList Tryz.prog ops Q rest (a.put o.dst v') w') : wpList Tryz.prog ops Q (o :: rest) a w := by
  obtain ⟨i, hi, hz, hsize, hby⟩ := info_parts info_int1
  subst hm
  obtain ⟨hn, _⟩ := Sl.own hown
  rw [zs_length] at hn
  subst hn
  rcases A with _ | ad
  · have h0 := hb.nil rfl
    have hle := hb.le
    rw [zs_length] at hle
    have hbs : bs = [] := List.eq_nil_of_length_eq_zero (by omega)
    subst hbs h0
    refine wpList_plain hgd fun K hK' => ?_
    have hrun := run_append_owned_none (P := Tryz.prog) w base 55 o.type 3 i 1 Tryz.underlying55 hi v pre.length (zs pre) hown
    unfold Oper.wp
    simp [execOp, ho, resolve, invoke, builtin, hs, hx, hrun, Result.andThen]
    exact hK' _ _ (h v w (by simpa using hown) (World.grownBy.refl _ _))
  · exact wpList_append_own w hgd s x 55 ho base 3 i (.int .i64 0) 1 8 Tryz.underlying55 hi hz hsize hby rfl (by decide) v pre.length (zs pre) hs hown ad bs.length c (zs bs) hx
      (by rw [zs_length]; omega) (fun j u hu => by
        obtain ⟨bl, off, ea, hcell⟩ := hb.at_ j u hu
        cases ea
        have hplain : (⟨bl, off, none⟩ : Addr).add j = ⟨bl, off + j, none⟩ := by unfold Addr.add; split <;> simp_all
        rw [hplain]; exact hcell) (zs_one bs) (by unfold maxLen; omega) (by omega) hbase (fun v' w' h1 h2 _ => h v' w' (by rw [zs_append]; exact h1) h2)
/-- Such a row as a list of numbers. -/
theorem zs_own {w : World} {base n : Nat} {v : Value} {l : List Int} (h : w.ownsRow base 3 1 v n (zs l)) : n = l.length ∧ ∃ A cap, v = .slice A l.length cap ∧ Lst 1 (fun g => base ≤ g ∧ g < w.heap.size) inR w A cap l :=
  lst_own (R := inR) (by decide) zcell_length (fun x _ => rfl) h
end Go.Proofs.YtloheacncefkgaaGreatDoor

/- The document's layer 15: too many, none. Conditions: those that each theorem names. -/
namespace Go.Proofs.YtloheacncefkgaaGreatDoor
open Go.RowKit
set_option linter.unusedVariables false
set_option maxRecDepth 100000

theorem nat_eqz (k : Nat) : ((k : Int) == 0) = decide (k = 0) := by
  rw [Bool.eq_iff_iff, beq_iff_eq, decide_eq_true_iff]
  omega

set_option maxHeartbeats 4000000 in
theorem rvmany_any {S : Nat → Nat → Prop} (w : World) {A A2 : Option Addr} {n cap n2 cap2 : Nat} {s : Sc} (h : ScAt S w A n cap A2 n2 cap2 s) :
    Calls Tryz.prog 18 #[.agg #[.slice A n cap, .slice A2 n2 cap2]] w fun e w' => e = .returned (.bool (manyT s)) ∧ Below w.heap.size w w' := by
  obtain ⟨m1, m2, m3, m4⟩ := scAt_max h
  have H := Lib.hid h
  have HBX := Lib.hid (bx_start w #[.slice A n cap, .slice A2 n2 cap2] 25)
  obtain ⟨hd, hhd⟩ : ∃ hd, hd = (decide (3 < n) || decide (6 < n2)) := ⟨_, rfl⟩
  have HV : Hid (manyT s = ((hd || s.enums.any manyE) || s.msgs.any manyM)) := Lib.hid (by rw [hhd, h.s_ne, h.s_nm]; rfl)
  have hways : (decide ((n : Int) > 3) = true ∧ hd = true) ∨ (decide ((n : Int) > 3) = false ∧ decide ((n2 : Int) > 6) = true ∧ hd = true) ∨ (decide ((n : Int) > 3) = false ∧ decide ((n2 : Int) > 6) = false ∧ hd = false) := by
    by_cases h1 : 3 < n
    · exact .inl ⟨decide_eq_true (by omega), by rw [hhd, decide_eq_true h1]; rfl⟩
    · by_cases h2 : 6 < n2
      · exact .inr (.inl ⟨decide_eq_false (by omega), decide_eq_true (by omega), by rw [hhd, decide_eq_true h2]; simp⟩)
      · exact .inr (.inr ⟨decide_eq_false (by omega), decide_eq_false (by omega), by rw [hhd, decide_eq_false h1, decide_eq_false h2]; rfl⟩)
  clear h hhd
  have r0 := obj_cell (HBX.out).b_blk 0
  have r1 := obj_cell (HBX.out).b_blk 1
  rcases hways with ⟨k1, e1⟩ | ⟨k1, k2, e1⟩ | ⟨k1, k2, e1⟩
  all_goals
    have HE1 := Lib.hid e1
    clear e1
    go_enter Tryz.func18, Tryz.ntmps18
    go_wp2
    clear r0 r1
    go_loopg [3, 4] n (fun gz x0 x1 wr => ∃ i : Nat, x1 = .int .i64 (i : Int) ∧ i + gz = n ∧ x0 = .bool (hd || (s.enums.take i).any manyE) ∧ Bx w wr (.cells #[.slice A n cap, .slice A2 n2 cap2] 25 (0, 0)))
    case atStart => exact ⟨0, rfl, by omega, by rw [HE1.out]; rfl, HBX.out⟩
    case round =>
      obtain ⟨i, rfl, hi, rfl, hbx⟩ := hrel
      have HBX := Lib.hid hbx
      clear hbx
      have r0 := obj_cell (HBX.out).b_blk 0
      have r1 := obj_cell (HBX.out).b_blk 1
      obtain ⟨g0, hg0⟩ : ∃ g0, g0 = gk := ⟨_, rfl⟩
      subst hg0
      by_cases hlti : i < n
      · have ti : decide ((i : Int) < (n : Int)) = true := decide_eq_true (by omega)
        obtain ⟨x, hx⟩ : ∃ x, s.enums[i]? = some x := ⟨_, List.getElem?_eq_getElem (by have := H.out.s_ne; omega)⟩
        have HXI := Lib.hid hx
        obtain ⟨ge, oe, A1, cap1, rfl, _, hc, hl⟩ := en_at H.out.s_e hx
        have q1 := hl.l_le
        have q2 := hl.l_max
        unfold maxLen at q2
        have HL := Lib.hid hl
        obtain ⟨nv, hnv⟩ : ∃ nv, nv = x.values.length := ⟨_, rfl⟩
        have HNV := Lib.hid hnv
        rw [← hnv] at hc q1
        obtain ⟨sn, hsn⟩ : ∃ sn, sn = strOf x.name := ⟨_, rfl⟩
        have HSN := Lib.hid hsn
        rw [← hsn] at hc
        have HC := Lib.hid hc
        clear hx hl hnv hsn hc
        obtain ⟨c0, c1⟩ := HC.out _ HBX.out.b_bel
        have HX := Lib.hid (any_snoc s.enums manyE i x HXI.out)
        have HD : Hid (manyE x = decide ((8 : Int) < (nv : Int))) := Lib.hid (by unfold manyE; rw [← HNV.out]; exact decide_eq_decide.mpr (by omega))
        obtain ⟨b, hb⟩ : ∃ b, b = (hd || (s.enums.take i).any manyE) := ⟨_, rfl⟩
        have HBB := Lib.hid hb
        rw [← hb]
        clear hb
        cases b with
        | true =>
          go_wp2
          go_roundg (g0 - 1)
          case measure => omega
          case rel => exact ⟨i + 1, by go_num, by omega, by rw [HX.out, ← Bool.or_assoc, ← HBB.out]; rfl, HBX.out⟩
        | false =>
          go_wp2
          go_roundg (g0 - 1)
          case measure => omega
          case rel => exact ⟨i + 1, by go_num, by omega, by rw [HX.out, ← Bool.or_assoc, ← HBB.out, HD.out]; simp, HBX.out⟩
      · have ti : decide ((i : Int) < (n : Int)) = false := decide_eq_false (by omega)
        rw [any_whole s.enums manyE i (by have := H.out.s_ne; omega)]
        obtain ⟨h2, hh2⟩ : ∃ h2, h2 = (hd || s.enums.any manyE) := ⟨_, rfl⟩
        rw [← hh2] at HV ⊢
        clear hh2
        go_wp2
        clear r0 r1
        go_loopg [3, 5] n2 (fun gz x0 x1 wr => ∃ i : Nat, x1 = .int .i64 (i : Int) ∧ i + gz = n2 ∧ x0 = .bool (h2 || (s.msgs.take i).any manyM) ∧ Bx w wr (.cells #[.slice A n cap, .slice A2 n2 cap2] 25 (0, 0)))
        case atStart => exact ⟨0, rfl, by omega, by simp, HBX.out⟩
        case round =>
          obtain ⟨i, rfl, hi, rfl, hbx⟩ := hrel
          have HBX := Lib.hid hbx
          clear hbx
          have r0 := obj_cell (HBX.out).b_blk 0
          have r1 := obj_cell (HBX.out).b_blk 1
          obtain ⟨g0, hg0⟩ : ∃ g0, g0 = gk := ⟨_, rfl⟩
          subst hg0
          by_cases hlti : i < n2
          · have ti : decide ((i : Int) < (n2 : Int)) = true := decide_eq_true (by omega)
            obtain ⟨x, hx⟩ : ∃ x, s.msgs[i]? = some x := ⟨_, List.getElem?_eq_getElem (by have := H.out.s_nm; omega)⟩
            have HXI := Lib.hid hx
            obtain ⟨ge, oe, A1, cap1, A3, cap3, rfl, _, hc, hl, hl2⟩ := ms_at H.out.s_m hx
            have q1 := hl.l_le
            have q2 := hl.l_max
            have q3 := hl2.l_le
            have q4 := hl2.l_max
            unfold maxLen at q2 q4
            have HL := Lib.hid hl
            have HL2 := Lib.hid hl2
            obtain ⟨nf, hnf⟩ : ∃ nf, nf = x.fields.length := ⟨_, rfl⟩
            obtain ⟨nb, hnb⟩ : ∃ nb, nb = x.barred.length := ⟨_, rfl⟩
            have HNF := Lib.hid hnf
            have HNB := Lib.hid hnb
            rw [← hnf] at hc q1
            rw [← hnb] at hc q3
            obtain ⟨sn, hsn⟩ : ∃ sn, sn = strOf x.name := ⟨_, rfl⟩
            have HSN := Lib.hid hsn
            rw [← hsn] at hc
            have HC := Lib.hid hc
            clear hx hl hl2 hnf hnb hsn hc
            obtain ⟨c0, c1, c2⟩ := HC.out _ HBX.out.b_bel
            have HX := Lib.hid (any_snoc s.msgs manyM i x HXI.out)
            have HD : Hid (manyM x = (decide (10 < nf) || decide (8 < nb))) := Lib.hid (by unfold manyM; rw [← HNF.out, ← HNB.out])
            obtain ⟨b, hb⟩ : ∃ b, b = (h2 || (s.msgs.take i).any manyM) := ⟨_, rfl⟩
            have HBB := Lib.hid hb
            rw [← hb]
            clear hb
            cases b with
            | true =>
              go_wp2
              go_roundg (g0 - 1)
              case measure => omega
              case rel => exact ⟨i + 1, by go_num, by omega, by rw [HX.out, ← Bool.or_assoc, ← HBB.out]; rfl, HBX.out⟩
            | false =>
              by_cases h10 : 10 < nf
              · have d10 : decide ((nf : Int) > 10) = true := decide_eq_true (by omega)
                go_wp2
                go_roundg (g0 - 1)
                case measure => omega
                case rel => exact ⟨i + 1, by go_num, by omega, by rw [HX.out, ← Bool.or_assoc, ← HBB.out, HD.out, decide_eq_true h10]; rfl, HBX.out⟩
              · have d10 : decide ((nf : Int) > 10) = false := decide_eq_false (by omega)
                have HD2 : Hid (decide (8 < nb) = decide ((8 : Int) < (nb : Int))) := Lib.hid (decide_eq_decide.mpr (by omega))
                go_wp2
                go_roundg (g0 - 1)
                case measure => omega
                case rel => exact ⟨i + 1, by go_num, by omega, by rw [HX.out, ← Bool.or_assoc, ← HBB.out, HD.out, decide_eq_false h10, HD2.out]; simp, HBX.out⟩
          · have ti : decide ((i : Int) < (n2 : Int)) = false := decide_eq_false (by omega)
            rw [any_whole s.msgs manyM i (by have := H.out.s_nm; omega)]
            rw [← HV.out]
            go_wp2
            go_ret
            exact ⟨rfl, HBX.out.b_bel⟩
set_option maxHeartbeats 4000000 in
theorem rvnone_any {S : Nat → Nat → Prop} (w : World) {A A2 : Option Addr} {n cap n2 cap2 : Nat} {s : Sc} (h : ScAt S w A n cap A2 n2 cap2 s) :
    Calls Tryz.prog 19 #[.agg #[.slice A n cap, .slice A2 n2 cap2]] w fun e w' => e = .returned (.bool (noneT s)) ∧ Below w.heap.size w w' := by
  obtain ⟨m1, m2, m3, m4⟩ := scAt_max h
  have H := Lib.hid h
  have HBX := Lib.hid (bx_start w #[.slice A n cap, .slice A2 n2 cap2] 25)
  obtain ⟨hd, hhd⟩ : ∃ hd, hd = decide (n2 = 0) := ⟨_, rfl⟩
  have hz : ((n2 : Int) == 0) = hd := by rw [hhd]; exact nat_eqz n2
  have HV : Hid (noneT s = (hd || s.enums.any noneE)) := Lib.hid (by unfold noneT; rw [hhd, ← h.s_nm])
  clear h hhd
  have r0 := obj_cell (HBX.out).b_blk 0
  have r1 := obj_cell (HBX.out).b_blk 1
  go_enter Tryz.func19, Tryz.ntmps19
  go_wp2
  clear r0 r1
  go_loopg [3, 4] n (fun gz x0 x1 wr => ∃ i : Nat, x1 = .int .i64 (i : Int) ∧ i + gz = n ∧ x0 = .bool (hd || (s.enums.take i).any noneE) ∧ Bx w wr (.cells #[.slice A n cap, .slice A2 n2 cap2] 25 (0, 0)))
  case atStart => exact ⟨0, rfl, by omega, by simp, HBX.out⟩
  case round =>
    obtain ⟨i, rfl, hi, rfl, hbx⟩ := hrel
    have HBX := Lib.hid hbx
    clear hbx
    have r0 := obj_cell (HBX.out).b_blk 0
    have r1 := obj_cell (HBX.out).b_blk 1
    obtain ⟨g0, hg0⟩ : ∃ g0, g0 = gk := ⟨_, rfl⟩
    subst hg0
    by_cases hlti : i < n
    · have ti : decide ((i : Int) < (n : Int)) = true := decide_eq_true (by omega)
      obtain ⟨x, hx⟩ : ∃ x, s.enums[i]? = some x := ⟨_, List.getElem?_eq_getElem (by have := H.out.s_ne; omega)⟩
      have HXI := Lib.hid hx
      obtain ⟨ge, oe, A1, cap1, rfl, _, hc, hl⟩ := en_at H.out.s_e hx
      have q1 := hl.l_le
      have q2 := hl.l_max
      unfold maxLen at q2
      have HL := Lib.hid hl
      obtain ⟨nv, hnv⟩ : ∃ nv, nv = x.values.length := ⟨_, rfl⟩
      have HNV := Lib.hid hnv
      rw [← hnv] at hc q1
      obtain ⟨sn, hsn⟩ : ∃ sn, sn = strOf x.name := ⟨_, rfl⟩
      have HSN := Lib.hid hsn
      rw [← hsn] at hc
      have HC := Lib.hid hc
      clear hx hl hnv hsn hc
      obtain ⟨c0, c1⟩ := HC.out _ HBX.out.b_bel
      have HX := Lib.hid (any_snoc s.enums noneE i x HXI.out)
      have HD : Hid (noneE x = ((nv : Int) == 0)) := Lib.hid (by unfold noneE; rw [← HNV.out, nat_eqz])
      obtain ⟨b, hb⟩ : ∃ b, b = (hd || (s.enums.take i).any noneE) := ⟨_, rfl⟩
      have HBB := Lib.hid hb
      rw [← hb]
      clear hb
      cases b with
      | true =>
        go_wp2
        go_roundg (g0 - 1)
        case measure => omega
        case rel => exact ⟨i + 1, by go_num, by omega, by rw [HX.out, ← Bool.or_assoc, ← HBB.out]; rfl, HBX.out⟩
      | false =>
        go_wp2
        go_roundg (g0 - 1)
        case measure => omega
        case rel => exact ⟨i + 1, by go_num, by omega, by rw [HX.out, ← Bool.or_assoc, ← HBB.out, HD.out]; simp, HBX.out⟩
    · have ti : decide ((i : Int) < (n : Int)) = false := decide_eq_false (by omega)
      rw [any_whole s.enums noneE i (by have := H.out.s_ne; omega)]
      rw [← HV.out]
      go_wp2
      go_ret
      exact ⟨rfl, HBX.out.b_bel⟩
end Go.Proofs.YtloheacncefkgaaGreatDoor

/- The document's layer 15: numbers that rise, a number in a list, messages and enums by name. Conditions: those that each theorem names. -/
namespace Go.Proofs.YtloheacncefkgaaGreatDoor
open Go.RowKit
set_option linter.unusedVariables false
set_option maxRecDepth 100000

set_option maxHeartbeats 4000000 in
theorem rvrises_any {S : Nat → Prop} (w : World) {A : Option Addr} {cap n : Nat} {l : List Int} (h : Lst 1 S inR w A cap l) (hn : n = l.length) :
    Calls Tryz.prog 50 #[.slice A n cap] w fun e w' => e = .returned (.bool (risesB l)) ∧ ∃ k, w' = w.drewN k := by
  have hle := h.l_le
  have hmx := h.l_max
  rw [← hn] at hle
  unfold maxLen at hmx
  have H := Lib.hid h
  have HN := Lib.hid hn
  clear h hn
  go_enter Tryz.func50, Tryz.ntmps50
  go_wp2
  go_loopw [3] (fun x wr => ∃ k : Nat, x = .int .i64 ((k + 1 : Nat) : Int) ∧ k ≤ n ∧ (∃ i, wr = w.drewN i) ∧ ∀ (j : Nat) a b, j < k → l[j]? = some a → l[j + 1]? = some b → a < b) (fun x _ => n + 1 - (intOf x).toNat)
  case atStart => exact ⟨0, rfl, Nat.zero_le _, ⟨0, rfl⟩, fun j a b hj => absurd hj (Nat.not_lt_zero _)⟩
  case round =>
    obtain ⟨k, rfl, hk, ⟨i, rfl⟩, hall⟩ := hrel
    have HALL := Lib.hid hall
    clear hall
    obtain ⟨k1, hk1⟩ : ∃ k1, k1 = k + 1 := ⟨_, rfl⟩
    rw [← hk1]
    by_cases hlt : k1 < n
    · have g1 : decide ((k1 : Int) < (n : Int)) = true := decide_eq_true (by omega)
      obtain ⟨a, ha⟩ : ∃ a, l[k]? = some a := ⟨_, List.getElem?_eq_getElem (by have := HN.out; omega)⟩
      obtain ⟨b, hb⟩ : ∃ b, l[k + 1]? = some b := ⟨_, List.getElem?_eq_getElem (by have := HN.out; omega)⟩
      obtain ⟨g, off, rfl, _, q0⟩ := in_at H.out ha
      obtain ⟨g', off', e', _, q1⟩ := in_at H.out hb
      cases e'
      have c0 := q0 w (Below.refl _ _)
      have c1 := q1 w (Below.refl _ _)
      rw [← hk1] at c1
      have HA := Lib.hid ha
      have HB := Lib.hid hb
      have gw : IntKind.i64.wrap ((k1 : Int) - 1) = (k : Int) := by rw [show (k1 : Int) - 1 = (k : Int) by omega]; exact IntWalk.i64_in _ (by omega)
      have gx : (k1 : Int) - 1 = (k : Int) := by omega
      have gw2 : IntKind.i64.wrap (k : Int) = (k : Int) := IntWalk.i64_in _ (by omega)
      have hkk : k < n := by omega
      have HK1 := Lib.hid hk1
      clear ha hb q0 q1 hk1 hk
      by_cases hab : a < b
      · have g2 : decide (b ≤ a) = false := decide_eq_false (by omega)
        have g3 : decide (a ≥ b) = false := decide_eq_false (by omega)
        have HAB := Lib.hid hab
        clear hab
        go_wp2
        go_quiet (fail)
        go_wp2
        go_roundw
        case rel =>
          refine ⟨k + 1, by have := HK1.out; go_num, by have := HK1.out; omega, ⟨i + nq, rfl⟩, fun j x y hj hx hy => ?_⟩
          by_cases hjk : j < k
          · exact HALL.out j x y hjk hx hy
          · have : j = k := by omega
            subst this
            have e1 := HA.out.symm.trans hx
            have e2 := HB.out.symm.trans hy
            injection e1 with e1
            injection e2 with e2
            subst e1 e2
            exact HAB.out
        case measure => simp [intOf]; omega
      · have g2 : decide (b ≤ a) = true := decide_eq_true (by omega)
        have g3 : decide (a ≥ b) = true := decide_eq_true (by omega)
        have HO := Lib.hid (risesB_off HA.out HB.out hab)
        clear hab
        go_wp2
        go_quiet (fail)
        go_wp2
        go_ret
        exact ⟨ret_bool' HO.out.symm, _, World.drewN_drewN _ _ _⟩
    · have g1 : decide ((k1 : Int) < (n : Int)) = false := decide_eq_false (by omega)
      have HO : Hid (risesB l = true) := Lib.hid ((risesB_iff l).2 (fun j a b ha hb => HALL.out j a b (by have := (List.getElem?_eq_some_iff.mp hb).1; have := HN.out; omega) ha hb))
      clear hk1
      go_wp2
      go_ret
      exact ⟨ret_bool' HO.out.symm, _, rfl⟩

theorem isIn_miss {l : List Int} {n : Int} (h : ∀ (j : Nat) x, l[j]? = some x → x ≠ n) : isInB l n = false := by
  unfold isInB
  rw [List.any_eq_false]
  intro x hx
  obtain ⟨j, hj, e⟩ := List.mem_iff_getElem.mp hx
  have := h j x (by rw [List.getElem?_eq_getElem hj, e])
  simpa using this
set_option maxHeartbeats 4000000 in
theorem rvhas_any {S : Nat → Prop} (w : World) {A : Option Addr} {cap n : Nat} {l : List Int} (h : Lst 1 S inR w A cap l) (hn : n = l.length) (m : Int) :
    Calls Tryz.prog 53 #[.slice A n cap, .int .i64 m] w fun e w' => e = .returned (.bool (isInB l m)) ∧ w = w' := by
  have hle := h.l_le
  have hmx := h.l_max
  rw [← hn] at hle
  unfold maxLen at hmx
  have H := Lib.hid h
  have HN := Lib.hid hn
  clear h hn
  go_enter Tryz.func53, Tryz.ntmps53
  go_wp2
  go_loopg [5] n (fun gz x wr => ∃ i : Nat, x = .int .i64 (i : Int) ∧ i + gz = n ∧ wr = w ∧ ∀ (j : Nat) a, j < i → l[j]? = some a → a ≠ m)
  case atStart => exact ⟨0, rfl, by omega, rfl, fun j a hj => absurd hj (Nat.not_lt_zero _)⟩
  case round =>
    obtain ⟨i, rfl, hi, rfl, hall⟩ := hrel
    have HALL := Lib.hid hall
    clear hall
    obtain ⟨g0, hg0⟩ : ∃ g0, g0 = gk := ⟨_, rfl⟩
    subst hg0
    by_cases hlt : i < n
    · have g1 : decide ((i : Int) < (n : Int)) = true := decide_eq_true (by omega)
      obtain ⟨a, ha⟩ : ∃ a, l[i]? = some a := ⟨_, List.getElem?_eq_getElem (by have := HN.out; omega)⟩
      obtain ⟨g, off, rfl, _, q0⟩ := in_at H.out ha
      have c0 := q0 _ (Below.refl _ _)
      have HA := Lib.hid ha
      clear ha q0
      by_cases hab : a = m
      · subst hab
        have HO : Hid (isInB l a = true) := Lib.hid (any_off HA.out (decide_eq_true rfl))
        go_wp2
        go_ret
        exact ⟨ret_bool' HO.out.symm, rfl⟩
      · have g2 : (a == m) = false := beq_false_of_ne hab
        have HAB := Lib.hid hab
        go_wp2
        go_roundg (g0 - 1)
        case measure => omega
        case rel =>
          refine ⟨i + 1, by go_num, by omega, rfl, fun j x hj hx => ?_⟩
          by_cases hji : j < i
          · exact HALL.out j x hji hx
          · have : j = i := by omega
            subst this
            have e1 := HA.out.symm.trans hx
            injection e1 with e1
            subst e1
            exact HAB.out
    · have g1 : decide ((i : Int) < (n : Int)) = false := decide_eq_false (by omega)
      have HO : Hid (isInB l m = false) := Lib.hid (isIn_miss (fun j x hx => HALL.out j x (by have := (List.getElem?_eq_some_iff.mp hx).1; have := HN.out; omega) hx))
      go_wp2
      go_ret
      exact ⟨ret_bool' HO.out.symm, rfl⟩

set_option maxHeartbeats 4000000 in
theorem rvmessage_any {S : Nat → Nat → Prop} (w : World) {A A2 : Option Addr} {n cap n2 cap2 : Nat} {s : Sc} (h : ScAt S w A n cap A2 n2 cap2 s) (t : List UInt8) :
    Calls Tryz.prog 34 #[.agg #[.slice A n cap, .slice A2 n2 cap2], .string (strOf t)] w fun e w' => e = .returned (.int .i64 (messageT s t)) ∧ Below w.heap.size w w' := by
  obtain ⟨m1, m2, m3, m4⟩ := scAt_max h
  have H := Lib.hid h
  have HBX := Lib.hid (bx_start w #[.slice A n cap, .slice A2 n2 cap2] 25)
  obtain ⟨st, hst⟩ : ∃ st, st = strOf t := ⟨_, rfl⟩
  have HST := Lib.hid hst
  rw [← hst]
  clear h hst
  have r0 := obj_cell (HBX.out).b_blk 0
  have r1 := obj_cell (HBX.out).b_blk 1
  go_enter Tryz.func34, Tryz.ntmps34
  go_wp2
  clear r0 r1
  go_loopg [5] n2 (fun gz x0 wr => ∃ i : Nat, x0 = .int .i64 (i : Int) ∧ i + gz = n2 ∧ (∀ (j : Nat) y, j < i → (mNames s)[j]? = some y → y ≠ t) ∧ Bx w wr (.cells #[.slice A n cap, .slice A2 n2 cap2] 25 (0, 0)))
  case atStart => exact ⟨0, rfl, by omega, fun j y hj => absurd hj (Nat.not_lt_zero _), HBX.out⟩
  case round =>
    obtain ⟨i, rfl, hi, hall, hbx⟩ := hrel
    have HBX := Lib.hid hbx
    clear hbx
    have r0 := obj_cell (HBX.out).b_blk 0
    have r1 := obj_cell (HBX.out).b_blk 1
    obtain ⟨g0, hg0⟩ : ∃ g0, g0 = gk := ⟨_, rfl⟩
    subst hg0
    by_cases hlti : i < n2
    · have ti : decide ((i : Int) < (n2 : Int)) = true := decide_eq_true (by omega)
      obtain ⟨x, hx⟩ : ∃ x, s.msgs[i]? = some x := ⟨_, List.getElem?_eq_getElem (by have := H.out.s_nm; omega)⟩
      have HXI := Lib.hid hx
      obtain ⟨ge, oe, A1, cap1, A3, cap3, rfl, _, hc, hl, hl2⟩ := ms_at H.out.s_m hx
      have q1 := hl.l_le
      have q2 := hl.l_max
      have q3 := hl2.l_le
      have q4 := hl2.l_max
      unfold maxLen at q2 q4
      have HL := Lib.hid hl
      have HL2 := Lib.hid hl2
      obtain ⟨nf, hnf⟩ : ∃ nf, nf = x.fields.length := ⟨_, rfl⟩
      obtain ⟨nb, hnb⟩ : ∃ nb, nb = x.barred.length := ⟨_, rfl⟩
      have HNF := Lib.hid hnf
      have HNB := Lib.hid hnb
      rw [← hnf] at hc q1
      rw [← hnb] at hc q3
      obtain ⟨sn, hsn⟩ : ∃ sn, sn = strOf x.name := ⟨_, rfl⟩
      have HSN := Lib.hid hsn
      rw [← hsn] at hc
      have HC := Lib.hid hc
      clear hx hl hl2 hnf hnb hsn hc
      obtain ⟨c0, c1, c2⟩ := HC.out _ HBX.out.b_bel
      have HALL := Lib.hid hall
      clear hall
      by_cases hab : x.name = t
      · have HO : Hid (messageT s t = (i : Int)) := Lib.hid (placeT_hit (by unfold mNames; rw [List.getElem?_map, HXI.out, ← hab]; rfl) (fun j y hj hy => HALL.out j y hj hy))
        have es : sn = st := by rw [HSN.out, HST.out, hab]
        subst es
        go_wp2
        go_ret
        exact ⟨ret_int' HO.out.symm, HBX.out.b_bel⟩
      · have hne : ¬ sn.toList = st.toList := by rw [HSN.out, HST.out, str_list, str_list]; exact hab
        have hne2 : (sn.toList == st.toList) = false := by rw [HSN.out, HST.out, strOf_beq]; exact decide_eq_false hab
        have HAB := Lib.hid hab
        clear hab
        go_wp2
        go_roundg (g0 - 1)
        case measure => omega
        case rel => exact ⟨i + 1, by go_num, by omega, (fun j y hj hy => by
                      by_cases hji : j < i
                      · exact HALL.out j y hji hy
                      · have : j = i := by omega
                        subst this
                        unfold mNames at hy
                        rw [List.getElem?_map, HXI.out] at hy
                        injection hy with hy
                        rw [← hy]
                        exact HAB.out), HBX.out⟩
    · have ti : decide ((i : Int) < (n2 : Int)) = false := decide_eq_false (by omega)
      have HO : Hid (messageT s t = -1) := Lib.hid (placeT_miss (fun j y hy => hall j y (by have := (List.getElem?_eq_some_iff.mp hy).1; unfold mNames at this; rw [List.length_map] at this; have := H.out.s_nm; omega) hy))
      clear hall
      go_wp2
      go_ret
      exact ⟨ret_int' HO.out.symm, HBX.out.b_bel⟩
set_option maxHeartbeats 4000000 in
theorem rvenum_any {S : Nat → Nat → Prop} (w : World) {A A2 : Option Addr} {n cap n2 cap2 : Nat} {s : Sc} (h : ScAt S w A n cap A2 n2 cap2 s) (t : List UInt8) :
    Calls Tryz.prog 54 #[.agg #[.slice A n cap, .slice A2 n2 cap2], .string (strOf t)] w fun e w' => e = .returned (.int .i64 (enumT s t)) ∧ Below w.heap.size w w' := by
  obtain ⟨m1, m2, m3, m4⟩ := scAt_max h
  have H := Lib.hid h
  have HBX := Lib.hid (bx_start w #[.slice A n cap, .slice A2 n2 cap2] 25)
  obtain ⟨st, hst⟩ : ∃ st, st = strOf t := ⟨_, rfl⟩
  have HST := Lib.hid hst
  rw [← hst]
  clear h hst
  have r0 := obj_cell (HBX.out).b_blk 0
  have r1 := obj_cell (HBX.out).b_blk 1
  go_enter Tryz.func54, Tryz.ntmps54
  go_wp2
  clear r0 r1
  go_loopg [5] n (fun gz x0 wr => ∃ i : Nat, x0 = .int .i64 (i : Int) ∧ i + gz = n ∧ (∀ (j : Nat) y, j < i → (eNames s)[j]? = some y → y ≠ t) ∧ Bx w wr (.cells #[.slice A n cap, .slice A2 n2 cap2] 25 (0, 0)))
  case atStart => exact ⟨0, rfl, by omega, fun j y hj => absurd hj (Nat.not_lt_zero _), HBX.out⟩
  case round =>
    obtain ⟨i, rfl, hi, hall, hbx⟩ := hrel
    have HBX := Lib.hid hbx
    clear hbx
    have r0 := obj_cell (HBX.out).b_blk 0
    have r1 := obj_cell (HBX.out).b_blk 1
    obtain ⟨g0, hg0⟩ : ∃ g0, g0 = gk := ⟨_, rfl⟩
    subst hg0
    by_cases hlti : i < n
    · have ti : decide ((i : Int) < (n : Int)) = true := decide_eq_true (by omega)
      obtain ⟨x, hx⟩ : ∃ x, s.enums[i]? = some x := ⟨_, List.getElem?_eq_getElem (by have := H.out.s_ne; omega)⟩
      have HXI := Lib.hid hx
      obtain ⟨ge, oe, A1, cap1, rfl, _, hc, hl⟩ := en_at H.out.s_e hx
      have q1 := hl.l_le
      have q2 := hl.l_max
      unfold maxLen at q2
      have HL := Lib.hid hl
      obtain ⟨nv, hnv⟩ : ∃ nv, nv = x.values.length := ⟨_, rfl⟩
      have HNV := Lib.hid hnv
      rw [← hnv] at hc q1
      obtain ⟨sn, hsn⟩ : ∃ sn, sn = strOf x.name := ⟨_, rfl⟩
      have HSN := Lib.hid hsn
      rw [← hsn] at hc
      have HC := Lib.hid hc
      clear hx hl hnv hsn hc
      obtain ⟨c0, c1⟩ := HC.out _ HBX.out.b_bel
      have HALL := Lib.hid hall
      clear hall
      by_cases hab : x.name = t
      · have HO : Hid (enumT s t = (i : Int)) := Lib.hid (placeT_hit (by unfold eNames; rw [List.getElem?_map, HXI.out, ← hab]; rfl) (fun j y hj hy => HALL.out j y hj hy))
        have es : sn = st := by rw [HSN.out, HST.out, hab]
        subst es
        go_wp2
        go_ret
        exact ⟨ret_int' HO.out.symm, HBX.out.b_bel⟩
      · have hne : ¬ sn.toList = st.toList := by rw [HSN.out, HST.out, str_list, str_list]; exact hab
        have hne2 : (sn.toList == st.toList) = false := by rw [HSN.out, HST.out, strOf_beq]; exact decide_eq_false hab
        have HAB := Lib.hid hab
        clear hab
        go_wp2
        go_roundg (g0 - 1)
        case measure => omega
        case rel => exact ⟨i + 1, by go_num, by omega, (fun j y hj hy => by
                      by_cases hji : j < i
                      · exact HALL.out j y hji hy
                      · have : j = i := by omega
                        subst this
                        unfold eNames at hy
                        rw [List.getElem?_map, HXI.out] at hy
                        injection hy with hy
                        rw [← hy]
                        exact HAB.out), HBX.out⟩
    · have ti : decide ((i : Int) < (n : Int)) = false := decide_eq_false (by omega)
      have HO : Hid (enumT s t = -1) := Lib.hid (placeT_miss (fun j y hy => hall j y (by have := (List.getElem?_eq_some_iff.mp hy).1; unfold eNames at this; rw [List.length_map] at this; have := H.out.s_ne; omega) hy))
      clear hall
      go_wp2
      go_ret
      exact ⟨ret_int' HO.out.symm, HBX.out.b_bel⟩
end Go.Proofs.YtloheacncefkgaaGreatDoor

/- Two schemas side by side: what is the same, two boxes, numbers compared. Conditions: those that each theorem names. -/
namespace Go.Proofs.YtloheacncefkgaaGreatDoor
open Go.RowKit
set_option linter.unusedVariables false
set_option maxRecDepth 100000

instance : DecidableEq Vl := fun ⟨a, b⟩ ⟨c, d⟩ => if h : a = c ∧ b = d then .isTrue (by rw [h.1, h.2]) else .isFalse (fun e => by injection e with e1 e2; exact h ⟨e1, e2⟩)
instance : DecidableEq Fd := fun ⟨a, b, c, d, e, f, g⟩ ⟨a', b', c', d', e', f', g'⟩ =>
  if h : a = a' ∧ b = b' ∧ c = c' ∧ d = d' ∧ e = e' ∧ f = f' ∧ g = g' then .isTrue (by obtain ⟨rfl, rfl, rfl, rfl, rfl, rfl, rfl⟩ := h; rfl)
  else .isFalse (fun e => by injection e with e1 e2 e3 e4 e5 e6 e7; exact h ⟨e1, e2, e3, e4, e5, e6, e7⟩)
instance : DecidableEq En := fun ⟨a, b⟩ ⟨c, d⟩ => if h : a = c ∧ b = d then .isTrue (by rw [h.1, h.2]) else .isFalse (fun e => by injection e with e1 e2; exact h ⟨e1, e2⟩)
instance : DecidableEq Ms := fun ⟨a, b, x⟩ ⟨c, d, y⟩ => if h : a = c ∧ b = d ∧ x = y then .isTrue (by rw [h.1, h.2.1, h.2.2]) else .isFalse (fun e => by injection e with e1 e2 e3; exact h ⟨e1, e2, e3⟩)
instance : DecidableEq Sc := fun ⟨a, b⟩ ⟨c, d⟩ => if h : a = c ∧ b = d then .isTrue (by rw [h.1, h.2]) else .isFalse (fun e => by injection e with e1 e2; exact h ⟨e1, e2⟩)

theorem lists_eq {α : Type} {l m : List α} (hn : l.length = m.length) (h : ∀ (j : Nat) a b, l[j]? = some a → m[j]? = some b → a = b) : l = m :=
  List.ext_getElem hn (fun j h1 h2 => h j _ _ (List.getElem?_eq_getElem h1) (List.getElem?_eq_getElem h2))
/-- Two boxes of the call's own. -/
structure Bx2 (w wr : World) (o p : Obj) : Prop where
  b2_bel : Below w.heap.size w wr
  b2_one : wr.heap[w.heap.size]? = some o
  b2_two : wr.heap[w.heap.size + 1]? = some p
theorem bx2_start (w : World) (cs ds : Array Value) (t u : TypeId) : Bx2 w ((w.alloc (.cells cs t)).alloc (.cells ds u)) (.cells cs t (0, 0)) (.cells ds u (0, 0)) :=
  ⟨((Below.refl _ w).alloc (Nat.le_refl _) _).alloc (by simp) _, (Below.heap_alloc _ _ _ (by simp)).trans (heap_alloc_new w _), by have h := heap_alloc_new (w.alloc (.cells cs t)) (.cells ds u); rw [World.size_alloc] at h; exact h⟩
theorem bx2_step {w wr w2 : World} {o p : Obj} (h : Bx2 w wr o p) (hb : Below wr.heap.size wr w2) : Bx2 w w2 o p :=
  ⟨h.b2_bel.trans (hb.mono h.b2_bel.size), (hb.block _ (lt_of_block h.b2_one)).trans h.b2_one, (hb.block _ (lt_of_block h.b2_two)).trans h.b2_two⟩

end Go.Proofs.YtloheacncefkgaaGreatDoor

/- Three boxes of a call's own (no program here). Conditions: those that each theorem names. -/
namespace Go.Proofs.YtloheacncefkgaaGreatDoor
open Go.RowKit
set_option linter.unusedVariables false
set_option maxRecDepth 100000

/-- Three boxes of a call. -/
structure Bx3 (w wr : World) (o p q : Obj) : Prop where
  b3_bel : Below w.heap.size w wr
  b3_one : wr.heap[w.heap.size]? = some o
  b3_two : wr.heap[w.heap.size + 1]? = some p
  b3_thr : wr.heap[w.heap.size + 1 + 1]? = some q
theorem bx3_start (w : World) (cs ds es : Array Value) (t u v : TypeId) : Bx3 w (((w.alloc (.cells cs t)).alloc (.cells ds u)).alloc (.cells es v)) (.cells cs t (0, 0)) (.cells ds u (0, 0)) (.cells es v (0, 0)) := by
  have h := bx2_start w cs ds t u
  have hz : ((w.alloc (.cells cs t)).alloc (.cells ds u)).heap.size = w.heap.size + 1 + 1 := by simp
  refine ⟨h.b2_bel.alloc (by omega) _, (Below.heap_alloc _ _ _ (by omega)).trans h.b2_one, (Below.heap_alloc _ _ _ (by omega)).trans h.b2_two, ?_⟩
  rw [← hz]
  exact heap_alloc_new _ _
theorem bx3_step {w wr w2 : World} {o p q : Obj} (h : Bx3 w wr o p q) (hb : Below wr.heap.size wr w2) : Bx3 w w2 o p q :=
  ⟨h.b3_bel.trans (hb.mono h.b3_bel.size), (hb.block _ (lt_of_block h.b3_one)).trans h.b3_one, (hb.block _ (lt_of_block h.b3_two)).trans h.b3_two, (hb.block _ (lt_of_block h.b3_thr)).trans h.b3_thr⟩

end Go.Proofs.YtloheacncefkgaaGreatDoor

/- What came in by value as a field. Conditions: those that each theorem names. -/
namespace Go.Proofs.YtloheacncefkgaaGreatDoor
open Go.RowKit Go.ChangeShapes Go.WideShapes
set_option linter.unusedVariables false
set_option maxRecDepth 100000

theorem cells_fd : Tryz.prog.cellsOf 44 = 7 := by kernel_rfl
theorem cells_fdb : Tryz.prog.cellsOf 4 = 1 := by kernel_rfl
theorem cells_fds : Tryz.prog.cellsOf 9 = 1 := by kernel_rfl
theorem cells_fdi : Tryz.prog.cellsOf 3 = 1 := by kernel_rfl
theorem str_of_data (s : ByteArray) : s = strOf s.data.toList := by cases s; simp [strOf]
theorem field_came {H : Type} {enc : TypeId × Value → H} {w : World} {base : Nat} {spare : Nat → Bool} {held : Bool} {xs : Array Value} {d : DataW H} {p : List MemPlace}
    (h : DataW.Trod enc Tryz.prog w base spare held 44 (.agg xs) d p) : ∃ f : Fd, Value.agg xs = fdV f ∧ d = fdD f ∧ Int64 f.num ∧ Int64 f.ty := by
  obtain ⟨fuel, hf⟩ := h
  have hcs : (Value.agg xs).cells.toList = xs.toList := rfl
  rw [hcs] at hf
  obtain ⟨ys, m, rfl, ex, hl, hn, he⟩ := DataW.trod_struct Tryz.underlying44 hf
  rw [cells_fd] at hl
  obtain ⟨l⟩ := xs
  match l, hl, ys, hn with
  | [v0, v1, v2, v3, v4, v5, v6], _, [y0, y1, y2, y3, y4, y5, y6], _ =>
    have g0 : DataW.trod enc Tryz.prog w base spare held m 9 (([v0, v1, v2, v3, v4, v5, v6].drop 0).take (Tryz.prog.cellsOf 9)) = some y0 := he 0 _ rfl
    have g1 : DataW.trod enc Tryz.prog w base spare held m 3 (([v0, v1, v2, v3, v4, v5, v6].drop 1).take (Tryz.prog.cellsOf 3)) = some y1 := he 1 _ rfl
    have g2 : DataW.trod enc Tryz.prog w base spare held m 3 (([v0, v1, v2, v3, v4, v5, v6].drop 2).take (Tryz.prog.cellsOf 3)) = some y2 := he 2 _ rfl
    have g3 : DataW.trod enc Tryz.prog w base spare held m 9 (([v0, v1, v2, v3, v4, v5, v6].drop 3).take (Tryz.prog.cellsOf 9)) = some y3 := he 3 _ rfl
    have g4 : DataW.trod enc Tryz.prog w base spare held m 4 (([v0, v1, v2, v3, v4, v5, v6].drop 4).take (Tryz.prog.cellsOf 4)) = some y4 := he 4 _ rfl
    have g5 : DataW.trod enc Tryz.prog w base spare held m 4 (([v0, v1, v2, v3, v4, v5, v6].drop 5).take (Tryz.prog.cellsOf 4)) = some y5 := he 5 _ rfl
    have g6 : DataW.trod enc Tryz.prog w base spare held m 9 (([v0, v1, v2, v3, v4, v5, v6].drop 6).take (Tryz.prog.cellsOf 9)) = some y6 := he 6 _ rfl
    rw [cells_fds] at g0 g3 g6
    rw [cells_fdi] at g1 g2
    rw [cells_fdb] at g4 g5
    simp only [List.drop_zero, List.drop_succ_cons, List.take_succ_cons, List.take_zero] at g0 g1 g2 g3 g4 g5 g6
    obtain ⟨s0, q0, z0, _⟩ := DataW.trod_string Tryz.underlying9 g0
    obtain ⟨n1, q1, z1, w1⟩ := DataW.trod_int Tryz.underlying3 g1
    obtain ⟨n2, q2, z2, w2⟩ := DataW.trod_int Tryz.underlying3 g2
    obtain ⟨s3, q3, z3, _⟩ := DataW.trod_string Tryz.underlying9 g3
    obtain ⟨b4, q4, z4⟩ := DataW.trod_bool Tryz.underlying4 g4
    obtain ⟨b5, q5, z5⟩ := DataW.trod_bool Tryz.underlying4 g5
    obtain ⟨s6, q6, z6, _⟩ := DataW.trod_string Tryz.underlying9 g6
    simp at q0 q1 q2 q3 q4 q5 q6
    subst q0 q1 q2 q3 q4 q5 q6
    refine ⟨⟨s0.data.toList, n1, n2, s3.data.toList, b4, b5, s6.data.toList⟩, ?_, ?_, i64_came w1, i64_came w2⟩
    · unfold fdV
      rw [← str_of_data, ← str_of_data, ← str_of_data]
    · have e := congrArg Prod.fst ex
      simp only [List.map_cons, List.map_nil, z0, z1, z2, z3, z4, z5, z6] at e
      exact e
theorem field_sized {H : Type} {ts : List TypeId} {ds : List (DataW H)} {j : Nat} {f : Fd} (h : (DataW.weightsEach Tryz.prog ts ds).all (· ≤ reachBytes) = true) (ht : ts[j]? = some 44) (hd : ds[j]? = some (fdD f)) :
    f.name.length ≤ reachBytes ∧ f.ref.length ≤ reachBytes ∧ f.one.length ≤ reachBytes := by
  have hm := DataW.weights_mem_each (P := Tryz.prog) ht hd
  have hall : ∀ n ∈ DataW.weightsEach Tryz.prog ts ds, n ≤ reachBytes := fun n hn => by simpa using List.all_eq_true.1 h n hn
  have hw : (fdD f : DataW H).weights Tryz.prog 44 = [f.name.length, f.ref.length, f.one.length] := by
    unfold fdD
    simp only [DataW.weights, Tryz.underlying44]
    rfl
  rw [hw] at hm
  exact ⟨hall _ (hm _ (by simp)), hall _ (hm _ (by simp)), hall _ (hm _ (by simp))⟩
end Go.Proofs.YtloheacncefkgaaGreatDoor

/- slices.IndexFunc at the lists of a schema, by whatever function is handed on: the first place. Conditions: those that each theorem names. -/
namespace Go.Proofs.YtloheacncefkgaaGreatDoor
open Go.RowKit
set_option linter.unusedVariables false
set_option maxRecDepth 100000

/-- The first place at which it is so; -1, if it is so at none. -/
def posP {α : Type} (l : List α) (p : α → Bool) : Int := if l.any p = true then (l.findIdx p : Int) else -1
theorem posP_hit {α : Type} {l : List α} {p : α → Bool} {i : Nat} {x : α} (h : l[i]? = some x) (hp : p x = true) (ht : (l.take i).any p = false) : posP l p = (i : Int) := by
  have hi := (List.getElem?_eq_some_iff.mp h).1
  have hx := (List.getElem?_eq_some_iff.mp h).2
  unfold posP
  rw [if_pos (List.any_eq_true.mpr ⟨x, List.mem_of_getElem? h, hp⟩)]
  have : l.findIdx p = i := by
    rw [List.findIdx_eq hi]
    refine ⟨by rw [hx]; exact hp, fun j hj => ?_⟩
    rw [List.any_eq_false] at ht
    have hm : l[j] ∈ l.take i := List.mem_take_iff_getElem.mpr ⟨j, by omega, rfl⟩
    have := ht _ hm
    simpa using this
  rw [this]
theorem posP_miss {α : Type} {l : List α} {p : α → Bool} {i n : Nat} (hn : n = l.length) (hi : ¬ i < n) (h : (l.take i).any p = false) : posP l p = -1 := by
  rw [List.take_of_length_le (by omega)] at h
  unfold posP
  rw [h]
  rfl
theorem placeT_pos {α : Type} (l : List α) (f : α → List UInt8) (t : List UInt8) : placeT (l.map f) t = posP l (fun x => decide (f x = t)) := by
  unfold placeT posP
  have e : (t ∈ l.map f) ↔ l.any (fun x => decide (f x = t)) = true := by
    simp only [List.mem_map, List.any_eq_true, decide_eq_true_eq]
  by_cases h : t ∈ l.map f
  · rw [if_pos h, if_pos (e.mp h), List.findIdx_map]
    rfl
  · rw [if_neg h, if_neg (fun h2 => h (e.mpr h2))]
theorem placeZ_pos {α : Type} (l : List α) (f : α → Int) (t : Int) : placeZ (l.map f) t = posP l (fun x => decide (f x = t)) := by
  unfold placeZ posP
  have e : (t ∈ l.map f) ↔ l.any (fun x => decide (f x = t)) = true := by
    simp only [List.mem_map, List.any_eq_true, decide_eq_true_eq]
  by_cases h : t ∈ l.map f
  · rw [if_pos h, if_pos (e.mp h), List.findIdx_map]
    rfl
  · rw [if_neg h, if_neg (fun h2 => h (e.mpr h2))]

set_option maxHeartbeats 4000000 in
theorem fxi_ms {S : Nat → Nat → Prop} (w : World) {A : Option Addr} {cap n : Nat} {l : List Ms} (h : Lst 3 (S 4) (msR S) w A cap l) (hn : n = l.length) (kf : Nat) (caps : Array Value) (henter : Enters Tryz.prog kf) (p : Ms → Bool)
    (hp : ∀ x ∈ l, ∀ A1 cap1 A2 cap2, Lst 7 (S 1) fdR w A1 cap1 x.fields → Lst 1 (S 2) inR w A2 cap2 x.barred → ∀ wr, Below w.heap.size w wr → Calls Tryz.prog kf (#[.agg #[.string (strOf x.name), .slice A1 x.fields.length cap1, .slice A2 x.barred.length cap2]] ++ caps) wr fun e w' => e = .returned (.bool (p x)) ∧ Below wr.heap.size wr w') :
    Calls Tryz.prog 55 #[.slice A n cap, .func (.func kf) #[] caps] w fun e w' => e = .returned (.int .i64 (posP l p)) ∧ Below w.heap.size w w' := by
  have q1 : n ≤ cap := by have := h.l_le; omega
  have q2 := h.l_max
  unfold maxLen at q2
  have hent : ∀ (args : Array Value) (w : World), (callFunc kf args).run Tryz.prog w = .ok (.enter kf args) w := henter
  have H := Lib.hid h
  have HN := Lib.hid hn
  have HP := Lib.hid hp
  clear h hn hp henter
  go_enter Tryz.func55, Tryz.ntmps55
  go_wp2
  go_loopw [5, 8] (fun u x wr => ∃ i : Nat, x = .int .i64 (i : Int) ∧ i ≤ n ∧ (l.take i).any p = false ∧ Below w.heap.size w wr) (fun u x _ => n - (intOf x).toNat)
  case atStart => exact ⟨0, rfl, Nat.zero_le _, by simp, Below.refl _ _⟩
  case round =>
    obtain ⟨i, rfl, hi, hall, hbel⟩ := hrel
    have HALL := Lib.hid hall
    have hb0 := Lib.hid hbel
    clear hall hbel
    by_cases hlt : i < n
    · have g1 : decide ((i : Int) < (n : Int)) = true := decide_eq_true (by omega)
      obtain ⟨x, hx⟩ : ∃ x, l[i]? = some x := ⟨_, List.getElem?_eq_getElem (by have := HN.out; omega)⟩
      have HANY := Lib.hid (any_snoc l p i x hx)
      have HIT : Hid (p x = true → posP l p = (i : Int)) := Lib.hid (fun e => posP_hit hx e HALL.out)
      obtain ⟨ge, oe, A1, cap1, A2, cap2, rfl, _, hc, hl, hl2⟩ := ms_at H.out hx
      have HCK := Lib.hid (HP.out x (List.mem_of_getElem? hx) A1 cap1 A2 cap2 hl hl2 _ hb0.out)
      obtain ⟨nf, hnf⟩ : ∃ nf, nf = x.fields.length := ⟨_, rfl⟩
      obtain ⟨nb, hnb⟩ : ∃ nb, nb = x.barred.length := ⟨_, rfl⟩
      obtain ⟨sn, hsn⟩ : ∃ sn, sn = strOf x.name := ⟨_, rfl⟩
      rw [← hnf, ← hnb] at hc HCK
      rw [← hsn] at hc HCK
      obtain ⟨c0, c1, c2⟩ := hc _ hb0.out
      obtain ⟨b, hbp⟩ : ∃ b, b = p x := ⟨_, rfl⟩
      have HBP := Lib.hid hbp
      rw [← hbp] at HCK HANY
      clear hbp hx hc hl hl2 hnf hnb hsn
      cases b with
      | true =>
        go_wp2_with (go_at_fn kf; refine HCK.out.mono ?_; rintro e w2 ⟨rfl, hb⟩; have HB2 := Lib.hid (hb0.out.trans (hb.mono hb0.out.size)); clear hb)
        go_ret
        exact ⟨ret_int' (HIT.out HBP.out.symm).symm, HB2.out⟩
      | false =>
        go_wp2_with (go_at_fn kf; refine HCK.out.mono ?_; rintro e w2 ⟨rfl, hb⟩; have HB2 := Lib.hid (hb0.out.trans (hb.mono hb0.out.size)); clear hb)
        go_roundw
        case rel => exact ⟨i + 1, by go_num, by omega, by rw [HANY.out, HALL.out]; rfl, HB2.out⟩
        case measure => simp [intOf]; omega
    · have g1 : decide ((i : Int) < (n : Int)) = false := decide_eq_false (by omega)
      have HF := Lib.hid (posP_miss HN.out hlt HALL.out)
      go_wp2
      go_ret
      exact ⟨ret_int' HF.out.symm, hb0.out⟩

set_option maxHeartbeats 4000000 in
theorem fxi_fd {S : Nat → Prop} (w : World) {A : Option Addr} {cap n : Nat} {l : List Fd} (h : Lst 7 S fdR w A cap l) (hn : n = l.length) (kf : Nat) (caps : Array Value) (henter : Enters Tryz.prog kf) (p : Fd → Bool)
    (hp : ∀ x ∈ l, ∀ wr, Below w.heap.size w wr → Calls Tryz.prog kf (#[fdV x] ++ caps) wr fun e w' => e = .returned (.bool (p x)) ∧ Below wr.heap.size wr w') :
    Calls Tryz.prog 101 #[.slice A n cap, .func (.func kf) #[] caps] w fun e w' => e = .returned (.int .i64 (posP l p)) ∧ Below w.heap.size w w' := by
  have q1 : n ≤ cap := by have := h.l_le; omega
  have q2 := h.l_max
  unfold maxLen at q2
  have hent : ∀ (args : Array Value) (w : World), (callFunc kf args).run Tryz.prog w = .ok (.enter kf args) w := henter
  have H := Lib.hid h
  have HN := Lib.hid hn
  have HP := Lib.hid hp
  clear h hn hp henter
  go_enter Tryz.func101, Tryz.ntmps101
  go_wp2
  go_loopw [5, 8] (fun u x wr => ∃ i : Nat, x = .int .i64 (i : Int) ∧ i ≤ n ∧ (l.take i).any p = false ∧ Below w.heap.size w wr) (fun u x _ => n - (intOf x).toNat)
  case atStart => exact ⟨0, rfl, Nat.zero_le _, by simp, Below.refl _ _⟩
  case round =>
    obtain ⟨i, rfl, hi, hall, hbel⟩ := hrel
    have HALL := Lib.hid hall
    have hb0 := Lib.hid hbel
    clear hall hbel
    by_cases hlt : i < n
    · have g1 : decide ((i : Int) < (n : Int)) = true := decide_eq_true (by omega)
      obtain ⟨x, hx⟩ : ∃ x, l[i]? = some x := ⟨_, List.getElem?_eq_getElem (by have := HN.out; omega)⟩
      have HANY := Lib.hid (any_snoc l p i x hx)
      have HIT : Hid (p x = true → posP l p = (i : Int)) := Lib.hid (fun e => posP_hit hx e HALL.out)
      obtain ⟨ge, oe, rfl, _, hc⟩ := fd_at H.out hx
      have HCK := Lib.hid (HP.out x (List.mem_of_getElem? hx) _ hb0.out)
      unfold fdV at HCK
      obtain ⟨s0, hs0⟩ : ∃ s0, s0 = strOf x.name := ⟨_, rfl⟩
      obtain ⟨s3, hs3⟩ : ∃ s3, s3 = strOf x.ref := ⟨_, rfl⟩
      obtain ⟨s6, hs6⟩ : ∃ s6, s6 = strOf x.one := ⟨_, rfl⟩
      obtain ⟨z1, hz1⟩ : ∃ z1, z1 = x.num := ⟨_, rfl⟩
      obtain ⟨z2, hz2⟩ : ∃ z2, z2 = x.ty := ⟨_, rfl⟩
      obtain ⟨b4, hb4⟩ : ∃ b4, b4 = x.rep := ⟨_, rfl⟩
      obtain ⟨b5, hb5⟩ : ∃ b5, b5 = x.loose := ⟨_, rfl⟩
      rw [← hs0, ← hs3, ← hs6, ← hz1, ← hz2, ← hb4, ← hb5] at hc HCK
      obtain ⟨c0, c1, c2, c3, c4, c5, c6⟩ := hc _ hb0.out
      obtain ⟨b, hbp⟩ : ∃ b, b = p x := ⟨_, rfl⟩
      have HBP := Lib.hid hbp
      rw [← hbp] at HCK HANY
      clear hbp hx hc hs0 hs3 hs6 hz1 hz2 hb4 hb5
      cases b with
      | true =>
        go_wp2_with (go_at_fn kf; refine HCK.out.mono ?_; rintro e w2 ⟨rfl, hb⟩; have HB2 := Lib.hid (hb0.out.trans (hb.mono hb0.out.size)); clear hb)
        go_ret
        exact ⟨ret_int' (HIT.out HBP.out.symm).symm, HB2.out⟩
      | false =>
        go_wp2_with (go_at_fn kf; refine HCK.out.mono ?_; rintro e w2 ⟨rfl, hb⟩; have HB2 := Lib.hid (hb0.out.trans (hb.mono hb0.out.size)); clear hb)
        go_roundw
        case rel => exact ⟨i + 1, by go_num, by omega, by rw [HANY.out, HALL.out]; rfl, HB2.out⟩
        case measure => simp [intOf]; omega
    · have g1 : decide ((i : Int) < (n : Int)) = false := decide_eq_false (by omega)
      have HF := Lib.hid (posP_miss HN.out hlt HALL.out)
      go_wp2
      go_ret
      exact ⟨ret_int' HF.out.symm, hb0.out⟩
end Go.Proofs.YtloheacncefkgaaGreatDoor

/- Maps from texts to numbers: what they hold, where they lie (no program here but the types' own facts). Conditions: those that each theorem names. -/
namespace Go.Proofs.YtloheacncefkgaaGreatDoor
open Go.RowKit Go.Maps Go.WideMaps Go.WideShapes
set_option linter.unusedVariables false
set_option maxRecDepth 100000
attribute [local go_sem] Oper.semAt_some

/-- What a map from names to numbers holds. -/
def MapIs (D : DataW Unit) (f : List UInt8 → Option Int) : Prop := IsMap D ∧ ∀ t, Maps.has D (.string t) = (f t).isSome ∧ ∀ z x, f t = some x → D.atKey (.string t) z = .lit (.int .i64 x)
theorem lit_ne {t u : List UInt8} (h : u ≠ t) : (Lit.string u) ≠ .string t := fun e => h (by injection e)
theorem mapIs_empty : MapIs (.map []) (fun _ => none) := ⟨isMap_empty, fun t => ⟨rfl, fun z x h => by cases h⟩⟩
theorem mapIs_put {D : DataW Unit} {f : List UInt8 → Option Int} (h : MapIs D f) (t : List UInt8) (x : Int) : MapIs (D.put (.string t) (.lit (.int .i64 x))) (fun u => if u = t then some x else f u) := by
  refine ⟨h.1.put _ _, fun u => ?_⟩
  dsimp only
  by_cases hu : u = t
  · subst hu
    rw [if_pos rfl]
    exact ⟨has_put_same h.1 (show WideAt.IsKeyLit (.string u) from trivial) _, fun z y hy => by cases hy; exact atKey_put_same h.1 (show WideAt.IsKeyLit (.string u) from trivial) _ _⟩
  · rw [if_neg hu]
    exact ⟨(has_put_other (lit_ne hu) _).trans (h.2 u).1, fun z y hy => (atKey_put_other (lit_ne hu) _ _).trans ((h.2 u).2 z y hy)⟩
theorem mapIs_congr {D : DataW Unit} {f g : List UInt8 → Option Int} (h : MapIs D f) (e : ∀ t, f t = g t) : MapIs D g := ⟨h.1, fun t => by rw [← e t]; exact h.2 t⟩

theorem zero_int (w : World) : (zeroValue 3).run Tryz.prog w = .ok (.int .i64 0) w := by kernel_rfl
theorem str_keyed : Keyed Tryz.prog 9 := string_keyed Tryz.underlying9
theorem str_key {t : List UInt8} (h : t.length ≤ 140737488351232) : keyOf Tryz.prog 9 (.string (strOf t)) = some (.string t) := by
  have h1 : (strOf t).size = t.length := str_size t
  have := keyOf_string_mk (P := Tryz.prog) (k := 9) (s := strOf t) Tryz.underlying9 (by rw [h1]; unfold maxLen; omega)
  rw [this]
  simp [strOf]

/-- The map in block bm holds f. -/
def MapAt (w : World) (bm n : Nat) (f : List UInt8 → Option Int) : Prop := ∃ D : DataW Unit, w.ownsMap Tryz.prog 9 (plainElem Tryz.prog 3) bm n D ∧ MapIs D f
theorem MapAt.kept {w w' : World} {bm n : Nat} {f : List UInt8 → Option Int} {row : Option Nat} (h : MapAt w bm n f) (hg : w.grownBy w' row) (hne : some bm ≠ row) : MapAt w' bm n f := by
  obtain ⟨D, h1, h2⟩ := h
  exact ⟨D, h1.kept hg hne, h2⟩
theorem MapAt.lt {w : World} {bm n : Nat} {f : List UInt8 → Option Int} (h : MapAt w bm n f) : bm < w.heap.size := by
  obtain ⟨D, h1, h2⟩ := h
  exact h1.lt
theorem MapAt.bel {w w' : World} {bm n : Nat} {f : List UInt8 → Option Int} (h : MapAt w bm n f) (hb : Below w.heap.size w w') : MapAt w' bm n f :=
  h.kept (row := none) ⟨hb.os, hb.tape, hb.output, hb.size, fun i hi _ => hb.block i hi⟩ (by simp)

end Go.Proofs.YtloheacncefkgaaGreatDoor
