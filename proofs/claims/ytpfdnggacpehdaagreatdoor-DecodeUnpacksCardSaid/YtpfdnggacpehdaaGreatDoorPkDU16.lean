/- Several texts in one: SchIn, SchAt, IntApp, SchTwo, Bx3, FlIn, FxA. What each proves, and its conditions, stands at its own head. -/
import Derived.Test.YtpfdnggacpehdaaGreatDoorChecked
import Derived.Test.YtpfdnggacpehdaaGreatDoorPkDU15
import Derived.Test.YtpfdnggacpehdaaGreatDoorPkDU11
import Derived.Test.YtpfdnggacpehdaaGreatDoorPkDU0
import Derived.OpenShut
import Derived.ProofKit
import Derived.SizedLaws
import Derived.Test.YtpfdnggacpehdaaGreatDoorPkDU2
import Derived.WalkKit
import Derived.OwnWalk
import Derived.RowKitTokens
import Derived.Lib.Hide
import Derived.BigQuiet
import Derived.Deep.QuietTactic
import Derived.IntWalk
import Derived.Deep.LoopGhost
import Derived.Test.YtpfdnggacpehdaaGreatDoorPkDU3
import Derived.Test.YtpfdnggacpehdaaGreatDoorPkDU6
import Derived.Shelf.Abstract
import Derived.Deep.RegionHeld3
/- Schemas in memory: what is read, what came in. Conditions: those that each theorem names. -/
namespace Go.Proofs.YtpfdnggacpehdaaGreatDoor
open Go.RowKit Go.ChangeShapes Go.WideShapes
set_option linter.unusedVariables false
set_option maxRecDepth 100000

def vlR (w : World) (cs : List Value) (x : Vl) : Prop := cs = [.string (strOf x.name), .int .i64 x.num]
def fdCells (f : Fd) : List Value := [.string (strOf f.name), .int .i64 f.num, .int .i64 f.ty, .string (strOf f.ref), .bool f.rep, .bool f.loose, .string (strOf f.one)]
def fdR (w : World) (cs : List Value) (x : Fd) : Prop := cs = fdCells x
def inR (w : World) (cs : List Value) (x : Int) : Prop := cs = [.int .i64 x]
def enR (S : Nat → Nat → Prop) (w : World) (cs : List Value) (x : En) : Prop := ∃ A cap, cs = [.string (strOf x.name), .slice A x.values.length cap] ∧ Lst 2 (S 0) vlR w A cap x.values
def msR (S : Nat → Nat → Prop) (w : World) (cs : List Value) (x : Ms) : Prop := ∃ A cap A2 cap2, cs = [.string (strOf x.name), .slice A x.fields.length cap, .slice A2 x.barred.length cap2] ∧ Lst 7 (S 1) fdR w A cap x.fields ∧ Lst 1 (S 2) inR w A2 cap2 x.barred
section
variable {S S' : Nat → Nat → Prop} {w w' : World} {cs : List Value}
theorem vlR_keep : ∀ cs (x : Vl), vlR w cs x → vlR w' cs x := fun _ _ h => h
theorem fdR_keep : ∀ cs (x : Fd), fdR w cs x → fdR w' cs x := fun _ _ h => h
theorem inR_keep : ∀ cs (x : Int), inR w cs x → inR w' cs x := fun _ _ h => h
theorem enR_keep (hS : ∀ k g, S k g → S' k g) (hk : ∀ k (p : Addr), S k p.block → p.block < w.heap.size → w'.cell? p = w.cell? p) : ∀ cs (x : En), enR S w cs x → enR S' w' cs x :=
  fun cs x ⟨A, cap, e, h⟩ => ⟨A, cap, e, lst_keep h vlR_keep (hS 0) (hk 0)⟩
theorem msR_keep (hS : ∀ k g, S k g → S' k g) (hk : ∀ k (p : Addr), S k p.block → p.block < w.heap.size → w'.cell? p = w.cell? p) : ∀ cs (x : Ms), msR S w cs x → msR S' w' cs x :=
  fun cs x ⟨A, cap, A2, cap2, e, h, h2⟩ => ⟨A, cap, A2, cap2, e, lst_keep h fdR_keep (hS 1) (hk 1), lst_keep h2 inR_keep (hS 2) (hk 2)⟩
theorem bel_keep {T : Nat → Prop} (hb : Below w.heap.size w w') : ∀ p : Addr, T p.block → p.block < w.heap.size → w'.cell? p = w.cell? p := fun p _ hp => hb.cell hp
end

section
variable {H : Type} {enc : TypeId × Value → H} {w : World} {base : Nat} {spare : Nat → Bool} {held : Bool} {fuel : Nat} {cs : List Value} {x : DataW H × List MemPlace}
instance : Inhabited Vl := ⟨⟨[], 0⟩⟩
instance : Inhabited Fd := ⟨⟨[], 0, 0, [], false, false, []⟩⟩
instance : Inhabited En := ⟨⟨[], []⟩⟩
instance : Inhabited Ms := ⟨⟨[], [], []⟩⟩
end
end Go.Proofs.YtpfdnggacpehdaaGreatDoor

/- Schemas in memory, as the walks ask for them: a schema that was handed over, one thing of a list, the box that a call keeps it in. Conditions: those that each theorem names. -/
namespace Go.Proofs.YtpfdnggacpehdaaGreatDoor
open Go.RowKit
set_option linter.unusedVariables false
set_option maxRecDepth 100000

/-- A schema as it is handed over. -/
structure ScAt (S : Nat → Nat → Prop) (w : World) (A : Option Addr) (n cap : Nat) (A2 : Option Addr) (n2 cap2 : Nat) (s : Sc) : Prop where
  s_e : Lst 2 (S 3) (enR S) w A cap s.enums
  s_m : Lst 3 (S 4) (msR S) w A2 cap2 s.msgs
  s_ne : n = s.enums.length
  s_nm : n2 = s.msgs.length
theorem scAt_bel {S : Nat → Nat → Prop} {w w' : World} {A A2 : Option Addr} {n cap n2 cap2 : Nat} {s : Sc} (h : ScAt S w A n cap A2 n2 cap2 s) (hb : Below w.heap.size w w') : ScAt S w' A n cap A2 n2 cap2 s :=
  ⟨lst_keep h.s_e (enR_keep (fun _ _ h => h) (fun _ => bel_keep hb)) (fun _ h => h) (bel_keep hb), lst_keep h.s_m (msR_keep (fun _ _ h => h) (fun _ => bel_keep hb)) (fun _ h => h) (bel_keep hb), h.s_ne, h.s_nm⟩
theorem scAt_max {S : Nat → Nat → Prop} {w : World} {A A2 : Option Addr} {n cap n2 cap2 : Nat} {s : Sc} (h : ScAt S w A n cap A2 n2 cap2 s) : n ≤ cap ∧ cap ≤ 9223372036854775807 ∧ n2 ≤ cap2 ∧ cap2 ≤ 9223372036854775807 := by
  have h1 := h.s_e.l_le
  have h2 := h.s_e.l_max
  have h3 := h.s_m.l_le
  have h4 := h.s_m.l_max
  unfold maxLen at h2 h4
  rw [← h.s_ne] at h1
  rw [← h.s_nm] at h3
  exact ⟨h1, h2, h3, h4⟩

/-- The call's own box stands as it was made; all that is older is as it was. -/
structure Bx (w wr : World) (o : Obj) : Prop where
  b_bel : Below w.heap.size w wr
  b_blk : wr.heap[w.heap.size]? = some o
theorem bx_start (w : World) (cs : Array Value) (t : TypeId) : Bx w (w.alloc (.cells cs t)) (.cells cs t (0, 0)) := ⟨(Below.refl _ w).alloc (Nat.le_refl _) _, heap_alloc_new w _⟩
theorem bx_step {w wr w2 : World} {o : Obj} (h : Bx w wr o) (hb : Below wr.heap.size wr w2) : Bx w w2 o := ⟨h.b_bel.trans (hb.mono h.b_bel.size), (hb.block _ (lt_of_block h.b_blk)).trans h.b_blk⟩
theorem drewN_under (w : World) (n : Nat) : Below w.heap.size w (w.drewN n) := ⟨rfl, rfl, rfl, Nat.le_refl _, fun _ _ => rfl⟩
theorem cell_under {w wr : World} {p : Addr} {v : Value} (hb : Below w.heap.size w wr) (h : w.cell? p = some v) : wr.cell? p = some v := (hb.cell (World.block_lt_of_cell? w _ h)).trans h
section
variable {S : Nat → Prop} {w : World} {A : Option Addr} {cap i : Nat}
theorem fd_at {l : List Fd} {x : Fd} (h : Lst 7 S fdR w A cap l) (hi : l[i]? = some x) : ∃ g off, A = some ⟨g, off, none⟩ ∧ S g ∧ ∀ wr, Below w.heap.size w wr → wr.cell? ⟨g, off + i * 7, none⟩ = some (.string (strOf x.name)) ∧ wr.cell? ⟨g, off + i * 7 + 1, none⟩ = some (.int .i64 x.num) ∧ wr.cell? ⟨g, off + i * 7 + 2, none⟩ = some (.int .i64 x.ty) ∧ wr.cell? ⟨g, off + i * 7 + 3, none⟩ = some (.string (strOf x.ref)) ∧ wr.cell? ⟨g, off + i * 7 + 4, none⟩ = some (.bool x.rep) ∧ wr.cell? ⟨g, off + i * 7 + 5, none⟩ = some (.bool x.loose) ∧ wr.cell? ⟨g, off + i * 7 + 6, none⟩ = some (.string (strOf x.one)) := by
  obtain ⟨g, off, cs, e, hs, _, rfl, hc⟩ := h.l_at i x hi
  exact ⟨g, off, e, hs, fun wr hb => ⟨cell_under hb (hc 0 _ rfl), cell_under hb (hc 1 _ rfl), cell_under hb (hc 2 _ rfl), cell_under hb (hc 3 _ rfl), cell_under hb (hc 4 _ rfl), cell_under hb (hc 5 _ rfl), cell_under hb (hc 6 _ rfl)⟩⟩
theorem ms_at {S : Nat → Nat → Prop} {l : List Ms} {x : Ms} (h : Lst 3 (S 4) (msR S) w A cap l) (hi : l[i]? = some x) : ∃ g off A1 cap1 A2 cap2, A = some ⟨g, off, none⟩ ∧ S 4 g ∧ (∀ wr, Below w.heap.size w wr → wr.cell? ⟨g, off + i * 3, none⟩ = some (.string (strOf x.name)) ∧ wr.cell? ⟨g, off + i * 3 + 1, none⟩ = some (.slice A1 x.fields.length cap1) ∧ wr.cell? ⟨g, off + i * 3 + 2, none⟩ = some (.slice A2 x.barred.length cap2)) ∧ Lst 7 (S 1) fdR w A1 cap1 x.fields ∧ Lst 1 (S 2) inR w A2 cap2 x.barred := by
  obtain ⟨g, off, cs, e, hs, _, ⟨A1, cap1, A2, cap2, rfl, h1, h2⟩, hc⟩ := h.l_at i x hi
  exact ⟨g, off, A1, cap1, A2, cap2, e, hs, fun wr hb => ⟨cell_under hb (hc 0 _ rfl), cell_under hb (hc 1 _ rfl), cell_under hb (hc 2 _ rfl)⟩, h1, h2⟩
end
end Go.Proofs.YtpfdnggacpehdaaGreatDoor

/- append of numbers onto a row of numbers of the call's own. Conditions: those that each theorem names. -/
namespace Go.Proofs.YtpfdnggacpehdaaGreatDoor
open Go.RowKit
set_option linter.unusedVariables false
set_option maxRecDepth 100000

/-- The cells of numbers. -/
def zcell (x : Int) : List Value := [.int .i64 x]
def zs (l : List Int) : List Value := l.flatMap zcell
theorem zcell_length (x : Int) : (zcell x).length = 1 := rfl
theorem zs_length (l : List Int) : (zs l).length = l.length := by
  have := flat_length zcell 1 zcell_length l
  unfold zs
  omega
theorem zs_append (a b : List Int) : zs (a ++ b) = zs a ++ zs b := by simp [zs]
theorem zs_one (l : List Int) : ∀ u ∈ zs l, u.oneCell' = true := by
  intro u hu
  obtain ⟨x, _, hx⟩ := List.mem_flatMap.1 hu
  simp [zcell] at hx
  subst hx
  rfl
theorem info_int1 : (Tryz.prog.info? 3).map (fun i => (i.zero, i.size, i.bytes)) = some (some (.int .i64 0), 1, 8) := by kernel_rfl
/-- A literal list of one number. -/
theorem sl_int1 (w : World) (t : TypeId) (x : Int) : Sl (w.alloc (.cells #[.int .i64 x] t)) (some ⟨w.heap.size, 0, none⟩) 1 (zs [x]) := by
  refine ⟨Nat.le_refl _, by decide, (fun h => by cases h), fun j u hj => ⟨_, _, rfl, ?_⟩⟩
  rw [cell_of_row _ w.heap.size (0 + j) _ t (0, 0) (heap_alloc_new w _), Nat.zero_add, ← Array.getElem?_toList]
  exact hj
theorem wpList_append_zs {w : World} {ops : Array Oper} {rest : List Oper} {o : Oper} {a : Act} {Q : Exit → Act → World → Prop} (hgd : o.guard = none) (s x : Operand)
    (ho : o.op = .call { callee := .builtin .append, args := #[s, x], argTypes := #[57, 57] })
    (base : Nat) (v : Value) (n : Nat) (pre : List Int) (hs : a.eval s = v) (hown : w.ownsRow base 3 1 v n (zs pre))
    (A : Option Addr) (m c : Nat) (bs : List Int) (hx : a.eval x = .slice A m c) (hm : m = bs.length) (hb : Sl w A c (zs bs))
    (h47 : pre.length + bs.length ≤ 1000000) (hbase : base ≤ w.heap.size)
    (h : ∀ v' w', w'.ownsRow base 3 1 v' (pre.length + bs.length) (zs (pre ++ bs)) → w.grownBy w' v.ownBlock → wpList Tryz.prog ops Q rest (a.put o.dst v') w') : wpList Tryz.prog ops Q (o :: rest) a w := by
  obtain ⟨i, hi, hz, hsize, hby⟩ := info_parts info_int1
  subst hm
  obtain ⟨hn, _⟩ := Sl.own hown
  rw [zs_length] at hn
  subst hn
  rcases A with _ | ad
  · have h0 := hb.nil rfl
    have hle := hb.le
    rw [zs_length] at hle
    have hbs : bs = [] := List.eq_nil_of_length_eq_zero (by omega)
    subst hbs h0
    refine wpList_plain hgd fun K hK' => ?_
    have hrun := run_append_owned_none (P := Tryz.prog) w base 57 o.type 3 i 1 Tryz.underlying57 hi v pre.length (zs pre) hown
    unfold Oper.wp
    simp [execOp, ho, resolve, invoke, builtin, hs, hx, hrun, Result.andThen]
    exact hK' _ _ (h v w (by simpa using hown) (World.grownBy.refl _ _))
  · exact wpList_append_own w hgd s x 57 ho base 3 i (.int .i64 0) 1 8 Tryz.underlying57 hi hz hsize hby rfl (by decide) v pre.length (zs pre) hs hown ad bs.length c (zs bs) hx
      (by rw [zs_length]; omega) (fun j u hu => by
        obtain ⟨bl, off, ea, hcell⟩ := hb.at_ j u hu
        cases ea
        have hplain : (⟨bl, off, none⟩ : Addr).add j = ⟨bl, off + j, none⟩ := by unfold Addr.add; split <;> simp_all
        rw [hplain]; exact hcell) (zs_one bs) (by unfold maxLen; omega) (by omega) hbase (fun v' w' h1 h2 _ => h v' w' (by rw [zs_append]; exact h1) h2)
/-- Such a row as a list of numbers. -/
theorem zs_own {w : World} {base n : Nat} {v : Value} {l : List Int} (h : w.ownsRow base 3 1 v n (zs l)) : n = l.length ∧ ∃ A cap, v = .slice A l.length cap ∧ Lst 1 (fun g => base ≤ g ∧ g < w.heap.size) inR w A cap l :=
  lst_own (R := inR) (by decide) zcell_length (fun x _ => rfl) h
end Go.Proofs.YtpfdnggacpehdaaGreatDoor

/- Two schemas side by side: what is the same, two boxes, numbers compared. Conditions: those that each theorem names. -/
namespace Go.Proofs.YtpfdnggacpehdaaGreatDoor
open Go.RowKit
set_option linter.unusedVariables false
set_option maxRecDepth 100000

instance : DecidableEq Vl := fun ⟨a, b⟩ ⟨c, d⟩ => if h : a = c ∧ b = d then .isTrue (by rw [h.1, h.2]) else .isFalse (fun e => by injection e with e1 e2; exact h ⟨e1, e2⟩)
instance : DecidableEq Fd := fun ⟨a, b, c, d, e, f, g⟩ ⟨a', b', c', d', e', f', g'⟩ =>
  if h : a = a' ∧ b = b' ∧ c = c' ∧ d = d' ∧ e = e' ∧ f = f' ∧ g = g' then .isTrue (by obtain ⟨rfl, rfl, rfl, rfl, rfl, rfl, rfl⟩ := h; rfl)
  else .isFalse (fun e => by injection e with e1 e2 e3 e4 e5 e6 e7; exact h ⟨e1, e2, e3, e4, e5, e6, e7⟩)
instance : DecidableEq En := fun ⟨a, b⟩ ⟨c, d⟩ => if h : a = c ∧ b = d then .isTrue (by rw [h.1, h.2]) else .isFalse (fun e => by injection e with e1 e2; exact h ⟨e1, e2⟩)
instance : DecidableEq Ms := fun ⟨a, b, x⟩ ⟨c, d, y⟩ => if h : a = c ∧ b = d ∧ x = y then .isTrue (by rw [h.1, h.2.1, h.2.2]) else .isFalse (fun e => by injection e with e1 e2 e3; exact h ⟨e1, e2, e3⟩)
instance : DecidableEq Sc := fun ⟨a, b⟩ ⟨c, d⟩ => if h : a = c ∧ b = d then .isTrue (by rw [h.1, h.2]) else .isFalse (fun e => by injection e with e1 e2; exact h ⟨e1, e2⟩)

theorem lists_eq {α : Type} {l m : List α} (hn : l.length = m.length) (h : ∀ (j : Nat) a b, l[j]? = some a → m[j]? = some b → a = b) : l = m :=
  List.ext_getElem hn (fun j h1 h2 => h j _ _ (List.getElem?_eq_getElem h1) (List.getElem?_eq_getElem h2))
/-- Two boxes of the call's own. -/
structure Bx2 (w wr : World) (o p : Obj) : Prop where
  b2_bel : Below w.heap.size w wr
  b2_one : wr.heap[w.heap.size]? = some o
  b2_two : wr.heap[w.heap.size + 1]? = some p
theorem bx2_start (w : World) (cs ds : Array Value) (t u : TypeId) : Bx2 w ((w.alloc (.cells cs t)).alloc (.cells ds u)) (.cells cs t (0, 0)) (.cells ds u (0, 0)) :=
  ⟨((Below.refl _ w).alloc (Nat.le_refl _) _).alloc (by simp) _, (Below.heap_alloc _ _ _ (by simp)).trans (heap_alloc_new w _), by have h := heap_alloc_new (w.alloc (.cells cs t)) (.cells ds u); rw [World.size_alloc] at h; exact h⟩
theorem bx2_step {w wr w2 : World} {o p : Obj} (h : Bx2 w wr o p) (hb : Below wr.heap.size wr w2) : Bx2 w w2 o p :=
  ⟨h.b2_bel.trans (hb.mono h.b2_bel.size), (hb.block _ (lt_of_block h.b2_one)).trans h.b2_one, (hb.block _ (lt_of_block h.b2_two)).trans h.b2_two⟩

end Go.Proofs.YtpfdnggacpehdaaGreatDoor

/- Three boxes of a call's own (no program here). Conditions: those that each theorem names. -/
namespace Go.Proofs.YtpfdnggacpehdaaGreatDoor
open Go.RowKit
set_option linter.unusedVariables false
set_option maxRecDepth 100000

/-- Three boxes of a call. -/
structure Bx3 (w wr : World) (o p q : Obj) : Prop where
  b3_bel : Below w.heap.size w wr
  b3_one : wr.heap[w.heap.size]? = some o
  b3_two : wr.heap[w.heap.size + 1]? = some p
  b3_thr : wr.heap[w.heap.size + 1 + 1]? = some q
theorem bx3_step {w wr w2 : World} {o p q : Obj} (h : Bx3 w wr o p q) (hb : Below wr.heap.size wr w2) : Bx3 w w2 o p q :=
  ⟨h.b3_bel.trans (hb.mono h.b3_bel.size), (hb.block _ (lt_of_block h.b3_one)).trans h.b3_one, (hb.block _ (lt_of_block h.b3_two)).trans h.b3_two, (hb.block _ (lt_of_block h.b3_thr)).trans h.b3_thr⟩

end Go.Proofs.YtpfdnggacpehdaaGreatDoor

/- What came in by value as a field. Conditions: those that each theorem names. -/
namespace Go.Proofs.YtpfdnggacpehdaaGreatDoor
open Go.RowKit Go.ChangeShapes Go.WideShapes
set_option linter.unusedVariables false
set_option maxRecDepth 100000

theorem cells_fd : Tryz.prog.cellsOf 43 = 7 := by kernel_rfl
theorem cells_fdb : Tryz.prog.cellsOf 4 = 1 := by kernel_rfl
theorem cells_fds : Tryz.prog.cellsOf 9 = 1 := by kernel_rfl
theorem cells_fdi : Tryz.prog.cellsOf 3 = 1 := by kernel_rfl
theorem str_of_data (s : ByteArray) : s = strOf s.data.toList := by cases s; simp [strOf]
theorem field_came {H : Type} {enc : TypeId × Value → H} {w : World} {base : Nat} {spare : Nat → Bool} {held : Bool} {xs : Array Value} {d : DataW H} {p : List MemPlace}
    (h : DataW.Trod enc Tryz.prog w base spare held 43 (.agg xs) d p) : ∃ f : Fd, Value.agg xs = fdV f ∧ d = fdD f ∧ Int64 f.num ∧ Int64 f.ty := by
  obtain ⟨fuel, hf⟩ := h
  have hcs : (Value.agg xs).cells.toList = xs.toList := rfl
  rw [hcs] at hf
  obtain ⟨ys, m, rfl, ex, hl, hn, he⟩ := DataW.trod_struct Tryz.underlying43 hf
  rw [cells_fd] at hl
  obtain ⟨l⟩ := xs
  match l, hl, ys, hn with
  | [v0, v1, v2, v3, v4, v5, v6], _, [y0, y1, y2, y3, y4, y5, y6], _ =>
    have g0 : DataW.trod enc Tryz.prog w base spare held m 9 (([v0, v1, v2, v3, v4, v5, v6].drop 0).take (Tryz.prog.cellsOf 9)) = some y0 := he 0 _ rfl
    have g1 : DataW.trod enc Tryz.prog w base spare held m 3 (([v0, v1, v2, v3, v4, v5, v6].drop 1).take (Tryz.prog.cellsOf 3)) = some y1 := he 1 _ rfl
    have g2 : DataW.trod enc Tryz.prog w base spare held m 3 (([v0, v1, v2, v3, v4, v5, v6].drop 2).take (Tryz.prog.cellsOf 3)) = some y2 := he 2 _ rfl
    have g3 : DataW.trod enc Tryz.prog w base spare held m 9 (([v0, v1, v2, v3, v4, v5, v6].drop 3).take (Tryz.prog.cellsOf 9)) = some y3 := he 3 _ rfl
    have g4 : DataW.trod enc Tryz.prog w base spare held m 4 (([v0, v1, v2, v3, v4, v5, v6].drop 4).take (Tryz.prog.cellsOf 4)) = some y4 := he 4 _ rfl
    have g5 : DataW.trod enc Tryz.prog w base spare held m 4 (([v0, v1, v2, v3, v4, v5, v6].drop 5).take (Tryz.prog.cellsOf 4)) = some y5 := he 5 _ rfl
    have g6 : DataW.trod enc Tryz.prog w base spare held m 9 (([v0, v1, v2, v3, v4, v5, v6].drop 6).take (Tryz.prog.cellsOf 9)) = some y6 := he 6 _ rfl
    rw [cells_fds] at g0 g3 g6
    rw [cells_fdi] at g1 g2
    rw [cells_fdb] at g4 g5
    simp only [List.drop_zero, List.drop_succ_cons, List.take_succ_cons, List.take_zero] at g0 g1 g2 g3 g4 g5 g6
    obtain ⟨s0, q0, z0, _⟩ := DataW.trod_string Tryz.underlying9 g0
    obtain ⟨n1, q1, z1, w1⟩ := DataW.trod_int Tryz.underlying3 g1
    obtain ⟨n2, q2, z2, w2⟩ := DataW.trod_int Tryz.underlying3 g2
    obtain ⟨s3, q3, z3, _⟩ := DataW.trod_string Tryz.underlying9 g3
    obtain ⟨b4, q4, z4⟩ := DataW.trod_bool Tryz.underlying4 g4
    obtain ⟨b5, q5, z5⟩ := DataW.trod_bool Tryz.underlying4 g5
    obtain ⟨s6, q6, z6, _⟩ := DataW.trod_string Tryz.underlying9 g6
    simp at q0 q1 q2 q3 q4 q5 q6
    subst q0 q1 q2 q3 q4 q5 q6
    refine ⟨⟨s0.data.toList, n1, n2, s3.data.toList, b4, b5, s6.data.toList⟩, ?_, ?_, i64_came w1, i64_came w2⟩
    · unfold fdV
      rw [← str_of_data, ← str_of_data, ← str_of_data]
    · have e := congrArg Prod.fst ex
      simp only [List.map_cons, List.map_nil, z0, z1, z2, z3, z4, z5, z6] at e
      exact e
theorem field_sized {H : Type} {ts : List TypeId} {ds : List (DataW H)} {j : Nat} {f : Fd} (h : (DataW.weightsEach Tryz.prog ts ds).all (· ≤ reachBytes) = true) (ht : ts[j]? = some 43) (hd : ds[j]? = some (fdD f)) :
    f.name.length ≤ reachBytes ∧ f.ref.length ≤ reachBytes ∧ f.one.length ≤ reachBytes := by
  have hm := DataW.weights_mem_each (P := Tryz.prog) ht hd
  have hall : ∀ n ∈ DataW.weightsEach Tryz.prog ts ds, n ≤ reachBytes := fun n hn => by simpa using List.all_eq_true.1 h n hn
  have hw : (fdD f : DataW H).weights Tryz.prog 43 = [f.name.length, f.ref.length, f.one.length] := by
    unfold fdD
    simp only [DataW.weights, Tryz.underlying43]
    rfl
  rw [hw] at hm
  exact ⟨hall _ (hm _ (by simp)), hall _ (hm _ (by simp)), hall _ (hm _ (by simp))⟩
end Go.Proofs.YtpfdnggacpehdaaGreatDoor

/- slices.IndexFunc at the lists of a schema, by whatever function is handed on: the first place. Conditions: those that each theorem names. -/
namespace Go.Proofs.YtpfdnggacpehdaaGreatDoor
open Go.RowKit
set_option linter.unusedVariables false
set_option maxRecDepth 100000

/-- The first place at which it is so; -1, if it is so at none. -/
def posP {α : Type} (l : List α) (p : α → Bool) : Int := if l.any p = true then (l.findIdx p : Int) else -1
theorem posP_hit {α : Type} {l : List α} {p : α → Bool} {i : Nat} {x : α} (h : l[i]? = some x) (hp : p x = true) (ht : (l.take i).any p = false) : posP l p = (i : Int) := by
  have hi := (List.getElem?_eq_some_iff.mp h).1
  have hx := (List.getElem?_eq_some_iff.mp h).2
  unfold posP
  rw [if_pos (List.any_eq_true.mpr ⟨x, List.mem_of_getElem? h, hp⟩)]
  have : l.findIdx p = i := by
    rw [List.findIdx_eq hi]
    refine ⟨by rw [hx]; exact hp, fun j hj => ?_⟩
    rw [List.any_eq_false] at ht
    have hm : l[j] ∈ l.take i := List.mem_take_iff_getElem.mpr ⟨j, by omega, rfl⟩
    have := ht _ hm
    simpa using this
  rw [this]
theorem posP_miss {α : Type} {l : List α} {p : α → Bool} {i n : Nat} (hn : n = l.length) (hi : ¬ i < n) (h : (l.take i).any p = false) : posP l p = -1 := by
  rw [List.take_of_length_le (by omega)] at h
  unfold posP
  rw [h]
  rfl
theorem placeT_pos {α : Type} (l : List α) (f : α → List UInt8) (t : List UInt8) : placeT (l.map f) t = posP l (fun x => decide (f x = t)) := by
  unfold placeT posP
  have e : (t ∈ l.map f) ↔ l.any (fun x => decide (f x = t)) = true := by
    simp only [List.mem_map, List.any_eq_true, decide_eq_true_eq]
  by_cases h : t ∈ l.map f
  · rw [if_pos h, if_pos (e.mp h), List.findIdx_map]
    rfl
  · rw [if_neg h, if_neg (fun h2 => h (e.mpr h2))]
theorem placeZ_pos {α : Type} (l : List α) (f : α → Int) (t : Int) : placeZ (l.map f) t = posP l (fun x => decide (f x = t)) := by
  unfold placeZ posP
  have e : (t ∈ l.map f) ↔ l.any (fun x => decide (f x = t)) = true := by
    simp only [List.mem_map, List.any_eq_true, decide_eq_true_eq]
  by_cases h : t ∈ l.map f
  · rw [if_pos h, if_pos (e.mp h), List.findIdx_map]
    rfl
  · rw [if_neg h, if_neg (fun h2 => h (e.mpr h2))]

set_option maxHeartbeats 4000000 in
theorem fxi_ms {S : Nat → Nat → Prop} (w : World) {A : Option Addr} {cap n : Nat} {l : List Ms} (h : Lst 3 (S 4) (msR S) w A cap l) (hn : n = l.length) (kf : Nat) (caps : Array Value) (henter : Enters Tryz.prog kf) (p : Ms → Bool)
    (hp : ∀ x ∈ l, ∀ A1 cap1 A2 cap2, Lst 7 (S 1) fdR w A1 cap1 x.fields → Lst 1 (S 2) inR w A2 cap2 x.barred → ∀ wr, Below w.heap.size w wr → Calls Tryz.prog kf (#[.agg #[.string (strOf x.name), .slice A1 x.fields.length cap1, .slice A2 x.barred.length cap2]] ++ caps) wr fun e w' => e = .returned (.bool (p x)) ∧ Below wr.heap.size wr w') :
    Calls Tryz.prog 62 #[.slice A n cap, .func (.func kf) #[] caps] w fun e w' => e = .returned (.int .i64 (posP l p)) ∧ Below w.heap.size w w' := by
  have q1 : n ≤ cap := by have := h.l_le; omega
  have q2 := h.l_max
  unfold maxLen at q2
  have hent : ∀ (args : Array Value) (w : World), (callFunc kf args).run Tryz.prog w = .ok (.enter kf args) w := henter
  have H := Lib.hid h
  have HN := Lib.hid hn
  have HP := Lib.hid hp
  clear h hn hp henter
  go_enter Tryz.func62, Tryz.ntmps62
  go_wp2
  go_loopw [5, 8] (fun u x wr => ∃ i : Nat, x = .int .i64 (i : Int) ∧ i ≤ n ∧ (l.take i).any p = false ∧ Below w.heap.size w wr) (fun u x _ => n - (intOf x).toNat)
  case atStart => exact ⟨0, rfl, Nat.zero_le _, by simp, Below.refl _ _⟩
  case round =>
    obtain ⟨i, rfl, hi, hall, hbel⟩ := hrel
    have HALL := Lib.hid hall
    have hb0 := Lib.hid hbel
    clear hall hbel
    by_cases hlt : i < n
    · have g1 : decide ((i : Int) < (n : Int)) = true := decide_eq_true (by omega)
      obtain ⟨x, hx⟩ : ∃ x, l[i]? = some x := ⟨_, List.getElem?_eq_getElem (by have := HN.out; omega)⟩
      have HANY := Lib.hid (any_snoc l p i x hx)
      have HIT : Hid (p x = true → posP l p = (i : Int)) := Lib.hid (fun e => posP_hit hx e HALL.out)
      obtain ⟨ge, oe, A1, cap1, A2, cap2, rfl, _, hc, hl, hl2⟩ := ms_at H.out hx
      have HCK := Lib.hid (HP.out x (List.mem_of_getElem? hx) A1 cap1 A2 cap2 hl hl2 _ hb0.out)
      obtain ⟨nf, hnf⟩ : ∃ nf, nf = x.fields.length := ⟨_, rfl⟩
      obtain ⟨nb, hnb⟩ : ∃ nb, nb = x.barred.length := ⟨_, rfl⟩
      obtain ⟨sn, hsn⟩ : ∃ sn, sn = strOf x.name := ⟨_, rfl⟩
      rw [← hnf, ← hnb] at hc HCK
      rw [← hsn] at hc HCK
      obtain ⟨c0, c1, c2⟩ := hc _ hb0.out
      obtain ⟨b, hbp⟩ : ∃ b, b = p x := ⟨_, rfl⟩
      have HBP := Lib.hid hbp
      rw [← hbp] at HCK HANY
      clear hbp hx hc hl hl2 hnf hnb hsn
      cases b with
      | true =>
        go_wp2_with (go_at_fn kf; refine HCK.out.mono ?_; rintro e w2 ⟨rfl, hb⟩; have HB2 := Lib.hid (hb0.out.trans (hb.mono hb0.out.size)); clear hb)
        go_ret
        exact ⟨ret_int' (HIT.out HBP.out.symm).symm, HB2.out⟩
      | false =>
        go_wp2_with (go_at_fn kf; refine HCK.out.mono ?_; rintro e w2 ⟨rfl, hb⟩; have HB2 := Lib.hid (hb0.out.trans (hb.mono hb0.out.size)); clear hb)
        go_roundw
        case rel => exact ⟨i + 1, by go_num, by omega, by rw [HANY.out, HALL.out]; rfl, HB2.out⟩
        case measure => simp [intOf]; omega
    · have g1 : decide ((i : Int) < (n : Int)) = false := decide_eq_false (by omega)
      have HF := Lib.hid (posP_miss HN.out hlt HALL.out)
      go_wp2
      go_ret
      exact ⟨ret_int' HF.out.symm, hb0.out⟩

set_option maxHeartbeats 4000000 in
theorem fxi_fd {S : Nat → Prop} (w : World) {A : Option Addr} {cap n : Nat} {l : List Fd} (h : Lst 7 S fdR w A cap l) (hn : n = l.length) (kf : Nat) (caps : Array Value) (henter : Enters Tryz.prog kf) (p : Fd → Bool)
    (hp : ∀ x ∈ l, ∀ wr, Below w.heap.size w wr → Calls Tryz.prog kf (#[fdV x] ++ caps) wr fun e w' => e = .returned (.bool (p x)) ∧ Below wr.heap.size wr w') :
    Calls Tryz.prog 138 #[.slice A n cap, .func (.func kf) #[] caps] w fun e w' => e = .returned (.int .i64 (posP l p)) ∧ Below w.heap.size w w' := by
  have q1 : n ≤ cap := by have := h.l_le; omega
  have q2 := h.l_max
  unfold maxLen at q2
  have hent : ∀ (args : Array Value) (w : World), (callFunc kf args).run Tryz.prog w = .ok (.enter kf args) w := henter
  have H := Lib.hid h
  have HN := Lib.hid hn
  have HP := Lib.hid hp
  clear h hn hp henter
  go_enter Tryz.func138, Tryz.ntmps138
  go_wp2
  go_loopw [5, 8] (fun u x wr => ∃ i : Nat, x = .int .i64 (i : Int) ∧ i ≤ n ∧ (l.take i).any p = false ∧ Below w.heap.size w wr) (fun u x _ => n - (intOf x).toNat)
  case atStart => exact ⟨0, rfl, Nat.zero_le _, by simp, Below.refl _ _⟩
  case round =>
    obtain ⟨i, rfl, hi, hall, hbel⟩ := hrel
    have HALL := Lib.hid hall
    have hb0 := Lib.hid hbel
    clear hall hbel
    by_cases hlt : i < n
    · have g1 : decide ((i : Int) < (n : Int)) = true := decide_eq_true (by omega)
      obtain ⟨x, hx⟩ : ∃ x, l[i]? = some x := ⟨_, List.getElem?_eq_getElem (by have := HN.out; omega)⟩
      have HANY := Lib.hid (any_snoc l p i x hx)
      have HIT : Hid (p x = true → posP l p = (i : Int)) := Lib.hid (fun e => posP_hit hx e HALL.out)
      obtain ⟨ge, oe, rfl, _, hc⟩ := fd_at H.out hx
      have HCK := Lib.hid (HP.out x (List.mem_of_getElem? hx) _ hb0.out)
      unfold fdV at HCK
      obtain ⟨s0, hs0⟩ : ∃ s0, s0 = strOf x.name := ⟨_, rfl⟩
      obtain ⟨s3, hs3⟩ : ∃ s3, s3 = strOf x.ref := ⟨_, rfl⟩
      obtain ⟨s6, hs6⟩ : ∃ s6, s6 = strOf x.one := ⟨_, rfl⟩
      obtain ⟨z1, hz1⟩ : ∃ z1, z1 = x.num := ⟨_, rfl⟩
      obtain ⟨z2, hz2⟩ : ∃ z2, z2 = x.ty := ⟨_, rfl⟩
      obtain ⟨b4, hb4⟩ : ∃ b4, b4 = x.rep := ⟨_, rfl⟩
      obtain ⟨b5, hb5⟩ : ∃ b5, b5 = x.loose := ⟨_, rfl⟩
      rw [← hs0, ← hs3, ← hs6, ← hz1, ← hz2, ← hb4, ← hb5] at hc HCK
      obtain ⟨c0, c1, c2, c3, c4, c5, c6⟩ := hc _ hb0.out
      obtain ⟨b, hbp⟩ : ∃ b, b = p x := ⟨_, rfl⟩
      have HBP := Lib.hid hbp
      rw [← hbp] at HCK HANY
      clear hbp hx hc hs0 hs3 hs6 hz1 hz2 hb4 hb5
      cases b with
      | true =>
        go_wp2_with (go_at_fn kf; refine HCK.out.mono ?_; rintro e w2 ⟨rfl, hb⟩; have HB2 := Lib.hid (hb0.out.trans (hb.mono hb0.out.size)); clear hb)
        go_ret
        exact ⟨ret_int' (HIT.out HBP.out.symm).symm, HB2.out⟩
      | false =>
        go_wp2_with (go_at_fn kf; refine HCK.out.mono ?_; rintro e w2 ⟨rfl, hb⟩; have HB2 := Lib.hid (hb0.out.trans (hb.mono hb0.out.size)); clear hb)
        go_roundw
        case rel => exact ⟨i + 1, by go_num, by omega, by rw [HANY.out, HALL.out]; rfl, HB2.out⟩
        case measure => simp [intOf]; omega
    · have g1 : decide ((i : Int) < (n : Int)) = false := decide_eq_false (by omega)
      have HF := Lib.hid (posP_miss HN.out hlt HALL.out)
      go_wp2
      go_ret
      exact ⟨ret_int' HF.out.symm, hb0.out⟩
end Go.Proofs.YtpfdnggacpehdaaGreatDoor
