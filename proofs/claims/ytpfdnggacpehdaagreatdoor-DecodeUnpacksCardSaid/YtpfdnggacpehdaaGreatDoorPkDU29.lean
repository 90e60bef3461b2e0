/- Several texts in one: CurC, CurD, CurE, CurF, CurG, CurH. What each proves, and its conditions, stands at its own head. -/
import Derived.Test.YtpfdnggacpehdaaGreatDoorPkDU28
import Derived.Test.YtpfdnggacpehdaaGreatDoorPkDU26
import Derived.Test.YtpfdnggacpehdaaGreatDoorPkDU10
import Derived.Test.YtpfdnggacpehdaaGreatDoorPkDU0
import Derived.Test.YtpfdnggacpehdaaGreatDoorChecked
import Derived.WalkKit
import Derived.OwnWalk
import Derived.RowKitTokens
import Derived.Lib.Hide
import Derived.IntWalk
import Derived.Test.YtpfdnggacpehdaaGreatDoorPkDU25
import Derived.Test.YtpfdnggacpehdaaGreatDoorPkDU23
import Derived.Deep.RegionLaw
import Derived.Test.YtpfdnggacpehdaaGreatDoorPkDU9
import Derived.Deep.QuietTactic
import Derived.BigQuiet
/- What the cursor hands on to read numbers and texts by: sized, length, and the literals in Fixed4, Fixed8, Text and Tag, each with what it returns, for every input. -/
namespace Go.Proofs.YtpfdnggacpehdaaGreatDoor
open Go.RowKit
set_option linter.unusedVariables false
set_option maxRecDepth 100000

theorem sized_any (n : Nat) (b : Bool) (w : World) :
    Calls Tryz.prog 106 #[.int .i64 (n : Int), .bool b] w fun e w' => e = .returned (.int .i64 ((if b = true then n else 0 : Nat) : Int)) ∧ w = w' := by
  cases b
  all_goals
    go_enter Tryz.func106, Tryz.ntmps106
    go_wp2
    go_ret
    exact ⟨rfl, rfl⟩

theorem sized_four (b : Bool) (w : World) :
    Calls Tryz.prog 106 #[.int .i64 4, .bool b] w fun e w' => e = .returned (.int .i64 ((if b = true then 4 else 0 : Nat) : Int)) ∧ w = w' := sized_any 4 b w
theorem sized_eight (b : Bool) (w : World) :
    Calls Tryz.prog 106 #[.int .i64 8, .bool b] w fun e w' => e = .returned (.int .i64 ((if b = true then 8 else 0 : Nat) : Int)) ∧ w = w' := sized_any 8 b w

theorem length_any (A : Option Addr) (n cap : Nat) (bs : List UInt8) (w : World) (hn : n = bs.length) (hb : Bs w A cap bs) :
    Calls Tryz.prog 123 #[.slice A n cap] w fun e w' => e = .returned (.tuple #[.int .i64 ((tLen bs).1 : Int), .int .i64 ((tLen bs).2 : Int)]) ∧ w = w' := by
  have hG := Lib.hid (get_n A n cap bs w hn hb)
  have hle := getFrom_le bs
  have hlt := getFrom_u64 bs
  have hmax := hb.max
  have hlc := hb.le
  unfold maxLen at hmax
  obtain ⟨u, hu⟩ : ∃ u, u = (getFrom 0 0 bs).1 := ⟨_, rfl⟩
  obtain ⟨k, hk⟩ : ∃ k, k = (getFrom 0 0 bs).2 := ⟨_, rfl⟩
  have hT : Hid (tLen bs = if n - k < u then (0, 0) else (u, k)) := by
    show _ = _
    rw [hu, hk, hn]; rfl
  rw [← hu, ← hk] at hG
  rw [← hk] at hle
  rw [← hu] at hlt
  rw [← hn] at hle hlc
  clear hu hk hn hb
  have hw : IntKind.u64.wrap ((n : Int) - (k : Int)) = ((n - k : Nat) : Int) := by
    rw [show (n : Int) - (k : Int) = ((n - k : Nat) : Int) by omega]
    exact IntWalk.u64_in _ (by omega)
  by_cases hc : n - k < u
  · have hd : decide (((n - k : Nat) : Int) < (u : Int)) = true := decide_eq_true (by omega)
    go_enter Tryz.func123, Tryz.ntmps123
    go_wp2_with (go_at_call 104; refine hG.out.mono ?_; rintro e w' ⟨rfl, rfl⟩)
    go_ret2
    rw [if_pos hc] at hT
    exact ⟨by rw [hT.out]; rfl, rfl⟩
  · have hd : decide (((n - k : Nat) : Int) < (u : Int)) = false := decide_eq_false (by omega)
    go_enter Tryz.func123, Tryz.ntmps123
    go_wp2_with (go_at_call 104; refine hG.out.mono ?_; rintro e w' ⟨rfl, rfl⟩)
    go_ret2
    rw [if_neg hc] at hT
    exact ⟨by rw [hT.out]; rfl, rfl⟩
theorem four_lit (A : Option Addr) (n cap : Nat) (bs : List UInt8) (w : World) (hn : n = bs.length) (hb : Bs w A cap bs) :
    Calls Tryz.prog 125 #[.slice A n cap] w fun e w' => e = .returned (.tuple #[.int .u32 ((tFix 4 bs).1 : Int), .int .i64 ((tFix 4 bs).2 : Int)]) ∧ Below w.heap.size w w' := by
  have hG := Lib.hid (get4_n A n cap bs w hn hb)
  have hT : Hid (tFix 4 bs = (getN 4 bs, if isN 4 bs = true then 4 else 0)) := rfl
  obtain ⟨u, hu⟩ : ∃ u, u = getN 4 bs := ⟨_, rfl⟩
  obtain ⟨b, hb'⟩ : ∃ b, b = isN 4 bs := ⟨_, rfl⟩
  rw [← hu, ← hb'] at hG hT
  clear hu hb' hb hn
  cases b
  all_goals
    go_enter Tryz.func125, Tryz.ntmps125
    go_wp2_with (first
      | (go_at_call 126; refine hG.out.mono ?_; rintro e w1 ⟨rfl, hb1⟩)
      | (go_at_call 106; refine (sized_four _ _).mono ?_; rintro e w' ⟨rfl, rfl⟩))
    go_ret2
    exact ⟨by rw [hT.out]; rfl, hb1⟩
theorem eight_lit (A : Option Addr) (n cap : Nat) (bs : List UInt8) (w : World) (hn : n = bs.length) (hb : Bs w A cap bs) :
    Calls Tryz.prog 119 #[.slice A n cap] w fun e w' => e = .returned (.tuple #[.int .u64 ((tFix 8 bs).1 : Int), .int .i64 ((tFix 8 bs).2 : Int)]) ∧ Below w.heap.size w w' := by
  have hG := Lib.hid (get8_n A n cap bs w hn hb)
  have hT : Hid (tFix 8 bs = (getN 8 bs, if isN 8 bs = true then 8 else 0)) := rfl
  obtain ⟨u, hu⟩ : ∃ u, u = getN 8 bs := ⟨_, rfl⟩
  obtain ⟨b, hb'⟩ : ∃ b, b = isN 8 bs := ⟨_, rfl⟩
  rw [← hu, ← hb'] at hG hT
  clear hu hb' hb hn
  cases b
  all_goals
    go_enter Tryz.func119, Tryz.ntmps119
    go_wp2_with (first
      | (go_at_call 120; refine hG.out.mono ?_; rintro e w1 ⟨rfl, hb1⟩)
      | (go_at_call 106; refine (sized_eight _ _).mono ?_; rintro e w' ⟨rfl, rfl⟩))
    go_ret2
    exact ⟨by rw [hT.out]; rfl, hb1⟩

theorem text_lit (A : Option Addr) (n cap : Nat) (bs : List UInt8) (w : World) (hn : n = bs.length) (hb : Bs w A cap bs) :
    Calls Tryz.prog 122 #[.slice A n cap] w fun e w' => e = .returned (.tuple #[.string (strOf (tText bs).1), .int .i64 ((tText bs).2 : Int)]) ∧ w = w' := by
  have hG := Lib.hid (length_any A n cap bs w hn hb)
  have hsum := tLen_sum bs
  have hT : Hid (tText bs = ((bs.drop (tLen bs).2).take (tLen bs).1, (tLen bs).2 + (tLen bs).1)) := rfl
  have hmax := hb.max
  have hlc := hb.le
  unfold maxLen at hmax
  have hcut := (hb.cut (tLen bs).2 (by omega)).take (tLen bs).1
  have hlen : ((bs.drop (tLen bs).2).take (tLen bs).1).length = (tLen bs).1 := by simp; omega
  obtain ⟨u, hu⟩ : ∃ u, u = (tLen bs).1 := ⟨_, rfl⟩
  obtain ⟨k, hk⟩ : ∃ k, k = (tLen bs).2 := ⟨_, rfl⟩
  rw [← hu, ← hk] at hG hsum hT hcut hlen
  rw [← hn] at hsum hlc
  have g1 := run_string_bytes (P := Tryz.prog) hcut Tryz.underlying26 Tryz.underlying5 Tryz.underlying9
  rw [hlen] at g1
  clear hu hk hn hb hlen hcut
  go_enter Tryz.func122, Tryz.ntmps122
  go_wp2_with (go_at_call 123; refine hG.out.mono ?_; rintro e w1 ⟨rfl, rfl⟩)
  all_goals
    go_ret2
    exact ⟨by rw [hT.out]; simp, rfl⟩

/-- The literal in Tag: a and b are where it lays the field's number and the wire type. -/
theorem tag_lit (A : Option Addr) (n cap a b : Nat) (bs : List UInt8) (w : World) (hn : n = bs.length) (hb : Bs w A cap bs) (va vb : Value)
    (ha : w.heap[a]? = some (.cells #[va] 3 (0, 0))) (hbb : w.heap[b]? = some (.cells #[vb] 3 (0, 0))) (hab : a ≠ b) :
    Calls Tryz.prog 103 #[.slice A n cap, .pointer (some ⟨a, 0, none⟩), .pointer (some ⟨b, 0, none⟩)] w fun e w' => e = .returned (.tuple #[.int .u64 ((getFrom 0 0 bs).1 : Int), .int .i64 ((tTag bs).2 : Int)]) ∧
      (w.setCell ⟨a, 0, none⟩ (.int .i64 ((tTag bs).1.1 : Int))).setCell ⟨b, 0, none⟩ (.int .i64 ((tTag bs).1.2 : Int)) = w' := by
  have hG := Lib.hid (get_n A n cap bs w hn hb)
  have hlt := getFrom_u64 bs
  have hT : Hid (tTag bs = ((splitN (getFrom 0 0 bs).1, splitW (getFrom 0 0 bs).1), if splitOk (getFrom 0 0 bs).1 = true then (getFrom 0 0 bs).2 else 0)) := rfl
  obtain ⟨u, hu⟩ : ∃ u, u = (getFrom 0 0 bs).1 := ⟨_, rfl⟩
  obtain ⟨k, hk⟩ : ∃ k, k = (getFrom 0 0 bs).2 := ⟨_, rfl⟩
  rw [← hu, ← hk] at hG hT
  rw [← hu] at hlt ⊢
  have hS := Lib.hid (split_any u w hlt)
  obtain ⟨ok, hok⟩ : ∃ ok, ok = splitOk u := ⟨_, rfl⟩
  obtain ⟨x, hx⟩ : ∃ x, x = splitN u := ⟨_, rfl⟩
  obtain ⟨y, hy⟩ : ∃ y, y = splitW u := ⟨_, rfl⟩
  rw [← hok, ← hx, ← hy] at hS hT
  have c1 := cell_of_one ha
  have c2 := cell_of_one hbb
  have f1 := free_of_one ha
  have f2 := free_of_one hbb
  clear hu hk hn hb hok hx hy ha hbb hlt
  cases ok
  all_goals
    go_enter Tryz.func103, Tryz.ntmps103
    go_wp2_with (first
      | (go_at_call 104; refine hG.out.mono ?_; rintro e w' ⟨rfl, rfl⟩)
      | (go_at_call 105; refine hS.out.mono ?_; rintro e w' ⟨rfl, rfl⟩)
      | (go_at_call 106; refine (sized_any k _ _).mono ?_; rintro e w' ⟨rfl, rfl⟩))
    go_ret2
    exact ⟨by rw [hT.out]; rfl, by rw [hT.out]⟩
end Go.Proofs.YtpfdnggacpehdaaGreatDoor

/- A cursor in memory and its state; what Varint, Fixed4, Fixed8, Text, Tag read. -/
namespace Go.Proofs.YtpfdnggacpehdaaGreatDoor
open Go.RowKit
set_option linter.unusedVariables false
set_option maxRecDepth 100000

/-- The cursor at block p is in state s; its frames' list lies in block g; its bytes lay in the world W, of which nothing has turned. -/
def Cur (W w : World) (p g : Nat) (bs : List UInt8) (s : St) : Prop :=
  (W.heap.size ≤ p ∧ W.heap.size ≤ g ∧ p ≠ g ∧ p < w.heap.size ∧ g < w.heap.size ∧ Below W.heap.size W w ∧ Right bs s) ∧
  ((s.fr = [] ∧ w.heap[p]? = some (.cells zeroC 109 (0, 0))) ∨
   ∃ l r A cap c, s.fr = l :: r ∧ Bs W A cap bs ∧ w.heap[p]? = some (.cells #[.slice A bs.length cap, .int .i64 (s.at_ : Int), .slice (some ⟨g, 0, none⟩) (r.length + 1) c] 109 (0, 0)) ∧ Stk w g c (l :: r).reverse)

/-- What a call of the cursor's answers, and what it leaves. -/
def CurTo (W w : World) (p g : Nat) (bs : List UInt8) (s : St) (v : Value) (e : Ending) (w' : World) : Prop :=
  e = .returned v ∧ ∃ g', (g' = g ∨ g' ≥ w.heap.size) ∧ Cur W w' p g' bs s ∧ Only p g w w'

/-- Nothing of the cursor's turned. -/
theorem Cur.keep {W w w' : World} {p g : Nat} {bs : List UInt8} {s : St} (h : Cur W w p g bs s) (hs : w.heap.size ≤ w'.heap.size) (hb : Below W.heap.size W w') (hp : w'.heap[p]? = w.heap[p]?) (hg : w'.heap[g]? = w.heap[g]?) : Cur W w' p g bs s := by
  obtain ⟨⟨h1, h2, h3, h4, h5, h6, h7⟩, h8⟩ := h
  refine ⟨⟨h1, h2, h3, by omega, by omega, hb, h7⟩, ?_⟩
  rcases h8 with ⟨a, b⟩ | ⟨l, r, A, cap, c, a, b, d, e⟩
  · exact .inl ⟨a, hp.trans b⟩
  · exact .inr ⟨l, r, A, cap, c, a, b, hp.trans d, e.keep hg⟩
theorem Cur.bel {W w w' : World} {p g : Nat} {bs : List UInt8} {s : St} (h : Cur W w p g bs s) (hb : Below w.heap.size w w') : Cur W w' p g bs s :=
  h.keep hb.size (h.1.2.2.2.2.2.1.trans (hb.mono (by have := h.1.1; have := h.1.2.2.2.1; omega))) (hb.block p h.1.2.2.2.1) (hb.block g h.1.2.2.2.2.1)
/-- Behind a read. -/
theorem cur_read0 {α : Type} {take : List UInt8 → α × Nat} {z : α} {v0 v1 : Value} {W w w' : World} {p g c l : Nat} {r : List Nat} {bs : List UInt8} {s : St} {A : Option Addr} {cap : Nat} {Q : World → Prop} {e : Ending}
    (h : Cur W w p g bs s) (ht : ∀ b, (take b).2 ≤ b.length) (hfr : s.fr = l :: r) (hb : Bs W A cap bs) (hs : Stk w g c (l :: r).reverse)
    (hQ : ∀ w1, Q w1 → Below W.heap.size W w1 ∧ w.heap.size ≤ w1.heap.size ∧ w1.heap[g]? = w.heap[g]?)
    (hr : ReadEnd p v0 v1 (.slice A bs.length cap) (.slice (some ⟨g, 0, none⟩) (r.length + 1) c) s.at_ (take (segOf bs s.at_ l)).2 Q e w') :
    ∃ w1, Q w1 ∧ Only p p w1 w' ∧ Cur W w' p g bs (s.rd take z bs).2 ∧ (((take (segOf bs s.at_ l)).2 = 0 ∧ e = .returned v0 ∧ (s.rd take z bs).1 = z) ∨ ((take (segOf bs s.at_ l)).2 ≠ 0 ∧ e = .returned v1 ∧ (s.rd take z bs).1 = (take (segOf bs s.at_ l)).1)) := by
  have hR := right_rd (take := take) (z := z) h.1.2.2.2.2.2.2 ht
  obtain ⟨⟨h1, h2, h3, h4, h5, h6, h7⟩, _⟩ := h
  obtain ⟨w1, q, ho, hn, hsm⟩ := hr
  obtain ⟨hw1, hsz, hg1⟩ := hQ w1 q
  have hw' : Below W.heap.size W w' := below_only hw1 ho h1 h1 (by omega)
  have hsz' := ho.size
  have hgk : w'.heap[g]? = w.heap[g]? := (ho.block g (by omega) (fun e => h3 e.symm) (fun e => h3 e.symm)).trans hg1
  refine ⟨w1, q, ho, ?_⟩
  unfold St.rd at hR ⊢
  rw [hfr] at hR ⊢
  dsimp only at hR ⊢
  by_cases hz : (take (segOf bs s.at_ l)).2 = 0
  · obtain ⟨he, hp⟩ := hn hz
    rw [if_pos hz] at hR ⊢
    exact ⟨⟨⟨h1, h2, h3, by omega, by omega, hw', hR⟩, .inl ⟨rfl, hp⟩⟩, .inl ⟨hz, he, rfl⟩⟩
  · obtain ⟨he, hp⟩ := hsm hz
    rw [if_neg hz] at hR ⊢
    exact ⟨⟨⟨h1, h2, h3, by omega, by omega, hw', hR⟩, .inr ⟨l, r, A, cap, c, rfl, hb, hp, hs.keep hgk⟩⟩, .inr ⟨hz, he, rfl⟩⟩
theorem cur_read {α : Type} {take : List UInt8 → α × Nat} {z : α} {enc : α → Value} {W w w' : World} {p g c l : Nat} {r : List Nat} {bs : List UInt8} {s : St} {A : Option Addr} {cap : Nat} {Q : World → Prop} {e : Ending}
    (h : Cur W w p g bs s) (ht : ∀ b, (take b).2 ≤ b.length) (hfr : s.fr = l :: r) (hb : Bs W A cap bs) (hs : Stk w g c (l :: r).reverse)
    (hQ : ∀ w1, Q w1 → Below w.heap.size w w1)
    (hr : ReadEnd p (enc z) (enc (take (segOf bs s.at_ l)).1) (.slice A bs.length cap) (.slice (some ⟨g, 0, none⟩) (r.length + 1) c) s.at_ (take (segOf bs s.at_ l)).2 Q e w') :
    CurTo W w p g bs (s.rd take z bs).2 (enc (s.rd take z bs).1) e w' := by
  obtain ⟨w1, q, ho, hc, he⟩ := cur_read0 (z := z) h ht hfr hb hs (fun w1 q => ⟨h.1.2.2.2.2.2.1.trans ((hQ w1 q).mono (by have := h.1.1; have := h.1.2.2.2.1; omega)), (hQ w1 q).size, (hQ w1 q).block g h.1.2.2.2.2.1⟩) hr
  refine ⟨?_, g, .inl rfl, hc, (Only.of_below (hQ w1 q)).trans ⟨ho.os, ho.tape, ho.output, ho.size, fun k hk a _ => ho.block k hk a a⟩⟩
  rcases he with ⟨_, he, h1⟩ | ⟨_, he, h1⟩
  · rw [he, h1]
  · rw [he, h1]
/-- The bytes that a read is handed. -/
theorem cur_seg {W w : World} {p g l : Nat} {r : List Nat} {bs : List UInt8} {s : St} {A : Option Addr} {cap : Nat} (h : Cur W w p g bs s) (hfr : s.fr = l :: r) (hb : Bs W A cap bs) (w1 : World) (hw : Below w.heap.size w w1) :
    l - s.at_ = (segOf bs s.at_ l).length ∧ Bs w1 (if cap = s.at_ then A else A.map (·.add s.at_)) (cap - s.at_) (segOf bs s.at_ l) ∧ s.at_ ≤ l ∧ l ≤ bs.length ∧ bs.length ≤ cap ∧ cap ≤ 9223372036854775807 := by
  obtain ⟨⟨h1, h2, h3, h4, h5, h6, h7⟩, _⟩ := h
  unfold Right at h7
  rw [hfr] at h7
  obtain ⟨r1, r2, r3, r4⟩ := h7
  have hm := hb.max
  unfold maxLen at hm
  refine ⟨(segOf_length r2).symm, ?_, r1, r2, hb.le, by omega⟩
  have hb1 : Bs w1 A cap bs := hb.below (h6.trans (hw.mono (by omega))) (Nat.le_refl _)
  exact (hb1.take l).cut s.at_ (by simp; omega)
theorem drawn_below (w : World) (n : Nat) : Below w.heap.size w (w.drewN n) := ⟨rfl, rfl, rfl, Nat.le_refl _, fun _ _ => rfl⟩

/-- A cursor that failed reads nothing. -/
theorem cur_still {W w : World} {p g : Nat} {bs : List UInt8} {s : St} {v : Value} {e : Ending} (h : Cur W w p g bs s) (he : e = .returned v) : CurTo W w p g bs s v e w := ⟨he, g, .inl rfl, h, Only.refl _ _ _⟩

theorem rd_uint64 {W w : World} {p g : Nat} {bs : List UInt8} {s : St} (h : Cur W w p g bs s) (take : List UInt8 → Nat × Nat) (ht : ∀ b, (take b).2 ≤ b.length) (k : Nat) (hk : Enters Tryz.prog k)
    (hT : ∀ (A : Option Addr) (n cap : Nat) (b : List UInt8) (w : World), n = b.length → Bs w A cap b → Calls Tryz.prog k #[.slice A n cap] w fun e w' => e = .returned (.tuple #[(.int .u64 (((take b).1 : Nat) : Int)), .int .i64 ((take b).2 : Int)]) ∧ Below w.heap.size w w') :
    Calls Tryz.prog 102 #[.pointer (some ⟨p, 0, none⟩), .func (.func k) #[] #[]] w (CurTo W w p g bs (s.rd take 0 bs).2 (.int .u64 (((s.rd take 0 bs).1 : Nat) : Int))) := by
  rcases h.2 with ⟨a, b⟩ | ⟨l, r, A, cap, c, hfr, hb, hp, hst⟩
  · refine (read_uint64_none p _ _ _ _ _ w b).mono ?_
    rintro e w' ⟨rfl, rfl⟩
    have e1 : s.rd take 0 bs = (0, s) := by unfold St.rd; rw [a]
    rw [e1]
    exact cur_still h rfl
  · have hseg := fun w1 hw => cur_seg h hfr hb w1 hw
    obtain ⟨l1, _, l2, l3, l4, l5⟩ := hseg w (Below.refl _ _)
    have hm := ht (segOf bs s.at_ l)
    rw [← l1] at hm
    refine (read_uint64_some p A bs.length cap s.at_ g c l r w hp hst l2 l3 l4 l5 k #[] hk (.int .u64 (((take (segOf bs s.at_ l)).1 : Nat) : Int)) (take (segOf bs s.at_ l)).2 (by omega) (fun w1 => Below w.heap.size w w1) (fun n => ?_) (fun w1 hw => ⟨hw.block p h.1.2.2.2.1, hw.block g h.1.2.2.2.2.1⟩)).mono ?_
    · refine (hT _ _ _ _ _ l1 (hseg _ (drawn_below w n)).2.1).mono ?_
      rintro e w' ⟨rfl, hw⟩
      exact ⟨rfl, (drawn_below w n).trans hw⟩
    · intro e w' he
      exact cur_read (enc := fun n : Nat => Value.int .u64 (n : Int)) (z := 0) h ht hfr hb hst (fun _ hw => hw) he
theorem rd_uint32 {W w : World} {p g : Nat} {bs : List UInt8} {s : St} (h : Cur W w p g bs s) (take : List UInt8 → Nat × Nat) (ht : ∀ b, (take b).2 ≤ b.length) (k : Nat) (hk : Enters Tryz.prog k)
    (hT : ∀ (A : Option Addr) (n cap : Nat) (b : List UInt8) (w : World), n = b.length → Bs w A cap b → Calls Tryz.prog k #[.slice A n cap] w fun e w' => e = .returned (.tuple #[(.int .u32 (((take b).1 : Nat) : Int)), .int .i64 ((take b).2 : Int)]) ∧ Below w.heap.size w w') :
    Calls Tryz.prog 124 #[.pointer (some ⟨p, 0, none⟩), .func (.func k) #[] #[]] w (CurTo W w p g bs (s.rd take 0 bs).2 (.int .u32 (((s.rd take 0 bs).1 : Nat) : Int))) := by
  rcases h.2 with ⟨a, b⟩ | ⟨l, r, A, cap, c, hfr, hb, hp, hst⟩
  · refine (read_uint32_none p _ _ _ _ _ w b).mono ?_
    rintro e w' ⟨rfl, rfl⟩
    have e1 : s.rd take 0 bs = (0, s) := by unfold St.rd; rw [a]
    rw [e1]
    exact cur_still h rfl
  · have hseg := fun w1 hw => cur_seg h hfr hb w1 hw
    obtain ⟨l1, _, l2, l3, l4, l5⟩ := hseg w (Below.refl _ _)
    have hm := ht (segOf bs s.at_ l)
    rw [← l1] at hm
    refine (read_uint32_some p A bs.length cap s.at_ g c l r w hp hst l2 l3 l4 l5 k #[] hk (.int .u32 (((take (segOf bs s.at_ l)).1 : Nat) : Int)) (take (segOf bs s.at_ l)).2 (by omega) (fun w1 => Below w.heap.size w w1) (fun n => ?_) (fun w1 hw => ⟨hw.block p h.1.2.2.2.1, hw.block g h.1.2.2.2.2.1⟩)).mono ?_
    · refine (hT _ _ _ _ _ l1 (hseg _ (drawn_below w n)).2.1).mono ?_
      rintro e w' ⟨rfl, hw⟩
      exact ⟨rfl, (drawn_below w n).trans hw⟩
    · intro e w' he
      exact cur_read (enc := fun n : Nat => Value.int .u32 (n : Int)) (z := 0) h ht hfr hb hst (fun _ hw => hw) he
theorem rd_int {W w : World} {p g : Nat} {bs : List UInt8} {s : St} (h : Cur W w p g bs s) (take : List UInt8 → Nat × Nat) (ht : ∀ b, (take b).2 ≤ b.length) (k : Nat) (hk : Enters Tryz.prog k)
    (hT : ∀ (A : Option Addr) (n cap : Nat) (b : List UInt8) (w : World), n = b.length → Bs w A cap b → Calls Tryz.prog k #[.slice A n cap] w fun e w' => e = .returned (.tuple #[(.int .i64 (((take b).1 : Nat) : Int)), .int .i64 ((take b).2 : Int)]) ∧ Below w.heap.size w w') :
    Calls Tryz.prog 165 #[.pointer (some ⟨p, 0, none⟩), .func (.func k) #[] #[]] w (CurTo W w p g bs (s.rd take 0 bs).2 (.int .i64 (((s.rd take 0 bs).1 : Nat) : Int))) := by
  rcases h.2 with ⟨a, b⟩ | ⟨l, r, A, cap, c, hfr, hb, hp, hst⟩
  · refine (read_int_none p _ _ _ _ _ w b).mono ?_
    rintro e w' ⟨rfl, rfl⟩
    have e1 : s.rd take 0 bs = (0, s) := by unfold St.rd; rw [a]
    rw [e1]
    exact cur_still h rfl
  · have hseg := fun w1 hw => cur_seg h hfr hb w1 hw
    obtain ⟨l1, _, l2, l3, l4, l5⟩ := hseg w (Below.refl _ _)
    have hm := ht (segOf bs s.at_ l)
    rw [← l1] at hm
    refine (read_int_some p A bs.length cap s.at_ g c l r w hp hst l2 l3 l4 l5 k #[] hk (.int .i64 (((take (segOf bs s.at_ l)).1 : Nat) : Int)) (take (segOf bs s.at_ l)).2 (by omega) (fun w1 => Below w.heap.size w w1) (fun n => ?_) (fun w1 hw => ⟨hw.block p h.1.2.2.2.1, hw.block g h.1.2.2.2.2.1⟩)).mono ?_
    · refine (hT _ _ _ _ _ l1 (hseg _ (drawn_below w n)).2.1).mono ?_
      rintro e w' ⟨rfl, hw⟩
      exact ⟨rfl, (drawn_below w n).trans hw⟩
    · intro e w' he
      exact cur_read (enc := fun n : Nat => Value.int .i64 (n : Int)) (z := 0) h ht hfr hb hst (fun _ hw => hw) he
theorem rd_string {W w : World} {p g : Nat} {bs : List UInt8} {s : St} (h : Cur W w p g bs s) (take : List UInt8 → List UInt8 × Nat) (ht : ∀ b, (take b).2 ≤ b.length) (k : Nat) (hk : Enters Tryz.prog k)
    (hT : ∀ (A : Option Addr) (n cap : Nat) (b : List UInt8) (w : World), n = b.length → Bs w A cap b → Calls Tryz.prog k #[.slice A n cap] w fun e w' => e = .returned (.tuple #[(.string (strOf (take b).1)), .int .i64 ((take b).2 : Int)]) ∧ Below w.heap.size w w') :
    Calls Tryz.prog 121 #[.pointer (some ⟨p, 0, none⟩), .func (.func k) #[] #[]] w (CurTo W w p g bs (s.rd take [] bs).2 (.string (strOf (s.rd take [] bs).1))) := by
  rcases h.2 with ⟨a, b⟩ | ⟨l, r, A, cap, c, hfr, hb, hp, hst⟩
  · refine (read_string_none p _ _ _ _ _ w b).mono ?_
    rintro e w' ⟨rfl, rfl⟩
    have e1 : s.rd take [] bs = ([], s) := by unfold St.rd; rw [a]
    rw [e1]
    exact cur_still h rfl
  · have hseg := fun w1 hw => cur_seg h hfr hb w1 hw
    obtain ⟨l1, _, l2, l3, l4, l5⟩ := hseg w (Below.refl _ _)
    have hm := ht (segOf bs s.at_ l)
    rw [← l1] at hm
    refine (read_string_some p A bs.length cap s.at_ g c l r w hp hst l2 l3 l4 l5 k #[] hk (.string (strOf (take (segOf bs s.at_ l)).1)) (take (segOf bs s.at_ l)).2 (by omega) (fun w1 => Below w.heap.size w w1) (fun n => ?_) (fun w1 hw => ⟨hw.block p h.1.2.2.2.1, hw.block g h.1.2.2.2.2.1⟩)).mono ?_
    · refine (hT _ _ _ _ _ l1 (hseg _ (drawn_below w n)).2.1).mono ?_
      rintro e w' ⟨rfl, hw⟩
      exact ⟨rfl, (drawn_below w n).trans hw⟩
    · intro e w' he
      exact cur_read (enc := fun b : List UInt8 => Value.string (strOf b)) (z := []) h ht hfr hb hst (fun _ hw => hw) he
end Go.Proofs.YtpfdnggacpehdaaGreatDoor

/- What Varint, Fixed4, Fixed8, Text answer, and what they leave. -/
namespace Go.Proofs.YtpfdnggacpehdaaGreatDoor
open Go.RowKit
set_option linter.unusedVariables false
set_option maxRecDepth 100000

theorem enters_varint : Enters Tryz.prog 104 := enters_of Tryz.func104 (by kernel_rfl) rfl
theorem varint_cur {W w : World} {p g : Nat} {bs : List UInt8} {s : St} (h : Cur W w p g bs s) :
    Calls Tryz.prog 83 #[.pointer (some ⟨p, 0, none⟩)] w (CurTo W w p g bs (s.rd tVar 0 bs).2 (.int .u64 (((s.rd tVar 0 bs).1 : Nat) : Int))) := by
  have hR := Lib.hid (rd_uint64 h tVar (tVar_le) 104 enters_varint (fun A n cap b w hn hb => (get_n A n cap b w hn hb).mono fun _ _ ⟨he, hw⟩ => ⟨he, hw ▸ Below.refl _ _⟩))
  clear h
  go_enter Tryz.func83, Tryz.ntmps83
  go_wp2_with (go_at_call 102; refine hR.out.mono ?_; rintro e w' ⟨rfl, g', hg', hc, ho⟩)
  go_ret
  exact ⟨rfl, g', hg', hc, ho⟩
theorem enters_four : Enters Tryz.prog 125 := enters_of Tryz.func125 (by kernel_rfl) rfl
theorem four_cur {W w : World} {p g : Nat} {bs : List UInt8} {s : St} (h : Cur W w p g bs s) :
    Calls Tryz.prog 82 #[.pointer (some ⟨p, 0, none⟩)] w (CurTo W w p g bs (s.rd (tFix 4) 0 bs).2 (.int .u32 (((s.rd (tFix 4) 0 bs).1 : Nat) : Int))) := by
  have hR := Lib.hid (rd_uint32 h (tFix 4) (tFix_le 4) 125 enters_four (fun A n cap b w hn hb => four_lit A n cap b w hn hb))
  clear h
  go_enter Tryz.func82, Tryz.ntmps82
  go_wp2_with (go_at_call 124; refine hR.out.mono ?_; rintro e w' ⟨rfl, g', hg', hc, ho⟩)
  go_ret
  exact ⟨rfl, g', hg', hc, ho⟩
theorem enters_eight : Enters Tryz.prog 119 := enters_of Tryz.func119 (by kernel_rfl) rfl
theorem eight_cur {W w : World} {p g : Nat} {bs : List UInt8} {s : St} (h : Cur W w p g bs s) :
    Calls Tryz.prog 80 #[.pointer (some ⟨p, 0, none⟩)] w (CurTo W w p g bs (s.rd (tFix 8) 0 bs).2 (.int .u64 (((s.rd (tFix 8) 0 bs).1 : Nat) : Int))) := by
  have hR := Lib.hid (rd_uint64 h (tFix 8) (tFix_le 8) 119 enters_eight (fun A n cap b w hn hb => eight_lit A n cap b w hn hb))
  clear h
  go_enter Tryz.func80, Tryz.ntmps80
  go_wp2_with (go_at_call 102; refine hR.out.mono ?_; rintro e w' ⟨rfl, g', hg', hc, ho⟩)
  go_ret
  exact ⟨rfl, g', hg', hc, ho⟩
theorem enters_text : Enters Tryz.prog 122 := enters_of Tryz.func122 (by kernel_rfl) rfl
theorem text_cur {W w : World} {p g : Nat} {bs : List UInt8} {s : St} (h : Cur W w p g bs s) :
    Calls Tryz.prog 81 #[.pointer (some ⟨p, 0, none⟩)] w (CurTo W w p g bs (s.rd tText [] bs).2 (.string (strOf (s.rd tText [] bs).1))) := by
  have hR := Lib.hid (rd_string h tText (tText_le) 122 enters_text (fun A n cap b w hn hb => (text_lit A n cap b w hn hb).mono fun _ _ ⟨he, hw⟩ => ⟨he, hw ▸ Below.refl _ _⟩))
  clear h
  go_enter Tryz.func81, Tryz.ntmps81
  go_wp2_with (go_at_call 121; refine hR.out.mono ?_; rintro e w' ⟨rfl, g', hg', hc, ho⟩)
  go_ret
  exact ⟨rfl, g', hg', hc, ho⟩
end Go.Proofs.YtpfdnggacpehdaaGreatDoor

/- The calls that tell where a cursor is; Open. -/
namespace Go.Proofs.YtpfdnggacpehdaaGreatDoor
open Go.RowKit
set_option linter.unusedVariables false
set_option maxRecDepth 100000

theorem cur_none {W w : World} {p g : Nat} {bs : List UInt8} {s : St} (h : Cur W w p g bs s) (hfr : s.fr = []) : w.heap[p]? = some (.cells #[.slice none 0 0, .int .i64 ((0 : Nat) : Int), .slice none 0 0] 109 (0, 0)) := by
  rcases h.2 with ⟨a, b⟩ | ⟨l, r, A, cap, c, a, b⟩
  · exact b
  · rw [hfr] at a; cases a
theorem cur_some {W w : World} {p g l : Nat} {r : List Nat} {bs : List UInt8} {s : St} (h : Cur W w p g bs s) (hfr : s.fr = l :: r) : ∃ A cap c, Bs W A cap bs ∧ w.heap[p]? = some (.cells #[.slice A bs.length cap, .int .i64 (s.at_ : Int), .slice (some ⟨g, 0, none⟩) (r.length + 1) c] 109 (0, 0)) ∧ Stk w g c (l :: r).reverse := by
  rcases h.2 with ⟨a, b⟩ | ⟨l', r', A, cap, c, a, b, d, e⟩
  · rw [hfr] at a; cases a
  · rw [hfr] at a
    cases a
    exact ⟨A, cap, c, b, d, e⟩
theorem ok_cur {W w : World} {p g : Nat} {bs : List UInt8} {s : St} (h : Cur W w p g bs s) : Calls Tryz.prog 40 #[.pointer (some ⟨p, 0, none⟩)] w fun e w' => e = .returned (.bool s.oks) ∧ w = w' := by
  rcases hfr : s.fr with _ | ⟨l, r⟩
  · have e : s.oks = false := by simp [St.oks, hfr]
    rw [e]
    exact ok_no p _ _ _ _ w (cur_none h hfr)
  · have e : s.oks = true := by simp [St.oks, hfr]
    obtain ⟨A, cap, c, _, hp, _⟩ := cur_some h hfr
    rw [e]
    exact ok_yes p _ _ _ _ _ w hp
theorem deep_cur {W w : World} {p g : Nat} {bs : List UInt8} {s : St} (h : Cur W w p g bs s) : Calls Tryz.prog 65 #[.pointer (some ⟨p, 0, none⟩)] w fun e w' => e = .returned (.int .i64 (s.fr.length : Int)) ∧ w = w' := by
  rcases hfr : s.fr with _ | ⟨l, r⟩
  · exact deep_any p _ _ _ 0 _ w (cur_none h hfr)
  · obtain ⟨A, cap, c, _, hp, _⟩ := cur_some h hfr
    exact deep_any p _ _ _ (r.length + 1) _ w hp
theorem more_cur {W w : World} {p g : Nat} {bs : List UInt8} {s : St} (h : Cur W w p g bs s) : Calls Tryz.prog 36 #[.pointer (some ⟨p, 0, none⟩)] w fun e w' => e = .returned (.bool s.more) ∧ ∃ n, w' = w.drewN n := by
  rcases hfr : s.fr with _ | ⟨l, r⟩
  · have e : s.more = false := by simp [St.more, hfr]
    rw [e]
    exact more_none p _ _ _ _ w (cur_none h hfr)
  · have e : s.more = decide (s.at_ < l) := by simp [St.more, hfr]
    obtain ⟨A, cap, c, _, hp, hs⟩ := cur_some h hfr
    rw [e]
    exact more_some p _ _ g c l r w hp hs
theorem enters_length : Enters Tryz.prog 123 := enters_of Tryz.func123 (by kernel_rfl) rfl

theorem open_done {W w w1 wa w2 : World} {p g g' g2 l n k i cap cc : Nat} {r : List Nat} {bs : List UInt8} {s s1 : St} {A : Option Addr} {ve : Value} (hc : Cur W w1 p g' bs s1) (hg' : g' = g ∨ g' ≥ w.heap.size) (ho : Only p g w w1) (hi : i = s1.at_) (hk : k = r.length)
    (hopen : s.opens bs = ⟨i, (i + n) :: l :: r⟩) (hR : Right bs (s.opens bs)) (hb : Below w1.heap.size w1 wa) (hgr : wa.grownBy w2 (some g')) (hg2 : g2 = g' ∨ g2 ≥ wa.heap.size) (hlt : g2 < w2.heap.size)
    (hst : Stk w2 g2 cc ((l :: r).reverse ++ [i + n])) (hp2 : w2.heap[p]? = some (.cells #[.slice A bs.length cap, .int .i64 (i : Int), ve] 109 (0, 0))) (hB : Bs W A cap bs) :
    CurTo W w p g bs (s.opens bs) (.bool (s.opens bs).oks) (.returned (.bool true)) (w2.setCell ⟨p, 2, none⟩ (.slice (some ⟨g2, 0, none⟩) (k + 1 + 1) cc)) := by
  subst hi hk
  obtain ⟨⟨h1, h2, h3, h4, h5, h6, h7⟩, _⟩ := hc
  have hbs := hb.size
  have hgs := hgr.size
  have hos := ho.size
  have hgp : g2 ≠ p := by rcases hg2 with rfl | hg2 <;> omega
  have hsz : (w2.setCell ⟨p, 2, none⟩ (.slice (some ⟨g2, 0, none⟩) (r.length + 1 + 1) cc)).heap.size = w2.heap.size := by simp [World.setCell]
  have hW : Below W.heap.size W (w2.setCell ⟨p, 2, none⟩ (.slice (some ⟨g2, 0, none⟩) (r.length + 1 + 1) cc)) :=
    ((h6.trans (hb.mono (by omega))).grown hgr (by omega) (fun k e => by cases e; exact h2)).setCell (p := ⟨p, 2, none⟩) h1 _
  refine ⟨by rw [hopen]; rfl, g2, ?_, ⟨⟨h1, ?_, hgp.symm, by rw [hsz]; omega, by rw [hsz]; exact hlt, hW, hR⟩, .inr ?_⟩, ?_⟩
  · rcases hg2 with rfl | hg2
    · rcases hg' with rfl | hg'
      · exact .inl rfl
      · exact .inr hg'
    · exact .inr (by omega)
  · rcases hg2 with rfl | hg2 <;> omega
  · rw [hopen]
    refine ⟨s1.at_ + n, l :: r, A, cap, cc, rfl, hB, ?_, ?_⟩
    · rw [obj_set hp2 2]
      rfl
    · refine Stk.keep (w := w2) ?_ (heap_setCell_other w2 _ g2 _ hgp)
      have e : ((s1.at_ + n) :: l :: r).reverse = (l :: r).reverse ++ [s1.at_ + n] := by simp
      rw [e]
      exact hst
  · have o1 : Only p g' w1 w2 := (Only.of_below hb).grown hgr (fun k e => .inr (by cases e; rfl))
    exact ho.then (o1.set (q := ⟨p, 2, none⟩) (.inl rfl) _) hg'

theorem open_cur {W w : World} {p g : Nat} {bs : List UInt8} {s : St} (h : Cur W w p g bs s) (hlen : bs.length < 1099511627776) :
    Calls Tryz.prog 143 #[.pointer (some ⟨p, 0, none⟩)] w (CurTo W w p g bs (s.opens bs) (.bool (s.opens bs).oks)) := by
  have hR := Lib.hid (rd_int h tLen (fun b => by have := tLen_sum b; omega) 123 enters_length (fun A n cap b w hn hb => (length_any A n cap b w hn hb).mono fun _ _ ⟨he, hw⟩ => ⟨he, hw ▸ Below.refl _ _⟩))
  have hO := opens_rd (bs := bs) (s := s)
  obtain ⟨s1, hs1⟩ : ∃ s1, s1 = (s.rd tLen 0 bs).2 := ⟨_, rfl⟩
  obtain ⟨n, hn⟩ : ∃ n, n = (s.rd tLen 0 bs).1 := ⟨_, rfl⟩
  rw [← hs1, ← hn] at hR hO
  clear hs1 hn
  rcases hfr : s1.fr with _ | ⟨l, r⟩
  · rw [hfr] at hO
    dsimp only at hO
    have hK : Hid (s1.oks = false) := by show _ = _; simp [St.oks, hfr]
    rw [hO]
    clear hO h
    have hF := Lib.hid hfr
    clear hfr
    go_enter Tryz.func143, Tryz.ntmps143
    go_wp2_with (first
      | (go_at_call 165; refine hR.out.mono ?_; rintro e w' ⟨rfl, g', hg', hc, ho⟩)
      | (go_at_call 40; refine (ok_no p _ _ _ _ _ (cur_none hc hF.out)).mono ?_; rintro e w' ⟨rfl, rfl⟩))
    go_ret
    exact ⟨by rw [hK.out]; rfl, g', hg', hc, ho⟩
  · rw [hfr] at hO
    dsimp only at hO
    have hK : Hid (∀ i l, (St.mk i (l :: s1.fr)).oks = true) := by intro i l; simp [St.oks]
    have hF := Lib.hid hfr
    have hRt := right_opens h.1.2.2.2.2.2.2
    have hRR := Lib.hid hRt
    rw [hO] at hRt
    obtain ⟨b1, b2, b3, b4, b5⟩ := hRt
    dsimp only at b1
    simp only [List.length_cons] at b5
    obtain ⟨i, hi⟩ : ∃ i, i = s1.at_ := ⟨_, rfl⟩
    rw [← hi] at b1 b2 b5
    have hI := Lib.hid hi
    obtain ⟨k, hk⟩ : ∃ k, k = r.length := ⟨_, rfl⟩
    rw [← hk] at b5
    have hKK := Lib.hid hk
    have hOO := Lib.hid hO
    have hlr : (l :: r).reverse.length = k + 1 := by simp [hk]
    have hLR := Lib.hid hlr
    clear hfr h hO b3 b4 hi hk hlr
    go_enter Tryz.func143, Tryz.ntmps143
    go_wp2_with (first
      | (go_at_call 165; refine hR.out.mono ?_; rintro e w1 ⟨rfl, g', hg', hc, ho⟩; obtain ⟨A, cap, c, hb, hp, hst⟩ := cur_some hc hF.out; have HP := Lib.hid hp; clear hp)
      | (go_at_call 40; refine (ok_yes p _ _ _ _ _ _ HP.out).mono ?_; rintro e w' ⟨rfl, rfl⟩))
    have hP := HP.out
    rw [← hI.out, ← hKK.out] at hP
    have c1 := obj_cell hP 1
    have c2 := obj_cell hP 2
    have hf := obj_free hP 2
    have hpg := hc.1.2.2.1
    have hpl := hc.1.2.2.2.1
    have hST := Lib.hid hst
    have hgl := hc.1.2.2.2.2.1
    have hHC := Lib.hid hc
    have hPP := Lib.hid hP
    have hHO := Lib.hid ho
    have hHB := Lib.hid hb
    clear hP hc hst ho hb
    have hwr : IntKind.i64.wrap ((i : Int) + (n : Int)) = (i : Int) + (n : Int) := IntWalk.i64_in _ (by omega)
    go_region_law (first
      | (refine step_append_stk (by rfl) _ _ (by rfl) (g := g') (c := c) (m := k + 1) (xs := (l :: r).reverse) (hST.out.keep (Below.heap_alloc _ _ _ hgl)) (by rw [hLR.out]; omega) hLR.out.symm (by rfl) ⟨w1.heap.size, 0, none⟩ 1 (i + n) (by rfl) (cell_one_new _ _ _ 0 _ (by simp)) ?_
         intro g2 cc2 w2 hst2 hgr2 hg2 hlt2
         have hp2 := ((hgr2.block p (Nat.lt_of_lt_of_le hpl (by simp)) (fun e => hpg (Option.some.inj e))).trans (Below.heap_alloc _ _ _ hpl)).trans hPP.out
         have hc2 := obj_cell hp2 2
         have hf2 := obj_free hp2 2
         have HP2 := Lib.hid hp2
         clear hp2))
    all_goals go_wp2
    all_goals
      go_ret
      exact open_done hHC.out hg' hHO.out hI.out hKK.out (by rw [hOO.out, hI.out]) hRR.out ((drawn_below w1 1).alloc (Nat.le_refl _) _) hgr2 hg2 hlt2 hst2 HP2.out hHB.out
end Go.Proofs.YtpfdnggacpehdaaGreatDoor

/- Close, Tag, From. -/
namespace Go.Proofs.YtpfdnggacpehdaaGreatDoor
open Go.RowKit
set_option linter.unusedVariables false
set_option maxRecDepth 100000

theorem Stk.init {w : World} {g c l : Nat} {r : List Nat} (h : Stk w g c (l :: r).reverse) : Stk w g r.length r.reverse := by
  obtain ⟨cur, h1, h2, h3⟩ := h.row
  have hle := h.le
  have hm := h.max
  simp only [List.length_reverse, List.length_cons] at hle h3
  refine ⟨⟨cur, h1, by omega, ?_⟩, by simp, by omega⟩
  have h4 := congrArg (List.take r.length) h3
  rw [List.take_take, Nat.min_eq_left (by omega)] at h4
  rw [List.length_reverse, h4, List.reverse_cons, ints_append, List.take_append_of_le_length (by simp [ints_length]), List.take_of_length_le (by simp [ints_length])]
theorem close_no {W w : World} {p g : Nat} {bs : List UInt8} {s : St} (h : Cur W w p g bs s) (hd : s.fr.length ≤ 1) :
    Calls Tryz.prog 144 #[.pointer (some ⟨p, 0, none⟩)] w (CurTo W w p g bs s.shuts.2 (.bool s.shuts.1)) := by
  have e : s.shuts = (false, s) := by
    obtain ⟨i, fr⟩ := s
    match fr, hd with
    | [], _ => rfl
    | [l], _ => rfl
  rw [e]
  have hD := Lib.hid (deep_cur h)
  have H := Lib.hid h
  obtain ⟨k, hk⟩ : ∃ k, k = s.fr.length := ⟨_, rfl⟩
  rw [← hk] at hD hd
  have hw : IntKind.i64.wrap ((k : Int) - 1) = (k : Int) - 1 := IntWalk.i64_in _ (by omega)
  have hl : decide ((k : Int) - 1 < 1) = true := decide_eq_true (by omega)
  clear hk h
  go_enter Tryz.func144, Tryz.ntmps144
  go_wp2_with (go_at_call 65; refine hD.out.mono ?_; rintro e w' ⟨rfl, rfl⟩)
  go_ret
  exact cur_still H.out rfl
theorem close_more {W w : World} {p g l l2 : Nat} {r : List Nat} {bs : List UInt8} {s : St} (h : Cur W w p g bs s) (hfr : s.fr = l :: l2 :: r) (hm : s.more = true) :
    Calls Tryz.prog 144 #[.pointer (some ⟨p, 0, none⟩)] w (CurTo W w p g bs s.shuts.2 (.bool s.shuts.1)) := by
  have e : s.shuts = (false, s) := by
    unfold St.more at hm
    unfold St.shuts
    rw [hfr] at hm ⊢
    dsimp only at hm ⊢
    rw [if_neg (by have := of_decide_eq_true hm; omega)]
  rw [e]
  have hD := Lib.hid (deep_cur h)
  have hM := Lib.hid (more_cur h)
  rw [hm] at hM
  have H := Lib.hid h
  rw [hfr] at hD
  simp only [List.length_cons] at hD
  have hb : r.length + 2 ≤ 9223372036854775807 := by
    obtain ⟨A, cap, c, _, hp, hst⟩ := cur_some h hfr
    have h1 := hst.le
    have h2 := hst.max
    simp at h1
    unfold maxLen at h2
    omega
  obtain ⟨k, hk⟩ : ∃ k, k = r.length := ⟨_, rfl⟩
  rw [← hk] at hD hb
  have hw : IntKind.i64.wrap ((k : Int) + 1 + 1 - 1) = (k : Int) + 1 := by
    rw [show (k : Int) + 1 + 1 - 1 = (k : Int) + 1 by omega]
    exact IntWalk.i64_in _ (by omega)
  clear hk h hfr hm
  go_enter Tryz.func144, Tryz.ntmps144
  go_wp2_with (first
    | (go_at_call 65; refine hD.out.mono ?_; rintro e w' ⟨rfl, rfl⟩)
    | (go_at_call 36; refine hM.out.mono ?_; rintro e w' ⟨rfl, n, rfl⟩))
  go_ret
  exact ⟨rfl, g, .inl rfl, H.out.bel (drawn_below w n), Only.of_below (drawn_below w n)⟩
theorem close_done {W w : World} {p g l2 k n cap : Nat} {r : List Nat} {bs : List UInt8} {s : St} {A : Option Addr} {ve : Value} (h : Cur W w p g bs s) (hk : k = r.length) (hR : Right bs ⟨s.at_, l2 :: r⟩) (hB : Bs W A cap bs)
    (hp : w.heap[p]? = some (.cells #[.slice A bs.length cap, .int .i64 (s.at_ : Int), ve] 109 (0, 0))) (hst : Stk w g (r.length + 1) (l2 :: r).reverse) :
    CurTo W w p g bs ⟨s.at_, l2 :: r⟩ (.bool true) (.returned (.bool true)) ((w.drewN n).setCell ⟨p, 2, none⟩ (.slice (some ⟨g, 0, none⟩) (k + 1) (k + 1))) := by
  subst hk
  obtain ⟨⟨h1, h2, h3, h4, h5, h6, h7⟩, _⟩ := h
  have hp' : (w.drewN n).heap[p]? = some (.cells #[.slice A bs.length cap, .int .i64 (s.at_ : Int), ve] 109 (0, 0)) := hp
  have hsz : ((w.drewN n).setCell ⟨p, 2, none⟩ (.slice (some ⟨g, 0, none⟩) (r.length + 1) (r.length + 1))).heap.size = w.heap.size := by simp [World.setCell]
  refine ⟨rfl, g, .inl rfl, ⟨⟨h1, h2, h3, by rw [hsz]; exact h4, by rw [hsz]; exact h5, (h6.trans ((drawn_below w n).mono (by omega))).setCell (p := ⟨p, 2, none⟩) h1 _, hR⟩, .inr ⟨l2, r, A, cap, r.length + 1, rfl, hB, ?_, ?_⟩⟩, (Only.of_below (drawn_below w n)).set (q := ⟨p, 2, none⟩) (.inl rfl) _⟩
  · rw [obj_set hp' 2]
    rfl
  · exact (hst.keep (w' := w.drewN n) rfl).keep (heap_setCell_other _ _ g _ (fun e => h3 e.symm))
theorem close_yes {W w : World} {p g l l2 : Nat} {r : List Nat} {bs : List UInt8} {s : St} (h : Cur W w p g bs s) (hfr : s.fr = l :: l2 :: r) (hm : s.more = false) :
    Calls Tryz.prog 144 #[.pointer (some ⟨p, 0, none⟩)] w (CurTo W w p g bs s.shuts.2 (.bool s.shuts.1)) := by
  have hR := right_shuts h.1.2.2.2.2.2.2
  have e : s.shuts = (true, ⟨s.at_, l2 :: r⟩) := by
    have hr := h.1.2.2.2.2.2.2
    unfold St.more at hm
    unfold Right at hr
    unfold St.shuts
    rw [hfr] at hm hr ⊢
    dsimp only at hm hr ⊢
    rw [if_pos (by have := of_decide_eq_false hm; omega)]
  rw [e] at hR ⊢
  dsimp only at hR ⊢
  have hD := Lib.hid (deep_cur h)
  have hM := Lib.hid (more_cur h)
  rw [hm] at hM
  have H := Lib.hid h
  rw [hfr] at hD
  simp only [List.length_cons] at hD
  obtain ⟨A, cap, c, hB, hp, hst⟩ := cur_some h hfr
  have hle := hst.le
  have hb := hst.max
  simp at hle
  unfold maxLen at hb
  have hin := Lib.hid hst.init
  have c2 := obj_cell hp 2
  have hf := obj_free hp 2
  have HP := Lib.hid hp
  have HB := Lib.hid hB
  obtain ⟨k, hk⟩ : ∃ k, k = r.length := ⟨_, rfl⟩
  simp only [List.length_cons] at c2
  rw [← hk] at hD hle c2
  have hK := Lib.hid hk
  have hw : IntKind.i64.wrap ((k : Int) + 1 + 1 - 1) = (k : Int) + 1 := by
    rw [show (k : Int) + 1 + 1 - 1 = (k : Int) + 1 by omega]
    exact IntWalk.i64_in _ (by omega)
  have hR := Lib.hid hR
  clear hk h hfr hm hp hst hB
  go_enter Tryz.func144, Tryz.ntmps144
  go_wp2_with (first
    | (go_at_call 65; refine hD.out.mono ?_; rintro e w' ⟨rfl, rfl⟩)
    | (go_at_call 36; refine hM.out.mono ?_; rintro e w' ⟨rfl, n, rfl⟩))
  go_ret
  exact close_done H.out hK.out hR.out HB.out HP.out hin.out
theorem close_cur {W w : World} {p g : Nat} {bs : List UInt8} {s : St} (h : Cur W w p g bs s) :
    Calls Tryz.prog 144 #[.pointer (some ⟨p, 0, none⟩)] w (CurTo W w p g bs s.shuts.2 (.bool s.shuts.1)) := by
  match hfr : s.fr with
  | [] => exact close_no h (by rw [hfr]; decide)
  | [l] => exact close_no h (by rw [hfr]; simp)
  | l :: l2 :: r =>
    cases hm : s.more
    · exact close_yes h hfr hm
    · exact close_more h hfr hm
end Go.Proofs.YtpfdnggacpehdaaGreatDoor

/- From, Tag. -/
namespace Go.Proofs.YtpfdnggacpehdaaGreatDoor
open Go.RowKit
set_option linter.unusedVariables false
set_option maxRecDepth 100000

/-- What From answers: a cursor of its own at the beginning. -/
def Begins (w : World) (bs : List UInt8) (e : Ending) (w' : World) : Prop :=
  ∃ W p g, e = .returned (.pointer (some ⟨p, 0, none⟩)) ∧ Below w.heap.size w W ∧ Below w.heap.size w w' ∧ Cur W w' p g bs ⟨0, [bs.length]⟩
theorem begins_done {w w1 : World} {bs : List UInt8} {A : Option Addr} {cap : Nat} (hB : Bs w1 A cap bs) (hb : Below w.heap.size w w1) :
    Begins w bs (.returned (.pointer (some ⟨w1.heap.size + 1, 0, none⟩))) ((w1.alloc (.cells #[.int .i64 (bs.length : Int)] 3)).alloc (.cells #[.slice A bs.length cap, .int .i64 0, .slice (some ⟨w1.heap.size, 0, none⟩) 1 1] 109)) := by
  have hb2 : Below w1.heap.size w1 ((w1.alloc (.cells #[.int .i64 (bs.length : Int)] 3)).alloc (.cells #[.slice A bs.length cap, .int .i64 0, .slice (some ⟨w1.heap.size, 0, none⟩) 1 1] 109)) :=
    ((Below.refl _ _).alloc (Nat.le_refl _) _).alloc (by simp) _
  have hp := heap_alloc2_new w1 (.cells #[.int .i64 (bs.length : Int)] 3) (.cells #[.slice A bs.length cap, .int .i64 0, .slice (some ⟨w1.heap.size, 0, none⟩) 1 1] 109)
  have hg := heap_alloc2_old w1 (.cells #[.int .i64 (bs.length : Int)] 3) (.cells #[.slice A bs.length cap, .int .i64 0, .slice (some ⟨w1.heap.size, 0, none⟩) 1 1] 109)
  refine ⟨w1, w1.heap.size + 1, w1.heap.size, rfl, hb, bel_trans hb hb2, ⟨by omega, by omega, by omega, lt_of_block hp, lt_of_block hg, hb2, right_start bs⟩, .inr ⟨bs.length, [], A, cap, 1, rfl, hB, hp, ⟨⟨_, hg, by simp, rfl⟩, by simp, by decide⟩⟩⟩
theorem from_any (A : Option Addr) (n cap : Nat) (bs : List UInt8) (w : World) (hn : n = bs.length) (hb : Bs w A cap bs) (hlen : bs.length ≤ 140737488351232) :
    Calls Tryz.prog 29 #[.slice A n cap] w (Begins w bs) := by
  have hC := Lib.hid (clone_n A n cap bs w hn hb hlen)
  have hN := Lib.hid hn
  clear hb hn
  go_enter Tryz.func29, Tryz.ntmps29
  go_wp2_with (go_at_call 64; refine hC.out.mono ?_; rintro e w1 ⟨A1, cap1, rfl, hB1, hb1⟩)
  rw [hN.out]
  go_ret
  exact begins_done hB1 hb1

theorem enters_tag : Enters Tryz.prog 103 := enters_of Tryz.func103 (by kernel_rfl) rfl
/-- What Tag's read leaves: the cursor, and the two numbers at a and b. -/
def TagEnd (W w : World) (p g a b : Nat) (bs : List UInt8) (s : St) (e : Ending) (w' : World) : Prop :=
  (∃ v, e = .returned v) ∧ Cur W w' p g bs (s.rd tTag (0, 0) bs).2 ∧ w'.heap[a]? = some (.cells #[.int .i64 ((s.rd tTag (0, 0) bs).1.1 : Int)] 3 (0, 0)) ∧ w'.heap[b]? = some (.cells #[.int .i64 ((s.rd tTag (0, 0) bs).1.2 : Int)] 3 (0, 0)) ∧
    w'.os = w.os ∧ w'.tape = w.tape ∧ w'.output = w.output ∧ w.heap.size ≤ w'.heap.size ∧ ∀ k, k < w.heap.size → k ≠ p → k ≠ a → k ≠ b → w'.heap[k]? = w.heap[k]?
theorem tag_read {W w : World} {p g a b : Nat} {bs : List UInt8} {s : St} (h : Cur W w p g bs s) (ha : w.heap[a]? = some (.cells #[.int .i64 0] 3 (0, 0))) (hbb : w.heap[b]? = some (.cells #[.int .i64 0] 3 (0, 0)))
    (hab : a ≠ b) (hap : a ≠ p) (hag : a ≠ g) (hbp : b ≠ p) (hbg : b ≠ g) (hWa : W.heap.size ≤ a) (hWb : W.heap.size ≤ b) :
    Calls Tryz.prog 102 #[.pointer (some ⟨p, 0, none⟩), .func (.func 103) #[] #[.pointer (some ⟨a, 0, none⟩), .pointer (some ⟨b, 0, none⟩)]] w (TagEnd W w p g a b bs s) := by
  have hal := lt_of_block ha
  have hbl := lt_of_block hbb
  rcases h.2 with ⟨x, y⟩ | ⟨l, r, A, cap, c, hfr, hB, hp, hst⟩
  · refine (read_uint64_none p _ _ _ _ _ w y).mono ?_
    rintro e w' ⟨rfl, rfl⟩
    have e1 : s.rd tTag (0, 0) bs = ((0, 0), s) := by unfold St.rd; rw [x]
    unfold TagEnd
    rw [e1]
    exact ⟨⟨_, rfl⟩, h, ha, hbb, rfl, rfl, rfl, Nat.le_refl _, fun _ _ _ _ _ => rfl⟩
  · have hseg := fun w1 hw => cur_seg h hfr hB w1 hw
    obtain ⟨l1, _, l2, l3, l4, l5⟩ := hseg w (Below.refl _ _)
    have hm := tTag_le (segOf bs s.at_ l)
    rw [← l1] at hm
    have hpl := h.1.2.2.2.1
    have hgl := h.1.2.2.2.2.1
    refine (read_uint64_some p A bs.length cap s.at_ g c l r w hp hst l2 l3 l4 l5 103 #[.pointer (some ⟨a, 0, none⟩), .pointer (some ⟨b, 0, none⟩)] enters_tag
      (.int .u64 ((getFrom 0 0 (segOf bs s.at_ l)).1 : Int)) (tTag (segOf bs s.at_ l)).2 (by omega)
      (fun w1 => w1.heap[a]? = some (.cells #[.int .i64 ((tTag (segOf bs s.at_ l)).1.1 : Int)] 3 (0, 0)) ∧ w1.heap[b]? = some (.cells #[.int .i64 ((tTag (segOf bs s.at_ l)).1.2 : Int)] 3 (0, 0)) ∧ Only a b w w1)
      (fun n => ?_) (fun w1 hw => ⟨hw.2.2.block p hpl hap.symm hbp.symm, hw.2.2.block g hgl hag.symm hbg.symm⟩)).mono ?_
    · refine (tag_lit _ _ _ a b _ (w.drewN n) l1 (hseg _ (drawn_below w n)).2.1 _ _ ha hbb hab).mono ?_
      rintro e w' ⟨rfl, rfl⟩
      have h1 := obj_set (w := w.drewN n) ha 0 (.int .i64 ((tTag (segOf bs s.at_ l)).1.1 : Int))
      have hb1 : ((w.drewN n).setCell ⟨a, 0, none⟩ (.int .i64 ((tTag (segOf bs s.at_ l)).1.1 : Int))).heap[b]? = some (.cells #[.int .i64 0] 3 (0, 0)) := (heap_setCell_other _ _ b _ hab.symm).trans hbb
      refine ⟨rfl, ?_, ?_, ?_⟩
      · rw [heap_setCell_other _ _ a _ hab, h1]
        rfl
      · rw [obj_set hb1 0]
        rfl
      · exact ((Only.of_below (drawn_below w n)).set (q := ⟨a, 0, none⟩) (.inl rfl) _).set (q := ⟨b, 0, none⟩) (.inr rfl) _
    · intro e w' he
      obtain ⟨w1, ⟨q1, q2, q3⟩, ho, hc, hr⟩ := cur_read0 (take := tTag) (z := (0, 0)) h tTag_le hfr hB hst (fun w1 q => ⟨below_only h.1.2.2.2.2.2.1 q.2.2 hWa hWb (by have := h.1.1; omega), q.2.2.size, q.2.2.block g hgl hag.symm hbg.symm⟩) he
      have hs1 := q3.size
      have ea : w'.heap[a]? = w1.heap[a]? := ho.block a (by omega) hap hap
      have eb : w'.heap[b]? = w1.heap[b]? := ho.block b (by omega) hbp hbp
      have hv : (s.rd tTag (0, 0) bs).1 = (tTag (segOf bs s.at_ l)).1 := by
        rcases hr with ⟨z, _, hr⟩ | ⟨_, _, hr⟩
        · rw [hr, tTag_zero _ z]
        · exact hr
      refine ⟨?_, hc, ?_, ?_, ho.os.trans q3.os, ho.tape.trans q3.tape, ho.output.trans q3.output, by have := ho.size; omega, fun k hk x y z => (ho.block k (by omega) x x).trans (q3.block k hk y z)⟩
      · rcases hr with ⟨_, hr, _⟩ | ⟨_, hr, _⟩ <;> exact ⟨_, hr⟩
      · rw [ea, hv]; exact q1
      · rw [eb, hv]; exact q2

theorem tag_cur {W w : World} {p g : Nat} {bs : List UInt8} {s : St} (h : Cur W w p g bs s) :
    Calls Tryz.prog 66 #[.pointer (some ⟨p, 0, none⟩)] w (CurTo W w p g bs (s.rd tTag (0, 0) bs).2 (.tuple #[.int .i64 ((s.rd tTag (0, 0) bs).1.1 : Int), .int .i64 ((s.rd tTag (0, 0) bs).1.2 : Int)])) := by
  obtain ⟨h1, h2, h3, h4, h5, h6, h7⟩ := h.1
  have hb2 : Below w.heap.size w ((w.alloc (.cells #[.int .i64 0] 3)).alloc (.cells #[.int .i64 0] 3)) := ((Below.refl _ _).alloc (Nat.le_refl _) _).alloc (by simp) _
  have hR := Lib.hid (tag_read (h.bel hb2) (heap_alloc2_old w _ _) (heap_alloc2_new w _ _) (by omega) (by omega) (by omega) (by omega) (by omega) (by omega) (by omega))
  have H := Lib.hid h
  clear h h6 h7
  go_enter Tryz.func66, Tryz.ntmps66
  go_wp2_with (go_at_call 102; refine hR.out.mono ?_; rintro e w1 ⟨⟨v, rfl⟩, hc, ha, hb, r1, r2, r3, r4, r5⟩; have ca := cell_of_one ha; have cb := cell_of_one hb; have HC := Lib.hid hc; have R4 := Lib.hid r4; have R5 := Lib.hid r5; have R1 := Lib.hid r1; have R2 := Lib.hid r2; have R3 := Lib.hid r3; clear hc ha hb r1 r2 r3 r4 r5)
  go_quiet (fail)
  go_wp2
  go_ret2
  have hs := R4.out
  have ho : Only p g w w1 := ⟨R1.out.trans hb2.os, R2.out.trans hb2.tape, R3.out.trans hb2.output, Nat.le_trans hb2.size R4.out, fun k hk x _ => (R5.out k (Nat.lt_of_lt_of_le hk hb2.size) x (by omega) (by omega)).trans (hb2.block k hk)⟩
  refine ⟨rfl, g, .inl rfl, HC.out.bel (drawn_below w1 _), ho.trans (Only.of_below (drawn_below w1 _))⟩
end Go.Proofs.YtpfdnggacpehdaaGreatDoor
