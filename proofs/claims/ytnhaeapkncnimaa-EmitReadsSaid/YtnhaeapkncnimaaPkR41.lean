/- Several texts in one: EmRdW, EmReadW. What each proves, and its conditions, stands at its own head. -/
import Derived.Test.YtnhaeapkncnimaaPkR23
import Derived.Test.YtnhaeapkncnimaaPkR39
import Derived.Test.YtnhaeapkncnimaaPkR28
import Derived.Test.YtnhaeapkncnimaaPkR33
import Derived.Test.YtnhaeapkncnimaaPkR40
import Derived.Test.YtnhaeapkncnimaaPkR0
import Derived.Deep.RegionHeld3
/- A writer as like as plain parts, call by call. Conditions: those that each theorem names. -/
namespace Go.Proofs.Ytnhaeapkncnimaa
open Go.RowKit
open Go.Lib (uvarint)
set_option linter.unusedVariables false

/-- The writer at p says the same as these parts, of frames of these numbers. -/
def Says (B : Nat) (w : World) (p : Nat) (F : Nat) (m : Rs) : Prop := ∃ S s gs, Wr B w p S true s ∧ Like s m gs ∧ s.fs.length ≤ F
theorem wr_below' {B p : Nat} {S : Nat → Prop} {w w' : World} {made : Bool} {s : Ws} (h : Wr B w p S made s) (ht : Touch S w w') : Below B w w' :=
  ht.below (by have := h.lt p h.mem; omega) (fun k hk => (h.lt k hk).1)
section
variable {B p F : Nat} {w : World} {m : Rs}
theorem Says.bel (h : Says B w p F m) {w' : World} (hb : Below w.heap.size w w') : Says B w' p F m := by
  obtain ⟨S, s, gs, h1, h2, h3⟩ := h
  exact ⟨S, s, gs, h1.bel hb, h2, h3⟩
theorem says_new (w : World) : Says w.heap.size (w.alloc (.cells #[.bool true, .slice none 0 0, .slice none 0 0, .slice none 0 0, .int .i64 0] 54)) w.heap.size 0 ⟨[[]], []⟩ :=
  ⟨_, _, _, wr_new w true, like_new, Nat.le_refl _⟩
theorem says_open (h : Says B w p F m) (num : Int) (hr : rightB num 2 = true) (hm : m.parts.flatten.length ≤ 1000000) (hn : m.nums.length ≤ 1000) (hF : F ≤ 1000) :
    Calls Try.prog 16 #[.pointer (some ⟨p, 0, none⟩), .int .i64 num] w fun e w' => e = .returned (.bool true) ∧ Says B w' p (F + 1) ⟨m.parts ++ [[]], m.nums ++ [num]⟩ ∧ Below B w w' := by
  obtain ⟨S, s, gs, h1, h2, h3⟩ := h
  have ht := h2.total
  have hl := h2.nums
  refine (wopen_any h1 num (by omega) (by omega) (by omega)).mono ?_
  rintro e w' ⟨rfl, S', a1, a2, a3⟩
  rw [hr]
  refine ⟨rfl, ⟨S', _, _, a1, h2.opens num hr, ?_⟩, wr_below' h1 a3⟩
  unfold Ws.opens
  rw [if_pos hr]
  simp; omega
theorem says_text (h : Says B w p F m) (num : Int) (hr : rightB num 2 = true) (t : List UInt8) {init : List (List UInt8)} {last : List UInt8} (hp : m.parts = init ++ [last]) (hm : m.parts.flatten.length ≤ 1000000) (ht : t.length ≤ 300) :
    Calls Try.prog 17 #[.pointer (some ⟨p, 0, none⟩), .int .i64 num, .string (strOf t)] w fun e w' => e = .returned (.bool true) ∧ Says B w' p F ⟨init ++ [last ++ frB num t], m.nums⟩ ∧ Below B w w' := by
  obtain ⟨S, s, gs, h1, h2, h3⟩ := h
  have htt := h2.total
  refine (wtext_any h1 num t (by omega)).mono ?_
  rintro e w' ⟨rfl, S', a1, a2, a3⟩
  rw [hr]
  obtain ⟨gs', i2, l2, b1, b2, b3⟩ := h2.plain (frB num t)
  obtain ⟨e1, e2⟩ := List.append_inj' (b1.symm.trans hp) rfl
  injection e2 with e2
  subst e1 e2
  have e3 : s.field num 2 (uvarint t.length ++ t) = s.plain (frB num t) := by unfold Ws.field; rw [if_pos hr]; rfl
  rw [e3] at a1
  exact ⟨rfl, ⟨S', _, gs', a1, b3, h3⟩, wr_below' h1 a3⟩
theorem says_close (h : Says B w p F m) {ini : List (List UInt8)} {pen last : List UInt8} {ns : List Int} {num : Int} (hp : m.parts = ini ++ [pen, last]) (hn : m.nums = ns ++ [num]) (hm : m.parts.flatten.length ≤ 1000000) (hnl : m.nums.length ≤ 1000) (hF : F ≤ 1000) :
    Calls Try.prog 18 #[.pointer (some ⟨p, 0, none⟩)] w fun e w' => e = .returned (.bool true) ∧ Says B w' p F ⟨ini ++ [pen ++ frB num last], ns⟩ ∧ Below B w w' := by
  obtain ⟨S, s, gs, h1, h2, h3⟩ := h
  have ht0 := h2.total
  have hl := h2.nums
  have hop : s.op ≠ [] := by intro e; rw [e, hn] at hl; simp at hl
  obtain ⟨init, o, f, ini', pen', last', ns', nm', gs', c1, c2, c3, c4, c5, c6, c7, c8, c9, c10, c11, c12⟩ := h2.close hop
  have ex : ini' = ini ∧ pen' = pen ∧ last' = last := by
    have e := c7.symm.trans hp
    rw [show ini' ++ [pen', last'] = (ini' ++ [pen']) ++ [last'] by simp, show ini ++ [pen, last] = (ini ++ [pen]) ++ [last] by simp] at e
    obtain ⟨e1, e2⟩ := List.append_inj' e rfl
    obtain ⟨e3, e4⟩ := List.append_inj' e1 rfl
    simp at e2 e4
    exact ⟨e3, e4, e2⟩
  obtain ⟨rfl, rfl, rfl⟩ := ex
  obtain ⟨e1, e2⟩ := List.append_inj' (c8.symm.trans hn) rfl
  injection e2 with e2
  subst e1 e2
  have htag := tagN_lt nm' 2
  refine (wclose_any h1 c1 c2 (by rw [c3]; omega) c4 (by omega) (by omega) (by omega) (fun _ => c5) (fun _ => c6)).mono ?_
  rintro e w' ⟨rfl, S', a1, a2, a3⟩
  refine ⟨rfl, ⟨S', _, gs', a1, c12, ?_⟩, wr_below' h1 a3⟩
  have : (s.shut init o f).fs.length ≤ s.fs.length := by unfold Ws.shut Ws.shut1 Ws.lay; split <;> simp
  omega
theorem says_bytes {bs : List UInt8} (h : Says B w p F ⟨[bs], []⟩) (hm : bs.length ≤ 1000000) :
    Calls Try.prog 14 #[.pointer (some ⟨p, 0, none⟩)] w (Gives w bs) := by
  obtain ⟨S, s, gs, h1, h2, h3⟩ := h
  have hl := h2.nums
  have hop : s.op = [] := List.eq_nil_of_length_eq_zero (by rw [← hl]; rfl)
  have hb := h2.bytes hop
  have hb' : bs = s.raw := by simpa using hb
  subst hb'
  exact wbytes_any h1 hop (by omega)
end
end Go.Proofs.Ytnhaeapkncnimaa

/- EmitReads. -/
namespace Go.Proofs.Ytnhaeapkncnimaa
open Go.RowKit
open Go.Lib (uvarint)
set_option linter.unusedVariables false
set_option maxRecDepth 100000

def numsTo : Nat → List Int
  | 0 => []
  | k + 1 => numsTo k ++ [(k : Int) + 1]
theorem numsTo_length : ∀ k, (numsTo k).length = k
  | 0 => rfl
  | k + 1 => by rw [numsTo, List.length_append, numsTo_length k]; rfl
theorem flat_emp (k : Nat) (x : List UInt8) : (List.replicate k ([] : List UInt8) ++ [x]).flatten = x := by
  induction k with
  | zero => simp
  | succ k ih => rw [List.replicate_succ, List.cons_append, List.flatten_cons, ih]; rfl
theorem right2 {k : Int} (h0 : 0 ≤ k) (h : k ≤ 100) : rightB (k + 1) 2 = true := by rw [rightB_iff]; omega

/-- k frames are open. -/
def PhA (w0 : World) (p k : Nat) (wr : World) : Prop := Says w0.heap.size wr p k ⟨List.replicate k [] ++ [[]], numsTo k⟩ ∧ Below w0.heap.size w0 wr
/-- k texts are written, in n frames. -/
def PhB (w0 : World) (p n : Nat) (ts : List (List UInt8)) (k : Nat) (wr : World) : Prop := Says w0.heap.size wr p n ⟨List.replicate n [] ++ [flds (ts.take k)], numsTo n⟩ ∧ Below w0.heap.size w0 wr
/-- d frames are closed, k are open. -/
def PhC (w0 : World) (p n : Nat) (b : List UInt8) (d k : Nat) (wr : World) : Prop := Says w0.heap.size wr p n ⟨List.replicate k [] ++ [nest d k b], numsTo k⟩ ∧ Below w0.heap.size w0 wr

theorem pha_new (w : World) : PhA w w.heap.size 0 (w.alloc (.cells #[.bool true, .slice none 0 0, .slice none 0 0, .slice none 0 0, .int .i64 0] 54)) :=
  ⟨says_new w, (Below.refl _ _).alloc (Nat.le_refl _) _⟩
theorem pha_open {w0 wr : World} {p k : Nat} (h : PhA w0 p k wr) (hk : k ≤ 9) :
    Calls Try.prog 16 #[.pointer (some ⟨p, 0, none⟩), .int .i64 ((k : Int) + 1)] wr fun e w' => e = .returned (.bool true) ∧ PhA w0 p (k + 1) w' := by
  refine (says_open h.1 ((k : Int) + 1) (right2 (by omega) (by omega)) (by rw [flat_emp]; simp) (by show (numsTo k).length ≤ _; rw [numsTo_length]; omega) (by omega)).mono ?_
  rintro e w' ⟨rfl, a1, a2⟩
  refine ⟨rfl, ?_, h.2.trans a2⟩
  have e : List.replicate (k + 1) ([] : List UInt8) = List.replicate k [] ++ [[]] := List.replicate_succ' ..
  rw [e]
  exact a1
theorem phb_start {w0 wr : World} {p n : Nat} (h : PhA w0 p n wr) (ts : List (List UInt8)) : PhB w0 p n ts 0 wr := h
theorem phb_text {w0 wr : World} {p n k : Nat} {ts : List (List UInt8)} {t : List UInt8} (h : PhB w0 p n ts k wr) (ht : ts[k]? = some t) (hall : ∀ x ∈ ts.take (k + 1), x.length ≤ 300) (hts : ts.length ≤ 20) :
    Calls Try.prog 17 #[.pointer (some ⟨p, 0, none⟩), .int .i64 7, .string (strOf t)] wr fun e w' => e = .returned (.bool true) ∧ PhB w0 p n ts (k + 1) w' := by
  have hk := (List.getElem?_eq_some_iff.mp ht).1
  have hl := flds_length (ts.take k) (fun x hx => hall x (by
    rw [List.take_add_one, ht]
    exact List.mem_append_left _ hx))
  have hl2 : (ts.take k).length ≤ 20 := by rw [List.length_take]; omega
  have htl : t.length ≤ 300 := hall t (by rw [List.take_add_one, ht]; simp)
  refine (says_text h.1 7 (by decide) t rfl (by rw [flat_emp]; omega) htl).mono ?_
  rintro e w' ⟨rfl, a1, a2⟩
  exact ⟨rfl, by rw [PhB, flds_take ht]; exact ⟨a1, h.2.trans a2⟩⟩
theorem phc_start {w0 wr : World} {p n : Nat} {ts : List (List UInt8)} (h : PhB w0 p n ts ts.length wr) : PhC w0 p n (flds ts) 0 n wr := by
  rw [PhB, List.take_length] at h
  exact h
theorem phc_close {w0 wr : World} {p n d k : Nat} {b : List UInt8} (h : PhC w0 p n b d (k + 1) wr) (hb : b.length ≤ 10000) (hn : n ≤ 9) (hd : d ≤ 9) (hk : k ≤ 9) :
    Calls Try.prog 18 #[.pointer (some ⟨p, 0, none⟩)] wr fun e w' => e = .returned (.bool true) ∧ PhC w0 p n b (d + 1) k w' := by
  have hl := nest_length b hb d (k + 1) hd
  have e : List.replicate (k + 1) ([] : List UInt8) = List.replicate k [] ++ [[]] := List.replicate_succ' ..
  refine (says_close h.1 (ini := List.replicate k []) (pen := []) (last := nest d (k + 1) b) (ns := numsTo k) (num := (k : Int) + 1) (by show _ ++ _ = _; rw [e]; simp) rfl (by rw [flat_emp]; omega) (by show (numsTo (k + 1)).length ≤ _; rw [numsTo_length]; omega) (by omega)).mono ?_
  rintro e w' ⟨rfl, a1, a2⟩
  exact ⟨rfl, a1, h.2.trans a2⟩
theorem phc_bytes {w0 wr : World} {p n : Nat} {b : List UInt8} (h : PhC w0 p n b n 0 wr) (hb : b.length ≤ 10000) (hn : n ≤ 9) :
    Calls Try.prog 14 #[.pointer (some ⟨p, 0, none⟩)] wr (Gives wr (nest n 0 b)) :=
  says_bytes h.1 (by have := nest_length b hb n 0 hn; omega)

theorem rd_nest {W wr : World} {p i k : Nat} {bs b : List UInt8} (h : Rd W wr p bs i (nest (k - i) i b)) (hi : i < k) :
    Rd W wr p bs i (uvarint (tagN ((i : Int) + 1) 2) ++ (uvarint (nest (k - (i + 1)) (i + 1) b).length ++ nest (k - (i + 1)) (i + 1) b)) := by
  have e : k - i = k - (i + 1) + 1 := by omega
  rw [e, nest] at h
  exact h
set_option maxHeartbeats 1000000 in
theorem reads_walk (w : World) (A : Option Addr) (cap : Nat) (ts : List (List UInt8)) (hs : Sl w A cap (txts ts)) (a : Int) (ha : 0 ≤ a ∧ a < 256) :
    Calls Try.prog 4 #[.slice A ts.length cap, .int .u8 a] w fun e w' => e = .returned (.bool true) ∧ Below w.heap.size w w' := by
  have HL : Hid (∀ w, Calls Try.prog 7 #[] w fun e w' => e = .returned (.bool true) ∧ Below w.heap.size w w') := live_any
  have hle := hs.le
  have hmx := hs.max
  rw [txts_length] at hle
  unfold maxLen at hmx
  obtain ⟨N, hN⟩ : ∃ N, N = ts.length := ⟨_, rfl⟩
  rw [← hN] at hle ⊢
  have H := Lib.hid hs
  have HN := Lib.hid hN
  clear hs hN
  by_cases h20 : N ≤ 20
  · have g0 : decide ((N : Int) > 20) = false := decide_eq_false (by omega)
    obtain ⟨n, hn⟩ : ∃ n : Nat, a % 10 = (n : Int) := ⟨(a % 10).toNat, by omega⟩
    have hn9 : n ≤ 9 := by omega
    have g1 : a.tmod 10 = (n : Int) := by rw [Int.tmod_eq_emod_of_nonneg ha.1]; exact hn
    go_enter Try.func4, Try.ntmps4
    go_wp2_with (go_at_call 8; refine (wnew_any _).mono ?_; rintro e w1 ⟨rfl, hw1⟩; have HA0 := Lib.hid (hw1 ▸ pha_new w); clear hw1)
    go_loopw [7] (fun x wr => ∃ k : Nat, k ≤ n ∧ x = .int .i64 (k : Int) ∧ PhA w w.heap.size k wr) (fun x _ => n - (intOf x).toNat)
    case atStart => exact ⟨0, Nat.zero_le _, rfl, HA0.out⟩
    case round =>
      obtain ⟨k, hk, rfl, hph⟩ := hrel
      have HP := Lib.hid hph
      clear hph
      by_cases hlt : k < n
      · have g2 : decide ((k : Int) < (n : Int)) = true := decide_eq_true (by omega)
        go_wp2_with (go_at_call 16; refine (pha_open HP.out (by omega)).mono ?_; rintro e w2 ⟨rfl, hp⟩; have HP2 := Lib.hid hp; clear hp)
        go_roundw
        case rel => exact ⟨k + 1, by omega, by go_num, HP2.out⟩
        case measure => simp [intOf]; omega
      · have g2 : decide ((k : Int) < (n : Int)) = false := decide_eq_false (by omega)
        obtain rfl : k = n := by omega
        have HB0 := Lib.hid (phb_start HP.out ts)
        clear hlt hk HP HA0
        go_wp2
        go_loopw [8] (fun x wr => ∃ j : Nat, j ≤ N ∧ x = .int .i64 (j : Int) ∧ PhB w w.heap.size k ts j wr ∧ ∀ t ∈ ts.take j, t.length ≤ 300) (fun x _ => N - (intOf x).toNat)
        case atStart => exact ⟨0, Nat.zero_le _, rfl, HB0.out, by simp⟩
        case round =>
          obtain ⟨j, hj, rfl, hph, hall⟩ := hrel
          have HP := Lib.hid hph
          have HALL := Lib.hid hall
          clear hph hall
          by_cases hlt : j < N
          · have g3 : decide ((j : Int) < (N : Int)) = true := decide_eq_true (by omega)
            obtain ⟨t, ht⟩ : ∃ t, ts[j]? = some t := ⟨_, List.getElem?_eq_getElem (by have := HN.out; omega)⟩
            obtain ⟨g, off, rfl, hc⟩ := H.out.at_ j (.string (strOf t)) (by rw [txts, List.getElem?_map, ht]; rfl)
            have hc' := (HP.out.2.cell (p := ⟨g, off + j, none⟩) (by rcases Nat.lt_or_ge g w.heap.size with h' | h'; exact h'; simp [World.cell?, Array.getElem?_eq_none h'] at hc)).trans hc
            obtain ⟨str, hstr⟩ : ∃ str, str = strOf t := ⟨_, rfl⟩
            have hsz : str.size = t.length := by rw [hstr, str_size]
            by_cases h300 : str.size ≤ 300
            · have g4 : decide ((str.size : Int) > 300) = false := decide_eq_false (by omega)
              have hall2 : ∀ x ∈ ts.take (j + 1), x.length ≤ 300 := by
                intro x hx
                rw [List.take_add_one, ht] at hx
                rcases List.mem_append.mp hx with hx | hx
                · exact HALL.out x hx
                · simp at hx; subst hx; omega
              have HT := Lib.hid (phb_text HP.out ht hall2 (by have := HN.out; omega))
              rw [← hstr] at hc' HT
              have HALL2 := Lib.hid hall2
              clear hc hstr hsz ht hall2
              go_wp2_with (go_at_call 17; refine HT.out.mono ?_; rintro e w2 ⟨rfl, hp⟩; have HP2 := Lib.hid hp; clear hp)
              go_roundw
              case rel => exact ⟨j + 1, by omega, by go_num, HP2.out, HALL2.out⟩
              case measure => simp [intOf]; omega
            · have g4 : decide ((str.size : Int) > 300) = true := decide_eq_true (by omega)
              have HBL := Lib.hid HP.out.2
              rw [← hstr] at hc'
              clear hc hstr hsz ht
              go_wp2_with (go_at_call 7; refine (HL.out _).mono ?_; rintro e w5 ⟨rfl, hb5⟩)
              go_ret
              exact ⟨rfl, HBL.out.trans (hb5.mono HBL.out.size)⟩
          · have g3 : decide ((j : Int) < (N : Int)) = false := decide_eq_false (by omega)
            obtain rfl : j = N := by omega
            have hall := HALL.out
            have hph := HP.out
            rw [HN.out] at hall hph
            rw [List.take_length] at hall
            have HC0 := Lib.hid (phc_start hph)
            have hfl := flds_length ts hall
            have hfl2 : (flds ts).length ≤ 10000 := by have := HN.out; omega
            have HAL := Lib.hid hall
            have HFL := Lib.hid hfl2
            clear hall hph hfl hfl2 hlt hj HP HALL HB0
            go_wp2
            go_loopw [9] (fun x wr => ∃ d : Nat, d ≤ k ∧ x = .int .i64 (d : Int) ∧ PhC w w.heap.size k (flds ts) d (k - d) wr) (fun x _ => k - (intOf x).toNat)
            case atStart => exact ⟨0, Nat.zero_le _, rfl, HC0.out⟩
            case round =>
              obtain ⟨d, hd, rfl, hph⟩ := hrel
              by_cases hlt : d < k
              · have g3 : decide ((d : Int) < (k : Int)) = true := decide_eq_true (by omega)
                rw [show k - d = k - (d + 1) + 1 by omega] at hph
                have HT := Lib.hid (phc_close hph HFL.out hn9 (by omega) (by omega))
                clear hph
                go_wp2_with (go_at_call 18; refine HT.out.mono ?_; rintro e w2 ⟨rfl, hp⟩; have HP2 := Lib.hid hp; clear hp)
                go_roundw
                case rel => exact ⟨d + 1, by omega, by go_num, HP2.out⟩
                case measure => simp [intOf]; omega
              · have g3 : decide ((d : Int) < (k : Int)) = false := decide_eq_false (by omega)
                obtain rfl : d = k := by omega
                rw [Nat.sub_self] at hph
                have HBY := Lib.hid (phc_bytes hph HFL.out hn9)
                have HBL := Lib.hid hph.2
                obtain ⟨bs, hbs⟩ : ∃ bs, bs = nest d 0 (flds ts) := ⟨_, rfl⟩
                have hbl : bs.length ≤ 11000 := by have := nest_length (flds ts) HFL.out d 0 hn9; have := HFL.out; rw [hbs]; omega
                rw [← hbs] at HBY
                obtain ⟨M, hM⟩ : ∃ M, M = bs.length := ⟨_, rfl⟩
                have HBY2 : Hid (Calls Try.prog 14 #[.pointer (some ⟨w.heap.size, 0, none⟩)] wr fun e w' => ∃ A cap, e = .returned (.slice A M cap) ∧ Bs w' A cap bs ∧ Below wr.heap.size wr w') := Lib.hid (by rw [hM]; exact HBY.out)
                have HM := Lib.hid hM
                have HBSL := Lib.hid hbl
                have HBS := Lib.hid hbs
                clear hph hlt hd HC0 HBY hbs hbl hM
                go_wp2_with (first
                  | (go_at_call 14; refine HBY2.out.mono ?_; rintro e w2 ⟨A2, cap2, rfl, hB2, hb2⟩; have HB2 := Lib.hid hB2; have HBL2 := Lib.hid (HBL.out.trans (hb2.mono HBL.out.size)); clear hB2 hb2)
                  | (go_at_call 19; refine (rfrom_any _ _ _ bs _ HM.out HB2.out).mono ?_; rintro e w3 ⟨pc, gc, rfl, _, _, _, hq⟩; have HRF := Lib.hid (hq w2 (Nat.le_refl _) (Below.refl _ _) HB2.out); clear hq))
                have hrd0 : Rd w2 w3 pc bs 0 (nest (d - 0) 0 (flds ts)) := ⟨gc, _, HRF.out, by rw [Nat.sub_zero, ← HBS.out]; exact ahead_start bs⟩
                have HR0 := Lib.hid hrd0
                clear hrd0
                go_loopw [11, 12, 13] (fun x y z wr => ∃ i : Nat, i ≤ d ∧ x = .int .i64 (i : Int) ∧ Rd w2 wr pc bs i (nest (d - i) i (flds ts))) (fun x _ _ _ => d - (intOf x).toNat)
                case atStart => exact ⟨0, Nat.zero_le _, rfl, HR0.out⟩
                case round =>
                  obtain ⟨i, hi, rfl, hrd⟩ := hrel
                  by_cases hlt : i < d
                  · have g4 : decide ((i : Int) < (d : Int)) = true := decide_eq_true (by omega)
                    have hrd1 := rd_nest hrd hlt
                    have hil := nest_length (flds ts) HFL.out (d - (i + 1)) (i + 1) (by omega)
                    have hil2 : (nest (d - (i + 1)) (i + 1) (flds ts)).length ≤ 11000 := by have := HFL.out; omega
                    have HT := Lib.hid (rd_tag hrd1 (right2 (by omega) (by omega)))
                    have HIL := Lib.hid hil2
                    clear hrd hrd1 hil hil2
                    go_wp2_with (first
                      | (go_at_call 20; refine HT.out.mono ?_; rintro e w4 ⟨rfl, hp⟩; have HP4 := Lib.hid hp; clear hp)
                      | (go_at_call 21; refine (rd_open HP4.out (by have := HIL.out; omega) (by have := HBSL.out; omega)).mono ?_; rintro e w5 ⟨rfl, hp⟩; have HP5 := Lib.hid hp; clear hp))
                    go_roundw
                    case rel => exact ⟨i + 1, by omega, by go_num, HP5.out⟩
                    case measure => simp [intOf]; omega
                  · have g4 : decide ((i : Int) < (d : Int)) = false := decide_eq_false (by omega)
                    obtain rfl : i = d := by omega
                    have HR1 : Hid (Rd w2 wr pc bs i (flds (ts.drop 0))) := Lib.hid (by rw [Nat.sub_self] at hrd; exact hrd)
                    clear hrd hi hlt HR0
                    go_wp2
                    go_loopw [14, 15, 16] (fun x y z wr => ∃ m : Nat, m ≤ j ∧ x = .int .i64 (m : Int) ∧ Rd w2 wr pc bs i (flds (ts.drop m))) (fun x _ _ _ => j - (intOf x).toNat)
                    case atStart => exact ⟨0, Nat.zero_le _, rfl, HR1.out⟩
                    case round =>
                      obtain ⟨m, hm, rfl, hrd⟩ := hrel
                      by_cases hlt : m < j
                      · have g5 : decide ((m : Int) < (j : Int)) = true := decide_eq_true (by omega)
                        obtain ⟨t, ht⟩ : ∃ t, ts[m]? = some t := ⟨_, List.getElem?_eq_getElem (by have := HN.out; omega)⟩
                        obtain ⟨g, off, rfl, hc⟩ := H.out.at_ m (.string (strOf t)) (by rw [txts, List.getElem?_map, ht]; rfl)
                        have hgl : g < w.heap.size := by
                          rcases Nat.lt_or_ge g w.heap.size with h' | h'
                          · exact h'
                          · simp [World.cell?, Array.getElem?_eq_none h'] at hc
                        have HCX : Hid (∀ w', Below w2.heap.size w2 w' → w'.cell? ⟨g, off + m, none⟩ = some (.string (strOf t))) := Lib.hid (fun w' hb => ((HBL2.out.trans (hb.mono HBL2.out.size)).cell (p := ⟨g, off + m, none⟩) hgl).trans hc)
                        rw [flds_drop ht] at hrd
                        have htl : t.length ≤ 300 := HAL.out t (List.mem_of_getElem? ht)
                        have HT := Lib.hid (rd_tag hrd (by decide))
                        have HX : Hid (∀ w4, Rd w2 w4 pc bs i (uvarint t.length ++ (t ++ flds (ts.drop (m + 1)))) → Calls Try.prog 22 #[.pointer (some ⟨pc, 0, none⟩)] w4 fun e w' => e = .returned (.string (strOf t)) ∧ Rd w2 w' pc bs i (flds (ts.drop (m + 1)))) :=
                          Lib.hid (fun w4 h => rd_text h (by omega) (by have := HBSL.out; omega))
                        obtain ⟨str, hstr⟩ : ∃ str, str = strOf t := ⟨_, rfl⟩
                        rw [← hstr] at HCX HX
                        clear hrd ht hc hgl htl hstr
                        go_wp2_with (go_at_call 20; refine HT.out.mono ?_; rintro e w4 ⟨rfl, hp⟩; have HP4 := Lib.hid hp; clear hp)
                        have c4 := HCX.out w4.drew HP4.out.below.drew
                        go_region_held3 (fun w' => w'.cell? ⟨g, off + m, none⟩ = some (.string str))
                          (first | exact c5 | exact c4)
                          (first
                            | (go_at_call 22; refine (HX.out _ (HP4.out.bel (drew_below _ 1))).mono ?_; rintro e w5 ⟨rfl, hp⟩; have HP5 := Lib.hid hp; have c5 := HCX.out w5 hp.below; clear hp))
                        go_wp2
                        go_roundw
                        case rel => exact ⟨m + 1, by omega, by go_num, HP5.out⟩
                        case measure => simp [intOf]; omega
                      · have g5 : decide ((m : Int) < (j : Int)) = false := decide_eq_false (by omega)
                        have HE : Hid (Rd w2 wr pc bs i []) := Lib.hid (by rw [List.drop_of_length_le (by have := HN.out; omega)] at hrd; exact hrd)
                        have HBE := Lib.hid (HBL2.out.trans (hrd.below.mono HBL2.out.size))
                        obtain rfl : m = j := by omega
                        clear hrd hm hlt
                        go_wp2_with (first
                          | (go_at_call 23; refine (rd_none HE.out).mono ?_; rintro e w6 ⟨rfl, q6, rfl⟩; have c6 := HE.out.good)
                          | (go_at_call 7; refine (HL.out _).mono ?_; rintro e w7 ⟨rfl, hb7⟩))
                        go_ret
                        exact ⟨rfl, HBE.out.trans (((drew_below _ _).trans hb7).mono HBE.out.size)⟩
  · have g0 : decide ((N : Int) > 20) = true := decide_eq_true (by omega)
    go_enter Try.func4, Try.ntmps4
    go_wp2_with (go_at_call 7; refine (HL.out _).mono ?_; rintro e w5 ⟨rfl, hb5⟩)
    go_ret
    exact ⟨rfl, hb5⟩
end Go.Proofs.Ytnhaeapkncnimaa
