/- Several texts in one: DcLaw, DcUn. What each proves, and its conditions, stands at its own head. -/
import Derived.Test.YtpfdnggacpehdaaGreatDoorPkDU47
import Derived.Test.YtpfdnggacpehdaaGreatDoorPkDU50
import Derived.Test.YtpfdnggacpehdaaGreatDoorPkDU36
import Derived.Test.YtpfdnggacpehdaaGreatDoorPkDU42
import Derived.Test.YtpfdnggacpehdaaGreatDoorPkDU41
/- Layer 22: what the program's calls give (DecOk), the page's example ('live'). Conditions: DecOk's, and those that each theorem names. -/
namespace Go.Proofs.YtpfdnggacpehdaaGreatDoor
open Go.RowKit
set_option linter.unusedVariables false
set_option maxRecDepth 100000

/-- The program's answers for layer 22, in a world that meets E. -/
structure DecOk (E : World → Prop) : Prop where
  drolls : ∀ {w w' : World}, E w → Below w.heap.size w w' → E w'
  dget : ∀ {SS : Nat → Nat → Prop} (w : World) {A A2 : Option Addr} {ne ca nm ca2 : Nat} {s : Sc}, E w → ScAt SS w A ne ca A2 nm ca2 s → checkT s = 0 → (∀ m ∈ s.msgs, m.fields.length ≤ 200 ∧ m.barred.length ≤ 200) → ∀ (name : List UInt8) {B : Option Addr} {cap n : Nat} {bs : List UInt8}, n = bs.length → Bs w B cap bs → bs.length ≤ 1000000 →
    Calls Tryz.prog 10 #[.agg #[.slice A ne ca, .slice A2 nm ca2], .string (strOf name), .slice B n cap] w (GetTo w s name bs)
  dunp : ∀ (w : World) (f : Fd) (t : List UInt8), E w → Int64 f.ty → t.length ≤ 1000000 → Calls Tryz.prog 14 #[fdV f, .string (strOf t)] w (UnpTo w (unpackO f t))
theorem decode_ok : DecOk VdEnv where
  drolls := fun h hb => h.rolls hb
  dget := fun w _ _ _ _ _ _ _ env hs hc hm name _ _ _ _ hn hB hl => by subst hn; exact decget_any env.1 env.2 hs hc hm name hB hl
  dunp := fun w f t env hi hl => dunpack_any f t w env.1 hi hl
theorem dl_check : checkT vlS = 0 := by decide +kernel
theorem dl_code : getCD vlS [77] [8, 5, 8, 7] = 0 := by decide +kernel
theorem dl_tree : getTD vlS [77] [8, 5, 8, 7] = vlT 7 := by rfl
theorem dcnum_any (k : Int) (w : World) : Calls Tryz.prog 13 #[.int .i64 k] w fun e w' => e = .returned (.int .i64 k) ∧ w = w' := by
  go_enter Tryz.func13, Tryz.ntmps13
  go_wp2
  go_ret
  exact ⟨rfl, rfl⟩
theorem dl_same {w1 : World} {S : Nat → Prop} {A B : Option Addr} {na ca nr cr : Nat} (h : TrAt S 16 w1 A na ca B nr cr (vlT 7)) :
    Calls Tryz.prog 12 #[.agg #[.slice A na ca, .slice B nr cr], .agg #[.slice (some ⟨w1.heap.size + 1 + 1, 0, none⟩) 1 1, .slice none 0 0]] (((w1.alloc (.cells #[.slice A na ca, .slice B nr cr] 33)).alloc (.cells #[.int .u64 7, .string ⟨#[]⟩, .slice none 0 0] 65)).alloc (.cells #[.int .i64 1, .slice (some ⟨w1.heap.size + 1, 0, none⟩) 1 1] 68)) fun e w' => e = .returned (.bool true) ∧ Below w1.heap.size w1 w' := by
  have hb := allocs_bel [.cells #[.slice A na ca, .slice B nr cr] 33, .cells #[.int .u64 7, .string ⟨#[]⟩, .slice none 0 0] 65, .cells #[.int .i64 1, .slice (some ⟨w1.heap.size + 1, 0, none⟩) 1 1] 68] w1
  have hat := fun i cs t h => allocs_at [.cells #[.slice A na ca, .slice B nr cr] 33, .cells #[.int .u64 7, .string ⟨#[]⟩, .slice none 0 0] 65, .cells #[.int .i64 1, .slice (some ⟨w1.heap.size + 1, 0, none⟩) 1 1] 68] w1 i cs t h
  have h1 := hat 1 _ _ rfl
  have h2 := hat 2 _ _ rfl
  have ht := vl_tree 7 _ _ h1 h2
  exact (same_yes (rtsame_any 16 S (fun _ => True) 0 _ _ _ _ _ _ _ _ _ _ _ _ _ _ _ (trAt_bel h hb) ht) rfl).mono (fun e w' ⟨he, hb'⟩ => ⟨he, vbel hb hb'⟩)
set_option maxHeartbeats 8000000 in
theorem dclive_any {E : World → Prop} (ok : DecOk E) (w : World) (env : E w) : Calls Tryz.prog 9 #[] w fun e w' => e = .returned (.bool true) ∧ Below w.heap.size w w' := by
  obtain ⟨W, hW⟩ : ∃ W, W = allocs w [.cells #[.string ⟨#[97]⟩, .int .i64 1, .int .i64 1, .string ⟨#[]⟩, .bool false, .bool false, .string ⟨#[]⟩] 43, .cells #[.string ⟨#[77]⟩, .slice (some ⟨w.heap.size, 0, none⟩) 1 1, .slice none 0 0] 59, .cells #[.slice none 0 0, .slice (some ⟨w.heap.size + 1, 0, none⟩) 1 1] 25, .cells #[.int .u8 8, .int .u8 5, .int .u8 8, .int .u8 7] 5] := ⟨_, rfl⟩
  have hb := allocs_bel [.cells #[.string ⟨#[97]⟩, .int .i64 1, .int .i64 1, .string ⟨#[]⟩, .bool false, .bool false, .string ⟨#[]⟩] 43, .cells #[.string ⟨#[77]⟩, .slice (some ⟨w.heap.size, 0, none⟩) 1 1, .slice none 0 0] 59, .cells #[.slice none 0 0, .slice (some ⟨w.heap.size + 1, 0, none⟩) 1 1] 25, .cells #[.int .u8 8, .int .u8 5, .int .u8 8, .int .u8 7] 5] w
  have hat := fun i cs t h => allocs_at [.cells #[.string ⟨#[97]⟩, .int .i64 1, .int .i64 1, .string ⟨#[]⟩, .bool false, .bool false, .string ⟨#[]⟩] 43, .cells #[.string ⟨#[77]⟩, .slice (some ⟨w.heap.size, 0, none⟩) 1 1, .slice none 0 0] 59, .cells #[.slice none 0 0, .slice (some ⟨w.heap.size + 1, 0, none⟩) 1 1] 25, .cells #[.int .u8 8, .int .u8 5, .int .u8 8, .int .u8 7] 5] w i cs t h
  have hlit := Bs.lit (((w.alloc (.cells #[.string ⟨#[97]⟩, .int .i64 1, .int .i64 1, .string ⟨#[]⟩, .bool false, .bool false, .string ⟨#[]⟩] 43)).alloc (.cells #[.string ⟨#[77]⟩, .slice (some ⟨w.heap.size, 0, none⟩) 1 1, .slice none 0 0] 59)).alloc (.cells #[.slice none 0 0, .slice (some ⟨w.heap.size + 1, 0, none⟩) 1 1] 25)) #[.int .u8 8, .int .u8 5, .int .u8 8, .int .u8 7] 5 [8, 5, 8, 7] rfl (by decide)
  rw [World.size_alloc, World.size_alloc, World.size_alloc] at hlit
  replace hlit : Bs W (some ⟨w.heap.size + 1 + 1 + 1, 0, none⟩) 4 [8, 5, 8, 7] := by rw [hW]; exact hlit
  rw [← hW] at hb hat
  have h0 := hat 0 _ _ rfl
  rw [Nat.add_zero] at h0
  have h1 := hat 1 _ _ rfl
  have h2 := hat 2 _ _ rfl
  rw [show w.heap.size + 2 = w.heap.size + 1 + 1 from rfl] at h2
  have hs := vdl_at _ _ h0 h1
  have HC := Lib.hid (ok.dget W (ok.drolls env hb) hs dl_check (by decide) [77] (n := 4) rfl hlit (by decide))
  unfold GetTo at HC
  rw [dl_code, dl_tree, show strOf [77] = ⟨#[77]⟩ from rfl] at HC
  have r20 := obj_cell h2 0
  have r21 := obj_cell h2 1
  have HBW := Lib.hid hb
  have HK := Lib.hid (fun u (hu : Below W.heap.size W u) => And.intro (cell_under hu r20) (cell_under hu r21))
  simp only [allocs] at hW
  have HW := Lib.hid hW
  rw [hW] at r20 r21
  clear hat h0 h1 h2 hs env hb hW ok hlit
  go_enter Tryz.func9, Tryz.ntmps9
  go_wp2_with (first
    | (go_at_call 10; (with_reducible rw [← HW.out]); refine HC.out.mono ?_; rintro e w1 ⟨A1, na, ca1, B1, nr, cr, S, rfl, ht, hS, hb⟩; have HTR := Lib.hid ht; have HB1 := Lib.hid hb; clear hb ht hS HC)
    | (go_at_call 13; refine (dcnum_any _ _).mono ?_; rintro e wn ⟨rfl, rfl⟩)
    | (go_at_call 12; refine (dl_same HTR.out).mono ?_; rintro e w2 ⟨rfl, hb2⟩))
  go_ret
  exact ⟨rfl, vbel HBW.out (vbel HB1.out hb2)⟩
end Go.Proofs.YtpfdnggacpehdaaGreatDoor

/- Layer 22: which numbers bytes are, the law's walk. Conditions: DecOk's. -/
namespace Go.Proofs.YtpfdnggacpehdaaGreatDoor
open Go.RowKit
set_option linter.unusedVariables false
set_option maxRecDepth 100000

/-- What two answers come to. -/
def UnBoth (A B : Option Addr) (n c m d : Nat) (ok is : Bool) (u : World) : Prop := ∃ l : List Nat, n = l.length ∧ m = l.length ∧ ok = is ∧ Sl u A c (u64s l) ∧ Sl u B d (u64s l)
theorem un_both {o : Option (List Nat)} {w1 w2 w3 w4 : World} {A B : Option Addr} {n c m d : Nat} {ok is : Bool} (h1 : (∀ l, o = some l → ok = true ∧ n = l.length ∧ Sl w2 A c (u64s l)) ∧ (o = none → ok = false ∧ A = none ∧ n = 0 ∧ c = 0)) (h2 : (∀ l, o = some l → is = true ∧ m = l.length ∧ Sl w4 B d (u64s l)) ∧ (o = none → is = false ∧ B = none ∧ m = 0 ∧ d = 0)) (hb : Below w2.heap.size w2 w4) : UnBoth A B n c m d ok is w4 := by
  cases o with
  | none =>
    obtain ⟨rfl, rfl, rfl, rfl⟩ := h1.2 rfl
    obtain ⟨rfl, rfl, rfl, rfl⟩ := h2.2 rfl
    exact ⟨[], rfl, rfl, rfl, sl_nil _, sl_nil _⟩
  | some l =>
    obtain ⟨rfl, rfl, h3⟩ := h1.1 l rfl
    obtain ⟨rfl, rfl, h4⟩ := h2.1 l rfl
    exact ⟨l, rfl, rfl, rfl, h3.keep (fun q hq => hb.cell hq), h4⟩
set_option maxHeartbeats 8000000 in
theorem decodeunpacks_walk {E : World → Prop} (ok : DecOk E) (w : World) (env : E w) (f : Fd) (hi : Int64 f.ty) (t : List UInt8) :
    Calls Tryz.prog 4 #[fdV f, .string (strOf t)] w fun e w' => e = .returned (.bool true) ∧ Below w.heap.size w w' := by
  have HLV := Lib.hid (fun u (hb : Below w.heap.size w u) => dclive_any ok u (ok.drolls env hb))
  have HBX0 := Lib.hid (fun cs => bx_start w cs 43)
  have hsz : (strOf t).size = t.length := st_size t
  obtain ⟨st, hst⟩ : ∃ st, st = strOf t := ⟨_, rfl⟩
  by_cases h300 : 300 < t.length
  · have g1 : decide (((strOf t).size : Int) > 300) = true := decide_eq_true (by omega)
    have g2 : decide ((300 : Int) < ((strOf t).size : Int)) = true := decide_eq_true (by omega)
    rw [← hst] at g1 g2 ⊢
    clear ok env hi hsz hst h300
    unfold fdV
    go_enter Tryz.func4, Tryz.ntmps4
    go_wp2_with (go_at_call 9; refine (HLV.out _ (HBX0.out _).b_bel).mono ?_; rintro e w2 ⟨rfl, hb⟩; have HBF := Lib.hid (vbel (HBX0.out _).b_bel hb); clear hb)
    go_ret
    exact ⟨rfl, HBF.out⟩
  · have g1 : decide (((strOf t).size : Int) > 300) = false := decide_eq_false (by omega)
    have g2 : decide ((300 : Int) < ((strOf t).size : Int)) = false := decide_eq_false (by omega)
    have HP := Lib.hid (fun u (hb' : Below w.heap.size w u) => ok.dunp u f t (ok.drolls env hb') hi (by omega))
    have HR := Lib.hid (fun u => reunpack_any f t u (by omega))
    obtain ⟨o, ho⟩ : ∃ o, o = unpackO f t := ⟨_, rfl⟩
    rw [← ho, ← hst] at HP HR
    rw [← hst] at g1 g2 ⊢
    unfold UnpTo at HP HR
    clear ok env hi hsz hst h300 ho
    obtain ⟨name, num, ty, ref, rep, loose, one⟩ := f
    unfold fdV at HP HR ⊢
    dsimp only at *
    generalize strOf name = s0 at *
    generalize strOf one = s6 at *
    generalize strOf ref = s3 at *
    have HBX := Lib.hid (HBX0.out #[.string s0, .int .i64 num, .int .i64 ty, .string s3, .bool rep, .bool loose, .string s6])
    clear HBX0
    go_enter Tryz.func4, Tryz.ntmps4
    go_wp2_with (first
      | (go_at_call 14; refine (HP.out _ HBX.out.b_bel).mono ?_; rintro e w2 ⟨A1, n1, c1, k1, rfl, hb, hl1, hl2⟩; have H1 := Lib.hid (And.intro hl1 hl2); replace HBX := Lib.hid (bx_step HBX.out hb); have c0 := obj_cell HBX.out.b_blk 0; have c1' := obj_cell HBX.out.b_blk 1; have c2 := obj_cell HBX.out.b_blk 2; have c3 := obj_cell HBX.out.b_blk 3; have c4 := obj_cell HBX.out.b_blk 4; have c5 := obj_cell HBX.out.b_blk 5; have c6 := obj_cell HBX.out.b_blk 6; clear hb hl1 hl2)
      | (go_at_call 15; refine (HR.out _).mono ?_; rintro e w3 ⟨A2, n2, d2, k2, rfl, hb, hl1, hl2⟩; replace HBX := Lib.hid (bx_step HBX.out hb); obtain ⟨l, rfl, rfl, rfl, hs1, hs2⟩ := un_both (w1 := w) (w3 := w) H1.out (And.intro hl1 hl2) hb; have HS := Lib.hid (And.intro hs1 hs2); clear hb hl1 hl2 hs1 hs2 c0 c1' c2 c3 c4 c5 c6)
      | (go_at_call 16; refine (nums_any _ _ _ _ l l _ HS.out.1 HS.out.2).mono ?_; rintro e w4 ⟨rfl, hb⟩; replace HBX := Lib.hid (bx_step HBX.out hb); rw [decide_eq_true (rfl : l = l)]; clear hb)
      | (go_at_call 9; refine (HLV.out _ HBX.out.b_bel).mono ?_; rintro e w5 ⟨rfl, hb⟩; replace HBX := Lib.hid (bx_step HBX.out hb); clear hb))
    go_ret
    exact ⟨rfl, HBX.out.b_bel⟩
end Go.Proofs.YtpfdnggacpehdaaGreatDoor
