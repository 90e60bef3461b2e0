/- CursorGoes. -/
import Derived.Test.YtclfoiodbjaanaaCurK
import Derived.Deep.LoopGhost
import Derived.Deep.RegionHeld3
namespace Go.Proofs.Ytclfoiodbjaanaa
open Go.RowKit
set_option linter.unusedVariables false
set_option maxRecDepth 100000

/-- A cursor with memory of its own, from block B on. -/
structure Lone (B : Nat) (W w : World) (p g : Nat) (bs : List UInt8) (s : St) : Prop where
  c : Cur W w p g bs s
  b : B ≤ p ∧ B ≤ g
theorem Lone.to {B : Nat} {W w w' : World} {p g : Nat} {bs : List UInt8} {s s' : St} {v : Value} {e : Ending} (h : Lone B W w p g bs s) (hc : CurTo W w p g bs s' v e w') :
    e = .returned v ∧ ∃ g', Lone B W w' p g' bs s' ∧ Below B w w' := by
  obtain ⟨he, g', hg', hc', ho⟩ := hc
  obtain ⟨hc, b1, b2⟩ := h
  have l1 := hc.1.2.2.2.1
  refine ⟨he, g', ⟨hc', b1, ?_⟩, below_only (Below.refl B w) ho b1 b2 (by omega)⟩
  rcases hg' with rfl | hg'
  · exact b2
  · omega
theorem Lone.drawn {B : Nat} {W w : World} {p g : Nat} {bs : List UInt8} {s : St} (h : Lone B W w p g bs s) (n : Nat) : Lone B W (w.drewN n) p g bs s ∧ Below B w (w.drewN n) :=
  ⟨⟨h.c.bel (drawn_below w n), h.b⟩, (drawn_below w n).mono (by have := h.b.1; have := h.c.1.2.2.2.1; omega)⟩

theorem pair_new {W w wr wr' w5 : World} {p g q f cap : Nat} {A : Option Addr} {bs : List UInt8} {s : St} (h : Lone w.heap.size W wr p g bs s) (hW : w.heap.size ≤ W.heap.size) (hbw : Below w.heap.size w wr) (hd : Below wr.heap.size wr wr') (hB : Bs w A cap bs)
    (hb : Below wr'.heap.size wr' w5) (hq : q ≥ wr'.heap.size) (hf : f ≥ wr'.heap.size) (hr : ∀ V : World, V.heap.size ≤ wr'.heap.size → Below V.heap.size V wr' → Bs V A cap bs → Ref V w5 q f bs ⟨0, [bs.length]⟩) :
    Pair w.heap.size W w w5 p g q f bs s ⟨0, [bs.length]⟩ ∧ Below w.heap.size w w5 := by
  have hws := hbw.size
  have hds := hd.size
  have hb1 : Below w.heap.size w wr' := hbw.trans (hd.mono (by omega))
  have z1 := h.c.1.1
  have z2 := h.c.1.2.1
  have z3 := h.c.1.2.2.2.1
  have z4 := h.c.1.2.2.2.2.1
  exact ⟨⟨(h.c.bel hd).bel hb, hr w (by omega) hb1 hB, ⟨by omega, by omega, by omega, by omega⟩, ⟨by omega, by omega, by omega, by omega⟩, ⟨by omega, by omega, by omega, by omega⟩⟩, hb1.trans (hb.mono (by omega))⟩
theorem rd_mono {α : Type} {take : List UInt8 → α × Nat} {z : α} {bs : List UInt8} {s : St} (h : (s.rd take z bs).2.fr ≠ []) : s.at_ ≤ (s.rd take z bs).2.at_ := by
  obtain ⟨i, fr⟩ := s
  cases fr with
  | nil => exact absurd rfl h
  | cons l r =>
    unfold St.rd at h ⊢
    dsimp only at h ⊢
    split
    · rename_i hz
      rw [if_pos hz] at h
      exact absurd rfl h
    · dsimp only
      omega
theorem step_mono {k : Nat} {bs : List UInt8} {s : St} (h : (s.step k bs).fr ≠ []) : s.at_ ≤ (s.step k bs).at_ := by
  match k, h with
  | 0, h => exact rd_mono h
  | 1, h => exact rd_mono h
  | 2, h => exact rd_mono h
  | 3, h => exact rd_mono h
  | 4, h => exact rd_mono h
  | 5, h =>
    show s.at_ ≤ (s.opens bs).at_
    have h' : (s.opens bs).fr ≠ [] := h
    unfold St.opens at h' ⊢
    split
    · exact Nat.le_refl _
    · split
      · rename_i l r hfr hz
        rw [hfr] at h'
        dsimp only at h'
        rw [if_pos hz] at h'
        exact absurd rfl h'
      · dsimp only; omega
  | 6, h =>
    show s.at_ ≤ s.shuts.2.at_
    unfold St.shuts
    split
    · split <;> exact Nat.le_refl _
    · exact Nat.le_refl _
  | k + 7, h => exact Nat.le_refl _
theorem right_at {bs : List UInt8} {s : St} (h : Right bs s) : s.at_ ≤ bs.length := by
  unfold Right at h
  split at h
  · omega
  · omega
theorem rd_dead {α : Type} {take : List UInt8 → α × Nat} {z : α} {bs : List UInt8} {s : St} (h : s.fr = []) : s.rd take z bs = (z, s) := by
  unfold St.rd
  rw [h]
theorem opens_dead {bs : List UInt8} {s : St} (h : s.fr = []) : s.opens bs = s := by
  unfold St.opens
  rw [h]
theorem shuts_dead {s : St} (h : s.fr = []) : s.shuts = (false, s) := by
  unfold St.shuts
  rw [h]

/-- A cursor that failed: each call answers the zero value, and it is as it was. -/
def Dead (B : Nat) (W w : World) (p : Nat) (bs : List UInt8) (s : St) (v : Value) (e : Ending) (w' : World) : Prop :=
  e = .returned v ∧ ∃ g', Lone B W w' p g' bs s ∧ Below B w w'
theorem dead_ok {B : Nat} {W w : World} {p g : Nat} {bs : List UInt8} {s : St} (h : Lone B W w p g bs s) (hf : s.fr = []) : Calls Try.prog 11 #[.pointer (some ⟨p, 0, none⟩)] w (Dead B W w p bs s (.bool false)) :=
  (ok_cur h.c).mono fun e w' ⟨he, hw⟩ => ⟨by rw [he]; simp [St.oks, hf], g, hw ▸ h, hw ▸ Below.refl _ _⟩
theorem dead_at {B : Nat} {W w : World} {p g : Nat} {bs : List UInt8} {s : St} (h : Lone B W w p g bs s) (hf : s.fr = []) : Calls Try.prog 12 #[.pointer (some ⟨p, 0, none⟩)] w (Dead B W w p bs s (.int .i64 0)) :=
  (at_cur h.c).mono fun e w' ⟨he, hw⟩ => ⟨by rw [he, cur_at0 h.c hf]; rfl, g, hw ▸ h, hw ▸ Below.refl _ _⟩
theorem dead_deep {B : Nat} {W w : World} {p g : Nat} {bs : List UInt8} {s : St} (h : Lone B W w p g bs s) (hf : s.fr = []) : Calls Try.prog 13 #[.pointer (some ⟨p, 0, none⟩)] w (Dead B W w p bs s (.int .i64 0)) :=
  (deep_cur h.c).mono fun e w' ⟨he, hw⟩ => ⟨by rw [he, hf]; rfl, g, hw ▸ h, hw ▸ Below.refl _ _⟩
theorem dead_more {B : Nat} {W w : World} {p g : Nat} {bs : List UInt8} {s : St} (h : Lone B W w p g bs s) (hf : s.fr = []) : Calls Try.prog 14 #[.pointer (some ⟨p, 0, none⟩)] w (Dead B W w p bs s (.bool false)) :=
  (more_cur h.c).mono fun e w' ⟨he, n, hw⟩ => ⟨by rw [he]; simp [St.more, hf], g, hw ▸ (h.drawn n).1, hw ▸ (h.drawn n).2⟩
theorem dead_varint {B : Nat} {W w : World} {p g : Nat} {bs : List UInt8} {s : St} (h : Lone B W w p g bs s) (hf : s.fr = []) : Calls Try.prog 15 #[.pointer (some ⟨p, 0, none⟩)] w (Dead B W w p bs s (.int .u64 0)) := by
  have q := varint_cur h.c
  rw [rd_dead hf] at q
  exact q.mono fun e w' hc => h.to hc
theorem dead_text {B : Nat} {W w : World} {p g : Nat} {bs : List UInt8} {s : St} (h : Lone B W w p g bs s) (hf : s.fr = []) : Calls Try.prog 16 #[.pointer (some ⟨p, 0, none⟩)] w (Dead B W w p bs s (.string ⟨#[]⟩)) := by
  have q := text_cur h.c
  rw [rd_dead hf] at q
  exact q.mono fun e w' hc => h.to hc
theorem dead_open {B : Nat} {W w : World} {p g : Nat} {bs : List UInt8} {s : St} (h : Lone B W w p g bs s) (hf : s.fr = []) (hlen : bs.length < 1099511627776) : Calls Try.prog 17 #[.pointer (some ⟨p, 0, none⟩)] w (Dead B W w p bs s (.bool false)) := by
  have q := open_cur h.c hlen
  rw [opens_dead hf, show s.oks = false by simp [St.oks, hf]] at q
  exact q.mono fun e w' hc => h.to hc
theorem dead_close {B : Nat} {W w : World} {p g : Nat} {bs : List UInt8} {s : St} (h : Lone B W w p g bs s) (hf : s.fr = []) : Calls Try.prog 18 #[.pointer (some ⟨p, 0, none⟩)] w (Dead B W w p bs s (.bool false)) := by
  have q := close_cur h.c
  rw [shuts_dead hf] at q
  exact q.mono fun e w' hc => h.to hc

set_option maxHeartbeats 1600000 in
theorem goes_walk (w : World) (A : Option Addr) (cap : Nat) (bs : List UInt8) (hr : Bs w A cap bs) (h47 : bs.length ≤ 140737488351232) (A2 : Option Addr) (cap2 : Nat) (ws : List UInt8) (hr2 : Bs w A2 cap2 ws) (h472 : ws.length ≤ 140737488351232) :
    Calls Try.prog 4 #[.slice A bs.length cap, .slice A2 ws.length cap2] w fun e w' => e = .returned (.bool true) ∧ Below w.heap.size w w' := by
  have HL : Hid (∀ w, Calls Try.prog 6 #[] w fun e w' => e = .returned (.bool true) ∧ Below w.heap.size w w') := live_any
  obtain ⟨n, hn⟩ : ∃ n, n = bs.length := ⟨_, rfl⟩
  obtain ⟨m, hm⟩ : ∃ m, m = ws.length := ⟨_, rfl⟩
  have HR := Lib.hid hr
  have HR2 := Lib.hid hr2
  have HN := Lib.hid hn
  have HM := Lib.hid hm
  rw [← hn, ← hm]
  rw [← hn] at h47
  rw [← hm] at h472
  clear hr hr2 hn hm
  by_cases h1 : 1000 < n
  · have g1 : decide (1000 < (n : Int)) = true := decide_eq_true (by omega)
    go_enter Try.func4, Try.ntmps4
    go_wp2_with (go_at_call 6; refine (HL.out _).mono ?_; rintro e w5 ⟨rfl, hb5⟩)
    go_ret
    exact ⟨rfl, hb5⟩
  by_cases h2 : 100 < m
  · have g1 : decide (1000 < (n : Int)) = false := decide_eq_false (by omega)
    have g2 : decide (100 < (m : Int)) = true := decide_eq_true (by omega)
    go_enter Try.func4, Try.ntmps4
    go_wp2_with (go_at_call 6; refine (HL.out _).mono ?_; rintro e w5 ⟨rfl, hb5⟩)
    go_ret
    exact ⟨rfl, hb5⟩
  have g1 : decide (1000 < (n : Int)) = false := decide_eq_false (by omega)
  have g2 : decide (100 < (m : Int)) = false := decide_eq_false (by omega)
  go_enter Try.func4, Try.ntmps4
  go_wp2_with (go_at_call 7; refine (from_any _ _ _ bs _ HN.out HR.out (by have := HN.out; omega)).mono ?_; rintro e w3 ⟨W, p, g, rfl, hb3, hb3', hc3⟩)
  have hWp : W.heap.size ≤ p := hc3.1.1
  have hWg : W.heap.size ≤ g := hc3.1.2.1
  have hwW := hb3.size
  have HP3 : Hid (Lone w.heap.size W w3 p g bs ⟨0, [bs.length]⟩) := ⟨hc3, by omega, by omega⟩
  have HB3 := Lib.hid hb3'
  clear hc3 hb3' hb3 hWg
  go_loopw [6, 7] (fun y x wr => ∃ (k g : Nat) (s : St), k ≤ m ∧ x = .int .i64 (k : Int) ∧ y = .int .i64 (s.at_ : Int) ∧ Lone w.heap.size W wr p g bs s ∧ Below w.heap.size w wr) (fun y x _ => m - (intOf x).toNat)
  case atStart => exact ⟨0, g, _, by omega, rfl, rfl, HP3.out, HB3.out⟩
  case round =>
    obtain ⟨k, g5, s, hk, rfl, rfl, hP5, hB5⟩ := hrel
    have HP5 := Lib.hid hP5
    have HBB := Lib.hid hB5
    clear hP5 hB5
    by_cases hlt : k < m
    · have g3 : decide ((k : Int) < (m : Int)) = true := decide_eq_true (by omega)
      have hkl : k < ws.length := by have := HM.out; omega
      obtain ⟨b, off, rfl, hcell0⟩ := HR2.out.lt hkl
      obtain ⟨c, hc⟩ : ∃ c : UInt8, c = ws[k] := ⟨_, rfl⟩
      rw [← hc] at hcell0
      clear hc
      have hbr := Lib.hid (HR.out.below HBB.out (Nat.le_refl _))
      have hoff := World.block_lt_of_cell? w _ hcell0
      have hcell := (HBB.out.cell (p := ⟨b, off + k, none⟩) hoff).trans hcell0
      have HC0 := Lib.hid hcell0
      obtain ⟨s2, hs2⟩ : ∃ s2, s2 = s.step c.toNat bs := ⟨_, rfl⟩
      have hmono : Hid (s2.fr ≠ [] → s.at_ ≤ s2.at_) := by intro h; rw [hs2] at h ⊢; exact step_mono h
      have HS2 := Lib.hid hs2
      clear hcell0 hs2
      go_wp2
      go_region_held3 (fun w' => w'.cell? ⟨b, off + k, none⟩ = some (.int .u8 (c.toNat : Int)))
        (first | exact hcell | exact hcell5 | exact hcell6 | go_keep)
        (first
        | (go_at_call 8; refine (rfrom_any _ _ _ bs _ HN.out (hbr.out.below (drawn_below wr _) (Nat.le_refl _))).mono ?_; rintro e w5 ⟨q, f, rfl, hb4, hq, hf, hr4⟩; have hpn := pair_new HP5.out hwW HBB.out (drawn_below wr _) HR.out hb4 hq hf hr4; have hcell5 : w5.cell? ⟨b, off + k, none⟩ = some (.int .u8 (c.toNat : Int)) := (hpn.2.cell (p := ⟨b, off + k, none⟩) hoff).trans HC0.out; have HPN := Lib.hid hpn.1; have HBN := Lib.hid hpn.2; clear hb4 hq hf hr4 hpn)
        | (go_at_call 9; refine (read_any c.toNat HPN.out (by have := HN.out; omega)).mono ?_; rintro e w6 ⟨b6, rfl, hb6, g6, f6, hp6, hB6⟩; rw [← HS2.out] at hp6; have hcell6 : w6.cell? ⟨b, off + k, none⟩ = some (.int .u8 (c.toNat : Int)) := (hB6.cell (p := ⟨b, off + k, none⟩) hoff).trans hcell5; have HP6 := Lib.hid (show Lone w.heap.size W w6 p g6 bs s2 from ⟨hp6.c, hp6.b.1, hp6.b.2.1⟩); have HB6 := Lib.hid (HBN.out.trans hB6); clear hp6 hB6 hb6))
      rcases hfr : s2.fr with _ | ⟨l, r⟩
      · have HF := Lib.hid hfr
        clear hfr
        go_wp2_with (first
          | (go_at_call 11; refine (dead_ok HP6.out HF.out).mono ?_; rintro e w7 ⟨rfl, g7, hp7, hb7⟩; have HP7 := Lib.hid hp7; have HB7 := Lib.hid (HB6.out.trans hb7); clear hp7 hb7)
          | (go_at_call 12; refine (dead_at HP7.out HF.out).mono ?_; rintro e w8 ⟨rfl, g8, hp8, hb8⟩; have HP8 := Lib.hid hp8; have HB8 := Lib.hid (HB7.out.trans hb8); clear hp8 hb8)
          | (go_at_call 13; refine (dead_deep HP8.out HF.out).mono ?_; rintro e w9 ⟨rfl, g9, hp9, hb9⟩; have HP9 := Lib.hid hp9; have HB9 := Lib.hid (HB8.out.trans hb9); clear hp9 hb9)
          | (go_at_call 14; refine (dead_more HP9.out HF.out).mono ?_; rintro e w10 ⟨rfl, g10, hp10, hb10⟩; have HP10 := Lib.hid hp10; have HB10 := Lib.hid (HB9.out.trans hb10); clear hp10 hb10)
          | (go_at_call 15; refine (dead_varint HP10.out HF.out).mono ?_; rintro e w11 ⟨rfl, g11, hp11, hb11⟩; have HP11 := Lib.hid hp11; have HB11 := Lib.hid (HB10.out.trans hb11); clear hp11 hb11)
          | (go_at_call 16; refine (dead_text HP11.out HF.out).mono ?_; rintro e w12 ⟨rfl, g12, hp12, hb12⟩; have HP12 := Lib.hid hp12; have HB12 := Lib.hid (HB11.out.trans hb12); clear hp12 hb12)
          | (go_at_call 17; refine (dead_open HP12.out HF.out (by have := HN.out; omega)).mono ?_; rintro e w13 ⟨rfl, g13, hp13, hb13⟩; have HP13 := Lib.hid hp13; have HB13 := Lib.hid (HB12.out.trans hb13); clear hp13 hb13)
          | (go_at_call 18; refine (dead_close HP13.out HF.out).mono ?_; rintro e w14 ⟨rfl, g14, hp14, hb14⟩; have HP14 := Lib.hid hp14; have HB14 := Lib.hid (HB13.out.trans hb14); clear hp14 hb14)
          | (go_at_call 6; refine (HL.out _).mono ?_; rintro e w15 ⟨rfl, hb15⟩))
        go_ret
        exact ⟨rfl, HB14.out.trans (hb15.mono HB14.out.size)⟩
      · have HF := Lib.hid hfr
        have hmo := hmono.out (by rw [hfr]; simp)
        have hle := right_at HP6.out.c.1.2.2.2.2.2.2
        have hok : Hid (s2.oks = true) := by show _ = _; simp [St.oks, hfr]
        rw [← HN.out] at hle
        have c1 : decide (s2.at_ < s.at_) = false := decide_eq_false (by omega)
        have c2 : decide (n < s2.at_) = false := decide_eq_false (by omega)
        clear hfr hmo hle
        go_wp2_with (first
          | (go_at_call 11; have q := ok_cur HP6.out.c; rw [hok.out] at q; refine q.mono ?_; clear q; rintro e w7 ⟨rfl, rfl⟩)
          | (go_at_call 12; refine (at_cur HP6.out.c).mono ?_; rintro e w8 ⟨rfl, rfl⟩))
        go_roundw
        case rel => exact ⟨k + 1, g6, s2, by omega, by go_num, rfl, HP6.out, HB6.out⟩
        case measure => simp [intOf]; omega
    · have g3 : decide ((k : Int) < (m : Int)) = false := decide_eq_false (by omega)
      go_wp2_with (go_at_call 6; refine (HL.out _).mono ?_; rintro e w8 ⟨rfl, hb8⟩)
      go_ret
      exact ⟨rfl, HBB.out.trans (hb8.mono HBB.out.size)⟩
end Go.Proofs.Ytclfoiodbjaanaa
