import Derived.Test.YtkiindkoiomieaaGreatDoorJ09
import Derived.Test.YtkiindkoiomieaaGreatDoorJ10
import Derived.Test.YtkiindkoiomieaaGreatDoorJ03
import Derived.Shelf.Abstract
import Derived.Test.YtkiindkoiomieaaGreatDoorJ11
import Derived.Deep.RegionHeld3
import Derived.Deep.LoopGhost
import Derived.Test.YtkiindkoiomieaaGreatDoorJ12
import Derived.WalkLawsBesides
import Derived.Recover
section
/-
  P7: countZeros and nextNumber, whatever function the bits are asked of.
-/
namespace Go.Proofs.YtkiindkoiomieaaGreatDoor
open Go.RowKit

/-- What is asked of the function: a bit, or none. -/
def Gives {σ : Type} (F : Nat) (caps : Array Value) (nx : σ → Option (Nat × σ)) (I : Nat → Nat → σ → World → Prop) (X : List Nat) (N : Nat) : Prop :=
  ∀ (n q : Nat) (s : σ) (w : World), n < N → 1 ≤ q → q < 2305843009213693952 → I n q s w →
    Calls Tryz.prog F caps w fun e w' => Frm X w w' ∧ ((∃ b t, nx s = some (b, t) ∧ b < 2 ∧ e = .returned (.tuple #[.int .i64 (b : Int), .bool true]) ∧ I (n + 1) (Co.stq q b) t w') ∨ (nx s = none ∧ e = .returned (.tuple #[.int .i64 0, .bool false])))

theorem zeros_one {σ : Type} {nx : σ → Option (Nat × σ)} {f z : Nat} {s t : σ} (h : nx s = some (1, t)) : Co.zerosG nx (f + 1) z s = some (z, t) := by
  rw [Co.zerosG, h]
  rfl
theorem zeros_nil {σ : Type} {nx : σ → Option (Nat × σ)} {f z : Nat} {s : σ} (h : nx s = none) : Co.zerosG nx (f + 1) z s = none := by
  rw [Co.zerosG, h]
theorem zeros_zero {σ : Type} {nx : σ → Option (Nat × σ)} {f z : Nat} {s t : σ} (h : nx s = some (0, t)) : Co.zerosG nx (f + 1) z s = Co.zerosG nx f (z + 1) t := by
  rw [Co.zerosG, h]
  rfl
theorem digits_nil {σ : Type} {nx : σ → Option (Nat × σ)} {k n : Nat} {s : σ} (h : nx s = none) : Co.digitsG nx (k + 1) n s = none := by
  rw [Co.digitsG, h]
theorem digits_one {σ : Type} {nx : σ → Option (Nat × σ)} {k n b : Nat} {s t : σ} (h : nx s = some (b, t)) : Co.digitsG nx (k + 1) n s = Co.digitsG nx k (2 * n + b) t := by
  rw [Co.digitsG, h]
theorem num_none {σ : Type} {nx : σ → Option (Nat × σ)} {s : σ} (h : Co.zerosG nx 31 0 s = none) : Co.numG nx s = none := by
  unfold Co.numG
  rw [h]
theorem num_zeros {σ : Type} {nx : σ → Option (Nat × σ)} {s t : σ} {z : Nat} (h : Co.zerosG nx 31 0 s = some (z, t)) : Co.numG nx s = match Co.digitsG nx z 1 t with
  | none => none
  | some (n, u) => if n ≤ 1073741824 then some (n, u) else none := by
  unfold Co.numG
  rw [h]
  rfl

set_option maxHeartbeats 1000000 in
set_option maxRecDepth 100000 in
theorem zeros_gen {σ : Type} (F : Nat) (caps : Array Value) (eg : ∀ args w, (callFunc F args).run Tryz.prog w = .ok (.enter F args) w) (nx : σ → Option (Nat × σ)) (I : Nat → Nat → σ → World → Prop) (X : List Nat) (N : Nat) (hp : Gives F caps nx I X N)
    (n : Nat) (s : σ) (w : World) (hn : n + 31 ≤ N) (h : I n 1 s w) :
    Calls Tryz.prog 72 #[.func (.func F) #[] caps] w fun e w' => Frm X w w' ∧ ((∃ z t n', Co.zerosG nx 31 0 s = some (z, t) ∧ z ≤ 30 ∧ n' ≤ n + 31 ∧ e = .returned (.tuple #[.int .i64 (z : Int), .bool true]) ∧ I n' (Co.qr z 0 1) t w') ∨ (Co.zerosG nx 31 0 s = none ∧ ∃ z : Nat, e = .returned (.tuple #[.int .i64 (z : Int), .bool false]))) := by
  have HP := hide hp
  clear hp
  go_enter Tryz.func72, Tryz.ntmps72
  go_wp2
  go_loopw [2] (fun i wr => ∃ (j : Nat) (t : σ), j ≤ 31 ∧ i = .int .i64 j ∧ I (n + j) (2 ^ j) t wr ∧ Frm X w wr ∧ Hid (Co.zerosG nx 31 0 s = Co.zerosG nx (31 - j) j t)) (fun i _ => 31 - (intOf i).toNat)
  case atStart => exact ⟨0, s, by omega, rfl, h, Frm.refl _ _, rfl⟩
  case round =>
    clear h
    obtain ⟨j, t, hj, rfl, hI, hbx, HZ⟩ := hrel
    by_cases h31 : j < 31
    · have CN := hide (HP.out (n + j) (2 ^ j) t wr (by omega) (Co.qz_bounds (by omega)).1 (Co.qz_bounds (by omega)).2 hI)
      obtain ⟨f, hf⟩ : ∃ f, 31 - j = f + 1 := ⟨30 - j, by omega⟩
      have HZ2 := HZ.out
      rw [hf] at HZ2
      have HZ3 := hide HZ2
      clear hI HZ2
      go_wp2_with fail
      go_at_fn F
      refine CN.out.mono ?_
      rintro e w2 ⟨hb2, ⟨b, u, hx, hb, rfl, hI2⟩ | ⟨hx, rfl⟩⟩
      · rcases (show b = 0 ∨ b = 1 by omega) with rfl | rfl
        · rw [Co.stq_zero (by omega)] at hI2
          have HI := hide hI2
          have HX := hide hx
          clear hI2 hx
          go_wp2
          go_roundw
          case rel => exact ⟨j + 1, u, by omega, by go_num, HI.out, hbx.trans hb2, by show _ = _; rw [HZ3.out, zeros_zero HX.out, show 31 - (j + 1) = f by omega]⟩
          case measure => simp [intOf]; omega
        · rw [Co.qr_first (by omega)] at hI2
          have HI := hide hI2
          have HX := hide hx
          clear hI2 hx
          go_wp2
          go_ret2
          exact ⟨hbx.trans hb2, .inl ⟨j, u, n + j + 1, by rw [HZ3.out, zeros_one HX.out], by omega, by omega, rfl, HI.out⟩⟩
      · have HX := hide hx
        clear hx
        go_wp2
        go_ret2
        exact ⟨hbx.trans hb2, .inr ⟨by rw [HZ3.out, zeros_nil HX.out], j, rfl⟩⟩
    · have hje : j = 31 := by omega
      have HN : Hid (Co.zerosG nx 31 0 s = none) := by
        show _ = _
        rw [HZ.out, hje]
        rfl
      clear hje
      go_wp2
      go_ret2
      exact ⟨hbx, .inr ⟨HN.out, 0, rfl⟩⟩

set_option maxHeartbeats 1000000 in
set_option maxRecDepth 100000 in
theorem number_gen {σ : Type} (F : Nat) (caps : Array Value) (eg : ∀ args w, (callFunc F args).run Tryz.prog w = .ok (.enter F args) w) (nx : σ → Option (Nat × σ)) (I : Nat → Nat → σ → World → Prop) (X : List Nat) (N : Nat) (hp : Gives F caps nx I X N)
    (n : Nat) (s : σ) (w : World) (hn : n + 61 ≤ N) (h : I n 1 s w) :
    Calls Tryz.prog 40 #[.func (.func F) #[] caps] w fun e w' => Frm X w w' ∧ ((∃ m t n', Co.numG nx s = some (m, t) ∧ 1 ≤ m ∧ m ≤ 1073741824 ∧ n' ≤ n + 61 ∧ e = .returned (.tuple #[.int .i64 (m : Int), .bool true]) ∧ I n' 1 t w') ∨ (Co.numG nx s = none ∧ ∃ m : Nat, e = .returned (.tuple #[.int .i64 (m : Int), .bool false]))) := by
  have cZ := hide (zeros_gen F caps eg nx I X N hp n s w (by omega) h)
  have HP := hide hp
  clear hp h
  go_enter Tryz.func40, Tryz.ntmps40
  go_wp2_with fail
  go_at_call 72
  refine (unhide cZ).mono ?_
  rintro e w1 ⟨hb1, ⟨z, t, n1, hz, hz30, hn1, rfl, hI1⟩ | ⟨hz, x, rfl⟩⟩
  · have HZ := hide (num_zeros hz)
    clear hz
    go_wp2
    go_loopw [2, 15] (fun nv i wr => ∃ (j acc : Nat) (u : σ), j ≤ z ∧ i = .int .i64 j ∧ nv = .int .i64 acc ∧ acc ≤ 2147483647 ∧ Hid (2 ^ j ≤ acc) ∧ Hid (acc < 2 ^ (j + 1)) ∧ I (n1 + j) (Co.qr z j acc) u wr ∧ Frm X w wr ∧ Hid (Co.digitsG nx z 1 t = Co.digitsG nx (z - j) acc u)) (fun _ i _ => z - (intOf i).toNat)
    case atStart => exact ⟨0, 1, t, Nat.zero_le _, rfl, rfl, by omega, by show _ ≤ _; decide, by show _ < _; decide, hI1, hb1, rfl⟩
    case round =>
      clear hI1 hb1
      obtain ⟨j, acc, u, hj, rfl, rfl, hacc, HA0, HA, hI, hbx, HB⟩ := hrel
      by_cases hjz : j < z
      · have key : ∀ x, x < 2 → 2 * acc + x < 2 ^ (j + 1 + 1) ∧ 2 * acc + x ≤ 2147483647 ∧ 2 ^ (j + 1) ≤ 2 * acc + x := fun x hx => by
          have h0 := HA0.out
          have h1 := HA.out
          have h2 : (2 : Nat) ^ (j + 1 + 1) ≤ 2 ^ 31 := Nat.pow_le_pow_right (by omega) (by omega)
          have h3 : (2 : Nat) ^ 31 = 2147483648 := by decide
          have h4 : (2 : Nat) ^ (j + 1 + 1) = 2 * 2 ^ (j + 1) := by rw [Nat.pow_succ, Nat.mul_comm]
          have h5 : (2 : Nat) ^ (j + 1) = 2 * 2 ^ j := by rw [Nat.pow_succ, Nat.mul_comm]
          omega
        have HK := hide key
        have hbd := Co.qr_bounds (z := z) (i := j) (v := acc) hz30 hj HA.out
        have CN := hide (HP.out (n1 + j) (Co.qr z j acc) u wr (by omega) hbd.1 hbd.2 hI)
        have hst : ∀ x, x < 2 → Co.stq (Co.qr z j acc) x = Co.qr z (j + 1) (2 * acc + x) := fun x hx => Co.qr_step hz30 hjz HA0.out HA.out hx
        have HST := hide hst
        clear key hbd hst hI
        go_wp2_with fail
        go_at_fn F
        refine CN.out.mono ?_
        rintro e w2 ⟨hb2, ⟨b, v, hx, hb, rfl, hI2⟩ | ⟨hx, rfl⟩⟩
        · rw [HST.out b hb] at hI2
          have HI := hide hI2
          have HX := hide hx
          clear hI2 hx
          go_wp2
          go_roundw
          case rel => exact ⟨j + 1, 2 * acc + b, v, by omega, by go_num, by go_num, (HK.out b hb).2.1, (HK.out b hb).2.2, (HK.out b hb).1, HI.out, hbx.trans hb2, by show _ = _; rw [HB.out, show z - j = z - j - 1 + 1 by omega, digits_one HX.out, show z - (j + 1) = z - j - 1 by omega]⟩
          case measure => simp [intOf]; omega
        · have HX := hide hx
          clear hx
          go_wp2
          go_ret2
          exact ⟨hbx.trans hb2, .inr ⟨by rw [HZ.out, HB.out, show z - j = z - j - 1 + 1 by omega, digits_nil HX.out], 0, rfl⟩⟩
      · have hje : j = z := by omega
        have hfin : Co.numG nx s = if acc ≤ 1073741824 then some (acc, u) else none := by
          rw [HZ.out, HB.out, hje, Nat.sub_self]
          rfl
        have HN := hide hfin
        have hq : Co.qr z j acc = 1 := by unfold Co.qr; rw [if_pos hje]
        rw [hq] at hI
        have HI := hide hI
        have h1 : 1 ≤ acc := Nat.le_trans (Nat.pow_pos (by omega)) HA0.out
        clear hje hfin hq hI
        by_cases hmax : acc ≤ 1073741824
        · go_wp2
          go_ret2
          exact ⟨hbx, .inl ⟨acc, u, n1 + j, by rw [HN.out, if_pos hmax], h1, hmax, by omega, ret_ib (decide_eq_true (by omega)), HI.out⟩⟩
        · go_wp2
          go_ret2
          exact ⟨hbx, .inr ⟨by rw [HN.out, if_neg hmax], acc, ret_ib (decide_eq_false (by omega))⟩⟩
  · have HN := hide (num_none hz)
    clear hz
    go_wp2
    go_ret2
    exact ⟨hb1, .inr ⟨HN.out, 0, rfl⟩⟩
end Go.Proofs.YtkiindkoiomieaaGreatDoor
end

section
/-
  P7: the walks of the plain reader and of the one that reads zeros behind the end.
-/
namespace Go.Proofs.YtkiindkoiomieaaGreatDoor
open Go.RowKit

/-- What lies in a block, by its type. -/
def tag : Obj → Nat
  | .cells _ t _ => t + 1
  | _ => 0
theorem ne_tag {w : World} {k j : Nat} {o p : Obj} (h1 : w.heap[k]? = some o) (h2 : w.heap[j]? = some p) (ht : tag o ≠ tag p) : k ≠ j := fun e => by
  rw [e, h2] at h1
  exact ht (by rw [Option.some.inj h1])

theorem Rd.frm {bt be bp : Nat} {s : ByteArray} {p : Nat} {w w' : World} {X : List Nat} (h : Rd bt be bp s p w) (hf : Frm X w w') (h1 : bt ∉ X) (h2 : be ∉ X) (h3 : bp ∉ X) : Rd bt be bp s p w' := ⟨hf.keep h.hT h1, hf.keep h.hE h2, hf.keep h.hP h3⟩
theorem FoAt.frm {bc bm ba mb n : Nat} {f : Co.Fo} {w w' : World} {X : List Nat} (h : FoAt bc bm ba mb n f w) (hf : Frm X w w') (h1 : bc ∉ X) (h2 : bm ∉ X) (h3 : ba ∉ X) (h4 : mb ∉ X) : FoAt bc bm ba mb n f w' := by
  obtain ⟨D, ⟨es, clock, hb, r⟩, hm⟩ := h.hmap
  exact ⟨hf.keep h.hC h1, hf.keep h.hM h2, hf.keep h.hA h3, ⟨D, ⟨es, clock, hf.keep hb h4, r⟩, hm⟩, h.ok, h.p1, h.p2⟩

set_option maxHeartbeats 1000000 in
set_option maxRecDepth 100000 in
theorem next_bit' (bt be bp : Nat) (s : ByteArray) (p x : Nat) (w : World) (h : Rd bt be bp s p w) (hs : s.size ≤ 100000) (hp : p < s.size) (hx : x < 2) (hc : s[p].toNat = 48 + x) :
    Calls Tryz.prog 71 #[.pointer (some ⟨be, 0, none⟩), .pointer (some ⟨bt, 0, none⟩), .pointer (some ⟨bp, 0, none⟩)] w fun e w' => e = .returned (.tuple #[.int .i64 x, .bool true]) ∧ w' = w.setCell ⟨bp, 0, none⟩ (.int .i64 ((p + 1 : Nat) : Int)) := by
  have c1 := h.cT
  have c2 := h.cP
  have c3 := h.cE
  have f2 := h.fP
  have hend : ((p : Int) == (s.size : Int)) = false := by rw [beq_eq_false_iff_ne]; omega
  have cE := ended_any bt be bp s p w h
  rw [hend] at cE
  have CE := hide cE
  clear h cE
  have hcI : (s[p].toNat : Int) = 48 + (x : Int) := by omega
  have HC := hide hcI
  clear hcI
  rcases (show x = 0 ∨ x = 1 by omega) with rfl | rfl
  · have t0 : ((s[p].toNat : Int) != 48) = false := by rw [HC.out]; rfl
    have t1 : IntKind.u8.wrap ((s[p].toNat : Int) - 48) = 0 := by rw [HC.out]; rfl
    go_enter Tryz.func71, Tryz.ntmps71
    go_wp2_with (go_at_call 70; refine (unhide CE).mono ?_; rintro e w' ⟨rfl, rfl⟩)
    go_ret2
    exact ⟨rfl, by rw [Int.natCast_add]; rfl⟩
  · have t0 : ((s[p].toNat : Int) != 48) = true := by rw [HC.out]; rfl
    have t2 : ((s[p].toNat : Int) != 49) = false := by rw [HC.out]; rfl
    have t1 : IntKind.u8.wrap ((s[p].toNat : Int) - 48) = 1 := by rw [HC.out]; rfl
    go_enter Tryz.func71, Tryz.ntmps71
    go_wp2_with (go_at_call 70; refine (unhide CE).mono ?_; rintro e w' ⟨rfl, rfl⟩)
    go_ret2
    exact ⟨rfl, by rw [Int.natCast_add]; rfl⟩

/-- What is left of the bits. -/
def BitsAt (bt be bp : Nat) (S : ByteArray) (all l : List Nat) (w : World) : Prop := ∃ p, Rd bt be bp S p w ∧ p ≤ S.size ∧ all.drop p = l

theorem bits_cons {S : ByteArray} {all l : List Nat} {b p : Nat} (hS : S.data.toList = all.map ch) (hb : ∀ d ∈ all, d < 2) (hl : all.drop p = b :: l) : ∃ hp : p < S.size, b < 2 ∧ S[p].toNat = 48 + b ∧ all.drop (p + 1) = l := by
  have hz : S.size = all.length := by rw [Lib.size_eq, hS, List.length_map]
  have hp : p < all.length := by
    rcases Nat.lt_or_ge p all.length with h | h
    · exact h
    · rw [List.drop_eq_nil_of_le h] at hl
      cases hl
  have hp' : p < S.size := by omega
  obtain ⟨c, h1, h2, h3⟩ := letter_of hS hb hp'
  rw [List.drop_eq_getElem_cons hp] at hl
  obtain ⟨e1, e2⟩ := List.cons.inj hl
  have hcb : c = b := by
    rw [List.getElem?_eq_getElem hp] at h1
    rw [← e1]
    exact (Option.some.inj h1).symm
  subst hcb
  exact ⟨hp', h2, h3, e2⟩

theorem next_one (bt be bp : Nat) (S : ByteArray) (all l : List Nat) (b : Nat) (w : World) (hS : S.data.toList = all.map ch) (hb : ∀ d ∈ all, d < 2) (hs : S.size ≤ 100000) (h : BitsAt bt be bp S all (b :: l) w) :
    Calls Tryz.prog 71 #[.pointer (some ⟨be, 0, none⟩), .pointer (some ⟨bt, 0, none⟩), .pointer (some ⟨bp, 0, none⟩)] w fun e w' => b < 2 ∧ e = .returned (.tuple #[.int .i64 (b : Int), .bool true]) ∧ BitsAt bt be bp S all l w' ∧ Frm [bp] w w' := by
  obtain ⟨p, hR, hp, hl⟩ := h
  obtain ⟨hlt, hb2, hc, hl2⟩ := bits_cons hS hb hl
  refine (next_bit' bt be bp S p b w hR hs hlt hb2 hc).mono ?_
  rintro e w' ⟨rfl, rfl⟩
  exact ⟨hb2, rfl, ⟨p + 1, hR.move (p + 1), hlt, hl2⟩, (OnlyAt.set _ _ _).frm⟩

theorem next_none (bt be bp : Nat) (S : ByteArray) (all : List Nat) (w : World) (hS : S.data.toList = all.map ch) (h : BitsAt bt be bp S all [] w) :
    Calls Tryz.prog 71 #[.pointer (some ⟨be, 0, none⟩), .pointer (some ⟨bt, 0, none⟩), .pointer (some ⟨bp, 0, none⟩)] w fun e w' => e = .returned (.tuple #[.int .i64 0, .bool false]) ∧ w' = w := by
  obtain ⟨p, hR, hp, hl⟩ := h
  have hz : S.size = all.length := by rw [Lib.size_eq, hS, List.length_map]
  have hge : all.length ≤ p := by simpa using hl
  exact next_no bt be bp S p w hR hp (fun h => by omega)

theorem enters_next (args : Array Value) (w : World) : (callFunc 71 args).run Tryz.prog w = .ok (.enter 71 args) w := enters_of Tryz.func71 (by kernel_rfl) rfl args w

theorem gives_plain (bt be bp : Nat) (S : ByteArray) (all : List Nat) (N : Nat) (hS : S.data.toList = all.map ch) (hb : ∀ d ∈ all, d < 2) (hs : S.size ≤ 100000) :
    Gives 71 #[.pointer (some ⟨be, 0, none⟩), .pointer (some ⟨bt, 0, none⟩), .pointer (some ⟨bp, 0, none⟩)] Co.nxL (fun _ _ l w => BitsAt bt be bp S all l w) [bp] N := by
  intro n q l w _ _ _ h
  cases l with
  | nil =>
    refine (next_none bt be bp S all w hS h).mono ?_
    rintro e w' ⟨rfl, rfl⟩
    exact ⟨Frm.refl _ _, .inr ⟨rfl, rfl⟩⟩
  | cons b l =>
    refine (next_one bt be bp S all l b w hS hb hs h).mono ?_
    rintro e w' ⟨hb2, rfl, h1, h2⟩
    exact ⟨h2, .inl ⟨b, l, rfl, hb2, rfl, h1⟩⟩

/-- What the reader with zeros keeps. -/
structure PaAt (bt be bp bn bz : Nat) (S : ByteArray) (all : List Nat) (q : Co.Src) (w : World) : Prop where
  rd : BitsAt bt be bp S all q.1 w
  hN : w.heap[bn]? = some (.cells #[.func (.func 71) #[] #[.pointer (some ⟨be, 0, none⟩), .pointer (some ⟨bt, 0, none⟩), .pointer (some ⟨bp, 0, none⟩)]] 53 (0, 0))
  hZ : w.heap[bz]? = some (.cells #[.int .i64 (q.2 : Int)] 3 (0, 0))
  ne : bp ≠ bz

theorem PaAt.frm {bt be bp bn bz : Nat} {S : ByteArray} {all : List Nat} {q : Co.Src} {w w' : World} {X : List Nat} (h : PaAt bt be bp bn bz S all q w) (hf : Frm X w w') (h1 : bt ∉ X) (h2 : be ∉ X) (h3 : bp ∉ X) (h4 : bn ∉ X) (h5 : bz ∉ X) : PaAt bt be bp bn bz S all q w' := by
  obtain ⟨p, hR, hp, hl⟩ := h.rd
  exact ⟨⟨p, hR.frm hf h1 h2 h3, hp, hl⟩, hf.keep h.hN h4, hf.keep h.hZ h5, h.ne⟩

set_option maxHeartbeats 1000000 in
set_option maxRecDepth 100000 in
theorem padded_any (bt be bp bn bz : Nat) (S : ByteArray) (all : List Nat) (q : Co.Src) (w : World) (hS : S.data.toList = all.map ch) (hb : ∀ d ∈ all, d < 2) (hs : S.size ≤ 100000) (hq : q.2 ≤ 32) (h : PaAt bt be bp bn bz S all q w) :
    Calls Tryz.prog 155 #[.pointer (some ⟨bn, 0, none⟩), .pointer (some ⟨bz, 0, none⟩)] w fun e w' => Frm [bp, bz] w w' ∧ ((∃ d q', Co.digit q = some (d, q') ∧ d < 2 ∧ q'.2 ≤ 32 ∧ e = .returned (.tuple #[.int .i64 (d : Int), .bool true]) ∧ PaAt bt be bp bn bz S all q' w') ∨ (Co.digit q = none ∧ e = .returned (.tuple #[.int .i64 0, .bool false]))) := by
  have cN : w.cell? ⟨bn, 0, none⟩ = some (.func (.func 71) #[] #[.pointer (some ⟨be, 0, none⟩), .pointer (some ⟨bt, 0, none⟩), .pointer (some ⟨bp, 0, none⟩)]) := by rw [Lib.cell_of_heap h.hN]; rfl
  obtain ⟨l, z⟩ := q
  cases l with
  | nil =>
    have cZ : w.cell? ⟨bz, 0, none⟩ = some (.int .i64 (z : Int)) := by rw [Lib.cell_of_heap h.hZ]; rfl
    have fZ : w.frozen? ⟨bz, 0, none⟩ = false := Lib.frozen_of_heap h.hZ 0
    have CN := hide (next_none bt be bp S all w hS h.rd)
    have H := hide h
    simp only at hq
    clear h
    cases z with
    | zero =>
      go_enter Tryz.func155, Tryz.ntmps155
      go_wp2_with (go_at_call 71; refine CN.out.mono ?_; rintro e w' ⟨rfl, hw⟩; rw [hw]; clear hw w')
      go_quiet (fail)
      go_wp2
      go_ret2
      exact ⟨((OnlyAt.set' bz 0 w _).frm.mono (fun k hk => by simp at hk; simp [hk])).drewN _, .inr ⟨rfl, rfl⟩⟩
    | succ z =>
      go_enter Tryz.func155, Tryz.ntmps155
      go_wp2_with (go_at_call 71; refine CN.out.mono ?_; rintro e w' ⟨rfl, hw⟩; rw [hw]; clear hw w')
      go_quiet (fail)
      go_wp2
      go_ret2
      have hf : Frm [bz] w ((w.setCell ⟨bz, 0, none⟩ (.int .i64 (z : Int))).drewN nq) := (OnlyAt.set' bz 0 w _).frm.drewN _
      refine ⟨hf.mono (fun k hk => by simp at hk; simp [hk]), .inl ⟨0, ([], z), rfl, by omega, by simp only; omega, rfl, ?_⟩⟩
      obtain ⟨p, hR, hp, hl⟩ := H.out.rd
      have hz := H.out.hZ
      refine ⟨⟨p, hR.frm hf (by simp; exact ne_tag hR.hT hz (by simp [tag])) (by simp; exact ne_tag hR.hE hz (by simp [tag])) (by simp; exact H.out.ne), hp, hl⟩, hf.keep H.out.hN (by simp; exact ne_tag H.out.hN hz (by simp [tag])), ?_, H.out.ne⟩
      show (w.setCell _ _).heap[bz]? = _
      rw [heap_setCell_same _ _ _ _ _ _ hz]
      rfl
  | cons d l =>
    have cZ : w.cell? ⟨bz, 0, none⟩ = some (.int .i64 (z : Int)) := by rw [Lib.cell_of_heap h.hZ]; rfl
    have CN := hide (next_one bt be bp S all l d w hS hb hs h.rd)
    have H := hide h
    clear h
    go_enter Tryz.func155, Tryz.ntmps155
    go_wp2_with fail
    go_at_call 71
    refine CN.out.mono ?_
    rintro e w1 ⟨hd2, rfl, hB1, hf1⟩
    have hZ1 := hf1.keep H.out.hZ (by simp; exact fun e => H.out.ne e.symm)
    have hN1 := hf1.keep H.out.hN (by simp; exact ne_tag H.out.hN (show w.heap[bp]? = _ from H.out.rd.choose_spec.1.hP) (by simp [tag]))
    have cZ1 : w1.cell? ⟨bz, 0, none⟩ = some (.int .i64 (z : Int)) := by rw [Lib.cell_of_heap hZ1]; rfl
    go_wp2
    go_quiet (fail)
    go_wp2
    go_ret2
    refine ⟨(hf1.mono (fun k hk => by simp at hk; simp [hk])).drewN _, .inl ⟨d, (l, z), rfl, hd2, hq, rfl, ?_⟩⟩
    have hf2 : Frm [] w1 (w1.drewN nq) := (Frm.refl [] w1).drewN nq
    obtain ⟨p, hR, hp, hl⟩ := hB1
    exact ⟨⟨p, hR.frm hf2 (by simp) (by simp) (by simp), hp, hl⟩, hN1, hZ1, H.out.ne⟩
end Go.Proofs.YtkiindkoiomieaaGreatDoor
end

section
/-
  P7: the walks of likelyReader.
-/
namespace Go.Proofs.YtkiindkoiomieaaGreatDoor
open Go.RowKit

/-- What the reader's function keeps. -/
structure ReAt (bl bcv bnum bpv bnd bc bm ba mb bt be bp bn bz : Nat) (S : ByteArray) (all : List Nat) (n : Nat) (r : Co.Re) (w : World) : Prop where
  sp : SpanAt w bl r.sp
  cv : w.heap[bcv]? = some (.cells #[.func (.func 151) #[] #[.pointer (some ⟨bm, 0, none⟩), .pointer (some ⟨ba, 0, none⟩)]] 141 (0, 0))
  num : w.heap[bnum]? = some (.cells #[.int .u32 (r.num : Int)] 97 (0, 0))
  pv : w.heap[bpv]? = some (.cells #[.func (.func 152) #[] #[.pointer (some ⟨bc, 0, none⟩), .pointer (some ⟨bm, 0, none⟩), .pointer (some ⟨ba, 0, none⟩)]] 48 (0, 0))
  nd : w.heap[bnd]? = some (.cells #[.func (.func 155) #[] #[.pointer (some ⟨bn, 0, none⟩), .pointer (some ⟨bz, 0, none⟩)]] 53 (0, 0))
  fo : FoAt bc bm ba mb n r.fo w
  pa : PaAt bt be bp bn bz S all r.q w

section
variable {bl bcv bnum bpv bnd bc bm ba mb bt be bp bn bz : Nat} {S : ByteArray} {all : List Nat} {n n' : Nat} {r : Co.Re} {w w' : World}
theorem ReAt.hmb (h : ReAt bl bcv bnum bpv bnd bc bm ba mb bt be bp bn bz S all n r w) : ∃ es clock, w.heap[mb]? = some (.map es clock) := by
  obtain ⟨D, ⟨es, clock, hb, _⟩, _⟩ := h.fo.hmap
  exact ⟨es, clock, hb⟩
theorem ReAt.span (h : ReAt bl bcv bnum bpv bnd bc bm ba mb bt be bp bn bz S all n r w) (hf : Frm [bl] w w') {s : Co.Sp} (hs : SpanAt w' bl s) : ReAt bl bcv bnum bpv bnd bc bm ba mb bt be bp bn bz S all n ⟨s, r.fo, r.num, r.q⟩ w' := by
  obtain ⟨es, clock, hmb⟩ := h.hmb
  have h0 : w.heap[bl]? = _ := h.sp
  obtain ⟨p, hR, _, _⟩ := h.pa.rd
  exact ⟨hs, hf.keep h.cv (by simp; exact ne_tag h.cv h0 (by simp [tag])), hf.keep h.num (by simp; exact ne_tag h.num h0 (by simp [tag])), hf.keep h.pv (by simp; exact ne_tag h.pv h0 (by simp [tag])), hf.keep h.nd (by simp; exact ne_tag h.nd h0 (by simp [tag])),
    h.fo.frm hf (by simp; exact ne_tag h.fo.hC h0 (by simp [tag])) (by simp; exact ne_tag h.fo.hM h0 (by simp [tag])) (by simp; exact ne_tag h.fo.hA h0 (by simp [tag])) (by simp; exact ne_tag hmb h0 (by simp [tag])),
    h.pa.frm hf (by simp; exact ne_tag hR.hT h0 (by simp [tag])) (by simp; exact ne_tag hR.hE h0 (by simp [tag])) (by simp; exact ne_tag hR.hP h0 (by simp [tag])) (by simp; exact ne_tag h.pa.hN h0 (by simp [tag])) (by simp; exact ne_tag h.pa.hZ h0 (by simp [tag]))⟩
theorem ReAt.numb (h : ReAt bl bcv bnum bpv bnd bc bm ba mb bt be bp bn bz S all n r w) (hf : Frm [bnum] w w') {m : Nat} (hs : w'.heap[bnum]? = some (.cells #[.int .u32 (m : Int)] 97 (0, 0))) : ReAt bl bcv bnum bpv bnd bc bm ba mb bt be bp bn bz S all n ⟨r.sp, r.fo, m, r.q⟩ w' := by
  obtain ⟨es, clock, hmb⟩ := h.hmb
  have h0 := h.num
  have hsp : w.heap[bl]? = _ := h.sp
  obtain ⟨p, hR, _, _⟩ := h.pa.rd
  exact ⟨hf.keep hsp (by simp; exact ne_tag hsp h0 (by simp [tag])), hf.keep h.cv (by simp; exact ne_tag h.cv h0 (by simp [tag])), hs, hf.keep h.pv (by simp; exact ne_tag h.pv h0 (by simp [tag])), hf.keep h.nd (by simp; exact ne_tag h.nd h0 (by simp [tag])),
    h.fo.frm hf (by simp; exact ne_tag h.fo.hC h0 (by simp [tag])) (by simp; exact ne_tag h.fo.hM h0 (by simp [tag])) (by simp; exact ne_tag h.fo.hA h0 (by simp [tag])) (by simp; exact ne_tag hmb h0 (by simp [tag])),
    h.pa.frm hf (by simp; exact ne_tag hR.hT h0 (by simp [tag])) (by simp; exact ne_tag hR.hE h0 (by simp [tag])) (by simp; exact ne_tag hR.hP h0 (by simp [tag])) (by simp; exact ne_tag h.pa.hN h0 (by simp [tag])) (by simp; exact ne_tag h.pa.hZ h0 (by simp [tag]))⟩
theorem ReAt.pass (h : ReAt bl bcv bnum bpv bnd bc bm ba mb bt be bp bn bz S all n r w) (hf : Frm [ba, mb] w w') {f : Co.Fo} (hs : FoAt bc bm ba mb n' f w') : ReAt bl bcv bnum bpv bnd bc bm ba mb bt be bp bn bz S all n' ⟨r.sp, f, r.num, r.q⟩ w' := by
  obtain ⟨es, clock, hmb⟩ := h.hmb
  have h0 := h.fo.hA
  have hsp : w.heap[bl]? = _ := h.sp
  obtain ⟨p, hR, _, _⟩ := h.pa.rd
  exact ⟨hf.keep hsp (by simp; exact ⟨ne_tag hsp h0 (by simp [tag]), ne_tag hsp hmb (by simp [tag])⟩), hf.keep h.cv (by simp; exact ⟨ne_tag h.cv h0 (by simp [tag]), ne_tag h.cv hmb (by simp [tag])⟩), hf.keep h.num (by simp; exact ⟨ne_tag h.num h0 (by simp [tag]), ne_tag h.num hmb (by simp [tag])⟩), hf.keep h.pv (by simp; exact ⟨ne_tag h.pv h0 (by simp [tag]), ne_tag h.pv hmb (by simp [tag])⟩), hf.keep h.nd (by simp; exact ⟨ne_tag h.nd h0 (by simp [tag]), ne_tag h.nd hmb (by simp [tag])⟩), hs,
    h.pa.frm hf (by simp; exact ⟨ne_tag hR.hT h0 (by simp [tag]), ne_tag hR.hT hmb (by simp [tag])⟩) (by simp; exact ⟨ne_tag hR.hE h0 (by simp [tag]), ne_tag hR.hE hmb (by simp [tag])⟩) (by simp; exact ⟨ne_tag hR.hP h0 (by simp [tag]), ne_tag hR.hP hmb (by simp [tag])⟩) (by simp; exact ⟨ne_tag h.pa.hN h0 (by simp [tag]), ne_tag h.pa.hN hmb (by simp [tag])⟩) (by simp; exact ⟨ne_tag h.pa.hZ h0 (by simp [tag]), ne_tag h.pa.hZ hmb (by simp [tag])⟩)⟩
theorem ReAt.dig (h : ReAt bl bcv bnum bpv bnd bc bm ba mb bt be bp bn bz S all n r w) (hf : Frm [bp, bz] w w') {q : Co.Src} (hs : PaAt bt be bp bn bz S all q w') : ReAt bl bcv bnum bpv bnd bc bm ba mb bt be bp bn bz S all n ⟨r.sp, r.fo, r.num, q⟩ w' := by
  obtain ⟨es, clock, hmb⟩ := h.hmb
  have hsp : w.heap[bl]? = _ := h.sp
  obtain ⟨p, hR, _, _⟩ := h.pa.rd
  have h1 := hR.hP
  have h2 := h.pa.hZ
  exact ⟨hf.keep hsp (by simp; exact ⟨ne_tag hsp h1 (by simp [tag]), ne_tag hsp h2 (by simp [tag])⟩), hf.keep h.cv (by simp; exact ⟨ne_tag h.cv h1 (by simp [tag]), ne_tag h.cv h2 (by simp [tag])⟩), hf.keep h.num (by simp; exact ⟨ne_tag h.num h1 (by simp [tag]), ne_tag h.num h2 (by simp [tag])⟩), hf.keep h.pv (by simp; exact ⟨ne_tag h.pv h1 (by simp [tag]), ne_tag h.pv h2 (by simp [tag])⟩), hf.keep h.nd (by simp; exact ⟨ne_tag h.nd h1 (by simp [tag]), ne_tag h.nd h2 (by simp [tag])⟩),
    h.fo.frm hf (by simp; exact ⟨ne_tag h.fo.hC h1 (by simp [tag]), ne_tag h.fo.hC h2 (by simp [tag])⟩) (by simp; exact ⟨ne_tag h.fo.hM h1 (by simp [tag]), ne_tag h.fo.hM h2 (by simp [tag])⟩) (by simp; exact ⟨ne_tag h.fo.hA h1 (by simp [tag]), ne_tag h.fo.hA h2 (by simp [tag])⟩) (by simp; exact ⟨ne_tag hmb h1 (by simp [tag]), ne_tag hmb h2 (by simp [tag])⟩), hs⟩
theorem ReAt.same (h : ReAt bl bcv bnum bpv bnd bc bm ba mb bt be bp bn bz S all n r w) (hf : Frm [] w w') : ReAt bl bcv bnum bpv bnd bc bm ba mb bt be bp bn bz S all n r w' :=
  ⟨hf.keep (show w.heap[bl]? = _ from h.sp) (by simp), hf.keep h.cv (by simp), hf.keep h.num (by simp), hf.keep h.pv (by simp), hf.keep h.nd (by simp), h.fo.frm hf (by simp) (by simp) (by simp) (by simp), h.pa.frm hf (by simp) (by simp) (by simp) (by simp) (by simp)⟩
end

theorem or_bit (m d : Nat) (h : m < 4294967296) (h2 : m % 2 = 0) (hd : d < 2) : bits .or .u32 (m : Int) (d : Int) = ((m + d : Nat) : Int) := by
  have e : (BitVec.ofInt 32 (m : Int) ||| BitVec.ofInt 32 (d : Int)).toNat = m + d := by
    rw [BitVec.toNat_or]
    have h1 : (BitVec.ofInt 32 (m : Int)).toNat = m := by rw [BitVec.toNat_ofInt]; omega
    have h3 : (BitVec.ofInt 32 (d : Int)).toNat = d := by rw [BitVec.toNat_ofInt]; omega
    rw [h1, h3]
    have := Nat.two_pow_add_eq_or_of_lt (show d < 2 ^ 1 by omega) (m / 2)
    rw [show 2 ^ 1 * (m / 2) = m by omega] at this
    exact this.symm
  show IntKind.u32.wrap ((BitVec.ofInt 32 (m : Int) ||| BitVec.ofInt 32 (d : Int)).toNat : Int) = _
  rw [e]
  exact IntWalk.u32_in _ (by omega)

theorem shift_or (m d : Nat) (hd : d < 2) : bits .or .u32 ((m : Int) * 2 % 4294967296) (d : Int) = ((Co.shiftIn m d : Nat) : Int) := by
  rw [show (m : Int) * 2 % 4294967296 = ((2 * m % 4294967296 : Nat) : Int) by omega, or_bit _ d (by omega) (by omega) hd]
  rfl
theorem shift_lt (m d : Nat) (hd : d < 2) : Co.shiftIn m d < 4294967296 := by
  unfold Co.shiftIn
  omega

/-- How far the reader has gone along. -/
def RNorm (s0 : Co.Sp) (m0 : Nat) (q0 : Co.Src) (g : Nat) (s : Co.Sp) (m : Nat) (q : Co.Src) : Prop := s.1 ≤ s.2 ∧ s.2 < 4294967296 ∧ 4294967296 < (s.2 + 1 - s.1) * 2 ^ g ∧ Co.normR 33 s0 m0 q0 = Co.normR g s m q
theorem RNorm.start {s0 : Co.Sp} (m0 : Nat) (q0 : Co.Src) (h1 : s0.1 ≤ s0.2) (h2 : s0.2 < 4294967296) : RNorm s0 m0 q0 33 s0 m0 q0 := by
  refine ⟨h1, h2, ?_, rfl⟩
  have : 1 * 2 ^ 33 ≤ (s0.2 + 1 - s0.1) * 2 ^ 33 := Nat.mul_le_mul_right _ (by omega)
  have e : (2 : Nat) ^ 33 = 8589934592 := by decide
  omega
theorem RNorm.pos {s0 s : Co.Sp} {m0 m g : Nat} {q0 q : Co.Src} (h : RNorm s0 m0 q0 g s m q) : ∃ g', g = g' + 1 := by
  obtain ⟨h1, h2, h3, _⟩ := h
  cases g with
  | zero => simp at h3; omega
  | succ g => exact ⟨g, rfl⟩
theorem RNorm.next {s0 s : Co.Sp} {m0 m g d : Nat} {q0 q q' : Co.Src} (h : RNorm s0 m0 q0 (g + 1) s m q) (hs : Co.settled s = true) (hd : Co.digit q = some (d, q')) : RNorm s0 m0 q0 g (Co.dropT s) (Co.shiftIn m d) q' := by
  obtain ⟨h1, h2, h3, h4⟩ := h
  obtain ⟨a, b, c⟩ := Co.drop_width h1 h2 hs
  refine ⟨a, b, ?_, ?_⟩
  · rw [c, Nat.mul_comm 2, Nat.mul_assoc]
    rw [Nat.pow_succ, Nat.mul_comm (2 ^ g) 2] at h3
    exact h3
  · rw [h4, Co.normR, if_pos hs, hd]
theorem RNorm.none {s0 s : Co.Sp} {m0 m g : Nat} {q0 q : Co.Src} (h : RNorm s0 m0 q0 (g + 1) s m q) (hs : Co.settled s = true) (hd : Co.digit q = none) : Co.normR 33 s0 m0 q0 = none := by
  obtain ⟨h1, h2, h3, h4⟩ := h
  rw [h4, Co.normR, if_pos hs, hd]
theorem RNorm.fin {s0 s : Co.Sp} {m0 m g : Nat} {q0 q : Co.Src} (h : RNorm s0 m0 q0 g s m q) (hs : ¬ Co.settled s = true) : Co.normR 33 s0 m0 q0 = some (s, m, q) := by
  obtain ⟨_, _, _, h4⟩ := h
  rw [h4]
  cases g with
  | zero => rfl
  | succ g => rw [Co.normR, if_neg hs]

/-- A reader that may be. -/
def ReOk (r : Co.Re) : Prop := r.sp.1 < 2147483648 ∧ 2147483648 ≤ r.sp.2 ∧ r.sp.2 < 4294967296 ∧ r.num < 4294967296 ∧ r.q.2 ≤ 32

theorem re_none {r : Co.Re} (h : Co.normR 33 (Co.kept r.sp r.bit (Co.lastZ r.sp r.fo.odds)) r.num r.q = none) : r.next = none := by
  unfold Co.Re.next
  rw [h]
theorem re_some {r : Co.Re} {s : Co.Sp} {m : Nat} {q : Co.Src} (h : Co.normR 33 (Co.kept r.sp r.bit (Co.lastZ r.sp r.fo.odds)) r.num r.q = some (s, m, q)) : r.next = some (r.bit, ⟨s, r.fo.pass r.bit, m, q⟩) := by
  unfold Co.Re.next
  rw [h]

set_option maxHeartbeats 4000000 in
set_option maxRecDepth 100000 in
theorem nextLikely_any (bl bcv bnum bpv bnd bc bm ba mb bt be bp bn bz : Nat) (S : ByteArray) (all : List Nat) (n : Nat) (r : Co.Re) (w : World) (hS : S.data.toList = all.map ch) (hb : ∀ d ∈ all, d < 2) (hs : S.size ≤ 100000) (hn : n ≤ 100000) (hp2 : r.fo.pl.2 < 2305843009213693952) (hr : ReOk r) (h : ReAt bl bcv bnum bpv bnd bc bm ba mb bt be bp bn bz S all n r w) :
    Calls Tryz.prog 132 #[.pointer (some ⟨bl, 0, none⟩), .pointer (some ⟨bcv, 0, none⟩), .pointer (some ⟨bnum, 0, none⟩), .pointer (some ⟨bpv, 0, none⟩), .pointer (some ⟨bnd, 0, none⟩)] w fun e w' => Frm [bl, bnum, ba, mb, bp, bz] w w' ∧ ((∃ b r', r.next = some (b, r') ∧ b < 2 ∧ e = .returned (.tuple #[.int .i64 (b : Int), .bool true]) ∧ ReAt bl bcv bnum bpv bnd bc bm ba mb bt be bp bn bz S all (n + 1) r' w' ∧ ReOk r' ∧ r'.fo.pl.2 = Co.stq r.fo.pl.2 b) ∨ (r.next = none ∧ e = .returned (.tuple #[.int .i64 0, .bool false]))) := by
  obtain ⟨o1, o2, o3, o4, o5⟩ := hr
  have c0 := h.sp.c0
  have c1 := h.sp.c1
  have ccv : w.cell? ⟨bcv, 0, none⟩ = some (.func (.func 151) #[] #[.pointer (some ⟨bm, 0, none⟩), .pointer (some ⟨ba, 0, none⟩)]) := by rw [Lib.cell_of_heap h.cv]; rfl
  have hlt := h.sp.lt
  have hlt2 := heap_lt0 h.cv
  have hokp := h.fo.ok r.fo.pl
  have ho : r.fo.odds.1 + r.fo.odds.2 ≤ 1000000 := by
    have : r.fo.odds = r.fo.met r.fo.pl := rfl
    rw [this]
    omega
  have CC := hide (fun W (hW : FoAt bc bm ba mb n r.fo W) => coming_any bc bm ba mb n r.fo W hW hp2)
  have CL := hide (fun W => last_any r.sp r.fo.odds W (by omega) o3 hokp.1 hokp.2.1 ho)
  have hlz := Co.last_in (s := r.sp) (o := r.fo.odds) (by omega) hokp.2.1
  have H := hide h
  clear h
  go_enter Tryz.func132, Tryz.ntmps132
  go_wp2_with fail
  go_region_held3 (fun w' => w'.cell? ⟨bl, 0, none⟩ = some (.int .u32 (r.sp.1 : Int)) ∧ w'.cell? ⟨bl, 1, none⟩ = some (.int .u32 (r.sp.2 : Int)) ∧ w'.cell? ⟨bcv, 0, none⟩ = some (.func (.func 151) #[] #[.pointer (some ⟨bm, 0, none⟩), .pointer (some ⟨ba, 0, none⟩)])) (go_keep) (first
    | (go_at_call 151; refine (CC.out _ ?_).mono ?_; (exact H.out.fo.keep (fun _ _ => rfl)); rintro e w1 ⟨rfl, hb1⟩; have k0 := (hb1.cell (p := ⟨bl, 0, none⟩) hlt).trans c0; have k1 := (hb1.cell (p := ⟨bl, 1, none⟩) hlt).trans c1; have k2 := (hb1.cell (p := ⟨bcv, 0, none⟩) hlt2).trans ccv)
    | (go_at_call 133; refine (CL.out _).mono ?_; rintro e w2 ⟨rfl, hb2⟩; have k3 := (hb2.cell (p := ⟨bl, 0, none⟩) (Nat.lt_of_lt_of_le hlt hb1.size)).trans k0; have k4 := (hb2.cell (p := ⟨bl, 1, none⟩) (Nat.lt_of_lt_of_le hlt hb1.size)).trans k1; have k5 := (hb2.cell (p := ⟨bcv, 0, none⟩) (Nat.lt_of_lt_of_le hlt2 hb1.size)).trans k2))
  have hF1 : Frm [] w w1 := ⟨hb1.os, hb1.tape, hb1.output, hb1.size, fun k hk _ => hb1.block k hk⟩
  have hF2 : Frm [] w w2 := hF1.trans (below_frm hb2 [])
  have hL2 := H.out.same hF2
  have cnum : w2.cell? ⟨bnum, 0, none⟩ = some (.int .u32 (r.num : Int)) := by rw [Lib.cell_of_heap hL2.num]; rfl
  clear hb1 hb2 hF1 c0 c1 ccv CC CL k0 k1 k2 k3 k4 k5
  by_cases hgt : Co.lastZ r.sp r.fo.odds < r.num
  · have hbit : r.bit = 1 := by unfold Co.Re.bit; rw [if_pos hgt]
    have CK := hide (keep_any bl r.sp 1 (Co.lastZ r.sp r.fo.odds) w2 (by omega) (by omega) hL2.sp)
    have HL2 := hide hL2
    clear hL2
    go_wp2_with fail
    go_at_call 134
    refine CK.out.mono ?_
    rintro e w3 ⟨rfl, hs3, ho3⟩
    have hF3 : Frm [bl] w w3 := (hF2.mono (by simp)).trans ho3.frm
    have hL3 := HL2.out.span ho3.frm hs3
    have cpv : w3.cell? ⟨bpv, 0, none⟩ = some (.func (.func 152) #[] #[.pointer (some ⟨bc, 0, none⟩), .pointer (some ⟨bm, 0, none⟩), .pointer (some ⟨ba, 0, none⟩)]) := by rw [Lib.cell_of_heap hL3.pv]; rfl
    have CP := hide (pass_any bc bm ba mb n r.fo 1 w3 hL3.fo hp2 (by omega) (by omega))
    have HL3 := hide hL3
    clear hL3 CK hs3 ho3 HL2 hF2
    go_wp2_with (go_at_call 152; refine CP.out.mono ?_; rintro e w4 ⟨rfl, hfo4, hfr4⟩)
    have hL4 := HL3.out.pass hfr4 hfo4
    have hF4 : Frm [bl, bnum, ba, mb, bp, bz] w w4 := (hF3.mono (by simp)).trans (hfr4.mono (by simp))
    have hcut : (Co.kept r.sp 1 (Co.lastZ r.sp r.fo.odds)).1 ≤ (Co.kept r.sp 1 (Co.lastZ r.sp r.fo.odds)).2 ∧ (Co.kept r.sp 1 (Co.lastZ r.sp r.fo.odds)).2 < 4294967296 := by
      unfold Co.kept
      simp
      omega
    obtain ⟨s0, hs0⟩ : ∃ s0, s0 = Co.kept r.sp 1 (Co.lastZ r.sp r.fo.odds) := ⟨_, rfl⟩
    rw [← hs0] at hcut hL4
    have HS0 := hide hs0
    have HN := hide (RNorm.start r.num r.q hcut.1 hcut.2)
    clear CP hfr4 hfo4 HL3 hF3 cpv hs0 hcut
    go_loopg [] 33 (fun g wr => ∃ (s : Co.Sp) (m : Nat) (q : Co.Src), ReAt bl bcv bnum bpv bnd bc bm ba mb bt be bp bn bz S all (n + 1) ⟨s, r.fo.pass 1, m, q⟩ wr ∧ Frm [bl, bnum, ba, mb, bp, bz] w wr ∧ m < 4294967296 ∧ q.2 ≤ 32 ∧ Hid (RNorm s0 r.num r.q g s m q))
    case atStart => exact ⟨s0, r.num, r.q, hL4, hF4, o4, o5, HN⟩
    case round =>
      clear hL4 hF4 HN
      obtain ⟨s, m, q, hL, hbx, hm, hq, HN⟩ := hrel
      have hle : s.1 ≤ s.2 := HN.out.1
      have hlt32 : s.2 < 4294967296 := HN.out.2.1
      have d0 : wr.cell? ⟨bl, 0, none⟩ = some (.int .u32 (s.1 : Int)) := hL.sp.c0
      have d1 : wr.cell? ⟨bl, 1, none⟩ = some (.int .u32 (s.2 : Int)) := hL.sp.c1
      have CS := hide (settled_any s wr (by omega) hlt32)
      unfold spanV at CS
      by_cases hset : Co.settled s = true
      · obtain ⟨g1, rfl⟩ := HN.out.pos
        rw [hset] at CS
        have HL := hide hL
        clear hL
        go_wp2_with fail
        go_at_call 135
        refine CS.out.mono ?_
        rintro e w5 ⟨rfl, hb5⟩
        have hL5 := HL.out.same (below_frm hb5 [])
        have hF5 : Frm [bl, bnum, ba, mb, bp, bz] w w5 := hbx.trans (below_frm hb5 _)
        have cnd : w5.cell? ⟨bnd, 0, none⟩ = some (.func (.func 155) #[] #[.pointer (some ⟨bn, 0, none⟩), .pointer (some ⟨bz, 0, none⟩)]) := by rw [Lib.cell_of_heap hL5.nd]; rfl
        have CD := hide (padded_any bt be bp bn bz S all q w5 hS hb hs hq hL5.pa)
        have HL5 := hide hL5
        clear hL5 CS d0 d1 HL hbx
        go_wp2_with fail
        go_at_call 155
        refine CD.out.mono ?_
        rintro e w6 ⟨hf6, ⟨d, q', hd, hd2, hq', rfl, hpa6⟩ | ⟨hd, rfl⟩⟩
        · have hL6 := HL5.out.dig hf6 hpa6
          have hF6 : Frm [bl, bnum, ba, mb, bp, bz] w w6 := hF5.trans (hf6.mono (by simp))
          have cnum : w6.cell? ⟨bnum, 0, none⟩ = some (.int .u32 (m : Int)) := by rw [Lib.cell_of_heap hL6.num]; rfl
          have fnum : w6.frozen? ⟨bnum, 0, none⟩ = false := Lib.frozen_of_heap hL6.num 0
          have hw32 : IntKind.u32.wrap (d : Int) = (d : Int) := IntWalk.u32_in _ (by omega)
          have hsh := shift_or m d hd2
          have hnum7 : (w6.setCell ⟨bnum, 0, none⟩ (.int .u32 ((Co.shiftIn m d : Nat) : Int))).heap[bnum]? = some (.cells #[.int .u32 ((Co.shiftIn m d : Nat) : Int)] 97 (0, 0)) := by
            rw [heap_setCell_same _ _ _ _ _ _ hL6.num]
            rfl
          have hL7 := hL6.numb (OnlyAt.set' bnum 0 w6 _).frm hnum7
          have hF7 : Frm [bl, bnum, ba, mb, bp, bz] w (w6.setCell ⟨bnum, 0, none⟩ (.int .u32 ((Co.shiftIn m d : Nat) : Int))) := hF6.trans ((OnlyAt.set' bnum 0 w6 _).frm.mono (by simp))
          have CDR := hide (drop_any bl s _ hL7.sp)
          have HL7 := hide hL7
          have HD := hide hd
          clear hL6 hL7 hnum7 CD HL5 hF5 hf6 hpa6 hd cnd hF6
          go_wp2_with (go_at_call 136; refine CDR.out.mono ?_; rintro e w8 ⟨rfl, hs8, ho8⟩)
          go_roundg g1
          case measure => omega
          case rel => exact ⟨Co.dropT s, Co.shiftIn m d, q', HL7.out.span ho8.frm hs8, hF7.trans (ho8.frm.mono (by simp)), shift_lt m d hd2, hq', HN.out.next hset HD.out⟩
        · have hnone := HN.out.none hset hd
          have HNO := hide hnone
          have hF6 : Frm [bl, bnum, ba, mb, bp, bz] w w6 := hF5.trans (hf6.mono (by simp))
          clear hnone hd
          go_wp2
          go_ret2
          exact ⟨hF6, .inr ⟨re_none (by rw [hbit, ← HS0.out]; exact HNO.out), rfl⟩⟩
      · have hset' : Co.settled s = false := by simpa using hset
        rw [hset'] at CS
        have hfin := HN.out.fin hset
        have hnot : ¬ (s.2 < 2147483648 ∨ 2147483648 ≤ s.1) := fun e => hset ((Co.settled_iff s hle hlt32).2 e)
        have HL := hide hL
        have HF := hide hfin
        clear hL hfin
        go_wp2_with (go_at_call 135; refine CS.out.mono ?_; rintro e w5 ⟨rfl, hb5⟩)
        go_ret2
        refine ⟨hbx.trans (below_frm hb5 _), .inl ⟨1, ⟨s, r.fo.pass 1, m, q⟩, ?_, by omega, rfl, HL.out.same (below_frm hb5 []), ⟨by show s.1 < _; omega, by show _ ≤ s.2; omega, hlt32, hm, hq⟩, Co.bhd_snd _ _⟩⟩
        have := re_some (r := r) (s := s) (m := m) (q := q) (by rw [hbit, ← HS0.out]; exact HF.out)
        rw [hbit] at this
        exact this
  · have hbit : r.bit = 0 := by unfold Co.Re.bit; rw [if_neg hgt]
    have CK := hide (keep_any bl r.sp 0 (Co.lastZ r.sp r.fo.odds) w2 (by omega) (by omega) hL2.sp)
    have HL2 := hide hL2
    clear hL2
    go_wp2_with fail
    go_at_call 134
    refine CK.out.mono ?_
    rintro e w3 ⟨rfl, hs3, ho3⟩
    have hF3 : Frm [bl] w w3 := (hF2.mono (by simp)).trans ho3.frm
    have hL3 := HL2.out.span ho3.frm hs3
    have cpv : w3.cell? ⟨bpv, 0, none⟩ = some (.func (.func 152) #[] #[.pointer (some ⟨bc, 0, none⟩), .pointer (some ⟨bm, 0, none⟩), .pointer (some ⟨ba, 0, none⟩)]) := by rw [Lib.cell_of_heap hL3.pv]; rfl
    have CP := hide (pass_any bc bm ba mb n r.fo 0 w3 hL3.fo hp2 (by omega) (by omega))
    have HL3 := hide hL3
    clear hL3 CK hs3 ho3 HL2 hF2
    go_wp2_with (go_at_call 152; refine CP.out.mono ?_; rintro e w4 ⟨rfl, hfo4, hfr4⟩)
    have hL4 := HL3.out.pass hfr4 hfo4
    have hF4 : Frm [bl, bnum, ba, mb, bp, bz] w w4 := (hF3.mono (by simp)).trans (hfr4.mono (by simp))
    have hcut : (Co.kept r.sp 0 (Co.lastZ r.sp r.fo.odds)).1 ≤ (Co.kept r.sp 0 (Co.lastZ r.sp r.fo.odds)).2 ∧ (Co.kept r.sp 0 (Co.lastZ r.sp r.fo.odds)).2 < 4294967296 := by
      unfold Co.kept
      simp
      omega
    obtain ⟨s0, hs0⟩ : ∃ s0, s0 = Co.kept r.sp 0 (Co.lastZ r.sp r.fo.odds) := ⟨_, rfl⟩
    rw [← hs0] at hcut hL4
    have HS0 := hide hs0
    have HN := hide (RNorm.start r.num r.q hcut.1 hcut.2)
    clear CP hfr4 hfo4 HL3 hF3 cpv hs0 hcut
    go_loopg [] 33 (fun g wr => ∃ (s : Co.Sp) (m : Nat) (q : Co.Src), ReAt bl bcv bnum bpv bnd bc bm ba mb bt be bp bn bz S all (n + 1) ⟨s, r.fo.pass 0, m, q⟩ wr ∧ Frm [bl, bnum, ba, mb, bp, bz] w wr ∧ m < 4294967296 ∧ q.2 ≤ 32 ∧ Hid (RNorm s0 r.num r.q g s m q))
    case atStart => exact ⟨s0, r.num, r.q, hL4, hF4, o4, o5, HN⟩
    case round =>
      clear hL4 hF4 HN
      obtain ⟨s, m, q, hL, hbx, hm, hq, HN⟩ := hrel
      have hle : s.1 ≤ s.2 := HN.out.1
      have hlt32 : s.2 < 4294967296 := HN.out.2.1
      have d0 : wr.cell? ⟨bl, 0, none⟩ = some (.int .u32 (s.1 : Int)) := hL.sp.c0
      have d1 : wr.cell? ⟨bl, 1, none⟩ = some (.int .u32 (s.2 : Int)) := hL.sp.c1
      have CS := hide (settled_any s wr (by omega) hlt32)
      unfold spanV at CS
      by_cases hset : Co.settled s = true
      · obtain ⟨g1, rfl⟩ := HN.out.pos
        rw [hset] at CS
        have HL := hide hL
        clear hL
        go_wp2_with fail
        go_at_call 135
        refine CS.out.mono ?_
        rintro e w5 ⟨rfl, hb5⟩
        have hL5 := HL.out.same (below_frm hb5 [])
        have hF5 : Frm [bl, bnum, ba, mb, bp, bz] w w5 := hbx.trans (below_frm hb5 _)
        have cnd : w5.cell? ⟨bnd, 0, none⟩ = some (.func (.func 155) #[] #[.pointer (some ⟨bn, 0, none⟩), .pointer (some ⟨bz, 0, none⟩)]) := by rw [Lib.cell_of_heap hL5.nd]; rfl
        have CD := hide (padded_any bt be bp bn bz S all q w5 hS hb hs hq hL5.pa)
        have HL5 := hide hL5
        clear hL5 CS d0 d1 HL hbx
        go_wp2_with fail
        go_at_call 155
        refine CD.out.mono ?_
        rintro e w6 ⟨hf6, ⟨d, q', hd, hd2, hq', rfl, hpa6⟩ | ⟨hd, rfl⟩⟩
        · have hL6 := HL5.out.dig hf6 hpa6
          have hF6 : Frm [bl, bnum, ba, mb, bp, bz] w w6 := hF5.trans (hf6.mono (by simp))
          have cnum : w6.cell? ⟨bnum, 0, none⟩ = some (.int .u32 (m : Int)) := by rw [Lib.cell_of_heap hL6.num]; rfl
          have fnum : w6.frozen? ⟨bnum, 0, none⟩ = false := Lib.frozen_of_heap hL6.num 0
          have hw32 : IntKind.u32.wrap (d : Int) = (d : Int) := IntWalk.u32_in _ (by omega)
          have hsh := shift_or m d hd2
          have hnum7 : (w6.setCell ⟨bnum, 0, none⟩ (.int .u32 ((Co.shiftIn m d : Nat) : Int))).heap[bnum]? = some (.cells #[.int .u32 ((Co.shiftIn m d : Nat) : Int)] 97 (0, 0)) := by
            rw [heap_setCell_same _ _ _ _ _ _ hL6.num]
            rfl
          have hL7 := hL6.numb (OnlyAt.set' bnum 0 w6 _).frm hnum7
          have hF7 : Frm [bl, bnum, ba, mb, bp, bz] w (w6.setCell ⟨bnum, 0, none⟩ (.int .u32 ((Co.shiftIn m d : Nat) : Int))) := hF6.trans ((OnlyAt.set' bnum 0 w6 _).frm.mono (by simp))
          have CDR := hide (drop_any bl s _ hL7.sp)
          have HL7 := hide hL7
          have HD := hide hd
          clear hL6 hL7 hnum7 CD HL5 hF5 hf6 hpa6 hd cnd hF6
          go_wp2_with (go_at_call 136; refine CDR.out.mono ?_; rintro e w8 ⟨rfl, hs8, ho8⟩)
          go_roundg g1
          case measure => omega
          case rel => exact ⟨Co.dropT s, Co.shiftIn m d, q', HL7.out.span ho8.frm hs8, hF7.trans (ho8.frm.mono (by simp)), shift_lt m d hd2, hq', HN.out.next hset HD.out⟩
        · have hnone := HN.out.none hset hd
          have HNO := hide hnone
          have hF6 : Frm [bl, bnum, ba, mb, bp, bz] w w6 := hF5.trans (hf6.mono (by simp))
          clear hnone hd
          go_wp2
          go_ret2
          exact ⟨hF6, .inr ⟨re_none (by rw [hbit, ← HS0.out]; exact HNO.out), rfl⟩⟩
      · have hset' : Co.settled s = false := by simpa using hset
        rw [hset'] at CS
        have hfin := HN.out.fin hset
        have hnot : ¬ (s.2 < 2147483648 ∨ 2147483648 ≤ s.1) := fun e => hset ((Co.settled_iff s hle hlt32).2 e)
        have HL := hide hL
        have HF := hide hfin
        clear hL hfin
        go_wp2_with (go_at_call 135; refine CS.out.mono ?_; rintro e w5 ⟨rfl, hb5⟩)
        go_ret2
        refine ⟨hbx.trans (below_frm hb5 _), .inl ⟨0, ⟨s, r.fo.pass 0, m, q⟩, ?_, by omega, rfl, HL.out.same (below_frm hb5 []), ⟨by show s.1 < _; omega, by show _ ≤ s.2; omega, hlt32, hm, hq⟩, Co.bhd_snd _ _⟩⟩
        have := re_some (r := r) (s := s) (m := m) (q := q) (by rw [hbit, ← HS0.out]; exact HF.out)
        rw [hbit] at this
        exact this
end Go.Proofs.YtkiindkoiomieaaGreatDoor
end

section
/-
  P7: the walks of paddedReader and likelyReader.
-/
namespace Go.Proofs.YtkiindkoiomieaaGreatDoor.Co
/-- The source behind so many digits. -/
def srcK (k : Nat) (all : List Nat) : Src := (all.drop k, 32 - (k - all.length))
theorem srcK_end (all : List Nat) : srcK 32 all = src all := by
  unfold srcK src
  congr 1
  omega
theorem srcK_digit {k : Nat} (hk : k < 32) (all : List Nat) : digit (srcK k all) = some ((all.drop k).headD 0, srcK (k + 1) all) := by
  unfold srcK
  cases e : all.drop k with
  | nil =>
    have hl : all.length ≤ k := by simpa using e
    have e2 : all.drop (k + 1) = [] := List.drop_eq_nil_iff.2 (by omega)
    rw [show 32 - (k - all.length) = 32 - (k + 1 - all.length) + 1 by omega, digit, e2]
    rfl
  | cons a r =>
    have hl : k < all.length := by
      rcases Nat.lt_or_ge k all.length with h | h
      · exact h
      · rw [List.drop_eq_nil_iff.2 h] at e
        cases e
    have e2 : all.drop (k + 1) = r := by
      have := List.drop_drop (i := 1) (j := k) (l := all)
      rw [e] at this
      simpa using this.symm
    rw [digit, e2, show k - all.length = 0 by omega, show k + 1 - all.length = 0 by omega]
    rfl
theorem shift_win' {k : Nat} (hk : k < 32) (all : List Nat) (hb : ∀ d ∈ all, d < 2) : shiftIn (win k all) ((all.drop k).headD 0) = win (k + 1) all := by
  unfold shiftIn
  rw [win_snoc k all]
  have h := win_lt k all hb
  have h2 := Nat.pow_le_pow_right (n := 2) (by omega) (show k ≤ 31 by omega)
  have e : (2 : Nat) ^ 31 = 2147483648 := by decide
  rw [Nat.mod_eq_of_lt (by omega)]
end Go.Proofs.YtkiindkoiomieaaGreatDoor.Co
namespace Go.Proofs.YtkiindkoiomieaaGreatDoor
open Go.RowKit

set_option maxHeartbeats 1000000 in
set_option maxRecDepth 100000 in
theorem paddedReader_any (fs : Array Value) (w : World) :
    Calls Tryz.prog 131 #[.func (.func 71) #[] fs] w fun e w' => e = .returned (.func (.func 155) #[] #[.pointer (some ⟨w.heap.size, 0, none⟩), .pointer (some ⟨w.heap.size + 1, 0, none⟩)]) ∧ w' = (w.alloc (.cells #[.func (.func 71) #[] fs] 53)).alloc (.cells #[.int .i64 32] 3) := by
  have hmf : ∀ (fn : Fn) (first cap : Array Value) (w : World), (Instr.makeFunc fn first cap).run Tryz.prog w = .ok (.func fn first cap) w := fun _ _ _ _ => rfl
  go_enter Tryz.func131, Tryz.ntmps131
  go_wp2
  go_ret
  exact ⟨rfl, rfl⟩

set_option maxHeartbeats 2000000 in
set_option maxRecDepth 100000 in
theorem likelyReader_any (bt be bp : Nat) (S : ByteArray) (all : List Nat) (w : World) (hS : S.data.toList = all.map ch) (hb : ∀ d ∈ all, d < 2) (hs : S.size ≤ 100000) (h : BitsAt bt be bp S all all w) :
    Calls Tryz.prog 106 #[.func (.func 71) #[] #[.pointer (some ⟨be, 0, none⟩), .pointer (some ⟨bt, 0, none⟩), .pointer (some ⟨bp, 0, none⟩)]] w fun e w' => ∃ bl bcv bnum bpv bnd bc bm ba mb bn bz, e = .returned (.func (.func 132) #[] #[.pointer (some ⟨bl, 0, none⟩), .pointer (some ⟨bcv, 0, none⟩), .pointer (some ⟨bnum, 0, none⟩), .pointer (some ⟨bpv, 0, none⟩), .pointer (some ⟨bnd, 0, none⟩)])
      ∧ ReAt bl bcv bnum bpv bnd bc bm ba mb bt be bp bn bz S all 0 (Co.re0 all) w' ∧ Frm [bp] w w' ∧ w.heap.size ≤ bl ∧ w.heap.size ≤ bnum ∧ w.heap.size ≤ ba ∧ w.heap.size ≤ mb ∧ w.heap.size ≤ bz := by
  have hmf : ∀ (fn : Fn) (first cap : Array Value) (w : World), (Instr.makeFunc fn first cap).run Tryz.prog w = .ok (.func fn first cap) w := fun _ _ _ _ => rfl
  have hsf : ∀ (W : World) (x : Addr) (fn : Fn) (fs : Array Value), (store x (.func fn #[] fs)).run Tryz.prog W = stored Tryz.prog W x (.func fn #[] fs) .plain := fun W x fn fs => run_store _ _ _ _ _ rfl
  have H := hide h
  clear h
  go_enter Tryz.func106, Tryz.ntmps106
  go_wp2_with fail
  go_at_call 129
  refine (wholeSpan_any _).mono ?_
  rintro e w1 ⟨rfl, hb1⟩
  unfold spanV
  go_wp2_with fail
  go_at_call 130
  refine (follower_any _).mono ?_
  rintro e w2 ⟨bc, bm, ba, mb, rfl, hfo, hb2, n1, n2, n3, n4⟩
  go_wp2_with fail
  go_at_call 131
  obtain ⟨t1, t2, t3, t4⟩ := two_new w2 (.cells #[.func (.func 151) #[] #[.pointer (some ⟨bm, 0, none⟩), .pointer (some ⟨ba, 0, none⟩)]] 141) (.cells #[.func (.func 152) #[] #[.pointer (some ⟨bc, 0, none⟩), .pointer (some ⟨bm, 0, none⟩), .pointer (some ⟨ba, 0, none⟩)]] 48)
  have hbB : Below w2.heap.size w2 ((w2.alloc (.cells #[.func (.func 151) #[] #[.pointer (some ⟨bm, 0, none⟩), .pointer (some ⟨ba, 0, none⟩)]] 141)).alloc (.cells #[.func (.func 152) #[] #[.pointer (some ⟨bc, 0, none⟩), .pointer (some ⟨bm, 0, none⟩), .pointer (some ⟨ba, 0, none⟩)]] 48)) := ((Below.refl _ w2).alloc (Nat.le_refl _) _).alloc (by simp) _
  generalize (w2.alloc (.cells #[.func (.func 151) #[] #[.pointer (some ⟨bm, 0, none⟩), .pointer (some ⟨ba, 0, none⟩)]] 141)).alloc (.cells #[.func (.func 152) #[] #[.pointer (some ⟨bc, 0, none⟩), .pointer (some ⟨bm, 0, none⟩), .pointer (some ⟨ba, 0, none⟩)]] 48) = WB at *
  refine (paddedReader_any _ _).mono ?_
  rintro e w3 ⟨rfl, hw3⟩
  obtain ⟨u1, u2, u3, u4⟩ := two_new WB (.cells #[.func (.func 71) #[] #[.pointer (some ⟨be, 0, none⟩), .pointer (some ⟨bt, 0, none⟩), .pointer (some ⟨bp, 0, none⟩)]] 53) (.cells #[.int .i64 32] 3)
  have hbC : Below WB.heap.size WB w3 := by rw [hw3]; exact ((Below.refl _ WB).alloc (Nat.le_refl _) _).alloc (by simp) _
  rw [← hw3] at u1 u2 u3 u4
  clear hw3
  have z2 : (w1.alloc (.cells #[.int .u32 0, .int .u32 4294967295] 139)).heap.size = w1.heap.size + 1 := by simp
  have q2 := heap_alloc_new w1 (.cells #[.int .u32 0, .int .u32 4294967295] 139)
  have y1 := hb1.size
  have y2 := hb2.size
  rw [z2] at hb2 y2 n1 n2 n3 n4
  have lc := heap_lt0 hfo.hC
  have lm := heap_lt0 hfo.hM
  have la := heap_lt0 hfo.hA
  have lb : mb < w2.heap.size := by
    obtain ⟨D, hown, _⟩ := hfo.hmap
    exact hown.lt
  obtain ⟨p0, hR0, hp0, hl0⟩ := H.out
  have lT := heap_lt0 hR0.hT
  have lE := heap_lt0 hR0.hE
  have lP := heap_lt0 hR0.hP
  have b2 : Below w.heap.size w w2 := (hb1.alloc y1 _).trans (hb2.mono (by omega))
  have b3 : Below w.heap.size w w3 := (b2.trans (hbB.mono b2.size)).trans (hbC.mono (by omega))
  have HF := hide hfo
  have HU := hide (And.intro t1 (And.intro t2 (And.intro t3 (And.intro u1 (And.intro u2 u3)))))
  have HQ := hide q2
  clear t1 t2 t3 u1 u2 u3 q2 hfo hbB hbC
  go_wp2_with fail
  obtain ⟨v1, v2, v3, v4⟩ := two_new w3 (.cells #[.func (.func 155) #[] #[.pointer (some ⟨w2.heap.size + 2, 0, none⟩), .pointer (some ⟨w2.heap.size + 2 + 1, 0, none⟩)]] 53) (.cells #[.int .u32 0] 97)
  have b5 : Below w.heap.size w ((w3.alloc (.cells #[.func (.func 155) #[] #[.pointer (some ⟨w2.heap.size + 2, 0, none⟩), .pointer (some ⟨w2.heap.size + 2 + 1, 0, none⟩)]] 53)).alloc (.cells #[.int .u32 0] 97)) := (b3.alloc b3.size _).alloc (by have := b3.size; simp; omega) _
  generalize (w3.alloc (.cells #[.func (.func 155) #[] #[.pointer (some ⟨w2.heap.size + 2, 0, none⟩), .pointer (some ⟨w2.heap.size + 2 + 1, 0, none⟩)]] 53)).alloc (.cells #[.int .u32 0] 97) = W5 at *
  obtain ⟨t1, t2, t3, u1, u2, u3⟩ := HU.out
  rw [t4] at u1 u2 u3 u4
  rw [u4] at v1 v2 v3
  have o5 : ∀ k, k < w2.heap.size → W5.heap[k]? = w2.heap[k]? := fun k hk => by rw [v3 k (by omega), u3 k (by omega), t3 k hk]
  have r2 : W5.heap[w2.heap.size]? = _ := (v3 _ (by omega)).trans ((u3 _ (by omega)).trans t1)
  have r3 : W5.heap[w2.heap.size + 1]? = _ := (v3 _ (by omega)).trans ((u3 _ (by omega)).trans t2)
  have r4 : W5.heap[w2.heap.size + 2]? = _ := (v3 _ (by omega)).trans u1
  have r5 : W5.heap[w2.heap.size + 2 + 1]? = _ := (v3 _ (by omega)).trans u2
  have r1 : W5.heap[w1.heap.size]? = _ := (o5 _ (by omega)).trans ((hb2.block _ (by omega)).trans HQ.out)
  have hfw : Frm [] w W5 := below_frm b5 []
  have hL0 : ReAt w1.heap.size w2.heap.size (w2.heap.size + 2 + 2 + 1) (w2.heap.size + 1) (w2.heap.size + 2 + 2) bc bm ba mb bt be bp (w2.heap.size + 2) (w2.heap.size + 2 + 1) S all 0 ⟨(0, 4294967295), Co.fo0, Co.win 0 all, Co.srcK 0 all⟩ W5 :=
    ⟨r1, r2, v2, r3, v1, HF.out.keep (fun k hk => o5 k (by rcases hk with rfl | rfl | rfl | rfl <;> assumption)), ⟨⟨p0, hR0.frm hfw (by simp) (by simp) (by simp), hp0, hl0⟩, r4, by show W5.heap[_]? = _; rw [r5]; simp [Co.srcK], by omega⟩⟩
  have hF0 : Frm [bp] w W5 := hfw.mono (by simp)
  have i1 : w.heap.size ≤ w1.heap.size := y1
  have i2 : w.heap.size ≤ w2.heap.size + 2 + 2 + 1 := by omega
  have i3 : w.heap.size ≤ ba := by omega
  have i4 : w.heap.size ≤ mb := by omega
  have i5 : w.heap.size ≤ w2.heap.size + 2 + 1 := by omega
  have HL0 := hide hL0
  clear hL0 r1 r2 r3 r4 r5 v1 v2 v3 v4 u1 u2 u3 u4 t1 t2 t3 t4 HU HQ HF o5 hfw b5 b3 b2 y1 y2 hb1 hb2 n1 n2 n3 n4 z2 lc lm la lb hR0 hp0 hl0 lT lE
  generalize w2.heap.size + 2 + 2 + 1 = bnum at *
  generalize w2.heap.size + 2 + 2 = bnd at *
  generalize w2.heap.size + 2 + 1 = bz at *
  generalize w2.heap.size + 2 = bn at *
  generalize w2.heap.size + 1 = bpv at *
  generalize w2.heap.size = bcv at *
  generalize w1.heap.size = bl at *
  go_loopw [17] (fun iv wr => ∃ k : Nat, k ≤ 32 ∧ iv = .int .i64 k ∧ ReAt bl bcv bnum bpv bnd bc bm ba mb bt be bp bn bz S all 0 ⟨(0, 4294967295), Co.fo0, Co.win k all, Co.srcK k all⟩ wr ∧ Frm [bp] w wr) (fun iv _ => 32 - (intOf iv).toNat)
  case atStart => exact ⟨0, by omega, rfl, HL0.out, hF0⟩
  case round =>
    clear HL0 hF0
    obtain ⟨k, hk, rfl, hL, hbx⟩ := hrel
    by_cases hlt : k < 32
    · have cnd : wr.cell? ⟨bnd, 0, none⟩ = some (.func (.func 155) #[] #[.pointer (some ⟨bn, 0, none⟩), .pointer (some ⟨bz, 0, none⟩)]) := by rw [Lib.cell_of_heap hL.nd]; rfl
      have CD := hide (padded_any bt be bp bn bz S all (Co.srcK k all) wr hS hb hs (by unfold Co.srcK; simp only; omega) hL.pa)
      have HL := hide hL
      clear hL
      go_wp2_with fail
      go_at_call 155
      refine CD.out.mono ?_
      rintro e w6 ⟨hf6, ⟨d, q', hd, hd2, hq', rfl, hpa6⟩ | ⟨hd, rfl⟩⟩
      · have hsd := Co.srcK_digit hlt all
        rw [hsd] at hd
        obtain ⟨hd1, hq1⟩ := Prod.mk.inj (Option.some.inj hd)
        subst hq1
        have hL6 := HL.out.dig hf6 hpa6
        have hwin : Co.shiftIn (Co.win k all) d = Co.win (k + 1) all := by rw [← hd1]; exact Co.shift_win' hlt all hb
        have hF6 : Frm [bp] w w6 := ⟨hf6.os.trans hbx.os, hf6.tape.trans hbx.tape, hf6.output.trans hbx.output, Nat.le_trans hbx.size hf6.size, fun j hj hx => (hf6.block j (by have := hbx.size; omega) (by simp at hx; simp; exact ⟨hx, by omega⟩)).trans (hbx.block j hj hx)⟩
        have cnum : w6.cell? ⟨bnum, 0, none⟩ = some (.int .u32 (Co.win k all : Nat)) := by rw [Lib.cell_of_heap hL6.num]; rfl
        have fnum : w6.frozen? ⟨bnum, 0, none⟩ = false := Lib.frozen_of_heap hL6.num 0
        have hw32 : IntKind.u32.wrap (d : Int) = (d : Int) := IntWalk.u32_in _ (by omega)
        have hsh := shift_or (Co.win k all) d hd2
        have hwlt : Co.win k all < 4294967296 := by
          have h1 := Co.win_lt k all hb
          have h2 := Nat.pow_le_pow_right (n := 2) (by omega) (show k ≤ 32 by omega)
          have e : (2 : Nat) ^ 32 = 4294967296 := by decide
          omega
        rw [hwin] at hsh
        have hnum7 : (w6.setCell ⟨bnum, 0, none⟩ (.int .u32 ((Co.win (k + 1) all : Nat) : Int))).heap[bnum]? = some (.cells #[.int .u32 ((Co.win (k + 1) all : Nat) : Int)] 97 (0, 0)) := by
          rw [heap_setCell_same _ _ _ _ _ _ hL6.num]
          rfl
        have hL7 := hL6.numb (OnlyAt.set' bnum 0 w6 _).frm hnum7
        have hF7 : Frm [bp] w (w6.setCell ⟨bnum, 0, none⟩ (.int .u32 ((Co.win (k + 1) all : Nat) : Int))) := ⟨hF6.os, hF6.tape, hF6.output, by have := hF6.size; simpa using this, fun j hj hx => by rw [heap_setCell_other _ _ _ _ (by show j ≠ bnum; omega)]; exact hF6.block j hj hx⟩
        have HL7 := hide hL7
        clear hL6 hL7 hnum7 CD HL hf6 hpa6 hd cnd hF6 hwin hsd hd1 hbx
        go_wp2
        go_roundw
        case rel => exact ⟨k + 1, by omega, by go_num, HL7.out, hF7⟩
        case measure => simp [intOf]; omega
      · rw [Co.srcK_digit hlt all] at hd
        cases hd
    · have hke : k = 32 := by omega
      rw [hke, Co.srcK_end] at hL
      have HL := hide hL
      clear hL hke
      go_wp2
      go_ret
      exact ⟨bl, bcv, bnum, bpv, bnd, bc, bm, ba, mb, bn, bz, rfl, HL.out, hbx, i1, i2, i3, i4, i5⟩
end Go.Proofs.YtkiindkoiomieaaGreatDoor
end

section
/-
  P7: nextTold, whatever function the bits are asked of.
-/
namespace Go.Proofs.YtkiindkoiomieaaGreatDoor
open Go.RowKit

/-- What a block is given up with. -/
def gaveUp : PanicEntry := { v := .iface 9 (.string ⟨#[116, 104, 105, 115, 32, 115, 116, 97, 110, 100, 115, 32, 102, 111, 114, 32, 110, 111, 32, 98, 121, 116, 101, 115]⟩), recovered := false }

theorem told_none {σ : Type} {nx : σ → Option (Nat × σ)} {s : σ} (h : Co.numG nx s = none) : Co.toldG nx s = none := by
  unfold Co.toldG
  rw [h]
theorem told_some {σ : Type} {nx : σ → Option (Nat × σ)} {s t : σ} {m : Nat} (h : Co.numG nx s = some (m, t)) : Co.toldG nx s = if m ≤ 256 then some (m, t) else none := by
  unfold Co.toldG
  rw [h]

set_option maxHeartbeats 1000000 in
set_option maxRecDepth 100000 in
theorem told_gen {σ : Type} (F : Nat) (caps : Array Value) (eg : ∀ args w, (callFunc F args).run Tryz.prog w = .ok (.enter F args) w) (nx : σ → Option (Nat × σ)) (I : Nat → Nat → σ → World → Prop) (X : List Nat) (N : Nat) (hp : Gives F caps nx I X N)
    (n : Nat) (s : σ) (w : World) (hn : n + 61 ≤ N) (h : I n 1 s w) :
    Calls Tryz.prog 137 #[.func (.func F) #[] caps] w fun e w' => Frm X w w' ∧ ((∃ m t n', Co.toldG nx s = some (m, t) ∧ 1 ≤ m ∧ m ≤ 256 ∧ n' ≤ n + 61 ∧ e = .returned (.int .i64 (m : Int)) ∧ I n' 1 t w') ∨ (Co.toldG nx s = none ∧ e = .panicked [gaveUp])) := by
  have cN := hide (number_gen F caps eg nx I X N hp n s w hn h)
  clear hp h
  go_enter Tryz.func137, Tryz.ntmps137
  go_wp2_with fail
  go_at_call 40
  refine cN.out.mono ?_
  rintro e w1 ⟨hb1, ⟨m, t, n1, hm, hm1, hm2, hn1, rfl, hI1⟩ | ⟨hm, x, rfl⟩⟩
  · have HM := hide (told_some hm)
    have HI := hide hI1
    clear hm hI1
    by_cases h256 : m ≤ 256
    · go_wp2
      go_ret
      exact ⟨hb1, .inl ⟨m, t, n1, by rw [HM.out, if_pos h256], hm1, h256, hn1, rfl, HI.out⟩⟩
    · go_wp2
      exact ⟨rfl, hb1, .inr ⟨by rw [HM.out, if_neg h256], rfl⟩⟩
  · have HM := hide (told_none hm)
    clear hm
    go_wp2
    exact ⟨rfl, hb1, .inr ⟨HM.out, rfl⟩⟩
end Go.Proofs.YtkiindkoiomieaaGreatDoor
end

