import Derived.Test.YtkiindkoiomieaaGreatDoorJ13
import Derived.Test.YtkiindkoiomieaaGreatDoorJ06
import Derived.Test.YtkiindkoiomieaaGreatDoorJ11
import Derived.Defers
import Derived.Recover
import Derived.Laws.Pointers
import Derived.Test.YtkiindkoiomieaaGreatDoorJ10
import Derived.Test.YtkiindkoiomieaaGreatDoorJ12
import Derived.Deep.LoopGhost
section
/-
  P7: the walks of unpackedBlock.
-/
namespace Go.Proofs.YtkiindkoiomieaaGreatDoor
open Go.RowKit

theorem enters_nextLikely (args : Array Value) (w : World) : (callFunc 132 args).run Tryz.prog w = .ok (.enter 132 args) w := enters_of Tryz.func132 (by kernel_rfl) rfl args w

theorem BitsAt.below {bt be bp H : Nat} {S : ByteArray} {all l : List Nat} {w w' : World} (h : BitsAt bt be bp S all l w) (hb : Below H w w') (h1 : bt < H) (h2 : be < H) (h3 : bp < H) : BitsAt bt be bp S all l w' := by
  obtain ⟨p, hR, hp, hl⟩ := h
  exact ⟨p, hR.keep (fun k hk => hb.block k (by rcases hk with rfl | rfl | rfl <;> assumption)), hp, hl⟩

theorem ReAt.below {bl bcv bnum bpv bnd bc bm ba mb bt be bp bn bz : Nat} {S : ByteArray} {all : List Nat} {n H : Nat} {r : Co.Re} {w w' : World} (h : ReAt bl bcv bnum bpv bnd bc bm ba mb bt be bp bn bz S all n r w) (hb : Below H w w') (hl : ∀ k ∈ [bl, bcv, bnum, bpv, bnd, bc, bm, ba, mb, bt, be, bp, bn, bz], k < H) : ReAt bl bcv bnum bpv bnd bc bm ba mb bt be bp bn bz S all n r w' := by
  have key : ∀ k, k ∈ [bl, bcv, bnum, bpv, bnd, bc, bm, ba, mb, bt, be, bp, bn, bz] → w'.heap[k]? = w.heap[k]? := fun k hk => hb.block k (hl k hk)
  refine ⟨by unfold SpanAt; rw [key bl (by simp)]; exact h.sp, by rw [key bcv (by simp)]; exact h.cv, by rw [key bnum (by simp)]; exact h.num, by rw [key bpv (by simp)]; exact h.pv, by rw [key bnd (by simp)]; exact h.nd, h.fo.keep (fun k hk => key k ?_), ?_⟩
  · rcases hk with rfl | rfl | rfl | rfl <;> simp
  · exact ⟨h.pa.rd.below hb (hl bt (by simp)) (hl be (by simp)) (hl bp (by simp)), by rw [key bn (by simp)]; exact h.pa.hN, by rw [key bz (by simp)]; exact h.pa.hZ, h.pa.ne⟩

theorem ReAt.lts {bl bcv bnum bpv bnd bc bm ba mb bt be bp bn bz : Nat} {S : ByteArray} {all : List Nat} {n : Nat} {r : Co.Re} {w : World} (h : ReAt bl bcv bnum bpv bnd bc bm ba mb bt be bp bn bz S all n r w) : ∀ k ∈ [bl, bcv, bnum, bpv, bnd, bc, bm, ba, mb, bt, be, bp, bn, bz], k < w.heap.size := by
  obtain ⟨es, clock, hmb⟩ := h.hmb
  obtain ⟨p, hR, _, _⟩ := h.pa.rd
  intro k hk
  simp only [List.mem_cons, List.mem_nil_iff, or_false] at hk
  rcases hk with rfl | rfl | rfl | rfl | rfl | rfl | rfl | rfl | rfl | rfl | rfl | rfl | rfl | rfl
  · exact h.sp.lt
  · exact heap_lt0 h.cv
  · exact heap_lt0 h.num
  · exact heap_lt0 h.pv
  · exact heap_lt0 h.nd
  · exact heap_lt0 h.fo.hC
  · exact heap_lt0 h.fo.hM
  · exact heap_lt0 h.fo.hA
  · exact heap_lt0 hmb
  · exact heap_lt0 hR.hT
  · exact heap_lt0 hR.hE
  · exact heap_lt0 hR.hP
  · exact heap_lt0 h.pa.hN
  · exact heap_lt0 h.pa.hZ

theorem gives_likely (bl bcv bnum bpv bnd bc bm ba mb bt be bp bn bz H : Nat) (S : ByteArray) (all : List Nat) (hS : S.data.toList = all.map ch) (hb : ∀ d ∈ all, d < 2) (hs : S.size ≤ 100000) :
    Gives 132 #[.pointer (some ⟨bl, 0, none⟩), .pointer (some ⟨bcv, 0, none⟩), .pointer (some ⟨bnum, 0, none⟩), .pointer (some ⟨bpv, 0, none⟩), .pointer (some ⟨bnd, 0, none⟩)] Co.Re.next (fun n q r w => ReAt bl bcv bnum bpv bnd bc bm ba mb bt be bp bn bz S all n r w ∧ ReOk r ∧ r.fo.pl.2 = q ∧ ∀ k ∈ [bl, bcv, bnum, bpv, bnd, bc, bm, ba, mb, bt, be, bp, bn, bz], k < H) [bl, bnum, ba, mb, bp, bz] 50000 := by
  intro n q r w hn _ hq2 ⟨hR, hok, hq, hH⟩
  refine (nextLikely_any bl bcv bnum bpv bnd bc bm ba mb bt be bp bn bz S all n r w hS hb hs (by omega) (by rw [hq]; exact hq2) hok hR).mono ?_
  rintro e w' ⟨hf, ⟨b, r', h1, h2, rfl, h3, h4, h5⟩ | ⟨h1, rfl⟩⟩
  · exact ⟨hf, .inl ⟨b, r', h1, h2, rfl, h3, h4, by rw [h5, hq], hH⟩⟩
  · exact ⟨hf, .inr ⟨h1, rfl⟩⟩

theorem re0_ok (all : List Nat) (hb : ∀ d ∈ all, d < 2) : ReOk (Co.re0 all) := by
  refine ⟨Co.wr0_open.1, Co.wr0_open.2.1, Co.wr0_open.2.2, ?_, ?_⟩
  · have := Co.win_lt 32 all hb
    exact this
  · show min 32 all.length ≤ 32
    omega

theorem behind_length : ∀ (s l : List UInt8), (behindL l s).length = s.length
  | [], _ => rfl
  | c :: s, l => by
    rw [behindL, List.length_cons, List.length_cons, behind_length s]

set_option maxHeartbeats 4000000 in
set_option maxRecDepth 100000 in
theorem unpackedBlock_any (P : ByteArray) (size : Nat) (w : World) (hP : P.size ≤ 4000) (hsz : size ≤ 200) :
    Calls Tryz.prog 77 #[.string P, .int .i64 (size : Int)] w fun e w' => Below w.heap.size w w' ∧ ∃ r, Co.UnOf P.data.toList size r ∧ ((∃ d, r = some d ∧ e = .returned (.string ⟨d.toArray⟩)) ∨ (r = none ∧ e = .panicked [gaveUp])) := by
  by_cases h0 : P.size = 0
  · have hPe : P = ByteArray.empty := bytes_ext (by
      have : P.data.toList.length = 0 := by rw [← Lib.size_eq]; exact h0
      rw [List.length_eq_zero_iff.1 this]
      rfl)
    subst hPe
    go_enter Tryz.func77, Tryz.ntmps77
    go_wp2
    exact ⟨rfl, Below.refl _ _, none, rfl, .inr ⟨rfl, rfl⟩⟩
  · have hpos : 0 < P.size := by omega
    have hcons : P.data.toList = P[0] :: P.data.toList.drop 1 := by
      have := drop_byte P 0 hpos
      simpa using this
    have hemp : P.toList.isEmpty = false := by rw [ByteArray.toList_eq, hcons]; rfl
    obtain ⟨R, hR⟩ : ∃ R : ByteArray, R = ⟨(P.data.toList.drop 1).toArray⟩ := ⟨_, rfl⟩
    have hRd : R.data.toList = P.data.toList.drop 1 := by rw [hR]
    have hRs : R.size ≤ 4000 := by rw [Lib.size_eq, hRd, List.length_drop, ← Lib.size_eq]; omega
    have hsl : ∀ W, (Instr.slice 9 (.string P) (some (.int .i64 1)) none none).run Tryz.prog W = .ok (.string R) W := fun W => by
      rw [hR]
      exact slice_from P 1 (by omega) W
    obtain ⟨all, hall⟩ : ∃ all, all = Co.bitsF R.data.toList := ⟨_, rfl⟩
    have hbits : ∀ d ∈ all, d < 2 := by rw [hall]; exact Co.bitsF_bits _
    obtain ⟨SB, hSB⟩ : ∃ SB : ByteArray, SB = ⟨(all.map ch).toArray⟩ := ⟨_, rfl⟩
    have hSBd : SB.data.toList = all.map ch := by rw [hSB]
    have hSBs : SB.size ≤ 100000 := by rw [Lib.size_eq, hSBd, List.length_map, hall, Co.bitsF_length, ← Lib.size_eq]; omega
    have CBo := hide (bitsOf_any R w (by omega))
    rw [← hall, ← hSB] at CBo
    have hunD : ∀ r, Co.UnOf P.data.toList size r ↔ (if P[0] = 2 then Co.BackTo size (Co.placesG Co.Re.next size size [] (Co.re0 all)) r else if P[0] = 1 then Co.BackTo size (Co.placesG Co.nxL size size [] all) r else if P[0] = 0 then r = Co.chk R.data.toList size else r = none) := fun r => by
      rw [hcons, hall, hRd]
      exact Iff.rfl
    have HUD := hide hunD
    clear hunD hcons hR hRd hall hSB
    have HSB := hide hSBd
    have HBT := hide hbits
    clear hSBd hbits
    go_enter Tryz.func77, Tryz.ntmps77
    go_wp2_with fail
    go_at_call 105
    refine CBo.out.mono ?_
    rintro e w1 ⟨rfl, hb1⟩
    go_wp2_with fail
    go_at_call 39
    refine (reader_any SB w1).mono ?_
    rintro e w2 ⟨rfl, hR2, hb2, hsz2⟩
    have y1 := hb1.size
    have k2 : Below w.heap.size w w2 := hb1.trans (hb2.mono y1)
    have hBA : BitsAt w1.heap.size (w1.heap.size + 1) (w1.heap.size + 1 + 1) SB all all w2 := ⟨0, hR2, by omega, rfl⟩
    have hl2 : w1.heap.size + 3 ≤ w2.heap.size := by rw [hsz2]; exact Nat.le_refl _
    have HBA := hide hBA
    clear hBA hR2 hb2 hsz2 hb1
    by_cases c2 : P[0] = 2
    · have hcI : (P[0].toNat : Int) = 2 := by rw [c2]; rfl
      have HU : Hid (∀ r, Co.BackTo size (Co.placesG Co.Re.next size size [] (Co.re0 all)) r → Co.UnOf P.data.toList size r) := hide (fun r hr => (HUD.out r).2 (by rw [if_pos c2]; exact hr))
      clear c2 HUD
      go_wp2_with fail
      go_at_call 106
      refine (likelyReader_any _ _ _ SB all w2 HSB.out HBT.out hSBs HBA.out).mono ?_
      rintro e w3 ⟨bl, bcv, bnum, bpv, bnd, bc, bm, ba, mb, bn, bz, rfl, hRe, hf3, i1, i2, i3, i4, i5⟩
      have y3 := hf3.size
      have k3 : Below w.heap.size w w3 := k2.trans (hf3.below (by omega) (fun k hk => by simp at hk; omega))
      have hlts := hRe.lts
      have hst : Stays (fun n q (r : Co.Re) (w : World) => ReAt bl bcv bnum bpv bnd bc bm ba mb w1.heap.size (w1.heap.size + 1) (w1.heap.size + 1 + 1) bn bz SB all n r w ∧ ReOk r ∧ r.fo.pl.2 = q ∧ ∀ k ∈ [bl, bcv, bnum, bpv, bnd, bc, bm, ba, mb, w1.heap.size, w1.heap.size + 1, w1.heap.size + 1 + 1, bn, bz], k < w3.heap.size) w3.heap.size := fun n q r u u' hI hb => ⟨hI.1.below hb hI.2.2.2, hI.2⟩
      have CPl := hide (places_gen 132 _ enters_nextLikely Co.Re.next _ _ 50000 (gives_likely bl bcv bnum bpv bnd bc bm ba mb w1.heap.size (w1.heap.size + 1) (w1.heap.size + 1 + 1) bn bz w3.heap.size SB all HSB.out HBT.out hSBs) size (Co.re0 all) w3 hsz (by omega) (fun k hk => hlts k (by simp at hk; rcases hk with rfl | rfl | rfl | rfl | rfl | rfl <;> simp)) hst ⟨hRe, re0_ok all HBT.out, rfl, hlts⟩)
      clear hRe hlts hst HBA
      go_wp2_with fail
      go_at_call 107
      refine CPl.out.mono ?_
      rintro e w4 ⟨hf4, ⟨x, hx, hxl, rfl⟩ | ⟨hx, rfl⟩⟩
      · have k4 : Below w.heap.size w w4 := k3.trans (hf4.below (by omega) (fun k hk => by simp at hk; omega))
        clear CPl hf4 hf3
        have CB := hide (bytesAt_any ⟨x.toArray⟩ w4 (by rw [Lib.size_eq]; exact hxl))
        obtain ⟨Y, hY⟩ : ∃ Y : ByteArray, Y = ⟨(behindL (part 256) x).toArray⟩ := ⟨_, rfl⟩
        have hYd : Y.data.toList = behindL (part 256) x := by rw [hY]
        have hYs : Y.size ≤ 500 := by rw [Lib.size_eq, hYd, behind_length]; exact hxl
        have eY : (.string ⟨(behindL (part 256) (⟨x.toArray⟩ : ByteArray).data.toList).toArray⟩ : Value) = .string Y := by rw [hY]
        rw [eY] at CB
        have HY := hide hYd
        have HX := hide hx
        clear hY eY hYd hx
        go_wp2_with fail
        go_at_call 36
        refine CB.out.mono ?_
        rintro e wb ⟨rfl, hbb⟩
        go_wp2_with fail
        go_at_call 58
        refine (turnedBack_any Y wb hYs).mono ?_
        rintro e wc ⟨b, ws, rfl, g1, f1, t1, hbc⟩
        rw [HY.out] at t1
        have hT : Co.TurnOf b (behindL (part 256) x) := ⟨ws, g1, f1, t1⟩
        have kc : Below w.heap.size w wc := (k4.trans (hbb.mono k4.size)).trans (hbc.mono (Nat.le_trans k4.size hbb.size))
        obtain ⟨D, hD⟩ : ∃ D : ByteArray, D = ⟨b.toArray⟩ := ⟨_, rfl⟩
        have hDd : D.data.toList = b := by rw [hD]
        have eD : strV b = .string D := by rw [hD]; rfl
        rw [eD]
        have hDs : D.size = b.length := by rw [Lib.size_eq, hDd]
        have hbl : b.length ≤ 500 := by rw [← hT.length, behind_length]; exact hxl
        have HT := hide hT
        have HD := hide hD
        have HDS := hide hDs
        have hDle : D.size ≤ 500 := by rw [hDs]; exact hbl
        clear hT hD eD hDd g1 f1 t1 hDs
        by_cases hlen : D.size = size
        · have hneq : ((D.size : Int) != (size : Int)) = false := by rw [hlen]; simp
          have hun : Co.UnOf P.data.toList size (some b) := HU.out _ (by rw [HX.out]; exact ⟨b, HT.out, by unfold Co.chk; rw [if_pos (HDS.out.symm.trans hlen)]⟩)
          have HUN := hide hun
          have HLE := hide hlen
          clear hun hlen
          go_wp2_with fail
          go_at_call 56
          refine (clone_any D wc (by rw [HLE.out]; omega)).mono ?_
          rintro e wd ⟨rfl, hbd⟩
          go_wp2
          go_ret
          exact ⟨kc.trans (hbd.mono kc.size), some b, HUN.out, .inl ⟨b, rfl, by rw [← HD.out]; rfl⟩⟩
        · have hneq : ((D.size : Int) != (size : Int)) = true := by rw [bne_iff_ne]; omega
          have hun : Co.UnOf P.data.toList size none := HU.out _ (by rw [HX.out]; exact ⟨b, HT.out, by unfold Co.chk; rw [if_neg (fun e => hlen (HDS.out.trans e))]⟩)
          have HUN := hide hun
          clear hun
          go_wp2
          exact ⟨rfl, kc, none, HUN.out, .inr ⟨rfl, rfl⟩⟩
      · have k4 : Below w.heap.size w w4 := k3.trans (hf4.below (by omega) (fun k hk => by simp at hk; omega))
        have hun : Co.UnOf P.data.toList size none := HU.out _ (by rw [hx]; rfl)
        have HUN := hide hun
        clear hun hx CPl
        go_wp2
        exact ⟨rfl, k4, none, HUN.out, .inr ⟨rfl, rfl⟩⟩
    · have t2 : ((P[0].toNat : Int) == 2) = false := by
        rw [beq_eq_false_iff_ne]
        intro e
        exact c2 (UInt8.toNat_inj.1 (by show P[0].toNat = 2; omega))
      by_cases c1 : P[0] = 1
      · have t1 : ((P[0].toNat : Int) == 1) = true := by rw [c1]; rfl
        have HU : Hid (∀ r, Co.BackTo size (Co.placesG Co.nxL size size [] all) r → Co.UnOf P.data.toList size r) := hide (fun r hr => (HUD.out r).2 (by rw [if_neg c2, if_pos c1]; exact hr))
        clear c2 c1 HUD
        have hst : Stays (fun (_ _ : Nat) (l : List Nat) (w : World) => BitsAt w1.heap.size (w1.heap.size + 1) (w1.heap.size + 1 + 1) SB all l w) w2.heap.size := fun n q r u u' hI hb => hI.below hb (by omega) (by omega) (by omega)
        have CPl := hide (places_gen 71 _ enters_next Co.nxL _ _ 50000 (gives_plain w1.heap.size (w1.heap.size + 1) (w1.heap.size + 1 + 1) SB all 50000 HSB.out HBT.out hSBs) size all w2 hsz (by omega) (fun k hk => by simp at hk; omega) hst HBA.out)
        clear hst HBA
        go_wp2_with fail
        go_at_call 107
        refine CPl.out.mono ?_
        rintro e w4 ⟨hf4, ⟨x, hx, hxl, rfl⟩ | ⟨hx, rfl⟩⟩
        · have k4 : Below w.heap.size w w4 := k2.trans (hf4.below (by omega) (fun k hk => by simp at hk; omega))
          clear CPl hf4
          have CB := hide (bytesAt_any ⟨x.toArray⟩ w4 (by rw [Lib.size_eq]; exact hxl))
          obtain ⟨Y, hY⟩ : ∃ Y : ByteArray, Y = ⟨(behindL (part 256) x).toArray⟩ := ⟨_, rfl⟩
          have hYd : Y.data.toList = behindL (part 256) x := by rw [hY]
          have hYs : Y.size ≤ 500 := by rw [Lib.size_eq, hYd, behind_length]; exact hxl
          have eY : (.string ⟨(behindL (part 256) (⟨x.toArray⟩ : ByteArray).data.toList).toArray⟩ : Value) = .string Y := by rw [hY]
          rw [eY] at CB
          have HY := hide hYd
          have HX := hide hx
          clear hY eY hYd hx
          go_wp2_with fail
          go_at_call 36
          refine CB.out.mono ?_
          rintro e wb ⟨rfl, hbb⟩
          go_wp2_with fail
          go_at_call 58
          refine (turnedBack_any Y wb hYs).mono ?_
          rintro e wc ⟨b, ws, rfl, g1, f1, t1, hbc⟩
          rw [HY.out] at t1
          have hT : Co.TurnOf b (behindL (part 256) x) := ⟨ws, g1, f1, t1⟩
          have kc : Below w.heap.size w wc := (k4.trans (hbb.mono k4.size)).trans (hbc.mono (Nat.le_trans k4.size hbb.size))
          obtain ⟨D, hD⟩ : ∃ D : ByteArray, D = ⟨b.toArray⟩ := ⟨_, rfl⟩
          have hDd : D.data.toList = b := by rw [hD]
          have eD : strV b = .string D := by rw [hD]; rfl
          rw [eD]
          have hDs : D.size = b.length := by rw [Lib.size_eq, hDd]
          have hbl : b.length ≤ 500 := by rw [← hT.length, behind_length]; exact hxl
          have HT := hide hT
          have HD := hide hD
          have HDS := hide hDs
          have hDle : D.size ≤ 500 := by rw [hDs]; exact hbl
          clear hT hD eD hDd g1 f1 t1 hDs
          by_cases hlen : D.size = size
          · have hneq : ((D.size : Int) != (size : Int)) = false := by rw [hlen]; simp
            have hun : Co.UnOf P.data.toList size (some b) := HU.out _ (by rw [HX.out]; exact ⟨b, HT.out, by unfold Co.chk; rw [if_pos (HDS.out.symm.trans hlen)]⟩)
            have HUN := hide hun
            have HLE := hide hlen
            clear hun hlen
            go_wp2_with fail
            go_at_call 56
            refine (clone_any D wc (by rw [HLE.out]; omega)).mono ?_
            rintro e wd ⟨rfl, hbd⟩
            go_wp2
            go_ret
            exact ⟨kc.trans (hbd.mono kc.size), some b, HUN.out, .inl ⟨b, rfl, by rw [← HD.out]; rfl⟩⟩
          · have hneq : ((D.size : Int) != (size : Int)) = true := by rw [bne_iff_ne]; omega
            have hun : Co.UnOf P.data.toList size none := HU.out _ (by rw [HX.out]; exact ⟨b, HT.out, by unfold Co.chk; rw [if_neg (fun e => hlen (HDS.out.trans e))]⟩)
            have HUN := hide hun
            clear hun
            go_wp2
            exact ⟨rfl, kc, none, HUN.out, .inr ⟨rfl, rfl⟩⟩
        · have k4 : Below w.heap.size w w4 := k2.trans (hf4.below (by omega) (fun k hk => by simp at hk; omega))
          have hun : Co.UnOf P.data.toList size none := HU.out _ (by rw [hx]; rfl)
          have HUN := hide hun
          clear hun hx CPl
          go_wp2
          exact ⟨rfl, k4, none, HUN.out, .inr ⟨rfl, rfl⟩⟩
      · have t1 : ((P[0].toNat : Int) == 1) = false := by
          rw [beq_eq_false_iff_ne]
          intro e
          exact c1 (UInt8.toNat_inj.1 (by show P[0].toNat = 1; omega))
        by_cases c0 : P[0] = 0
        · have t0 : ((P[0].toNat : Int) == 0) = true := by rw [c0]; rfl
          have HU : Hid (∀ r, r = Co.chk R.data.toList size → Co.UnOf P.data.toList size r) := hide (fun r hr => (HUD.out r).2 (by rw [if_neg c2, if_neg c1, if_pos c0]; exact hr))
          clear c2 c1 c0 HUD
          by_cases hlen : R.size = size
          · have hneq : ((R.size : Int) != (size : Int)) = false := by rw [hlen]; simp
            have hun : Co.UnOf P.data.toList size (some R.data.toList) := HU.out _ (by unfold Co.chk; rw [if_pos ((Lib.size_eq R).symm.trans hlen)])
            have HUN := hide hun
            have HLE := hide hlen
            clear hun hlen
            go_wp2_with fail
            go_at_call 56
            refine (clone_any R w2 (by rw [HLE.out]; omega)).mono ?_
            rintro e wd ⟨rfl, hbd⟩
            go_wp2
            go_ret
            exact ⟨k2.trans (hbd.mono k2.size), some R.data.toList, HUN.out, .inl ⟨R.data.toList, rfl, rfl⟩⟩
          · have hneq : ((R.size : Int) != (size : Int)) = true := by rw [bne_iff_ne]; omega
            have hun : Co.UnOf P.data.toList size none := HU.out _ (by unfold Co.chk; rw [if_neg (fun e => hlen ((Lib.size_eq R).trans e))])
            have HUN := hide hun
            clear hun
            go_wp2
            exact ⟨rfl, k2, none, HUN.out, .inr ⟨rfl, rfl⟩⟩
        · have t0 : ((P[0].toNat : Int) == 0) = false := by
            rw [beq_eq_false_iff_ne]
            intro e
            exact c0 (UInt8.toNat_inj.1 (by show P[0].toNat = 0; omega))
          have hun : Co.UnOf P.data.toList size none := (HUD.out none).2 (by rw [if_neg c2, if_neg c1, if_neg c0])
          have HUN := hide hun
          clear hun c2 c1 c0 HUD
          go_wp2
          exact ⟨rfl, k2, none, HUN.out, .inr ⟨rfl, rfl⟩⟩
end Go.Proofs.YtkiindkoiomieaaGreatDoor
end

section
/-
  P7: the walk of Unpack: what is given up from deep within is caught at the face.
-/
namespace Go.Proofs.YtkiindkoiomieaaGreatDoor
open Go.RowKit

set_option maxRecDepth 100000 in
theorem catch_given (a b : Addr) (x : ByteArray) (y : Int) (u : TypeId) (pv : Value) (older : List PanicEntry) (w : World) (ha : w.cell? a = some (.string x)) (hb : w.cell? b = some (.int .i64 y)) (fa : w.frozen? a = false) (fb : w.frozen? b = false) (hne : a.block ≠ b.block) :
    CallsD Tryz.prog 76 #[.pointer (some a), .pointer (some b)] (.panicking ({ v := .iface u pv, recovered := false } :: older)) w fun e u' w' =>
      e = .returned (.tuple #[]) ∧ u' = .panicking ({ v := .iface u pv, recovered := true } :: older) ∧ w' = (w.setCell a (.string ⟨#[]⟩)).setCell b (.int .i64 4) := by
  have hb' : (w.setCell a (.string ⟨#[]⟩)).cell? b = some (.int .i64 y) := by
    rw [World.cell?_of_block (heap_setCell_other _ _ _ _ (fun e => hne e.symm))]
    exact hb
  have fb' : (w.setCell a (.string ⟨#[]⟩)).frozen? b = false := by
    rw [World.frozen?_of_block (heap_setCell_other _ _ _ _ (fun e => hne e.symm))]
    exact fb
  refine callsD_of_wpS Tryz.func76 rfl fun c₀ cs hu => ?_
  apply wpS_seq
  apply wpS_region
  simp [wpOpsS, go_sem, recoverD, hu, Tryz.ntmps76, Exit.thenS]
  refine wpS_cond (t := true) (by simp [Act.eval, Array.replicate]) ?_
  simp only [if_true]
  apply wpS_region
  simp [wpOpsS, go_sem, ha, hb', fa, fb', bodyPostS, results, Tryz.results76]

theorem catch_idle (a b : Addr) (w : World) :
    CallsD Tryz.prog 76 #[.pointer (some a), .pointer (some b)] .returning w fun e u' w' => e = .returned (.tuple #[]) ∧ u' = .returning ∧ w' = w := by
  refine callsD_of_wpS Tryz.func76 rfl fun c₀ cs hu => ?_
  apply wpS_seq
  apply wpS_region
  simp [wpOpsS, go_sem, recoverD, hu, Tryz.ntmps76, Exit.thenS]
  refine wpS_cond (t := false) (by simp [Act.eval, Array.replicate]) ?_
  simp only [Bool.false_eq_true, if_false]
  refine wpS_of_wp (wp_skip ?_)
  cases c₀
  simp_all [bodyPostS, results, Tryz.results76]

set_option maxHeartbeats 1000000 in
set_option maxRecDepth 100000 in
theorem unpack_fit (P : ByteArray) (size : Nat) (w : World) (hP : P.size ≤ 4000) (hsz : size ≤ 200) :
    Calls Tryz.prog 43 #[.string P, .int .i64 (size : Int)] w fun e w' => Below w.heap.size w w' ∧ ∃ r, Co.UnOf P.data.toList size r ∧ ((∃ d, r = some d ∧ e = .returned (.tuple #[.string ⟨d.toArray⟩, .int .i64 0])) ∨ (r = none ∧ e = .returned (.tuple #[.string ⟨#[]⟩, .int .i64 4]))) := by
  have hmf : ∀ (fn : Fn) (first cap : Array Value) (w : World), (Instr.makeFunc fn first cap).run Tryz.prog w = .ok (.func fn first cap) w := fun _ _ _ _ => rfl
  go_enter_defers Tryz.func43, Tryz.ntmps43
  go_wp2_with fail
  go_at_call 77
  refine (unpackedBlock_any P size _ hP hsz).mono ?_
  obtain ⟨q0, q1, _, qs⟩ := two_new w (.cells #[.string ⟨#[]⟩] 9) (.cells #[.int .i64 0] 27)
  rintro e w1 ⟨hb1, r, hr, hcase⟩
  have k1 : Below w.heap.size w w1 := (((Below.refl _ w).alloc (Nat.le_refl _) _).alloc (by simp) _).trans (hb1.mono (by rw [qs]; omega))
  rw [qs] at hb1
  have g0 : w1.heap[w.heap.size]? = _ := (hb1.block _ (by omega)).trans q0
  have g1 : w1.heap[w.heap.size + 1]? = _ := (hb1.block _ (by omega)).trans q1
  have c0 : w1.cell? ⟨w.heap.size, 0, none⟩ = some (.string ⟨#[]⟩) := by rw [Lib.cell_of_heap g0]; rfl
  have c1 : w1.cell? ⟨w.heap.size + 1, 0, none⟩ = some (.int .i64 0) := by rw [Lib.cell_of_heap g1]; rfl
  have f0 : w1.frozen? ⟨w.heap.size, 0, none⟩ = false := Lib.frozen_of_heap g0 0
  have f1 : w1.frozen? ⟨w.heap.size + 1, 0, none⟩ = false := Lib.frozen_of_heap g1 0
  have HR := hide hr
  have HG := hide (And.intro g0 g1)
  clear hr hb1 q0 q1 qs g0 g1
  rcases hcase with ⟨d, rfl, rfl⟩ | ⟨rfl, rfl⟩
  · obtain ⟨D, hD⟩ : ∃ D : ByteArray, D = ⟨d.toArray⟩ := ⟨_, rfl⟩
    rw [← hD]
    have HD := hide hD
    clear hD
    go_wp2
    have e0 : ((w1.setCell ⟨w.heap.size, 0, none⟩ (.string D)).setCell ⟨w.heap.size + 1, 0, none⟩ (.int .i64 0)).cell? ⟨w.heap.size, 0, none⟩ = some (.string D) := by
      rw [World.cell?_of_block (heap_setCell_other _ _ _ _ (by show w.heap.size ≠ w.heap.size + 1; omega))]
      rw [Lib.cell_of_heap (heap_setCell_same _ _ _ _ _ _ HG.out.1)]
      rfl
    have e1 : ((w1.setCell ⟨w.heap.size, 0, none⟩ (.string D)).setCell ⟨w.heap.size + 1, 0, none⟩ (.int .i64 0)).cell? ⟨w.heap.size + 1, 0, none⟩ = some (.int .i64 0) := by
      have : (w1.setCell ⟨w.heap.size, 0, none⟩ (.string D)).heap[w.heap.size + 1]? = some (.cells #[.int .i64 0] 27 (0, 0)) := by
        rw [heap_setCell_other _ _ _ _ (by show w.heap.size + 1 ≠ w.heap.size; omega)]
        exact HG.out.2
      rw [Lib.cell_of_heap (heap_setCell_same _ _ _ _ _ _ this)]
      rfl
    refine leaves_cons (f := 76) (args := #[.pointer (some ⟨w.heap.size, 0, none⟩), .pointer (some ⟨w.heap.size + 1, 0, none⟩)]) (by simp) (by simp [go_sem]) ?_
    refine (catch_idle _ _ _).mono ?_
    rintro e u' w'' ⟨rfl, rfl, rfl⟩
    simp [Leaves, settle, results, Tryz.results43, go_sem, e0, e1]
    exact ⟨(k1.setCell (p := ⟨w.heap.size, 0, none⟩) (Nat.le_refl _) _).setCell (p := ⟨w.heap.size + 1, 0, none⟩) (Nat.le_succ _) _, some d, HR.out, d, rfl, HD.out⟩
  · go_wp2
    have e0 : ((w1.setCell ⟨w.heap.size, 0, none⟩ (.string ⟨#[]⟩)).setCell ⟨w.heap.size + 1, 0, none⟩ (.int .i64 4)).cell? ⟨w.heap.size, 0, none⟩ = some (.string ⟨#[]⟩) := by
      rw [World.cell?_of_block (heap_setCell_other _ _ _ _ (by show w.heap.size ≠ w.heap.size + 1; omega))]
      rw [Lib.cell_of_heap (heap_setCell_same _ _ _ _ _ _ HG.out.1)]
      rfl
    have e1 : ((w1.setCell ⟨w.heap.size, 0, none⟩ (.string ⟨#[]⟩)).setCell ⟨w.heap.size + 1, 0, none⟩ (.int .i64 4)).cell? ⟨w.heap.size + 1, 0, none⟩ = some (.int .i64 4) := by
      have : (w1.setCell ⟨w.heap.size, 0, none⟩ (.string ⟨#[]⟩)).heap[w.heap.size + 1]? = some (.cells #[.int .i64 0] 27 (0, 0)) := by
        rw [heap_setCell_other _ _ _ _ (by show w.heap.size + 1 ≠ w.heap.size; omega)]
        exact HG.out.2
      rw [Lib.cell_of_heap (heap_setCell_same _ _ _ _ _ _ this)]
      rfl
    refine leaves_cons (f := 76) (args := #[.pointer (some ⟨w.heap.size, 0, none⟩), .pointer (some ⟨w.heap.size + 1, 0, none⟩)]) (by simp) (by simp [go_sem]) ?_
    refine (catch_given ⟨w.heap.size, 0, none⟩ ⟨w.heap.size + 1, 0, none⟩ _ _ 9 _ [] w1 c0 c1 f0 f1 (by show w.heap.size ≠ w.heap.size + 1; omega)).mono ?_
    rintro e u' w'' ⟨rfl, rfl, rfl⟩
    simp [Leaves, settle, results, Tryz.results43, go_sem, e0, e1]
    exact ⟨(k1.setCell (p := ⟨w.heap.size, 0, none⟩) (Nat.le_refl _) _).setCell (p := ⟨w.heap.size + 1, 0, none⟩) (Nat.le_succ _) _, HR.out⟩

set_option maxHeartbeats 1000000 in
set_option maxRecDepth 100000 in
theorem unpack_long (P : ByteArray) (size : Int) (w : World) (hP : 4000 < P.size) (hm : P.size ≤ 9223372036854775807) :
    Calls Tryz.prog 43 #[.string P, .int .i64 size] w fun e w' => Below w.heap.size w w' ∧ e = .returned (.tuple #[.string ⟨#[]⟩, .int .i64 1]) := by
  have hdec : decide ((4000 : Int) < (P.size : Int)) = true := decide_eq_true (by omega)
  go_enter_defers Tryz.func43, Tryz.ntmps43
  go_wp2
  simp [bodyPostD, Leaves, results, Tryz.results43, go_sem]
  exact ((Below.refl _ w).alloc (Nat.le_refl _) _).alloc (by simp) _

set_option maxHeartbeats 1000000 in
set_option maxRecDepth 100000 in
theorem unpack_arg (P : ByteArray) (size : Int) (w : World) (hP : P.size ≤ 4000) (hs : size < 0 ∨ 200 < size) :
    Calls Tryz.prog 43 #[.string P, .int .i64 size] w fun e w' => Below w.heap.size w w' ∧ e = .returned (.tuple #[.string ⟨#[]⟩, .int .i64 2]) := by
  have hdec : decide ((4000 : Int) < (P.size : Int)) = false := decide_eq_false (by omega)
  have hd2 : (decide (size < 0) || decide (200 < size)) = true := by simpa using hs
  go_enter_defers Tryz.func43, Tryz.ntmps43
  by_cases h0 : size < 0
  · go_wp2
    simp [bodyPostD, Leaves, results, Tryz.results43, go_sem]
    exact ((Below.refl _ w).alloc (Nat.le_refl _) _).alloc (by simp) _
  · have h2 : 200 < size := by omega
    go_wp2
    simp [bodyPostD, Leaves, results, Tryz.results43, go_sem]
    exact ((Below.refl _ w).alloc (Nat.le_refl _) _).alloc (by simp) _
end Go.Proofs.YtkiindkoiomieaaGreatDoor
end

section
/-
  P9: the walks of taker and nextBlock.
-/
namespace Go.Proofs.YtkiindkoiomieaaGreatDoor
open Go.RowKit

/-- What the taker's functions keep. -/
structure TkAt (bt bp : Nat) (T : ByteArray) (p : Nat) (w : World) : Prop where
  hT : w.heap[bt]? = some (.cells #[.string T] 9 (0, 0))
  hP : w.heap[bp]? = some (.cells #[.int .i64 (p : Int)] 3 (0, 0))
  le : p ≤ T.size

theorem TkAt.keep {bt bp : Nat} {T : ByteArray} {p : Nat} {w w' : World} (h : TkAt bt bp T p w) (hb : Below w.heap.size w w') : TkAt bt bp T p w' :=
  ⟨by rw [hb.block bt (heap_lt0 h.hT)]; exact h.hT, by rw [hb.block bp (heap_lt0 h.hP)]; exact h.hP, h.le⟩

set_option maxHeartbeats 400000 in
set_option maxRecDepth 100000 in
theorem taker_any (T : ByteArray) (w : World) :
    Calls Tryz.prog 80 #[.string T] w fun e w' => e = .returned (.tuple #[.func (.func 109) #[] #[.pointer (some ⟨w.heap.size, 0, none⟩), .pointer (some ⟨w.heap.size + 1, 0, none⟩)], .func (.func 110) #[] #[.pointer (some ⟨w.heap.size + 1, 0, none⟩), .pointer (some ⟨w.heap.size, 0, none⟩)]]) ∧ w' = (w.alloc (.cells #[.string T] 9)).alloc (.cells #[.int .i64 0] 3) := by
  have hmf : ∀ (fn : Fn) (first cap : Array Value) (w : World), (Instr.makeFunc fn first cap).run Tryz.prog w = .ok (.func fn first cap) w := fun _ _ _ _ => rfl
  go_enter Tryz.func80, Tryz.ntmps80
  go_wp2
  go_ret2
  exact ⟨rfl, rfl⟩

set_option maxHeartbeats 1000000 in
set_option maxRecDepth 100000 in
theorem take_fit (bt bp : Nat) (T : ByteArray) (p n : Nat) (w : World) (hT : T.size ≤ 4000) (h : TkAt bt bp T p w) (hn : p + n ≤ T.size) :
    Calls Tryz.prog 109 #[.int .i64 (n : Int), .pointer (some ⟨bt, 0, none⟩), .pointer (some ⟨bp, 0, none⟩)] w fun e w' => e = .returned (.string ⟨((T.data.toList.drop p).take n).toArray⟩) ∧ TkAt bt bp T (p + n) w' ∧ OnlyAt bp w w' := by
  have c1 : w.cell? ⟨bt, 0, none⟩ = some (.string T) := by rw [Lib.cell_of_heap h.hT]; rfl
  have c2 : w.cell? ⟨bp, 0, none⟩ = some (.int .i64 (p : Int)) := by rw [Lib.cell_of_heap h.hP]; rfl
  have f2 : w.frozen? ⟨bp, 0, none⟩ = false := Lib.frozen_of_heap h.hP 0
  have hne : bt ≠ bp := ne_tag h.hT h.hP (by simp [tag])
  have hP2 : (w.setCell ⟨bp, 0, none⟩ (.int .i64 ((p + n : Nat) : Int))).heap[bp]? = some (.cells #[.int .i64 ((p + n : Nat) : Int)] 3 (0, 0)) := by
    rw [heap_setCell_same _ _ _ _ _ _ h.hP]
    rfl
  have hK : TkAt bt bp T (p + n) (w.setCell ⟨bp, 0, none⟩ (.int .i64 ((p + n : Nat) : Int))) := ⟨by rw [heap_setCell_other _ _ _ _ (by exact hne)]; exact h.hT, hP2, hn⟩
  obtain ⟨R, hR⟩ : ∃ R : ByteArray, R = ⟨((T.data.toList.drop p).take n).toArray⟩ := ⟨_, rfl⟩
  have hsl : ∀ W, (Instr.slice 9 (.string T) (some (.int .i64 (p : Int))) (some (.int .i64 ((p : Int) + (n : Int)))) none).run Tryz.prog W = .ok (.string R) W := fun W => by
    rw [hR]
    have := slice_mid T p (p + n) (by omega) hn W
    rw [Nat.add_sub_cancel_left, Int.natCast_add] at this
    exact this
  rw [← hR]
  have HK := hide hK
  clear hK hP2 h hR
  go_enter Tryz.func109, Tryz.ntmps109
  go_wp2
  go_ret
  refine ⟨rfl, ?_, OnlyAt.set' _ _ _ _⟩
  have := HK.out
  rw [Int.natCast_add] at this
  exact this

set_option maxHeartbeats 1000000 in
set_option maxRecDepth 100000 in
theorem take_short (bt bp : Nat) (T : ByteArray) (p n : Nat) (w : World) (hT : T.size ≤ 4000) (h : TkAt bt bp T p w) (hn : T.size < p + n) :
    Calls Tryz.prog 109 #[.int .i64 (n : Int), .pointer (some ⟨bt, 0, none⟩), .pointer (some ⟨bp, 0, none⟩)] w fun e w' => e = .panicked [gaveUp] ∧ w' = w := by
  have c1 : w.cell? ⟨bt, 0, none⟩ = some (.string T) := by rw [Lib.cell_of_heap h.hT]; rfl
  have c2 : w.cell? ⟨bp, 0, none⟩ = some (.int .i64 (p : Int)) := by rw [Lib.cell_of_heap h.hP]; rfl
  have hle := h.le
  have hdec : decide ((T.size : Int) - (p : Int) < (n : Int)) = true := decide_eq_true (by omega)
  clear h
  go_enter Tryz.func109, Tryz.ntmps109
  go_wp2
  exact ⟨rfl, rfl, rfl⟩

set_option maxHeartbeats 400000 in
set_option maxRecDepth 100000 in
theorem atEnd_any (bt bp : Nat) (T : ByteArray) (p : Nat) (w : World) (h : TkAt bt bp T p w) :
    Calls Tryz.prog 110 #[.pointer (some ⟨bp, 0, none⟩), .pointer (some ⟨bt, 0, none⟩)] w fun e w' => e = .returned (.bool ((p : Int) == (T.size : Int))) ∧ w' = w := by
  have c1 : w.cell? ⟨bt, 0, none⟩ = some (.string T) := by rw [Lib.cell_of_heap h.hT]; rfl
  have c2 : w.cell? ⟨bp, 0, none⟩ = some (.int .i64 (p : Int)) := by rw [Lib.cell_of_heap h.hP]; rfl
  clear h
  go_enter Tryz.func110, Tryz.ntmps110
  go_wp2
  go_ret
  exact ⟨rfl, rfl⟩
end Go.Proofs.YtkiindkoiomieaaGreatDoor
end

section
/-
  P9: the walks of nextBlock, unframed, Decompress.
-/
namespace Go.Proofs.YtkiindkoiomieaaGreatDoor
open Go.RowKit

/-- What nextBlock answers of what is left of the text. -/
def BlockOf (s : List UInt8) (size : Nat) (o : Option (List UInt8 × Int)) : Prop :=
  if s.length < 6 ∨ s.length < 6 + Co.leN ((s.drop 4).take 2) then o = none
  else ∃ u, Co.UnOf ((s.drop 6).take (Co.leN ((s.drop 4).take 2))) size u ∧ (match u with
    | none => o = some ([], 4)
    | some d => if Co.crcF d = Co.leN (s.take 4) then o = some (d, 0) else o = some ([], 7))

theorem leN_two (l : List UInt8) (h : l.length ≤ 2) : Co.leN l < 65536 := by
  have h1 := Co.leN_lt l
  have h2 : 256 ^ l.length ≤ 256 ^ 2 := Nat.pow_le_pow_right (by omega) h
  have e : (256 : Nat) ^ 2 = 65536 := by decide
  omega

set_option maxHeartbeats 2000000 in
set_option maxRecDepth 100000 in
theorem nextBlock_any (bt bp : Nat) (T : ByteArray) (p size : Nat) (w : World) (hT : T.size ≤ 4000) (hsz : size ≤ 200) (h : TkAt bt bp T p w) :
    Calls Tryz.prog 83 #[.func (.func 109) #[] #[.pointer (some ⟨bt, 0, none⟩), .pointer (some ⟨bp, 0, none⟩)], .int .i64 (size : Int)] w fun e w' => Frm [bp] w w' ∧ ((BlockOf (T.data.toList.drop p) size none ∧ e = .panicked [gaveUp]) ∨ (∃ d c, BlockOf (T.data.toList.drop p) size (some (d, c)) ∧ e = .returned (.tuple #[.string ⟨d.toArray⟩, .int .i64 c]) ∧ (c = 0 → TkAt bt bp T (p + (6 + Co.leN (((T.data.toList.drop p).drop 4).take 2))) w'))) := by
  have hle := h.le
  have hsl : (T.data.toList.drop p).length = T.size - p := by rw [List.length_drop, ← Lib.size_eq]
  obtain ⟨s, hs⟩ : ∃ s, s = T.data.toList.drop p := ⟨_, rfl⟩
  rw [← hs] at hsl
  have hd4 : T.data.toList.drop (p + 4) = s.drop 4 := by rw [hs, List.drop_drop]
  have hd6 : T.data.toList.drop (p + 4 + 2) = s.drop 6 := by rw [hs, List.drop_drop]
  rw [← hs]
  have HS := hide hs
  by_cases h4 : p + 4 ≤ T.size
  · have C1 := hide (take_fit bt bp T p 4 w hT h h4)
    rw [← hs] at C1
    obtain ⟨A, hA⟩ : ∃ A : ByteArray, A = ⟨(s.take 4).toArray⟩ := ⟨_, rfl⟩
    have hAs : A.size ≤ 4 := by rw [Lib.size_eq, hA]; show (s.take 4).length ≤ 4; rw [List.length_take]; omega
    have CN1 := hide (fun W => numberOf_any A W hAs)
    have eA : A.data.toList = s.take 4 := by rw [hA]
    rw [eA] at CN1
    rw [← hA] at C1
    clear h hs hA eA
    by_cases h6 : p + 4 + 2 ≤ T.size
    · obtain ⟨Bq, hBq⟩ : ∃ Bq : ByteArray, Bq = ⟨((s.drop 4).take 2).toArray⟩ := ⟨_, rfl⟩
      have hBs : Bq.size ≤ 2 := by rw [Lib.size_eq, hBq]; show ((s.drop 4).take 2).length ≤ 2; rw [List.length_take]; omega
      have CN2 := hide (fun W => numberOf_any Bq W (by omega))
      have eB : Bq.data.toList = (s.drop 4).take 2 := by rw [hBq]
      rw [eB] at CN2
      obtain ⟨k, hk⟩ : ∃ k, k = Co.leN ((s.drop 4).take 2) := ⟨_, rfl⟩
      have hk16 : k < 65536 := by rw [hk]; exact leN_two _ (by rw [List.length_take]; omega)
      rw [← hk] at CN2
      have HK := hide hk
      have HBQ := hide hBq
      clear hBq eB hk
      go_enter Tryz.func83, Tryz.ntmps83
      go_wp2_with fail
      go_at_call 109
      refine C1.out.mono ?_
      rintro e w1 ⟨rfl, ht1, ho1⟩
      have C2 := hide (take_fit bt bp T (p + 4) 2 w1 hT ht1 h6)
      rw [hd4, ← HBQ.out] at C2
      go_wp2_with (go_at_call 81; refine (CN1.out _).mono ?_; rintro e w' ⟨rfl, hw⟩; rw [hw]; clear hw w')
      go_at_call 109
      refine C2.out.mono ?_
      rintro e w2 ⟨rfl, ht2, ho2⟩
      have f2 : Frm [bp] w w2 := ho1.frm.trans ho2.frm
      clear C1 C2 ho1 ho2 ht1
      have hwk : IntKind.i64.wrap (k : Int) = (k : Int) := IntWalk.i64_in _ (by omega)
      by_cases hkl : p + 4 + 2 + k ≤ T.size
      · obtain ⟨Pk, hPk⟩ : ∃ Pk : ByteArray, Pk = ⟨((s.drop 6).take k).toArray⟩ := ⟨_, rfl⟩
        have hPs : Pk.size ≤ 4000 := by rw [Lib.size_eq, hPk]; show ((s.drop 6).take k).length ≤ 4000; rw [List.length_take]; omega
        have ePk : Pk.data.toList = (s.drop 6).take k := by rw [hPk]
        have C3 := hide (take_fit bt bp T (p + 4 + 2) k w2 hT ht2 hkl)
        rw [hd6, ← hPk] at C3
        have CU := hide (fun W => unpack_fit Pk size W hPs hsz)
        rw [ePk] at CU
        clear ht2 hPk ePk
        go_wp2_with (go_at_call 81; refine (CN2.out _).mono ?_; rintro e w' ⟨rfl, hw⟩; rw [hw]; clear hw w')
        go_at_call 109
        refine C3.out.mono ?_
        rintro e w3 ⟨rfl, ht3, ho3⟩
        have f3 : Frm [bp] w w3 := f2.trans ho3.frm
        have hcond : ¬ (s.length < 6 ∨ s.length < 6 + Co.leN ((s.drop 4).take 2)) := by rw [← HK.out, hsl]; omega
        have HC := hide hcond
        clear hcond f2 ho3 C3
        go_wp2_with fail
        go_at_call 43
        refine (CU.out _).mono ?_
        rintro e w4 ⟨hb4, r, hr, ⟨d, rfl, rfl⟩ | ⟨rfl, rfl⟩⟩
        · have f4 : Frm [bp] w w4 := f3.trans (below_frm hb4 _)
          have hdl := hr.size
          obtain ⟨D, hD⟩ : ∃ D : ByteArray, D = ⟨d.toArray⟩ := ⟨_, rfl⟩
          have hDd : D.data.toList = d := by rw [hD]
          have CS := hide (fun W => sumOf_any D W (by rw [Lib.size_eq, hDd, hdl]; omega))
          rw [hDd] at CS
          rw [← hD]
          have ht4 := ht3.keep hb4
          have HR := hide hr
          have HD := hide hD
          have HT4 := hide ht4
          clear hr hD hDd hdl ht4 ht3 hb4
          by_cases hcrc : Co.crcF d = Co.leN (s.take 4)
          · have hne : ((Co.crcF d : Int) != (Co.leN (s.take 4) : Int)) = false := by rw [hcrc]; simp
            have hB : BlockOf s size (some (d, 0)) := by
              unfold BlockOf
              rw [if_neg HC.out, ← HK.out]
              exact ⟨some d, HR.out, by simp only; rw [if_pos hcrc]; trivial⟩
            have HB := hide hB
            clear hB hcrc
            go_wp2_with (go_at_call 111; refine (CS.out _).mono ?_; rintro e w' ⟨rfl, hw⟩; rw [hw]; clear hw w')
            go_ret2
            refine ⟨f4, .inr ⟨d, 0, HB.out, by rw [← HD.out]; rfl, fun _ => ?_⟩⟩
            have := HT4.out
            rw [← HK.out, show p + (6 + k) = p + 4 + 2 + k by omega]
            exact this
          · have hne : ((Co.crcF d : Int) != (Co.leN (s.take 4) : Int)) = true := by rw [bne_iff_ne]; omega
            have hB : BlockOf s size (some ([], 7)) := by
              unfold BlockOf
              rw [if_neg HC.out, ← HK.out]
              exact ⟨some d, HR.out, by simp only; rw [if_neg hcrc]; trivial⟩
            have HB := hide hB
            clear hB hcrc
            go_wp2_with (go_at_call 111; refine (CS.out _).mono ?_; rintro e w' ⟨rfl, hw⟩; rw [hw]; clear hw w')
            go_ret2
            exact ⟨f4, .inr ⟨[], 7, HB.out, rfl, fun h => by cases h⟩⟩
        · have f4 : Frm [bp] w w4 := f3.trans (below_frm hb4 _)
          have hB : BlockOf s size (some ([], 4)) := by
            unfold BlockOf
            rw [if_neg HC.out, ← HK.out]
            exact ⟨none, hr, rfl⟩
          have HB := hide hB
          clear hB hr
          go_wp2
          go_ret2
          exact ⟨f4, .inr ⟨[], 4, HB.out, rfl, fun h => by cases h⟩⟩
      · have C3 := hide (take_short bt bp T (p + 4 + 2) k w2 hT ht2 (by omega))
        have hB : BlockOf s size none := by
          unfold BlockOf
          rw [if_pos]
          rw [← HK.out, hsl]
          omega
        have HB := hide hB
        clear hB ht2
        go_wp2_with (go_at_call 81; refine (CN2.out _).mono ?_; rintro e w' ⟨rfl, hw⟩; rw [hw]; clear hw w')
        go_at_call 109
        refine C3.out.mono ?_
        rintro e w3 ⟨rfl, hw⟩
        rw [hw]
        go_wp2
        exact ⟨rfl, f2, .inl ⟨HB.out, rfl⟩⟩
    · have hB : BlockOf s size none := by
        unfold BlockOf
        rw [if_pos]
        rw [hsl]
        omega
      have HB := hide hB
      clear hB
      go_enter Tryz.func83, Tryz.ntmps83
      go_wp2_with fail
      go_at_call 109
      refine C1.out.mono ?_
      rintro e w1 ⟨rfl, ht1, ho1⟩
      have C2 := hide (take_short bt bp T (p + 4) 2 w1 hT ht1 (by omega))
      have f1 : Frm [bp] w w1 := ho1.frm
      clear ht1 ho1
      go_wp2_with (go_at_call 81; refine (CN1.out _).mono ?_; rintro e w' ⟨rfl, hw⟩; rw [hw]; clear hw w')
      go_at_call 109
      refine C2.out.mono ?_
      rintro e w3 ⟨rfl, hw⟩
      rw [hw]
      go_wp2
      exact ⟨rfl, f1, .inl ⟨HB.out, rfl⟩⟩
  · have hB : BlockOf s size none := by
      unfold BlockOf
      rw [if_pos]
      rw [hsl]
      omega
    have HB := hide hB
    have C1 := hide (take_short bt bp T p 4 w hT h (by omega))
    clear hB h hs
    go_enter Tryz.func83, Tryz.ntmps83
    go_wp2_with fail
    go_at_call 109
    refine C1.out.mono ?_
    rintro e w3 ⟨rfl, hw⟩
    rw [hw]
    go_wp2
    exact ⟨rfl, Frm.refl _ _, .inl ⟨HB.out, rfl⟩⟩
end Go.Proofs.YtkiindkoiomieaaGreatDoor
end

section
/-
  P9: the walks of unframed and Decompress.
-/
namespace Go.Proofs.YtkiindkoiomieaaGreatDoor
open Go.RowKit

/-- The rest of the text gives that. -/
def Go1 (g all : Nat) (l acc : List UInt8) (res : List UInt8 × Nat) : Prop := Co.Join (Co.framesG g all l).1 (Co.framesG g all l).2 acc res

theorem go_end {g all : Nat} {l acc : List UInt8} {res : List UInt8 × Nat} {c : Nat} (h : Co.framesG (g + 1) all l = ([], c)) (hr : res = if c = 0 then (acc, 0) else ([], c)) : Go1 (g + 1) all l acc res := by
  unfold Go1
  rw [h]
  exact hr

theorem frames_short {g all : Nat} {l : List UInt8} (h : l.length < 2) : Co.framesG (g + 1) all l = ([], 6) := by
  rw [Co.framesG, if_pos h]
theorem frames_zero {g all : Nat} {l : List UInt8} (h : ¬ l.length < 2) (h0 : Co.leN (l.take 2) = 0) : Co.framesG (g + 1) all l = if (l.drop 2).length = 0 then ([], 0) else ([], 8) := by
  rw [Co.framesG, if_neg h, if_pos h0]
theorem frames_big {g all : Nat} {l : List UInt8} (h : ¬ l.length < 2) (h0 : ¬ Co.leN (l.take 2) = 0) (hb : 200 < Co.leN (l.take 2) ∨ 300 < all + Co.leN (l.take 2)) : Co.framesG (g + 1) all l = ([], 4) := by
  rw [Co.framesG, if_neg h, if_neg h0, if_pos hb]
theorem frames_block_none {g all : Nat} {l acc : List UInt8} (h : ¬ l.length < 2) (h0 : ¬ Co.leN (l.take 2) = 0) (hb : ¬ (200 < Co.leN (l.take 2) ∨ 300 < all + Co.leN (l.take 2))) (hB : BlockOf (l.drop 2) (Co.leN (l.take 2)) none) : Go1 (g + 1) all l acc ([], 6) := by
  unfold BlockOf at hB
  by_cases hc : (l.drop 2).length < 6 ∨ (l.drop 2).length < 6 + Co.leN (((l.drop 2).drop 4).take 2)
  · refine go_end (c := 6) ?_ rfl
    rw [Co.framesG, if_neg h, if_neg h0, if_neg hb]
    rcases hc with hc | hc
    · rw [if_pos hc]
    · by_cases h6 : (l.drop 2).length < 6
      · rw [if_pos h6]
      · rw [if_neg h6, if_pos hc]
  · rw [if_neg hc] at hB
    obtain ⟨u, _, hu⟩ := hB
    cases u with
    | none => cases hu
    | some d =>
      simp only at hu
      split at hu <;> cases hu
theorem frames_cons {g all : Nat} {l : List UInt8} (h : ¬ l.length < 2) (h0 : ¬ Co.leN (l.take 2) = 0) (hb : ¬ (200 < Co.leN (l.take 2) ∨ 300 < all + Co.leN (l.take 2))) (hc : ¬ ((l.drop 2).length < 6 ∨ (l.drop 2).length < 6 + Co.leN (((l.drop 2).drop 4).take 2))) :
    Co.framesG (g + 1) all l = (⟨Co.leN (l.take 2), Co.leN ((l.drop 2).take 4), ((l.drop 2).drop 6).take (Co.leN (((l.drop 2).drop 4).take 2))⟩ :: (Co.framesG g (all + Co.leN (l.take 2)) ((l.drop 2).drop (6 + Co.leN (((l.drop 2).drop 4).take 2)))).1, (Co.framesG g (all + Co.leN (l.take 2)) ((l.drop 2).drop (6 + Co.leN (((l.drop 2).drop 4).take 2)))).2) := by
  rw [Co.framesG, if_neg h, if_neg h0, if_neg hb, if_neg (fun e => hc (.inl e)), if_neg (fun e => hc (.inr e))]

/-- A block that is wrong. -/
theorem frames_wrong {g all : Nat} {l acc d : List UInt8} {c : Int} (h : ¬ l.length < 2) (h0 : ¬ Co.leN (l.take 2) = 0) (hb : ¬ (200 < Co.leN (l.take 2) ∨ 300 < all + Co.leN (l.take 2))) (hB : BlockOf (l.drop 2) (Co.leN (l.take 2)) (some (d, c))) (hcn : c ≠ 0) : ∃ m : Nat, c = (m : Int) ∧ Go1 (g + 1) all l acc ([], m) := by
  unfold BlockOf at hB
  by_cases hc : (l.drop 2).length < 6 ∨ (l.drop 2).length < 6 + Co.leN (((l.drop 2).drop 4).take 2)
  · rw [if_pos hc] at hB
    cases hB
  · rw [if_neg hc] at hB
    obtain ⟨u, hu, hm⟩ := hB
    unfold Go1
    rw [frames_cons h h0 hb hc]
    cases u with
    | none =>
      cases hm
      exact ⟨4, rfl, none, hu, rfl⟩
    | some d' =>
      simp only at hm
      by_cases hcrc : Co.crcF d' = Co.leN ((l.drop 2).take 4)
      · rw [if_pos hcrc] at hm
        cases hm
        exact absurd rfl hcn
      · rw [if_neg hcrc] at hm
        cases hm
        exact ⟨7, rfl, some d', hu, by simp only; rw [if_neg hcrc]; trivial⟩
/-- A block that is right. -/
theorem frames_right {g all : Nat} {l acc d : List UInt8} {res : List UInt8 × Nat} (h : ¬ l.length < 2) (h0 : ¬ Co.leN (l.take 2) = 0) (hb : ¬ (200 < Co.leN (l.take 2) ∨ 300 < all + Co.leN (l.take 2))) (hB : BlockOf (l.drop 2) (Co.leN (l.take 2)) (some (d, 0))) (hr : Go1 g (all + Co.leN (l.take 2)) ((l.drop 2).drop (6 + Co.leN (((l.drop 2).drop 4).take 2))) (acc ++ d) res) : Go1 (g + 1) all l acc res ∧ d.length = Co.leN (l.take 2) := by
  unfold BlockOf at hB
  by_cases hc : (l.drop 2).length < 6 ∨ (l.drop 2).length < 6 + Co.leN (((l.drop 2).drop 4).take 2)
  · rw [if_pos hc] at hB
    cases hB
  · rw [if_neg hc] at hB
    obtain ⟨u, hu, hm⟩ := hB
    cases u with
    | none => cases hm
    | some d' =>
      simp only at hm
      by_cases hcrc : Co.crcF d' = Co.leN ((l.drop 2).take 4)
      · rw [if_pos hcrc] at hm
        cases hm
        refine ⟨?_, hu.size⟩
        unfold Go1
        rw [frames_cons h h0 hb hc]
        exact ⟨some d, hu, by simp only; rw [if_pos hcrc]; exact hr⟩
      · rw [if_neg hcrc] at hm
        cases hm
theorem block_size {s d : List UInt8} {n : Nat} (hB : BlockOf s n (some (d, 0))) : d.length = n := by
  unfold BlockOf at hB
  split at hB
  · cases hB
  · obtain ⟨u, hu, hm⟩ := hB
    cases u with
    | none => cases hm
    | some d' =>
      simp only at hm
      split at hm
      · cases hm
        exact hu.size
      · cases hm

set_option maxHeartbeats 4000000 in
set_option maxRecDepth 100000 in
theorem unframed_any (T : ByteArray) (w : World) (hT : T.size ≤ 4000) :
    Calls Tryz.prog 48 #[.string T] w fun e w' => Below w.heap.size w w' ∧ ∃ res, Go1 501 0 T.data.toList [] res ∧ ((e = .panicked [gaveUp] ∧ res = ([], 6)) ∨ e = .returned (.tuple #[.string ⟨res.1.toArray⟩, .int .i64 (res.2 : Int)])) := by
  go_enter Tryz.func48, Tryz.ntmps48
  go_wp2_with fail
  go_at_call 80
  refine (taker_any T w).mono ?_
  rintro e w1 ⟨rfl, hw1⟩
  obtain ⟨q0, q1, q2, qs⟩ := two_new w (.cells #[.string T] 9) (.cells #[.int .i64 0] 3)
  have kb1 : Below w.heap.size w w1 := by rw [hw1]; exact ((Below.refl _ w).alloc (Nat.le_refl _) _).alloc (by simp) _
  rw [← hw1] at q0 q1 qs
  have ht1 : TkAt w.heap.size (w.heap.size + 1) T 0 w1 := ⟨q0, q1, by omega⟩
  have y1 : w.heap.size + 2 ≤ w1.heap.size := by rw [qs]; exact Nat.le_refl _
  have HT1 := hide ht1
  clear hw1 q0 q1 q2 qs ht1
  go_wp2_with fail
  go_loopg [] 501 (fun g wr => ∃ (p : Nat) (acc : List UInt8), acc.length ≤ 300 ∧ 301 ≤ acc.length + g ∧ TkAt w.heap.size (w.heap.size + 1) T p wr ∧ Lib.IsBuilder 83 5 w1.heap.size w1.heap.size (Lib.byteCells acc) wr ∧ w1.heap.size ≤ wr.heap.size ∧ Below w.heap.size w wr ∧ Hid (∀ res, Go1 g acc.length (T.data.toList.drop p) acc res → Go1 501 0 T.data.toList [] res))
  case atStart => exact ⟨0, [], by simp, by simp, HT1.out.keep ((Below.refl _ _).alloc (Nat.le_refl _) _), Lib.fresh_isBuilder 83 5 w1, by simp, kb1.alloc kb1.size _, hide (fun res h => h)⟩
  case round =>
    clear HT1 kb1
    obtain ⟨p, acc, hal, hag, ht, hB, hwr, hbx, HG⟩ := hrel
    obtain ⟨g1, rfl⟩ : ∃ g1, gk = g1 + 1 := ⟨gk - 1, by omega⟩
    have hle := ht.le
    obtain ⟨l, hl⟩ : ∃ l, l = T.data.toList.drop p := ⟨_, rfl⟩
    have hll : l.length = T.size - p := by rw [hl, List.length_drop, ← Lib.size_eq]
    rw [← hl] at HG
    by_cases h2 : p + 2 ≤ T.size
    · have hn2 : ¬ l.length < 2 := by omega
      have C1 := hide (take_fit w.heap.size (w.heap.size + 1) T p 2 wr hT ht h2)
      rw [← hl] at C1
      obtain ⟨A, hA⟩ : ∃ A : ByteArray, A = ⟨(l.take 2).toArray⟩ := ⟨_, rfl⟩
      have hAs : A.size ≤ 4 := by rw [Lib.size_eq, hA]; show (l.take 2).length ≤ 4; rw [List.length_take]; omega
      have CN1 := hide (fun W => numberOf_any A W hAs)
      have eA : A.data.toList = l.take 2 := by rw [hA]
      rw [eA] at CN1
      rw [← hA] at C1
      obtain ⟨n, hn⟩ : ∃ n, n = Co.leN (l.take 2) := ⟨_, rfl⟩
      have hn16 : n < 65536 := by rw [hn]; exact leN_two _ (by rw [List.length_take]; omega)
      rw [← hn] at CN1
      have hwn : IntKind.i64.wrap (n : Int) = (n : Int) := IntWalk.i64_in _ (by omega)
      have hd2 : T.data.toList.drop (p + 2) = l.drop 2 := by rw [hl, List.drop_drop]
      have HNN := hide hn
      have HL := hide hl
      clear hA eA hn hl ht
      go_wp2_with fail
      go_at_call 109
      refine C1.out.mono ?_
      rintro e w2 ⟨rfl, ht2, ho2⟩
      have hB2 := builder_frm hB ho2.frm (fun k hk => by simp at hk; omega)
      have hbx2 : Below w.heap.size w w2 := hbx.grown ho2.1 hbx.size (fun j hj => by cases hj; omega)
      have hwr2 : w1.heap.size ≤ w2.heap.size := by rw [ho2.2]; exact hwr
      clear hB C1 ho2 hbx
      go_wp2_with fail
      go_at_call 81
      refine (CN1.out _).mono ?_
      rintro e w' ⟨rfl, hw⟩
      rw [hw]
      clear hw w'
      by_cases h0 : n = 0
      · have h0I : ((n : Int) == 0) = true := by rw [h0]; rfl
        have CA := hide (atEnd_any _ _ T (p + 2) w2 ht2)
        have hz : Co.leN (l.take 2) = 0 := by rw [← HNN.out]; exact h0
        by_cases hend : p + 2 = T.size
        · have hE : (((p + 2 : Nat) : Int) == (T.size : Int)) = true := by rw [beq_iff_eq]; omega
          rw [hE] at CA
          have hgo : Go1 501 0 T.data.toList [] (acc, 0) := HG.out _ (go_end (c := 0) (by rw [frames_zero hn2 hz, if_pos (by rw [List.length_drop]; omega)]) rfl)
          have HGO := hide hgo
          have CS := hide (Tryz.Builder_String_any _ _ _ _ hB2 hwr2)
          clear hgo hend h0 hz hB2 ht2
          go_wp2_with (first
            | (go_at_call 110; refine CA.out.mono ?_; rintro e w' ⟨rfl, hw⟩; rw [hw]; clear hw w')
            | (go_at_call 64; refine CS.out.mono ?_; rintro e w3 ⟨rfl, hb3⟩))
          go_ret2
          exact ⟨hbx2.trans (hb3.mono (by omega)), (acc, 0), HGO.out, .inr rfl⟩
        · have hE : (((p + 2 : Nat) : Int) == (T.size : Int)) = false := by rw [beq_eq_false_iff_ne]; omega
          rw [hE] at CA
          have hgo : Go1 501 0 T.data.toList [] ([], 8) := HG.out _ (go_end (c := 8) (by rw [frames_zero hn2 hz, if_neg (by rw [List.length_drop]; omega)]) rfl)
          have HGO := hide hgo
          clear hgo hend h0 hz hB2 ht2
          go_wp2_with (go_at_call 110; refine CA.out.mono ?_; rintro e w' ⟨rfl, hw⟩; rw [hw]; clear hw w')
          go_ret2
          exact ⟨hbx2, ([], 8), HGO.out, .inr rfl⟩
      · have h0I : ((n : Int) == 0) = false := by rw [beq_eq_false_iff_ne]; omega
        have hz : ¬ Co.leN (l.take 2) = 0 := by rw [← HNN.out]; exact h0
        have hlenc : ((Lib.byteCells acc).length : Int) = (acc.length : Int) := by rw [Lib.byteCells_length]
        have cL := Tryz.Builder_Len w1.heap.size w1.heap.size (Lib.byteCells acc) w2 hB2
        rw [hlenc] at cL
        have CL := hide cL
        clear cL hlenc
        by_cases hbig : 200 < n ∨ 300 < acc.length + n
        · have hgo : Go1 501 0 T.data.toList [] ([], 4) := HG.out _ (go_end (c := 4) (frames_big hn2 hz (by rw [← HNN.out]; exact hbig)) rfl)
          have HGO := hide hgo
          clear hgo hz hB2 ht2
          by_cases h200 : 200 < n
          · go_wp2
            go_ret2
            exact ⟨hbx2, [], 4, HGO.out, .inr rfl⟩
          · have h300 : 300 < acc.length + n := by omega
            have hd3 : decide ((300 : Int) < (acc.length : Int) + (n : Int)) = true := decide_eq_true (by omega)
            go_wp2_with (go_at_call 82; refine CL.out.mono ?_; rintro e w' ⟨rfl, hw⟩; rw [hw]; clear hw w')
            go_ret2
            exact ⟨hbx2, ([], 4), HGO.out, .inr rfl⟩
        · have h200 : n ≤ 200 := by omega
          have h300 : acc.length + n ≤ 300 := by omega
          have hd3 : decide ((300 : Int) < (acc.length : Int) + (n : Int)) = false := decide_eq_false (by omega)
          have hnb : ¬ (200 < Co.leN (l.take 2) ∨ 300 < acc.length + Co.leN (l.take 2)) := by rw [← HNN.out]; exact hbig
          have CB := hide (nextBlock_any w.heap.size (w.heap.size + 1) T (p + 2) n w2 hT h200 ht2)
          rw [hd2] at CB
          clear ht2 hbig
          go_wp2_with (go_at_call 82; refine CL.out.mono ?_; rintro e w' ⟨rfl, hw⟩; rw [hw]; clear hw w')
          go_at_call 83
          refine CB.out.mono ?_
          rintro e w3 ⟨hf3, ⟨hBn, rfl⟩ | ⟨d, c, hBs, rfl, htk⟩⟩
          · have hgo : Go1 501 0 T.data.toList [] ([], 6) := HG.out _ (frames_block_none hn2 hz hnb (by rw [← HNN.out]; exact hBn))
            have HGO := hide hgo
            have hbx3 : Below w.heap.size w w3 := hbx2.trans (hf3.below hbx2.size (fun k hk => by simp at hk; omega))
            clear hgo hBn
            go_wp2
            exact ⟨rfl, hbx3, ([], 6), HGO.out, .inl ⟨rfl, rfl⟩⟩
          · have hbx3 : Below w.heap.size w w3 := hbx2.trans (hf3.below hbx2.size (fun k hk => by simp at hk; omega))
            have hB3 := builder_frm hB2 hf3 (fun k hk => by simp at hk; omega)
            have hwr3 : w1.heap.size ≤ w3.heap.size := Nat.le_trans hwr2 hf3.size
            obtain ⟨D, hD⟩ : ∃ D : ByteArray, D = ⟨d.toArray⟩ := ⟨_, rfl⟩
            have hDd : D.data.toList = d := by rw [hD]
            rw [← hD]
            have HDD := hide hDd
            clear CB CL hf3 hB2 hbx2 hwr2 hD hDd
            by_cases hc : c = 0
            · subst hc
              have hdl := block_size hBs
              have htk3 := htk rfl
              have hDs : D.size = n := by rw [Lib.size_eq, HDD.out, hdl]
              have CW := hide (writeStr_any w1.heap.size w1.heap.size acc D w3 hB3 (by omega) hwr3)
              have HTK := hide htk3
              have HBS := hide hBs
              have HDL := hide hdl
              clear htk htk3 hBs hB3 hDs hdl
              go_wp2_with (go_at_call 84; refine CW.out.mono ?_; rintro e w4 ⟨rfl, hB4, hb4⟩)
              go_roundg g1
              case measure => omega
              case rel =>
                have hdl := HDL.out
                rw [HDD.out] at hB4
                refine ⟨p + 2 + (6 + Co.leN (((l.drop 2).drop 4).take 2)), acc ++ d, by rw [List.length_append]; omega, by rw [List.length_append]; omega, ?_, hB4, Nat.le_trans hwr3 hb4.size, hbx3.trans (hb4.mono (by omega)), ?_⟩
                · exact ⟨by rw [hb4.block _ (by omega)]; exact HTK.out.hT, by rw [hb4.block _ (by omega)]; exact HTK.out.hP, HTK.out.le⟩
                · refine hide (fun res hres => HG.out res ?_)
                  refine (frames_right hn2 hz hnb (by rw [← HNN.out]; exact HBS.out) ?_).1
                  rw [← HNN.out, ← hdl, ← List.length_append]
                  rw [← List.drop_drop, hd2] at hres
                  exact hres
            · have hcI : (c != 0) = true := by rw [bne_iff_ne]; exact hc
              obtain ⟨m, hm, hgo1⟩ := frames_wrong (g := g1) (acc := acc) hn2 hz hnb (by rw [← HNN.out]; exact hBs) hc
              have HGO := hide (HG.out _ hgo1)
              subst hm
              clear hgo1 hBs htk hB3 hc
              go_wp2
              go_ret2
              exact ⟨hbx3, ([], m), HGO.out, .inr rfl⟩
    · have hgo : Go1 501 0 T.data.toList [] ([], 6) := HG.out _ (go_end (c := 6) (frames_short (by omega)) rfl)
      have HGO := hide hgo
      have C1 := hide (take_short w.heap.size (w.heap.size + 1) T p 2 wr hT ht (by omega))
      clear hgo hl ht
      go_wp2_with fail
      go_at_call 109
      refine C1.out.mono ?_
      rintro e w2 ⟨rfl, hw⟩
      rw [hw]
      go_wp2
      exact ⟨rfl, hbx, ([], 6), HGO.out, .inl ⟨rfl, rfl⟩⟩
end Go.Proofs.YtkiindkoiomieaaGreatDoor
end

