import Derived.Test.YtkiindkoiomieaaGreatDoorJ13
import Derived.Test.YtkiindkoiomieaaGreatDoorJ12
import Derived.Deep.LoopGhost
import Derived.Test.YtkiindkoiomieaaGreatDoorJ07
import Derived.Defers
import Derived.Recover
import Derived.Laws.Pointers
import Derived.Test.YtkiindkoiomieaaGreatDoorJ11
section
/-
  P7: placesTold, whatever function the bits are asked of.
-/
namespace Go.Proofs.YtkiindkoiomieaaGreatDoor
open Go.RowKit

/-- What the function keeps lies below a place. -/
def Stays {σ : Type} (I : Nat → Nat → σ → World → Prop) (H : Nat) : Prop := ∀ (n q : Nat) (s : σ) (w w' : World), I n q s w → Below H w w' → I n q s w'

theorem repeat_zero : ∀ c, Lib.repeatL [0] c = List.replicate c 0
  | 0 => rfl
  | c + 1 => by rw [Lib.repeatL, repeat_zero c]; rfl

section
variable {σ : Type} {nx : σ → Option (Nat × σ)} {size f : Nat} {acc : List UInt8} {s t u : σ}
theorem places_full (h : ¬ acc.length < size) : Co.placesG nx size f acc s = some acc := by
  cases f with
  | zero => rw [Co.placesG, if_neg h]
  | succ f => rw [Co.placesG, if_neg h]
theorem places_none (h : acc.length < size) (ht : Co.toldG nx s = none) : Co.placesG nx size (f + 1) acc s = none := by
  rw [Co.placesG, if_pos h, ht]
theorem places_none2 (h : acc.length < size) (ht : Co.toldG nx s = some (1, t)) (hu : Co.toldG nx t = none) : Co.placesG nx size (f + 1) acc s = none := by
  rw [Co.placesG, if_pos h, ht]
  simp only
  rw [if_pos trivial, hu]
theorem places_run {k : Nat} (h : acc.length < size) (ht : Co.toldG nx s = some (1, t)) (hu : Co.toldG nx t = some (k, u)) : Co.placesG nx size (f + 1) acc s = Co.placesG nx size f (acc ++ List.replicate k 0) u := by
  rw [Co.placesG, if_pos h, ht]
  simp only
  rw [if_pos trivial, hu]
theorem places_byte {m : Nat} (h : acc.length < size) (ht : Co.toldG nx s = some (m, t)) (hm : m ≠ 1) : Co.placesG nx size (f + 1) acc s = Co.placesG nx size f (acc ++ [UInt8.ofNat (m - 1)]) t := by
  rw [Co.placesG, if_pos h, ht]
  simp only
  rw [if_neg hm]
end

set_option maxHeartbeats 2000000 in
set_option maxRecDepth 100000 in
theorem places_gen {σ : Type} (F : Nat) (caps : Array Value) (eg : ∀ args w, (callFunc F args).run Tryz.prog w = .ok (.enter F args) w) (nx : σ → Option (Nat × σ)) (I : Nat → Nat → σ → World → Prop) (X : List Nat) (N : Nat) (hp : Gives F caps nx I X N)
    (size : Nat) (s : σ) (w : World) (hsz : size ≤ 200) (hN : 122 * size ≤ N) (hX : ∀ k ∈ X, k < w.heap.size) (hst : Stays I w.heap.size) (h : I 0 1 s w) :
    Calls Tryz.prog 107 #[.func (.func F) #[] caps, .int .i64 (size : Int)] w fun e w' => Frm X w w' ∧ ((∃ x, Co.placesG nx size size [] s = some x ∧ x.length ≤ 500 ∧ e = .returned (.string ⟨x.toArray⟩)) ∨ (Co.placesG nx size size [] s = none ∧ e = .panicked [gaveUp])) := by
  have HP := hide hp
  have HST := hide hst
  have HX := hide hX
  clear hp hst hX
  go_enter Tryz.func107, Tryz.ntmps107
  go_wp2
  go_loopg [] size (fun g wr => ∃ (n : Nat) (acc : List UInt8) (t : σ), n + 122 * g ≤ N ∧ acc.length ≤ 500 ∧ size ≤ acc.length + g ∧ I n 1 t wr ∧ Lib.IsBuilder 83 5 w.heap.size w.heap.size (Lib.byteCells acc) wr ∧ w.heap.size ≤ wr.heap.size ∧ But w.heap.size X w wr ∧ Hid (Co.placesG nx size size [] s = Co.placesG nx size g acc t))
  case atStart => exact ⟨0, [], s, by omega, by simp, by simp, HST.out _ _ _ _ _ h ((Below.refl _ _).alloc (Nat.le_refl _) _), Lib.fresh_isBuilder 83 5 w, by simp, below_but ((Below.refl _ _).alloc (Nat.le_refl _) _) X, rfl⟩
  case round =>
    clear h
    obtain ⟨n, acc, t, hn, hal, hag, hI, hB, hwr, hbx, HE⟩ := hrel
    have hlenc : ((Lib.byteCells acc).length : Int) = (acc.length : Int) := by rw [Lib.byteCells_length]
    have cL := Tryz.Builder_Len w.heap.size w.heap.size (Lib.byteCells acc) wr hB
    rw [hlenc] at cL
    have CL := hide cL
    clear cL hlenc
    by_cases hlt : acc.length < size
    · obtain ⟨g1, rfl⟩ : ∃ g1, gk = g1 + 1 := ⟨gk - 1, by omega⟩
      have CT := hide (told_gen F caps eg nx I X N HP.out n t wr (by omega) hI)
      clear hI
      go_wp2_with (go_at_call 82; refine CL.out.mono ?_; rintro e w' ⟨rfl, hw⟩; rw [hw]; clear hw w')
      go_at_call 137
      refine CT.out.mono ?_
      rintro e w2 ⟨hf2, ⟨m, t2, n2, hm, hm1, hm2, hn2, rfl, hI2⟩ | ⟨hm, rfl⟩⟩
      · have hB2 := builder_frm hB hf2 HX.out
        have hbx2 : But w.heap.size X w w2 := hbx.trans (But.mono hf2 hwr (fun _ e => e))
        have hwr2 : w.heap.size ≤ w2.heap.size := Nat.le_trans hwr hf2.size
        clear hB hbx hf2
        by_cases h1 : m = 1
        · subst h1
          have CT2 := hide (told_gen F caps eg nx I X N HP.out n2 t2 w2 (by omega) hI2)
          have HM := hide hm
          clear hI2 hm
          go_wp2_with fail
          go_at_call 137
          refine CT2.out.mono ?_
          rintro e w3 ⟨hf3, ⟨k, t3, n3, hk, hk1, hk2, hn3, rfl, hI3⟩ | ⟨hk, rfl⟩⟩
          · have hB3 := builder_frm hB2 hf3 HX.out
            have hbx3 : But w.heap.size X w w3 := hbx2.trans (But.mono hf3 hwr2 (fun _ e => e))
            have hwr3 : w.heap.size ≤ w3.heap.size := Nat.le_trans hwr2 hf3.size
            have cR := Tryz.strings_Repeat ⟨#[0]⟩ k w3 (by omega) (by show 1 * k ≤ _; omega)
            have e0 : Lib.repeatL (⟨#[0]⟩ : ByteArray).data.toList k = List.replicate k 0 := repeat_zero k
            rw [e0] at cR
            obtain ⟨R, hR⟩ : ∃ R : ByteArray, R = ⟨(List.replicate k 0).toArray⟩ := ⟨_, rfl⟩
            have hRl : R.data.toList = List.replicate k 0 := by rw [hR]
            have hRs : R.size = k := by rw [Lib.size_eq, hRl, List.length_replicate]
            rw [← hR] at cR
            have CR := hide cR
            have HK := hide hk
            have HR := hide hRl
            have HI := hide hI3
            have HB3 := hide hB3
            clear cR hk hR hRl hI3 hB2 hbx2 hf3 hB3
            go_wp2_with fail
            go_at_call 138
            refine CR.out.mono ?_
            rintro e w4 ⟨rfl, hb4⟩
            have hB4 := builder_frm HB3.out (below_frm hb4 []) (fun _ h => by cases h)
            have hbx4 : But w.heap.size X w w4 := hbx3.trans (below_but (hb4.mono hwr3) X)
            have hwr4 : w.heap.size ≤ w4.heap.size := Nat.le_trans hwr3 hb4.size
            have CW := hide (writeStr_any w.heap.size w.heap.size acc R w4 hB4 (by omega) hwr4)
            have HI4 := hide (HST.out _ _ _ _ _ HI.out (hb4.mono hwr3))
            clear hB4 hbx3 hb4
            go_wp2_with fail
            go_at_call 84
            refine CW.out.mono ?_
            rintro e w5 ⟨rfl, hB5, hb5⟩
            go_wp2
            go_roundg g1
            case measure => omega
            case rel =>
              have hB6 := hB5
              rw [HR.out] at hB6
              refine ⟨n3, acc ++ List.replicate k 0, t3, by omega, by simp; omega, by simp; omega, HST.out _ _ _ _ _ HI4.out hb5, hB6, Nat.le_trans hwr4 hb5.size, hbx4.trans (below_but hb5 X), ?_⟩
              show _ = _
              rw [HE.out, places_run hlt HM.out HK.out]
          · have HF := hide (HE.out.trans (places_none2 hlt HM.out hk))
            have hbx3 : But w.heap.size X w w3 := hbx2.trans (But.mono hf3 hwr2 (fun _ e => e))
            clear hk
            go_wp2
            exact ⟨rfl, hbx3, .inr ⟨HF.out, rfl⟩⟩
        · have hne : ((m : Int) == 1) = false := by rw [beq_eq_false_iff_ne]; omega
          have hw8 : IntKind.u8.wrap ((m : Int) - 1) = ((m - 1 : Nat) : Int) := by rw [IntWalk.u8_in _ (by omega)]; omega
          have CW := hide (write_any w.heap.size w.heap.size (Lib.byteCells acc) ((m - 1 : Nat) : Int) w2 hB2 (by rw [Lib.byteCells_length]; omega) hwr2)
          have HM := hide hm
          have HI := hide hI2
          clear hm hI2 hB2
          go_wp2_with fail
          go_at_call 63
          refine CW.out.mono ?_
          rintro e w3 ⟨rfl, hB3, hb3⟩
          go_wp2
          go_roundg g1
          case measure => omega
          case rel =>
            have hB6 : Lib.IsBuilder 83 5 w.heap.size w.heap.size (Lib.byteCells (acc ++ [UInt8.ofNat (m - 1)])) w3 := by
              rw [← byteCells_snoc, show ((UInt8.ofNat (m - 1)).toNat : Int) = ((m - 1 : Nat) : Int) by simp; omega]
              exact .inr hB3
            refine ⟨n2, acc ++ [UInt8.ofNat (m - 1)], t2, by omega, by simp; omega, by simp; omega, HST.out _ _ _ _ _ HI.out hb3, hB6, Nat.le_trans hwr2 hb3.size, hbx2.trans (below_but hb3 X), ?_⟩
            show _ = _
            rw [HE.out, places_byte hlt HM.out h1]
      · have HF := hide (HE.out.trans (places_none hlt hm))
        have hbx2 : But w.heap.size X w w2 := hbx.trans (But.mono hf2 hwr (fun _ e => e))
        clear hm
        go_wp2
        exact ⟨rfl, hbx2, .inr ⟨HF.out, rfl⟩⟩
    · have HF := hide (HE.out.trans (places_full hlt))
      have CS := hide (Tryz.Builder_String_any _ _ _ _ hB hwr)
      go_wp2_with (go_at_call 82; refine CL.out.mono ?_; rintro e w' ⟨rfl, hw⟩; rw [hw]; clear hw w')
      go_at_call 64
      refine CS.out.mono ?_
      rintro e w3 ⟨rfl, hb3⟩
      go_wp2
      go_ret
      exact ⟨hbx.trans (below_but (hb3.mono (by omega)) X), .inl ⟨acc, HF.out, hal, rfl⟩⟩
end Go.Proofs.YtkiindkoiomieaaGreatDoor
end

section
/-
  P7: the walks of unpackedBlock.
-/
namespace Go.Proofs.YtkiindkoiomieaaGreatDoor
open Go.RowKit

theorem enters_nextLikely (args : Array Value) (w : World) : (callFunc 132 args).run Tryz.prog w = .ok (.enter 132 args) w := enters_of Tryz.func132 (by kernel_rfl) rfl args w

theorem BitsAt.below {bt be bp H : Nat} {S : ByteArray} {all l : List Nat} {w w' : World} (h : BitsAt bt be bp S all l w) (hb : Below H w w') (h1 : bt < H) (h2 : be < H) (h3 : bp < H) : BitsAt bt be bp S all l w' := by
  obtain ⟨p, hR, hp, hl⟩ := h
  exact ⟨p, hR.keep (fun k hk => hb.block k (by rcases hk with rfl | rfl | rfl <;> assumption)), hp, hl⟩

theorem ReAt.below {bl bcv bnum bpv bnd bc bm ba mb bt be bp bn bz : Nat} {S : ByteArray} {all : List Nat} {n H : Nat} {r : Co.Re} {w w' : World} (h : ReAt bl bcv bnum bpv bnd bc bm ba mb bt be bp bn bz S all n r w) (hb : Below H w w') (hl : ∀ k ∈ [bl, bcv, bnum, bpv, bnd, bc, bm, ba, mb, bt, be, bp, bn, bz], k < H) : ReAt bl bcv bnum bpv bnd bc bm ba mb bt be bp bn bz S all n r w' := by
  have key : ∀ k, k ∈ [bl, bcv, bnum, bpv, bnd, bc, bm, ba, mb, bt, be, bp, bn, bz] → w'.heap[k]? = w.heap[k]? := fun k hk => hb.block k (hl k hk)
  refine ⟨by unfold SpanAt; rw [key bl (by simp)]; exact h.sp, by rw [key bcv (by simp)]; exact h.cv, by rw [key bnum (by simp)]; exact h.num, by rw [key bpv (by simp)]; exact h.pv, by rw [key bnd (by simp)]; exact h.nd, h.fo.keep (fun k hk => key k ?_), ?_⟩
  · rcases hk with rfl | rfl | rfl | rfl <;> simp
  · exact ⟨h.pa.rd.below hb (hl bt (by simp)) (hl be (by simp)) (hl bp (by simp)), by rw [key bn (by simp)]; exact h.pa.hN, by rw [key bz (by simp)]; exact h.pa.hZ, h.pa.ne⟩

theorem ReAt.lts {bl bcv bnum bpv bnd bc bm ba mb bt be bp bn bz : Nat} {S : ByteArray} {all : List Nat} {n : Nat} {r : Co.Re} {w : World} (h : ReAt bl bcv bnum bpv bnd bc bm ba mb bt be bp bn bz S all n r w) : ∀ k ∈ [bl, bcv, bnum, bpv, bnd, bc, bm, ba, mb, bt, be, bp, bn, bz], k < w.heap.size := by
  obtain ⟨es, clock, hmb⟩ := h.hmb
  obtain ⟨p, hR, _, _⟩ := h.pa.rd
  intro k hk
  simp only [List.mem_cons, List.mem_nil_iff, or_false] at hk
  rcases hk with rfl | rfl | rfl | rfl | rfl | rfl | rfl | rfl | rfl | rfl | rfl | rfl | rfl | rfl
  · exact h.sp.lt
  · exact heap_lt0 h.cv
  · exact heap_lt0 h.num
  · exact heap_lt0 h.pv
  · exact heap_lt0 h.nd
  · exact heap_lt0 h.fo.hC
  · exact heap_lt0 h.fo.hM
  · exact heap_lt0 h.fo.hA
  · exact heap_lt0 hmb
  · exact heap_lt0 hR.hT
  · exact heap_lt0 hR.hE
  · exact heap_lt0 hR.hP
  · exact heap_lt0 h.pa.hN
  · exact heap_lt0 h.pa.hZ

theorem gives_likely (bl bcv bnum bpv bnd bc bm ba mb bt be bp bn bz H : Nat) (S : ByteArray) (all : List Nat) (hS : S.data.toList = all.map ch) (hb : ∀ d ∈ all, d < 2) (hs : S.size ≤ 100000) :
    Gives 132 #[.pointer (some ⟨bl, 0, none⟩), .pointer (some ⟨bcv, 0, none⟩), .pointer (some ⟨bnum, 0, none⟩), .pointer (some ⟨bpv, 0, none⟩), .pointer (some ⟨bnd, 0, none⟩)] Co.Re.next (fun n q r w => ReAt bl bcv bnum bpv bnd bc bm ba mb bt be bp bn bz S all n r w ∧ ReOk r ∧ r.fo.pl.2 = q ∧ ∀ k ∈ [bl, bcv, bnum, bpv, bnd, bc, bm, ba, mb, bt, be, bp, bn, bz], k < H) [bl, bnum, ba, mb, bp, bz] 50000 := by
  intro n q r w hn _ hq2 ⟨hR, hok, hq, hH⟩
  refine (nextLikely_any bl bcv bnum bpv bnd bc bm ba mb bt be bp bn bz S all n r w hS hb hs (by omega) (by rw [hq]; exact hq2) hok hR).mono ?_
  rintro e w' ⟨hf, ⟨b, r', h1, h2, rfl, h3, h4, h5⟩ | ⟨h1, rfl⟩⟩
  · exact ⟨hf, .inl ⟨b, r', h1, h2, rfl, h3, h4, by rw [h5, hq], hH⟩⟩
  · exact ⟨hf, .inr ⟨h1, rfl⟩⟩

theorem re0_ok (all : List Nat) (hb : ∀ d ∈ all, d < 2) : ReOk (Co.re0 all) := by
  refine ⟨Co.wr0_open.1, Co.wr0_open.2.1, Co.wr0_open.2.2, ?_, ?_⟩
  · have := Co.win_lt 32 all hb
    exact this
  · show min 32 all.length ≤ 32
    omega

theorem behind_length : ∀ (s l : List UInt8), (behindL l s).length = s.length
  | [], _ => rfl
  | c :: s, l => by
    rw [behindL, List.length_cons, List.length_cons, behind_length s]

set_option maxHeartbeats 4000000 in
set_option maxRecDepth 100000 in
theorem unpackedBlock_any (P : ByteArray) (size : Nat) (w : World) (hP : P.size ≤ 4000) (hsz : size ≤ 200) :
    Calls Tryz.prog 77 #[.string P, .int .i64 (size : Int)] w fun e w' => Below w.heap.size w w' ∧ ∃ r, Co.UnOf P.data.toList size r ∧ ((∃ d, r = some d ∧ e = .returned (.string ⟨d.toArray⟩)) ∨ (r = none ∧ e = .panicked [gaveUp])) := by
  by_cases h0 : P.size = 0
  · have hPe : P = ByteArray.empty := bytes_ext (by
      have : P.data.toList.length = 0 := by rw [← Lib.size_eq]; exact h0
      rw [List.length_eq_zero_iff.1 this]
      rfl)
    subst hPe
    go_enter Tryz.func77, Tryz.ntmps77
    go_wp2
    exact ⟨rfl, Below.refl _ _, none, rfl, .inr ⟨rfl, rfl⟩⟩
  · have hpos : 0 < P.size := by omega
    have hcons : P.data.toList = P[0] :: P.data.toList.drop 1 := by
      have := drop_byte P 0 hpos
      simpa using this
    have hemp : P.toList.isEmpty = false := by rw [ByteArray.toList_eq, hcons]; rfl
    obtain ⟨R, hR⟩ : ∃ R : ByteArray, R = ⟨(P.data.toList.drop 1).toArray⟩ := ⟨_, rfl⟩
    have hRd : R.data.toList = P.data.toList.drop 1 := by rw [hR]
    have hRs : R.size ≤ 4000 := by rw [Lib.size_eq, hRd, List.length_drop, ← Lib.size_eq]; omega
    have hsl : ∀ W, (Instr.slice 9 (.string P) (some (.int .i64 1)) none none).run Tryz.prog W = .ok (.string R) W := fun W => by
      rw [hR]
      exact slice_from P 1 (by omega) W
    obtain ⟨all, hall⟩ : ∃ all, all = Co.bitsF R.data.toList := ⟨_, rfl⟩
    have hbits : ∀ d ∈ all, d < 2 := by rw [hall]; exact Co.bitsF_bits _
    obtain ⟨SB, hSB⟩ : ∃ SB : ByteArray, SB = ⟨(all.map ch).toArray⟩ := ⟨_, rfl⟩
    have hSBd : SB.data.toList = all.map ch := by rw [hSB]
    have hSBs : SB.size ≤ 100000 := by rw [Lib.size_eq, hSBd, List.length_map, hall, Co.bitsF_length, ← Lib.size_eq]; omega
    have CBo := hide (bitsOf_any R w (by omega))
    rw [← hall, ← hSB] at CBo
    have hunD : ∀ r, Co.UnOf P.data.toList size r ↔ (if P[0] = 2 then Co.BackTo size (Co.placesG Co.Re.next size size [] (Co.re0 all)) r else if P[0] = 1 then Co.BackTo size (Co.placesG Co.nxL size size [] all) r else if P[0] = 0 then r = Co.chk R.data.toList size else r = none) := fun r => by
      rw [hcons, hall, hRd]
      exact Iff.rfl
    have HUD := hide hunD
    clear hunD hcons hR hRd hall hSB
    have HSB := hide hSBd
    have HBT := hide hbits
    clear hSBd hbits
    go_enter Tryz.func77, Tryz.ntmps77
    go_wp2_with fail
    go_at_call 105
    refine CBo.out.mono ?_
    rintro e w1 ⟨rfl, hb1⟩
    go_wp2_with fail
    go_at_call 39
    refine (reader_any SB w1).mono ?_
    rintro e w2 ⟨rfl, hR2, hb2, hsz2⟩
    have y1 := hb1.size
    have k2 : Below w.heap.size w w2 := hb1.trans (hb2.mono y1)
    have hBA : BitsAt w1.heap.size (w1.heap.size + 1) (w1.heap.size + 1 + 1) SB all all w2 := ⟨0, hR2, by omega, rfl⟩
    have hl2 : w1.heap.size + 3 ≤ w2.heap.size := by rw [hsz2]; exact Nat.le_refl _
    have HBA := hide hBA
    clear hBA hR2 hb2 hsz2 hb1
    by_cases c2 : P[0] = 2
    · have hcI : (P[0].toNat : Int) = 2 := by rw [c2]; rfl
      have HU : Hid (∀ r, Co.BackTo size (Co.placesG Co.Re.next size size [] (Co.re0 all)) r → Co.UnOf P.data.toList size r) := hide (fun r hr => (HUD.out r).2 (by rw [if_pos c2]; exact hr))
      clear c2 HUD
      go_wp2_with fail
      go_at_call 106
      refine (likelyReader_any _ _ _ SB all w2 HSB.out HBT.out hSBs HBA.out).mono ?_
      rintro e w3 ⟨bl, bcv, bnum, bpv, bnd, bc, bm, ba, mb, bn, bz, rfl, hRe, hf3, i1, i2, i3, i4, i5⟩
      have y3 := hf3.size
      have k3 : Below w.heap.size w w3 := k2.trans (hf3.below (by omega) (fun k hk => by simp at hk; omega))
      have hlts := hRe.lts
      have hst : Stays (fun n q (r : Co.Re) (w : World) => ReAt bl bcv bnum bpv bnd bc bm ba mb w1.heap.size (w1.heap.size + 1) (w1.heap.size + 1 + 1) bn bz SB all n r w ∧ ReOk r ∧ r.fo.pl.2 = q ∧ ∀ k ∈ [bl, bcv, bnum, bpv, bnd, bc, bm, ba, mb, w1.heap.size, w1.heap.size + 1, w1.heap.size + 1 + 1, bn, bz], k < w3.heap.size) w3.heap.size := fun n q r u u' hI hb => ⟨hI.1.below hb hI.2.2.2, hI.2⟩
      have CPl := hide (places_gen 132 _ enters_nextLikely Co.Re.next _ _ 50000 (gives_likely bl bcv bnum bpv bnd bc bm ba mb w1.heap.size (w1.heap.size + 1) (w1.heap.size + 1 + 1) bn bz w3.heap.size SB all HSB.out HBT.out hSBs) size (Co.re0 all) w3 hsz (by omega) (fun k hk => hlts k (by simp at hk; rcases hk with rfl | rfl | rfl | rfl | rfl | rfl <;> simp)) hst ⟨hRe, re0_ok all HBT.out, rfl, hlts⟩)
      clear hRe hlts hst HBA
      go_wp2_with fail
      go_at_call 107
      refine CPl.out.mono ?_
      rintro e w4 ⟨hf4, ⟨x, hx, hxl, rfl⟩ | ⟨hx, rfl⟩⟩
      · have k4 : Below w.heap.size w w4 := k3.trans (hf4.below (by omega) (fun k hk => by simp at hk; omega))
        clear CPl hf4 hf3
        have CB := hide (bytesAt_any ⟨x.toArray⟩ w4 (by rw [Lib.size_eq]; exact hxl))
        obtain ⟨Y, hY⟩ : ∃ Y : ByteArray, Y = ⟨(behindL (part 256) x).toArray⟩ := ⟨_, rfl⟩
        have hYd : Y.data.toList = behindL (part 256) x := by rw [hY]
        have hYs : Y.size ≤ 500 := by rw [Lib.size_eq, hYd, behind_length]; exact hxl
        have eY : (.string ⟨(behindL (part 256) (⟨x.toArray⟩ : ByteArray).data.toList).toArray⟩ : Value) = .string Y := by rw [hY]
        rw [eY] at CB
        have HY := hide hYd
        have HX := hide hx
        clear hY eY hYd hx
        go_wp2_with fail
        go_at_call 36
        refine CB.out.mono ?_
        rintro e wb ⟨rfl, hbb⟩
        go_wp2_with fail
        go_at_call 58
        refine (turnedBack_any Y wb hYs).mono ?_
        rintro e wc ⟨b, ws, rfl, g1, f1, t1, hbc⟩
        rw [HY.out] at t1
        have hT : Co.TurnOf b (behindL (part 256) x) := ⟨ws, g1, f1, t1⟩
        have kc : Below w.heap.size w wc := (k4.trans (hbb.mono k4.size)).trans (hbc.mono (Nat.le_trans k4.size hbb.size))
        obtain ⟨D, hD⟩ : ∃ D : ByteArray, D = ⟨b.toArray⟩ := ⟨_, rfl⟩
        have hDd : D.data.toList = b := by rw [hD]
        have eD : strV b = .string D := by rw [hD]; rfl
        rw [eD]
        have hDs : D.size = b.length := by rw [Lib.size_eq, hDd]
        have hbl : b.length ≤ 500 := by rw [← hT.length, behind_length]; exact hxl
        have HT := hide hT
        have HD := hide hD
        have HDS := hide hDs
        have hDle : D.size ≤ 500 := by rw [hDs]; exact hbl
        clear hT hD eD hDd g1 f1 t1 hDs
        by_cases hlen : D.size = size
        · have hneq : ((D.size : Int) != (size : Int)) = false := by rw [hlen]; simp
          have hun : Co.UnOf P.data.toList size (some b) := HU.out _ (by rw [HX.out]; exact ⟨b, HT.out, by unfold Co.chk; rw [if_pos (HDS.out.symm.trans hlen)]⟩)
          have HUN := hide hun
          have HLE := hide hlen
          clear hun hlen
          go_wp2_with fail
          go_at_call 56
          refine (clone_any D wc (by rw [HLE.out]; omega)).mono ?_
          rintro e wd ⟨rfl, hbd⟩
          go_wp2
          go_ret
          exact ⟨kc.trans (hbd.mono kc.size), some b, HUN.out, .inl ⟨b, rfl, by rw [← HD.out]; rfl⟩⟩
        · have hneq : ((D.size : Int) != (size : Int)) = true := by rw [bne_iff_ne]; omega
          have hun : Co.UnOf P.data.toList size none := HU.out _ (by rw [HX.out]; exact ⟨b, HT.out, by unfold Co.chk; rw [if_neg (fun e => hlen (HDS.out.trans e))]⟩)
          have HUN := hide hun
          clear hun
          go_wp2
          exact ⟨rfl, kc, none, HUN.out, .inr ⟨rfl, rfl⟩⟩
      · have k4 : Below w.heap.size w w4 := k3.trans (hf4.below (by omega) (fun k hk => by simp at hk; omega))
        have hun : Co.UnOf P.data.toList size none := HU.out _ (by rw [hx]; rfl)
        have HUN := hide hun
        clear hun hx CPl
        go_wp2
        exact ⟨rfl, k4, none, HUN.out, .inr ⟨rfl, rfl⟩⟩
    · have t2 : ((P[0].toNat : Int) == 2) = false := by
        rw [beq_eq_false_iff_ne]
        intro e
        exact c2 (UInt8.toNat_inj.1 (by show P[0].toNat = 2; omega))
      by_cases c1 : P[0] = 1
      · have t1 : ((P[0].toNat : Int) == 1) = true := by rw [c1]; rfl
        have HU : Hid (∀ r, Co.BackTo size (Co.placesG Co.nxL size size [] all) r → Co.UnOf P.data.toList size r) := hide (fun r hr => (HUD.out r).2 (by rw [if_neg c2, if_pos c1]; exact hr))
        clear c2 c1 HUD
        have hst : Stays (fun (_ _ : Nat) (l : List Nat) (w : World) => BitsAt w1.heap.size (w1.heap.size + 1) (w1.heap.size + 1 + 1) SB all l w) w2.heap.size := fun n q r u u' hI hb => hI.below hb (by omega) (by omega) (by omega)
        have CPl := hide (places_gen 71 _ enters_next Co.nxL _ _ 50000 (gives_plain w1.heap.size (w1.heap.size + 1) (w1.heap.size + 1 + 1) SB all 50000 HSB.out HBT.out hSBs) size all w2 hsz (by omega) (fun k hk => by simp at hk; omega) hst HBA.out)
        clear hst HBA
        go_wp2_with fail
        go_at_call 107
        refine CPl.out.mono ?_
        rintro e w4 ⟨hf4, ⟨x, hx, hxl, rfl⟩ | ⟨hx, rfl⟩⟩
        · have k4 : Below w.heap.size w w4 := k2.trans (hf4.below (by omega) (fun k hk => by simp at hk; omega))
          clear CPl hf4
          have CB := hide (bytesAt_any ⟨x.toArray⟩ w4 (by rw [Lib.size_eq]; exact hxl))
          obtain ⟨Y, hY⟩ : ∃ Y : ByteArray, Y = ⟨(behindL (part 256) x).toArray⟩ := ⟨_, rfl⟩
          have hYd : Y.data.toList = behindL (part 256) x := by rw [hY]
          have hYs : Y.size ≤ 500 := by rw [Lib.size_eq, hYd, behind_length]; exact hxl
          have eY : (.string ⟨(behindL (part 256) (⟨x.toArray⟩ : ByteArray).data.toList).toArray⟩ : Value) = .string Y := by rw [hY]
          rw [eY] at CB
          have HY := hide hYd
          have HX := hide hx
          clear hY eY hYd hx
          go_wp2_with fail
          go_at_call 36
          refine CB.out.mono ?_
          rintro e wb ⟨rfl, hbb⟩
          go_wp2_with fail
          go_at_call 58
          refine (turnedBack_any Y wb hYs).mono ?_
          rintro e wc ⟨b, ws, rfl, g1, f1, t1, hbc⟩
          rw [HY.out] at t1
          have hT : Co.TurnOf b (behindL (part 256) x) := ⟨ws, g1, f1, t1⟩
          have kc : Below w.heap.size w wc := (k4.trans (hbb.mono k4.size)).trans (hbc.mono (Nat.le_trans k4.size hbb.size))
          obtain ⟨D, hD⟩ : ∃ D : ByteArray, D = ⟨b.toArray⟩ := ⟨_, rfl⟩
          have hDd : D.data.toList = b := by rw [hD]
          have eD : strV b = .string D := by rw [hD]; rfl
          rw [eD]
          have hDs : D.size = b.length := by rw [Lib.size_eq, hDd]
          have hbl : b.length ≤ 500 := by rw [← hT.length, behind_length]; exact hxl
          have HT := hide hT
          have HD := hide hD
          have HDS := hide hDs
          have hDle : D.size ≤ 500 := by rw [hDs]; exact hbl
          clear hT hD eD hDd g1 f1 t1 hDs
          by_cases hlen : D.size = size
          · have hneq : ((D.size : Int) != (size : Int)) = false := by rw [hlen]; simp
            have hun : Co.UnOf P.data.toList size (some b) := HU.out _ (by rw [HX.out]; exact ⟨b, HT.out, by unfold Co.chk; rw [if_pos (HDS.out.symm.trans hlen)]⟩)
            have HUN := hide hun
            have HLE := hide hlen
            clear hun hlen
            go_wp2_with fail
            go_at_call 56
            refine (clone_any D wc (by rw [HLE.out]; omega)).mono ?_
            rintro e wd ⟨rfl, hbd⟩
            go_wp2
            go_ret
            exact ⟨kc.trans (hbd.mono kc.size), some b, HUN.out, .inl ⟨b, rfl, by rw [← HD.out]; rfl⟩⟩
          · have hneq : ((D.size : Int) != (size : Int)) = true := by rw [bne_iff_ne]; omega
            have hun : Co.UnOf P.data.toList size none := HU.out _ (by rw [HX.out]; exact ⟨b, HT.out, by unfold Co.chk; rw [if_neg (fun e => hlen (HDS.out.trans e))]⟩)
            have HUN := hide hun
            clear hun
            go_wp2
            exact ⟨rfl, kc, none, HUN.out, .inr ⟨rfl, rfl⟩⟩
        · have k4 : Below w.heap.size w w4 := k2.trans (hf4.below (by omega) (fun k hk => by simp at hk; omega))
          have hun : Co.UnOf P.data.toList size none := HU.out _ (by rw [hx]; rfl)
          have HUN := hide hun
          clear hun hx CPl
          go_wp2
          exact ⟨rfl, k4, none, HUN.out, .inr ⟨rfl, rfl⟩⟩
      · have t1 : ((P[0].toNat : Int) == 1) = false := by
          rw [beq_eq_false_iff_ne]
          intro e
          exact c1 (UInt8.toNat_inj.1 (by show P[0].toNat = 1; omega))
        by_cases c0 : P[0] = 0
        · have t0 : ((P[0].toNat : Int) == 0) = true := by rw [c0]; rfl
          have HU : Hid (∀ r, r = Co.chk R.data.toList size → Co.UnOf P.data.toList size r) := hide (fun r hr => (HUD.out r).2 (by rw [if_neg c2, if_neg c1, if_pos c0]; exact hr))
          clear c2 c1 c0 HUD
          by_cases hlen : R.size = size
          · have hneq : ((R.size : Int) != (size : Int)) = false := by rw [hlen]; simp
            have hun : Co.UnOf P.data.toList size (some R.data.toList) := HU.out _ (by unfold Co.chk; rw [if_pos ((Lib.size_eq R).symm.trans hlen)])
            have HUN := hide hun
            have HLE := hide hlen
            clear hun hlen
            go_wp2_with fail
            go_at_call 56
            refine (clone_any R w2 (by rw [HLE.out]; omega)).mono ?_
            rintro e wd ⟨rfl, hbd⟩
            go_wp2
            go_ret
            exact ⟨k2.trans (hbd.mono k2.size), some R.data.toList, HUN.out, .inl ⟨R.data.toList, rfl, rfl⟩⟩
          · have hneq : ((R.size : Int) != (size : Int)) = true := by rw [bne_iff_ne]; omega
            have hun : Co.UnOf P.data.toList size none := HU.out _ (by unfold Co.chk; rw [if_neg (fun e => hlen ((Lib.size_eq R).trans e))])
            have HUN := hide hun
            clear hun
            go_wp2
            exact ⟨rfl, k2, none, HUN.out, .inr ⟨rfl, rfl⟩⟩
        · have t0 : ((P[0].toNat : Int) == 0) = false := by
            rw [beq_eq_false_iff_ne]
            intro e
            exact c0 (UInt8.toNat_inj.1 (by show P[0].toNat = 0; omega))
          have hun : Co.UnOf P.data.toList size none := (HUD.out none).2 (by rw [if_neg c2, if_neg c1, if_neg c0])
          have HUN := hide hun
          clear hun c2 c1 c0 HUD
          go_wp2
          exact ⟨rfl, k2, none, HUN.out, .inr ⟨rfl, rfl⟩⟩
end Go.Proofs.YtkiindkoiomieaaGreatDoor
end

section
/-
  P7: the walk of Unpack: what is given up from deep within is caught at the face.
-/
namespace Go.Proofs.YtkiindkoiomieaaGreatDoor
open Go.RowKit

set_option maxRecDepth 100000 in
theorem catch_given (a b : Addr) (x : ByteArray) (y : Int) (u : TypeId) (pv : Value) (older : List PanicEntry) (w : World) (ha : w.cell? a = some (.string x)) (hb : w.cell? b = some (.int .i64 y)) (fa : w.frozen? a = false) (fb : w.frozen? b = false) (hne : a.block ≠ b.block) :
    CallsD Tryz.prog 76 #[.pointer (some a), .pointer (some b)] (.panicking ({ v := .iface u pv, recovered := false } :: older)) w fun e u' w' =>
      e = .returned (.tuple #[]) ∧ u' = .panicking ({ v := .iface u pv, recovered := true } :: older) ∧ w' = (w.setCell a (.string ⟨#[]⟩)).setCell b (.int .i64 4) := by
  have hb' : (w.setCell a (.string ⟨#[]⟩)).cell? b = some (.int .i64 y) := by
    rw [World.cell?_of_block (heap_setCell_other _ _ _ _ (fun e => hne e.symm))]
    exact hb
  have fb' : (w.setCell a (.string ⟨#[]⟩)).frozen? b = false := by
    rw [World.frozen?_of_block (heap_setCell_other _ _ _ _ (fun e => hne e.symm))]
    exact fb
  refine callsD_of_wpS Tryz.func76 rfl fun c₀ cs hu => ?_
  apply wpS_seq
  apply wpS_region
  simp [wpOpsS, go_sem, recoverD, hu, Tryz.ntmps76, Exit.thenS]
  refine wpS_cond (t := true) (by simp [Act.eval, Array.replicate]) ?_
  simp only [if_true]
  apply wpS_region
  simp [wpOpsS, go_sem, ha, hb', fa, fb', bodyPostS, results, Tryz.results76]

theorem catch_idle (a b : Addr) (w : World) :
    CallsD Tryz.prog 76 #[.pointer (some a), .pointer (some b)] .returning w fun e u' w' => e = .returned (.tuple #[]) ∧ u' = .returning ∧ w' = w := by
  refine callsD_of_wpS Tryz.func76 rfl fun c₀ cs hu => ?_
  apply wpS_seq
  apply wpS_region
  simp [wpOpsS, go_sem, recoverD, hu, Tryz.ntmps76, Exit.thenS]
  refine wpS_cond (t := false) (by simp [Act.eval, Array.replicate]) ?_
  simp only [Bool.false_eq_true, if_false]
  refine wpS_of_wp (wp_skip ?_)
  cases c₀
  simp_all [bodyPostS, results, Tryz.results76]

set_option maxHeartbeats 1000000 in
set_option maxRecDepth 100000 in
theorem unpack_fit (P : ByteArray) (size : Nat) (w : World) (hP : P.size ≤ 4000) (hsz : size ≤ 200) :
    Calls Tryz.prog 43 #[.string P, .int .i64 (size : Int)] w fun e w' => Below w.heap.size w w' ∧ ∃ r, Co.UnOf P.data.toList size r ∧ ((∃ d, r = some d ∧ e = .returned (.tuple #[.string ⟨d.toArray⟩, .int .i64 0])) ∨ (r = none ∧ e = .returned (.tuple #[.string ⟨#[]⟩, .int .i64 4]))) := by
  have hmf : ∀ (fn : Fn) (first cap : Array Value) (w : World), (Instr.makeFunc fn first cap).run Tryz.prog w = .ok (.func fn first cap) w := fun _ _ _ _ => rfl
  go_enter_defers Tryz.func43, Tryz.ntmps43
  go_wp2_with fail
  go_at_call 77
  refine (unpackedBlock_any P size _ hP hsz).mono ?_
  obtain ⟨q0, q1, _, qs⟩ := two_new w (.cells #[.string ⟨#[]⟩] 9) (.cells #[.int .i64 0] 27)
  rintro e w1 ⟨hb1, r, hr, hcase⟩
  have k1 : Below w.heap.size w w1 := (((Below.refl _ w).alloc (Nat.le_refl _) _).alloc (by simp) _).trans (hb1.mono (by rw [qs]; omega))
  rw [qs] at hb1
  have g0 : w1.heap[w.heap.size]? = _ := (hb1.block _ (by omega)).trans q0
  have g1 : w1.heap[w.heap.size + 1]? = _ := (hb1.block _ (by omega)).trans q1
  have c0 : w1.cell? ⟨w.heap.size, 0, none⟩ = some (.string ⟨#[]⟩) := by rw [Lib.cell_of_heap g0]; rfl
  have c1 : w1.cell? ⟨w.heap.size + 1, 0, none⟩ = some (.int .i64 0) := by rw [Lib.cell_of_heap g1]; rfl
  have f0 : w1.frozen? ⟨w.heap.size, 0, none⟩ = false := Lib.frozen_of_heap g0 0
  have f1 : w1.frozen? ⟨w.heap.size + 1, 0, none⟩ = false := Lib.frozen_of_heap g1 0
  have HR := hide hr
  have HG := hide (And.intro g0 g1)
  clear hr hb1 q0 q1 qs g0 g1
  rcases hcase with ⟨d, rfl, rfl⟩ | ⟨rfl, rfl⟩
  · obtain ⟨D, hD⟩ : ∃ D : ByteArray, D = ⟨d.toArray⟩ := ⟨_, rfl⟩
    rw [← hD]
    have HD := hide hD
    clear hD
    go_wp2
    have e0 : ((w1.setCell ⟨w.heap.size, 0, none⟩ (.string D)).setCell ⟨w.heap.size + 1, 0, none⟩ (.int .i64 0)).cell? ⟨w.heap.size, 0, none⟩ = some (.string D) := by
      rw [World.cell?_of_block (heap_setCell_other _ _ _ _ (by show w.heap.size ≠ w.heap.size + 1; omega))]
      rw [Lib.cell_of_heap (heap_setCell_same _ _ _ _ _ _ HG.out.1)]
      rfl
    have e1 : ((w1.setCell ⟨w.heap.size, 0, none⟩ (.string D)).setCell ⟨w.heap.size + 1, 0, none⟩ (.int .i64 0)).cell? ⟨w.heap.size + 1, 0, none⟩ = some (.int .i64 0) := by
      have : (w1.setCell ⟨w.heap.size, 0, none⟩ (.string D)).heap[w.heap.size + 1]? = some (.cells #[.int .i64 0] 27 (0, 0)) := by
        rw [heap_setCell_other _ _ _ _ (by show w.heap.size + 1 ≠ w.heap.size; omega)]
        exact HG.out.2
      rw [Lib.cell_of_heap (heap_setCell_same _ _ _ _ _ _ this)]
      rfl
    refine leaves_cons (f := 76) (args := #[.pointer (some ⟨w.heap.size, 0, none⟩), .pointer (some ⟨w.heap.size + 1, 0, none⟩)]) (by simp) (by simp [go_sem]) ?_
    refine (catch_idle _ _ _).mono ?_
    rintro e u' w'' ⟨rfl, rfl, rfl⟩
    simp [Leaves, settle, results, Tryz.results43, go_sem, e0, e1]
    exact ⟨(k1.setCell (p := ⟨w.heap.size, 0, none⟩) (Nat.le_refl _) _).setCell (p := ⟨w.heap.size + 1, 0, none⟩) (Nat.le_succ _) _, some d, HR.out, d, rfl, HD.out⟩
  · go_wp2
    have e0 : ((w1.setCell ⟨w.heap.size, 0, none⟩ (.string ⟨#[]⟩)).setCell ⟨w.heap.size + 1, 0, none⟩ (.int .i64 4)).cell? ⟨w.heap.size, 0, none⟩ = some (.string ⟨#[]⟩) := by
      rw [World.cell?_of_block (heap_setCell_other _ _ _ _ (by show w.heap.size ≠ w.heap.size + 1; omega))]
      rw [Lib.cell_of_heap (heap_setCell_same _ _ _ _ _ _ HG.out.1)]
      rfl
    have e1 : ((w1.setCell ⟨w.heap.size, 0, none⟩ (.string ⟨#[]⟩)).setCell ⟨w.heap.size + 1, 0, none⟩ (.int .i64 4)).cell? ⟨w.heap.size + 1, 0, none⟩ = some (.int .i64 4) := by
      have : (w1.setCell ⟨w.heap.size, 0, none⟩ (.string ⟨#[]⟩)).heap[w.heap.size + 1]? = some (.cells #[.int .i64 0] 27 (0, 0)) := by
        rw [heap_setCell_other _ _ _ _ (by show w.heap.size + 1 ≠ w.heap.size; omega)]
        exact HG.out.2
      rw [Lib.cell_of_heap (heap_setCell_same _ _ _ _ _ _ this)]
      rfl
    refine leaves_cons (f := 76) (args := #[.pointer (some ⟨w.heap.size, 0, none⟩), .pointer (some ⟨w.heap.size + 1, 0, none⟩)]) (by simp) (by simp [go_sem]) ?_
    refine (catch_given ⟨w.heap.size, 0, none⟩ ⟨w.heap.size + 1, 0, none⟩ _ _ 9 _ [] w1 c0 c1 f0 f1 (by show w.heap.size ≠ w.heap.size + 1; omega)).mono ?_
    rintro e u' w'' ⟨rfl, rfl, rfl⟩
    simp [Leaves, settle, results, Tryz.results43, go_sem, e0, e1]
    exact ⟨(k1.setCell (p := ⟨w.heap.size, 0, none⟩) (Nat.le_refl _) _).setCell (p := ⟨w.heap.size + 1, 0, none⟩) (Nat.le_succ _) _, HR.out⟩

set_option maxHeartbeats 1000000 in
set_option maxRecDepth 100000 in
theorem unpack_long (P : ByteArray) (size : Int) (w : World) (hP : 4000 < P.size) (hm : P.size ≤ 9223372036854775807) :
    Calls Tryz.prog 43 #[.string P, .int .i64 size] w fun e w' => Below w.heap.size w w' ∧ e = .returned (.tuple #[.string ⟨#[]⟩, .int .i64 1]) := by
  have hdec : decide ((4000 : Int) < (P.size : Int)) = true := decide_eq_true (by omega)
  go_enter_defers Tryz.func43, Tryz.ntmps43
  go_wp2
  simp [bodyPostD, Leaves, results, Tryz.results43, go_sem]
  exact ((Below.refl _ w).alloc (Nat.le_refl _) _).alloc (by simp) _

set_option maxHeartbeats 1000000 in
set_option maxRecDepth 100000 in
theorem unpack_arg (P : ByteArray) (size : Int) (w : World) (hP : P.size ≤ 4000) (hs : size < 0 ∨ 200 < size) :
    Calls Tryz.prog 43 #[.string P, .int .i64 size] w fun e w' => Below w.heap.size w w' ∧ e = .returned (.tuple #[.string ⟨#[]⟩, .int .i64 2]) := by
  have hdec : decide ((4000 : Int) < (P.size : Int)) = false := decide_eq_false (by omega)
  have hd2 : (decide (size < 0) || decide (200 < size)) = true := by simpa using hs
  go_enter_defers Tryz.func43, Tryz.ntmps43
  by_cases h0 : size < 0
  · go_wp2
    simp [bodyPostD, Leaves, results, Tryz.results43, go_sem]
    exact ((Below.refl _ w).alloc (Nat.le_refl _) _).alloc (by simp) _
  · have h2 : 200 < size := by omega
    go_wp2
    simp [bodyPostD, Leaves, results, Tryz.results43, go_sem]
    exact ((Below.refl _ w).alloc (Nat.le_refl _) _).alloc (by simp) _
end Go.Proofs.YtkiindkoiomieaaGreatDoor
end

section
/-
  P9: the walks of taker and nextBlock.
-/
namespace Go.Proofs.YtkiindkoiomieaaGreatDoor
open Go.RowKit

/-- What the taker's functions keep. -/
structure TkAt (bt bp : Nat) (T : ByteArray) (p : Nat) (w : World) : Prop where
  hT : w.heap[bt]? = some (.cells #[.string T] 9 (0, 0))
  hP : w.heap[bp]? = some (.cells #[.int .i64 (p : Int)] 3 (0, 0))
  le : p ≤ T.size

theorem TkAt.keep {bt bp : Nat} {T : ByteArray} {p : Nat} {w w' : World} (h : TkAt bt bp T p w) (hb : Below w.heap.size w w') : TkAt bt bp T p w' :=
  ⟨by rw [hb.block bt (heap_lt0 h.hT)]; exact h.hT, by rw [hb.block bp (heap_lt0 h.hP)]; exact h.hP, h.le⟩

set_option maxHeartbeats 400000 in
set_option maxRecDepth 100000 in
theorem taker_any (T : ByteArray) (w : World) :
    Calls Tryz.prog 80 #[.string T] w fun e w' => e = .returned (.tuple #[.func (.func 109) #[] #[.pointer (some ⟨w.heap.size, 0, none⟩), .pointer (some ⟨w.heap.size + 1, 0, none⟩)], .func (.func 110) #[] #[.pointer (some ⟨w.heap.size + 1, 0, none⟩), .pointer (some ⟨w.heap.size, 0, none⟩)]]) ∧ w' = (w.alloc (.cells #[.string T] 9)).alloc (.cells #[.int .i64 0] 3) := by
  have hmf : ∀ (fn : Fn) (first cap : Array Value) (w : World), (Instr.makeFunc fn first cap).run Tryz.prog w = .ok (.func fn first cap) w := fun _ _ _ _ => rfl
  go_enter Tryz.func80, Tryz.ntmps80
  go_wp2
  go_ret2
  exact ⟨rfl, rfl⟩

set_option maxHeartbeats 1000000 in
set_option maxRecDepth 100000 in
theorem take_fit (bt bp : Nat) (T : ByteArray) (p n : Nat) (w : World) (hT : T.size ≤ 4000) (h : TkAt bt bp T p w) (hn : p + n ≤ T.size) :
    Calls Tryz.prog 109 #[.int .i64 (n : Int), .pointer (some ⟨bt, 0, none⟩), .pointer (some ⟨bp, 0, none⟩)] w fun e w' => e = .returned (.string ⟨((T.data.toList.drop p).take n).toArray⟩) ∧ TkAt bt bp T (p + n) w' ∧ OnlyAt bp w w' := by
  have c1 : w.cell? ⟨bt, 0, none⟩ = some (.string T) := by rw [Lib.cell_of_heap h.hT]; rfl
  have c2 : w.cell? ⟨bp, 0, none⟩ = some (.int .i64 (p : Int)) := by rw [Lib.cell_of_heap h.hP]; rfl
  have f2 : w.frozen? ⟨bp, 0, none⟩ = false := Lib.frozen_of_heap h.hP 0
  have hne : bt ≠ bp := ne_tag h.hT h.hP (by simp [tag])
  have hP2 : (w.setCell ⟨bp, 0, none⟩ (.int .i64 ((p + n : Nat) : Int))).heap[bp]? = some (.cells #[.int .i64 ((p + n : Nat) : Int)] 3 (0, 0)) := by
    rw [heap_setCell_same _ _ _ _ _ _ h.hP]
    rfl
  have hK : TkAt bt bp T (p + n) (w.setCell ⟨bp, 0, none⟩ (.int .i64 ((p + n : Nat) : Int))) := ⟨by rw [heap_setCell_other _ _ _ _ (by exact hne)]; exact h.hT, hP2, hn⟩
  obtain ⟨R, hR⟩ : ∃ R : ByteArray, R = ⟨((T.data.toList.drop p).take n).toArray⟩ := ⟨_, rfl⟩
  have hsl : ∀ W, (Instr.slice 9 (.string T) (some (.int .i64 (p : Int))) (some (.int .i64 ((p : Int) + (n : Int)))) none).run Tryz.prog W = .ok (.string R) W := fun W => by
    rw [hR]
    have := slice_mid T p (p + n) (by omega) hn W
    rw [Nat.add_sub_cancel_left, Int.natCast_add] at this
    exact this
  rw [← hR]
  have HK := hide hK
  clear hK hP2 h hR
  go_enter Tryz.func109, Tryz.ntmps109
  go_wp2
  go_ret
  refine ⟨rfl, ?_, OnlyAt.set' _ _ _ _⟩
  have := HK.out
  rw [Int.natCast_add] at this
  exact this

set_option maxHeartbeats 1000000 in
set_option maxRecDepth 100000 in
theorem take_short (bt bp : Nat) (T : ByteArray) (p n : Nat) (w : World) (hT : T.size ≤ 4000) (h : TkAt bt bp T p w) (hn : T.size < p + n) :
    Calls Tryz.prog 109 #[.int .i64 (n : Int), .pointer (some ⟨bt, 0, none⟩), .pointer (some ⟨bp, 0, none⟩)] w fun e w' => e = .panicked [gaveUp] ∧ w' = w := by
  have c1 : w.cell? ⟨bt, 0, none⟩ = some (.string T) := by rw [Lib.cell_of_heap h.hT]; rfl
  have c2 : w.cell? ⟨bp, 0, none⟩ = some (.int .i64 (p : Int)) := by rw [Lib.cell_of_heap h.hP]; rfl
  have hle := h.le
  have hdec : decide ((T.size : Int) - (p : Int) < (n : Int)) = true := decide_eq_true (by omega)
  clear h
  go_enter Tryz.func109, Tryz.ntmps109
  go_wp2
  exact ⟨rfl, rfl, rfl⟩

set_option maxHeartbeats 400000 in
set_option maxRecDepth 100000 in
theorem atEnd_any (bt bp : Nat) (T : ByteArray) (p : Nat) (w : World) (h : TkAt bt bp T p w) :
    Calls Tryz.prog 110 #[.pointer (some ⟨bp, 0, none⟩), .pointer (some ⟨bt, 0, none⟩)] w fun e w' => e = .returned (.bool ((p : Int) == (T.size : Int))) ∧ w' = w := by
  have c1 : w.cell? ⟨bt, 0, none⟩ = some (.string T) := by rw [Lib.cell_of_heap h.hT]; rfl
  have c2 : w.cell? ⟨bp, 0, none⟩ = some (.int .i64 (p : Int)) := by rw [Lib.cell_of_heap h.hP]; rfl
  clear h
  go_enter Tryz.func110, Tryz.ntmps110
  go_wp2
  go_ret
  exact ⟨rfl, rfl⟩
end Go.Proofs.YtkiindkoiomieaaGreatDoor
end

section
/-
  P9: the walks of nextBlock, unframed, Decompress.
-/
namespace Go.Proofs.YtkiindkoiomieaaGreatDoor
open Go.RowKit

/-- What nextBlock answers of what is left of the text. -/
def BlockOf (s : List UInt8) (size : Nat) (o : Option (List UInt8 × Int)) : Prop :=
  if s.length < 6 ∨ s.length < 6 + Co.leN ((s.drop 4).take 2) then o = none
  else ∃ u, Co.UnOf ((s.drop 6).take (Co.leN ((s.drop 4).take 2))) size u ∧ (match u with
    | none => o = some ([], 4)
    | some d => if Co.crcF d = Co.leN (s.take 4) then o = some (d, 0) else o = some ([], 7))

theorem leN_two (l : List UInt8) (h : l.length ≤ 2) : Co.leN l < 65536 := by
  have h1 := Co.leN_lt l
  have h2 : 256 ^ l.length ≤ 256 ^ 2 := Nat.pow_le_pow_right (by omega) h
  have e : (256 : Nat) ^ 2 = 65536 := by decide
  omega

set_option maxHeartbeats 2000000 in
set_option maxRecDepth 100000 in
theorem nextBlock_any (bt bp : Nat) (T : ByteArray) (p size : Nat) (w : World) (hT : T.size ≤ 4000) (hsz : size ≤ 200) (h : TkAt bt bp T p w) :
    Calls Tryz.prog 83 #[.func (.func 109) #[] #[.pointer (some ⟨bt, 0, none⟩), .pointer (some ⟨bp, 0, none⟩)], .int .i64 (size : Int)] w fun e w' => Frm [bp] w w' ∧ ((BlockOf (T.data.toList.drop p) size none ∧ e = .panicked [gaveUp]) ∨ (∃ d c, BlockOf (T.data.toList.drop p) size (some (d, c)) ∧ e = .returned (.tuple #[.string ⟨d.toArray⟩, .int .i64 c]) ∧ (c = 0 → TkAt bt bp T (p + (6 + Co.leN (((T.data.toList.drop p).drop 4).take 2))) w'))) := by
  have hle := h.le
  have hsl : (T.data.toList.drop p).length = T.size - p := by rw [List.length_drop, ← Lib.size_eq]
  obtain ⟨s, hs⟩ : ∃ s, s = T.data.toList.drop p := ⟨_, rfl⟩
  rw [← hs] at hsl
  have hd4 : T.data.toList.drop (p + 4) = s.drop 4 := by rw [hs, List.drop_drop]
  have hd6 : T.data.toList.drop (p + 4 + 2) = s.drop 6 := by rw [hs, List.drop_drop]
  rw [← hs]
  have HS := hide hs
  by_cases h4 : p + 4 ≤ T.size
  · have C1 := hide (take_fit bt bp T p 4 w hT h h4)
    rw [← hs] at C1
    obtain ⟨A, hA⟩ : ∃ A : ByteArray, A = ⟨(s.take 4).toArray⟩ := ⟨_, rfl⟩
    have hAs : A.size ≤ 4 := by rw [Lib.size_eq, hA]; show (s.take 4).length ≤ 4; rw [List.length_take]; omega
    have CN1 := hide (fun W => numberOf_any A W hAs)
    have eA : A.data.toList = s.take 4 := by rw [hA]
    rw [eA] at CN1
    rw [← hA] at C1
    clear h hs hA eA
    by_cases h6 : p + 4 + 2 ≤ T.size
    · obtain ⟨Bq, hBq⟩ : ∃ Bq : ByteArray, Bq = ⟨((s.drop 4).take 2).toArray⟩ := ⟨_, rfl⟩
      have hBs : Bq.size ≤ 2 := by rw [Lib.size_eq, hBq]; show ((s.drop 4).take 2).length ≤ 2; rw [List.length_take]; omega
      have CN2 := hide (fun W => numberOf_any Bq W (by omega))
      have eB : Bq.data.toList = (s.drop 4).take 2 := by rw [hBq]
      rw [eB] at CN2
      obtain ⟨k, hk⟩ : ∃ k, k = Co.leN ((s.drop 4).take 2) := ⟨_, rfl⟩
      have hk16 : k < 65536 := by rw [hk]; exact leN_two _ (by rw [List.length_take]; omega)
      rw [← hk] at CN2
      have HK := hide hk
      have HBQ := hide hBq
      clear hBq eB hk
      go_enter Tryz.func83, Tryz.ntmps83
      go_wp2_with fail
      go_at_call 109
      refine C1.out.mono ?_
      rintro e w1 ⟨rfl, ht1, ho1⟩
      have C2 := hide (take_fit bt bp T (p + 4) 2 w1 hT ht1 h6)
      rw [hd4, ← HBQ.out] at C2
      go_wp2_with (go_at_call 81; refine (CN1.out _).mono ?_; rintro e w' ⟨rfl, hw⟩; rw [hw]; clear hw w')
      go_at_call 109
      refine C2.out.mono ?_
      rintro e w2 ⟨rfl, ht2, ho2⟩
      have f2 : Frm [bp] w w2 := ho1.frm.trans ho2.frm
      clear C1 C2 ho1 ho2 ht1
      have hwk : IntKind.i64.wrap (k : Int) = (k : Int) := IntWalk.i64_in _ (by omega)
      by_cases hkl : p + 4 + 2 + k ≤ T.size
      · obtain ⟨Pk, hPk⟩ : ∃ Pk : ByteArray, Pk = ⟨((s.drop 6).take k).toArray⟩ := ⟨_, rfl⟩
        have hPs : Pk.size ≤ 4000 := by rw [Lib.size_eq, hPk]; show ((s.drop 6).take k).length ≤ 4000; rw [List.length_take]; omega
        have ePk : Pk.data.toList = (s.drop 6).take k := by rw [hPk]
        have C3 := hide (take_fit bt bp T (p + 4 + 2) k w2 hT ht2 hkl)
        rw [hd6, ← hPk] at C3
        have CU := hide (fun W => unpack_fit Pk size W hPs hsz)
        rw [ePk] at CU
        clear ht2 hPk ePk
        go_wp2_with (go_at_call 81; refine (CN2.out _).mono ?_; rintro e w' ⟨rfl, hw⟩; rw [hw]; clear hw w')
        go_at_call 109
        refine C3.out.mono ?_
        rintro e w3 ⟨rfl, ht3, ho3⟩
        have f3 : Frm [bp] w w3 := f2.trans ho3.frm
        have hcond : ¬ (s.length < 6 ∨ s.length < 6 + Co.leN ((s.drop 4).take 2)) := by rw [← HK.out, hsl]; omega
        have HC := hide hcond
        clear hcond f2 ho3 C3
        go_wp2_with fail
        go_at_call 43
        refine (CU.out _).mono ?_
        rintro e w4 ⟨hb4, r, hr, ⟨d, rfl, rfl⟩ | ⟨rfl, rfl⟩⟩
        · have f4 : Frm [bp] w w4 := f3.trans (below_frm hb4 _)
          have hdl := hr.size
          obtain ⟨D, hD⟩ : ∃ D : ByteArray, D = ⟨d.toArray⟩ := ⟨_, rfl⟩
          have hDd : D.data.toList = d := by rw [hD]
          have CS := hide (fun W => sumOf_any D W (by rw [Lib.size_eq, hDd, hdl]; omega))
          rw [hDd] at CS
          rw [← hD]
          have ht4 := ht3.keep hb4
          have HR := hide hr
          have HD := hide hD
          have HT4 := hide ht4
          clear hr hD hDd hdl ht4 ht3 hb4
          by_cases hcrc : Co.crcF d = Co.leN (s.take 4)
          · have hne : ((Co.crcF d : Int) != (Co.leN (s.take 4) : Int)) = false := by rw [hcrc]; simp
            have hB : BlockOf s size (some (d, 0)) := by
              unfold BlockOf
              rw [if_neg HC.out, ← HK.out]
              exact ⟨some d, HR.out, by simp only; rw [if_pos hcrc]; trivial⟩
            have HB := hide hB
            clear hB hcrc
            go_wp2_with (go_at_call 111; refine (CS.out _).mono ?_; rintro e w' ⟨rfl, hw⟩; rw [hw]; clear hw w')
            go_ret2
            refine ⟨f4, .inr ⟨d, 0, HB.out, by rw [← HD.out]; rfl, fun _ => ?_⟩⟩
            have := HT4.out
            rw [← HK.out, show p + (6 + k) = p + 4 + 2 + k by omega]
            exact this
          · have hne : ((Co.crcF d : Int) != (Co.leN (s.take 4) : Int)) = true := by rw [bne_iff_ne]; omega
            have hB : BlockOf s size (some ([], 7)) := by
              unfold BlockOf
              rw [if_neg HC.out, ← HK.out]
              exact ⟨some d, HR.out, by simp only; rw [if_neg hcrc]; trivial⟩
            have HB := hide hB
            clear hB hcrc
            go_wp2_with (go_at_call 111; refine (CS.out _).mono ?_; rintro e w' ⟨rfl, hw⟩; rw [hw]; clear hw w')
            go_ret2
            exact ⟨f4, .inr ⟨[], 7, HB.out, rfl, fun h => by cases h⟩⟩
        · have f4 : Frm [bp] w w4 := f3.trans (below_frm hb4 _)
          have hB : BlockOf s size (some ([], 4)) := by
            unfold BlockOf
            rw [if_neg HC.out, ← HK.out]
            exact ⟨none, hr, rfl⟩
          have HB := hide hB
          clear hB hr
          go_wp2
          go_ret2
          exact ⟨f4, .inr ⟨[], 4, HB.out, rfl, fun h => by cases h⟩⟩
      · have C3 := hide (take_short bt bp T (p + 4 + 2) k w2 hT ht2 (by omega))
        have hB : BlockOf s size none := by
          unfold BlockOf
          rw [if_pos]
          rw [← HK.out, hsl]
          omega
        have HB := hide hB
        clear hB ht2
        go_wp2_with (go_at_call 81; refine (CN2.out _).mono ?_; rintro e w' ⟨rfl, hw⟩; rw [hw]; clear hw w')
        go_at_call 109
        refine C3.out.mono ?_
        rintro e w3 ⟨rfl, hw⟩
        rw [hw]
        go_wp2
        exact ⟨rfl, f2, .inl ⟨HB.out, rfl⟩⟩
    · have hB : BlockOf s size none := by
        unfold BlockOf
        rw [if_pos]
        rw [hsl]
        omega
      have HB := hide hB
      clear hB
      go_enter Tryz.func83, Tryz.ntmps83
      go_wp2_with fail
      go_at_call 109
      refine C1.out.mono ?_
      rintro e w1 ⟨rfl, ht1, ho1⟩
      have C2 := hide (take_short bt bp T (p + 4) 2 w1 hT ht1 (by omega))
      have f1 : Frm [bp] w w1 := ho1.frm
      clear ht1 ho1
      go_wp2_with (go_at_call 81; refine (CN1.out _).mono ?_; rintro e w' ⟨rfl, hw⟩; rw [hw]; clear hw w')
      go_at_call 109
      refine C2.out.mono ?_
      rintro e w3 ⟨rfl, hw⟩
      rw [hw]
      go_wp2
      exact ⟨rfl, f1, .inl ⟨HB.out, rfl⟩⟩
  · have hB : BlockOf s size none := by
      unfold BlockOf
      rw [if_pos]
      rw [hsl]
      omega
    have HB := hide hB
    have C1 := hide (take_short bt bp T p 4 w hT h (by omega))
    clear hB h hs
    go_enter Tryz.func83, Tryz.ntmps83
    go_wp2_with fail
    go_at_call 109
    refine C1.out.mono ?_
    rintro e w3 ⟨rfl, hw⟩
    rw [hw]
    go_wp2
    exact ⟨rfl, Frm.refl _ _, .inl ⟨HB.out, rfl⟩⟩
end Go.Proofs.YtkiindkoiomieaaGreatDoor
end

