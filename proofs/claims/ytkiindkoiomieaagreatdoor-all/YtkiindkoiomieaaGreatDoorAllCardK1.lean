import Derived.Test.YtkiindkoiomieaaGreatDoorRows
import Derived.ProofKit
import Derived.ChangeSlices
import Derived.Deep.Slices
import Derived.Deep.Strs
import Derived.Test.YtkiindkoiomieaaGreatDoorJ05
import Derived.Test.YtkiindkoiomieaaGreatDoorJ04
import Derived.Test.YtkiindkoiomieaaGreatDoorJ08
import Derived.Test.YtkiindkoiomieaaGreatDoorJ06
import Derived.Test.YtkiindkoiomieaaGreatDoorJ12
import Derived.Test.YtkiindkoiomieaaGreatDoorJ14
import Derived.Test.YtkiindkoiomieaaGreatDoorJ11
section
/-
  A script as data: its steps, each five cells.
-/
namespace Go.Proofs.YtkiindkoiomieaaGreatDoor
open Go.ChangeShapes Go.WideShapes Go.ChangeAt Go.RowKit Go.Deep

theorem Tryz.own : ownKnob Tryz.prog.godebug = none := by kernel_rfl
theorem Tryz.cells25 : Tryz.prog.cellsOf 25 = 5 := by kernel_rfl
theorem Tryz.cells9 : Tryz.prog.cellsOf 9 = 1 := by kernel_rfl
theorem Tryz.cells23 : Tryz.prog.cellsOf 23 = 1 := by kernel_rfl

/-- One step of a script, as it lies at a place of a block. -/
structure OpAt (W : World) (b o : Nat) (na nb : Int) (S T : ByteArray) (la : Option Addr) (ll lc : Nat) (zs : List Int) : Prop where
  cA : W.cell? ⟨b, o, none⟩ = some (.int .i64 na)
  cB : W.cell? ⟨b, o + 1, none⟩ = some (.int .i64 nb)
  cS : W.cell? ⟨b, o + 2, none⟩ = some (.string S)
  cT : W.cell? ⟨b, o + 3, none⟩ = some (.string T)
  cL : W.cell? ⟨b, o + 4, none⟩ = some (.slice la ll lc)
  sS : S.size ≤ maxLen
  sT : T.size ≤ maxLen
  wA : (Lit.int .i64 na).wf = true
  wB : (Lit.int .i64 nb).wf = true
  zl : zs.length = ll
  lm : ll ≤ maxLen
  wz : ∀ z ∈ zs, (Lit.int .i64 z).wf = true
  at_ : (ll = 0 ∧ (la = none → lc = 0)) ∨ ∃ lb lo, la = some ⟨lb, lo, none⟩ ∧ lb < W.heap.size ∧ ∀ j, j < ll → W.cell? ⟨lb, lo + j, none⟩ = some (.int .i64 (zs.getD j 0))

section
variable {H : Type} {enc : TypeId × Value → H}

theorem trod_struct5 {P : Program} {w : World} {base : Nat} {spare : Nat → Bool} {held : Bool} {t : TypeId} {f0 f1 f2 f3 f4 : Field} {fuel : Nat} {cs : List Value} {x : DataW H × List MemPlace}
    (ht : P.underlying t = some (.struct #[f0, f1, f2, f3, f4])) (h : DataW.trod enc P w base spare held fuel t cs = some x) :
    ∃ (y : Nat → DataW H × List MemPlace) (n : Nat), x = (.agg [(y 0).1, (y 1).1, (y 2).1, (y 3).1, (y 4).1], (y 0).2 ++ ((y 1).2 ++ ((y 2).2 ++ ((y 3).2 ++ (y 4).2)))) ∧ cs.length = P.cellsOf t ∧
      ∀ i f, #[f0, f1, f2, f3, f4][i]? = some f → DataW.trod enc P w base spare held n f.type ((cs.drop f.offset).take (P.cellsOf f.type)) = some (y i) := by
  obtain ⟨xs, n, _, rfl, hl, hlen, hf⟩ := DataW.trod_struct ht h
  match xs, hlen with
  | [y0, y1, y2, y3, y4], _ =>
    refine ⟨fun i => [y0, y1, y2, y3, y4].getD i y0, n, by simp, hl, fun i f hi => ?_⟩
    have h1 := hf i f hi
    have hlt : i < 5 := (Array.getElem?_eq_some_iff.1 hi).1
    rw [h1]
    simp [List.getD, List.getElem?_eq_getElem (show i < [y0, y1, y2, y3, y4].length from hlt)]

set_option maxRecDepth 100000 in
theorem open_ops {W : World} {a0 : Option Addr} {len cap fuel : Nat} {d0 : DataW H} {p : List MemPlace}
    (hf : DataW.trod enc Tryz.prog W 0 (fun _ => true) true fuel 22 [.slice a0 len cap] = some (d0, p)) (hlt : ∀ x ∈ p, x.block < W.heap.size) :
    len ≤ maxLen ∧ (len = 0 ∨ ∃ (b off : Nat) (D : Nat → DataW H) (rest : List (DataW H)), a0 = some ⟨b, off, none⟩ ∧ b < W.heap.size ∧ d0 = .slice ((List.range len).map D) rest ∧
      ∀ k, k < len → ∃ na nb S T la ll lc zs dl, OpAt W b (off + k * 5) na nb S T la ll lc zs ∧ D k = .agg [.lit (.int .i64 na), .lit (.int .i64 nb), .lit (.string S.data.toList), .lit (.string T.data.toList), dl] ∧
        ((dl = .nil ∧ ll = 0) ∨ ∃ sp, dl = .slice (lits .i64 zs) sp)) := by
  rcases open_slice Tryz.underlying22 hf with ⟨hcs, hx⟩ | ⟨a, len', cap', m, n, D, Pl, hcs, _, hl, hm, hmm, hx, hel⟩
  · simp at hcs
    obtain ⟨_, rfl, _⟩ := hcs
    exact ⟨Nat.zero_le _, .inl rfl⟩
  · simp at hcs
    obtain ⟨rfl, rfl, rfl⟩ := hcs
    simp only [Prod.mk.injEq] at hx
    obtain ⟨rfl, rfl⟩ := hx
    simp only [if_true] at hmm
    subst hmm
    refine ⟨by omega, ?_⟩
    by_cases h0 : len = 0
    · exact .inl h0
    right
    obtain ⟨b, off, spot⟩ := a
    have hspot : spot = none := by
      obtain ⟨cs', hc0, ht0⟩ := hel 0 (by omega)
      rw [Tryz.cells25] at hc0
      obtain ⟨_, hl5, hcell⟩ := World.cells?_some hc0
      have := hcell 0 (by omega)
      rw [List.getElem?_eq_getElem (by omega)] at this
      simpa [Addr.add] using World.cell?_spot this
    subst hspot
    refine ⟨b, off, D, _, rfl, ?_, rfl, fun k hk => ?_⟩
    · refine hlt (.cell b (off + 0)) (List.mem_append_left _ ?_)
      simp only [MemPlace.row, List.mem_map, List.mem_range]
      exact ⟨0, by rw [Tryz.cells25]; omega, rfl⟩
    · obtain ⟨cs', hc0, ht0⟩ := hel k (by omega)
      rw [Tryz.cells25] at hc0
      obtain ⟨_, hl5, hcell⟩ := World.cells?_some hc0
      obtain ⟨y, n', hD, _, hy⟩ := trod_struct5 Tryz.underlying25 ht0
      simp only [Prod.mk.injEq] at hD
      obtain ⟨c0, c1, c2, c3, c4, rfl⟩ : ∃ c0 c1 c2 c3 c4, cs' = [c0, c1, c2, c3, c4] := by
        match cs', hl5 with
        | [c0, c1, c2, c3, c4], _ => exact ⟨c0, c1, c2, c3, c4, rfl⟩
      obtain ⟨na, h01, h02, wA⟩ := DataW.trod_int Tryz.underlying3 (hy 0 _ rfl)
      obtain ⟨nb, h11, h12, wB⟩ := DataW.trod_int Tryz.underlying3 (hy 1 _ rfl)
      obtain ⟨S, h21, h22, sS⟩ := DataW.trod_string Tryz.underlying9 (hy 2 _ rfl)
      obtain ⟨T, h31, h32, sT⟩ := DataW.trod_string Tryz.underlying9 (hy 3 _ rfl)
      simp [Tryz.cells3] at h01 h11
      simp [Tryz.cells9] at h21 h31
      subst h01 h11 h21 h31
      have r0 := hcell 0 (by omega)
      have r1 := hcell 1 (by omega)
      have r2 := hcell 2 (by omega)
      have r3 := hcell 3 (by omega)
      have r4 := hcell 4 (by omega)
      simp [Addr.add_lit] at r0 r1 r2 r3 r4
      have hP : ∀ x ∈ (y 4).2, x.block < W.heap.size := fun x hx => hlt x (List.mem_append_right _ (List.mem_flatMap.2 ⟨k, List.mem_range.2 (by omega), by rw [hD.2]; simp [hx]⟩))
      rcases open_ints Tryz.underlying23 Tryz.underlying3 Tryz.cells3 (hy 4 _ rfl) with ⟨h41, h42⟩ | ⟨a, ll, lc, zs, h41, _, hll, hlm, hzl, h42, hcz, hwz⟩
      · simp [Tryz.cells23] at h41
        subst h41
        refine ⟨na, nb, S, T, none, 0, 0, [], .nil, ⟨r0, r1, r2, r3, r4, sS, sT, wA, wB, rfl, Nat.zero_le _, by simp, .inl ⟨rfl, fun _ => rfl⟩⟩, ?_, .inl ⟨rfl, rfl⟩⟩
        rw [hD.1, h02, h12, h22, h32, h42]
      · simp [Tryz.cells23] at h41
        subst h41
        simp only [if_true] at hzl
        have hD' : D k = .agg [.lit (.int .i64 na), .lit (.int .i64 nb), .lit (.string S.data.toList), .lit (.string T.data.toList), .slice (lits .i64 (zs.take ll)) (lits .i64 (zs.drop ll))] := by
          rw [hD.1, h02, h12, h22, h32, h42]
        refine ⟨na, nb, S, T, some a, ll, lc, zs.take ll, _, ⟨r0, r1, r2, r3, r4, sS, sT, wA, wB, by simp; omega, by omega, fun z hz => hwz z (List.mem_of_mem_take hz), ?_⟩, hD', .inr ⟨_, rfl⟩⟩
        by_cases hl0 : ll = 0
        · exact .inl ⟨hl0, fun h => by cases h⟩
        · right
          obtain ⟨lb, lo, lsp⟩ := a
          have hls : lsp = none := by simpa [Addr.add] using World.cell?_spot (hcz 0 (by omega))
          subst hls
          refine ⟨lb, lo, rfl, ?_, fun j hj => ?_⟩
          · refine hP (.cell lb (lo + 0)) ?_
            rw [h42]
            simp only [MemPlace.row, List.mem_map, List.mem_range]
            exact ⟨0, by omega, rfl⟩
          · have := hcz j (by omega)
            rw [Addr.add_lit] at this
            rw [this]
            congr 2
            simp [List.getD, hj]
end
end Go.Proofs.YtkiindkoiomieaaGreatDoor
end

section
/-
  P3: the walk of Cuts.
-/
namespace Go.Proofs.YtkiindkoiomieaaGreatDoor
open Go.RowKit

set_option maxHeartbeats 1000000 in
set_option maxRecDepth 100000 in
theorem cuts_any (b off len cap : Nat) (S : Nat → ByteArray) (w : World) (hlen : len ≤ 9223372036854775807) (hb : b < w.heap.size)
    (hc : ∀ k, k < len → w.cell? ⟨b, off + k * 5 + 2, none⟩ = some (.string (S k)) ∧ (S k).size ≤ maxLen) :
    Calls Tryz.prog 26 #[.slice (some ⟨b, off, none⟩) len cap] w fun e w' => e = .returned (.bool true) ∧ Below w.heap.size w w' := by
  have HC := hide hc
  clear hc
  go_enter Tryz.func26, Tryz.ntmps26
  go_wp2
  go_loopw [3] (fun i wr => ∃ k : Nat, k ≤ len ∧ i = .int .i64 k ∧ Below w.heap.size w wr) (fun i _ => len - (intOf i).toNat)
  case atStart => exact ⟨0, Nat.zero_le _, rfl, Below.refl _ _⟩
  case round =>
    obtain ⟨k, hk, rfl, hbx⟩ := hrel
    by_cases hlt : k < len
    · by_cases hbig : (k : Int) < 1152921504606846976
      · have hd : decide ((k : Int) < 1152921504606846976) = true := decide_eq_true hbig
        clear hbig
        have hcell : wr.cell? ⟨b, off + k * 5 + 2, none⟩ = some (.string (S k)) := (hbx.cell (p := ⟨b, off + k * 5 + 2, none⟩) hb).trans (HC.out k hlt).1
        have cW := hide (law_words (S k) wr (HC.out k hlt).2)
        go_wp2_with (go_at_call 49; refine (unhide cW).mono ?_; rintro e w' ⟨rfl, hb2⟩)
        go_roundw
        case rel => exact ⟨k + 1, by omega, by go_num, hbx.trans (hb2.mono hbx.size)⟩
        case measure => simp [intOf]; omega
      · have hd : decide ((k : Int) < 1152921504606846976) = false := decide_eq_false hbig
        clear hbig
        go_wp2
        go_ret
        exact ⟨rfl, hbx⟩
    · go_wp2
      go_ret
      exact ⟨rfl, hbx⟩

set_option maxHeartbeats 400000 in
theorem cuts_zero (ao : Option Addr) (cap : Nat) (w : World) :
    Calls Tryz.prog 26 #[.slice ao 0 cap] w fun e w' => e = .returned (.bool true) ∧ Below w.heap.size w w' := by
  go_enter Tryz.func26, Tryz.ntmps26
  go_wp2
  refine wp_loop_rounds 1 ?_
  rw [rounds_succ]
  go_wp2
  go_ret
  exact ⟨rfl, Below.refl _ _⟩
end Go.Proofs.YtkiindkoiomieaaGreatDoor
end

section
/-
  P4: the walks of turns and Turns.
-/
namespace Go.Proofs.YtkiindkoiomieaaGreatDoor
open Go.RowKit

theorem ref_is (s : ByteArray) (ws : List (List UInt8)) (t : List UInt8) (hs : s.size ≤ 300) (hg : Duv.Good ws) (hf : ws.flatten = s.data.toList) (ht : Tur.Turned ws t) (w : World) :
    Calls Tryz.prog 86 #[.string s] w fun e w' => e = .returned (strV t) ∧ Below w.heap.size w w' := by
  refine (refTurn_any s w hs ws hg hf).mono ?_
  rintro e w' ⟨t', rfl, h1, h2⟩
  rw [h1.unique ht]
  exact ⟨rfl, h2⟩

set_option maxHeartbeats 1000000 in
set_option maxRecDepth 100000 in
theorem law_turns (s : ByteArray) (w : World) (hm : s.size ≤ maxLen) :
    Calls Tryz.prog 50 #[.string s] w fun e w' => e = .returned (.bool true) ∧ Below w.heap.size w w' := by
  unfold maxLen at hm
  by_cases hs : s.size ≤ 300
  · go_enter Tryz.func50, Tryz.ntmps50
    go_wp2_with fail
    go_at_call 16
    refine (turn_short s w hs).mono ?_
    rintro e w1 ⟨t, ws, rfl, g1, f1, t1, hb1⟩
    obtain ⟨T, hT⟩ : ∃ T : ByteArray, Value.string T = strV t := ⟨_, rfl⟩
    have c1 := ref_is s ws t hs g1 f1 t1
    rw [← hT] at c1 ⊢
    have C1 := hide c1
    clear c1 g1 f1 t1 hT
    go_wp2_with fail
    go_at_call 32
    refine (back_short s w1 hs).mono ?_
    rintro e w2 ⟨b, us, rfl, g2, f2, t2, hb2⟩
    obtain ⟨B, hB⟩ : ∃ B : ByteArray, B = ⟨b.toArray⟩ := ⟨_, rfl⟩
    have hBd : B.data.toList = b := by rw [hB]
    have hBs : B.size = s.size := by
      have := t2.length
      rw [f2, ← Lib.size_eq] at this
      rw [Lib.size_eq, hBd, this]
    have c2 := ref_is B us s.data.toList (by omega) g2 (by rw [hBd]; exact f2) t2
    have e1 : strV s.data.toList = .string s := by
      unfold strV
      rfl
    have e2 : strV b = .string B := by rw [hB]; rfl
    rw [e1] at c2
    rw [e2]
    have C2 := hide c2
    have hlen : ((B.size : Int) == (s.size : Int)) = true := by rw [hBs]; simp
    clear c2 g2 f2 t2 e1 e2 hB hBd hBs
    go_wp2_with (first
      | (go_at_call 13; refine (num_any _ _).mono ?_; rintro e w' ⟨rfl, rfl⟩)
      | (go_at_call 12; go_in))
    go_at_call 86
    refine (C1.out _).mono ?_
    rintro e w3 ⟨rfl, hb3⟩
    go_wp2_with fail
    go_at_call 86
    refine (C2.out _).mono ?_
    rintro e w4 ⟨rfl, hb4⟩
    go_wp2_with (go_at_call 13; refine (num_any _ _).mono ?_; rintro e w' ⟨rfl, rfl⟩)
    go_ret
    exact ⟨rfl, (hb1.trans (hb2.mono hb1.size)).trans ((hb3.mono (Nat.le_trans hb1.size hb2.size)).trans (hb4.mono (Nat.le_trans (Nat.le_trans hb1.size hb2.size) hb3.size)))⟩
  · go_enter Tryz.func50, Tryz.ntmps50
    go_wp2_with (first
      | (go_at_call 16; refine (turn_long s _ (by omega) hm).mono ?_; rintro e w' ⟨rfl, rfl⟩)
      | (go_at_call 32; refine (back_long s _ (by omega) hm).mono ?_; rintro e w' ⟨rfl, rfl⟩)
      | go_in)
    go_ret
    exact ⟨rfl, Below.refl _ _⟩

set_option maxHeartbeats 1000000 in
set_option maxRecDepth 100000 in
theorem turns_any (b off len cap : Nat) (S : Nat → ByteArray) (w : World) (hlen : len ≤ 9223372036854775807) (hb : b < w.heap.size)
    (hc : ∀ k, k < len → w.cell? ⟨b, off + k * 5 + 2, none⟩ = some (.string (S k)) ∧ (S k).size ≤ maxLen) :
    Calls Tryz.prog 27 #[.slice (some ⟨b, off, none⟩) len cap] w fun e w' => e = .returned (.bool true) ∧ Below w.heap.size w w' := by
  have HC := hide hc
  clear hc
  go_enter Tryz.func27, Tryz.ntmps27
  go_wp2
  go_loopw [3] (fun i wr => ∃ k : Nat, k ≤ len ∧ i = .int .i64 k ∧ Below w.heap.size w wr) (fun i _ => len - (intOf i).toNat)
  case atStart => exact ⟨0, Nat.zero_le _, rfl, Below.refl _ _⟩
  case round =>
    obtain ⟨k, hk, rfl, hbx⟩ := hrel
    by_cases hlt : k < len
    · by_cases hbig : (k : Int) < 1152921504606846976
      · have hd : decide ((k : Int) < 1152921504606846976) = true := decide_eq_true hbig
        clear hbig
        have hcell : wr.cell? ⟨b, off + k * 5 + 2, none⟩ = some (.string (S k)) := (hbx.cell (p := ⟨b, off + k * 5 + 2, none⟩) hb).trans (HC.out k hlt).1
        have cW := hide (law_turns (S k) wr (HC.out k hlt).2)
        go_wp2_with (go_at_call 50; refine (unhide cW).mono ?_; rintro e w' ⟨rfl, hb2⟩)
        go_roundw
        case rel => exact ⟨k + 1, by omega, by go_num, hbx.trans (hb2.mono hbx.size)⟩
        case measure => simp [intOf]; omega
      · have hd : decide ((k : Int) < 1152921504606846976) = false := decide_eq_false hbig
        clear hbig
        go_wp2
        go_ret
        exact ⟨rfl, hbx⟩
    · go_wp2
      go_ret
      exact ⟨rfl, hbx⟩

set_option maxHeartbeats 400000 in
theorem turns_zero (ao : Option Addr) (cap : Nat) (w : World) :
    Calls Tryz.prog 27 #[.slice ao 0 cap] w fun e w' => e = .returned (.bool true) ∧ Below w.heap.size w w' := by
  go_enter Tryz.func27, Tryz.ntmps27
  go_wp2
  refine wp_loop_rounds 1 ?_
  rw [rounds_succ]
  go_wp2
  go_ret
  exact ⟨rfl, Below.refl _ _⟩
end Go.Proofs.YtkiindkoiomieaaGreatDoor
end

section
/-
  P5: the walks of Front, Behind, moves and Moves.
-/
namespace Go.Proofs.YtkiindkoiomieaaGreatDoor
open Go.RowKit

set_option maxHeartbeats 400000 in
theorem front_short (s X : ByteArray) (hX : X = ⟨(frontL (part 256) s.data.toList).toArray⟩) (w : World) (hs : s.size ≤ 300) :
    Calls Tryz.prog 17 #[.string s] w fun e w' => e = .returned (.tuple #[.string X, .int .i64 0]) ∧ Below w.heap.size w w' := by
  have c := placesOf_any s w hs
  rw [← hX] at c
  clear hX
  go_enter Tryz.func17, Tryz.ntmps17
  go_wp2_with (go_at_call 35; refine c.mono ?_; rintro e w' ⟨rfl, hb⟩)
  go_ret2
  exact ⟨rfl, hb⟩

set_option maxHeartbeats 400000 in
theorem behind_short (s X : ByteArray) (hX : X = ⟨(behindL (part 256) s.data.toList).toArray⟩) (w : World) (hs : s.size ≤ 300) :
    Calls Tryz.prog 18 #[.string s] w fun e w' => e = .returned (.tuple #[.string X, .int .i64 0]) ∧ Below w.heap.size w w' := by
  have c := bytesAt_any s w (by omega)
  rw [← hX] at c
  clear hX
  go_enter Tryz.func18, Tryz.ntmps18
  go_wp2_with (go_at_call 36; refine c.mono ?_; rintro e w' ⟨rfl, hb⟩)
  go_ret2
  exact ⟨rfl, hb⟩

set_option maxHeartbeats 400000 in
theorem front_long (s : ByteArray) (w : World) (hs : 300 < s.size) (hm : s.size ≤ 9223372036854775807) :
    Calls Tryz.prog 17 #[.string s] w fun e w' => e = .returned (.tuple #[.string ⟨#[]⟩, .int .i64 1]) ∧ w' = w := by
  go_enter Tryz.func17, Tryz.ntmps17
  go_wp2
  go_ret2
  exact ⟨rfl, rfl⟩

set_option maxHeartbeats 400000 in
theorem behind_long (s : ByteArray) (w : World) (hs : 300 < s.size) (hm : s.size ≤ 9223372036854775807) :
    Calls Tryz.prog 18 #[.string s] w fun e w' => e = .returned (.tuple #[.string ⟨#[]⟩, .int .i64 1]) ∧ w' = w := by
  go_enter Tryz.func18, Tryz.ntmps18
  go_wp2
  go_ret2
  exact ⟨rfl, rfl⟩

set_option maxHeartbeats 1000000 in
theorem law_moves (s : ByteArray) (w : World) (hm : s.size ≤ maxLen) :
    Calls Tryz.prog 51 #[.string s] w fun e w' => e = .returned (.bool true) ∧ Below w.heap.size w w' := by
  unfold maxLen at hm
  by_cases hs : s.size ≤ 300
  · obtain ⟨X, hX⟩ : ∃ X : ByteArray, X = ⟨(frontL (part 256) s.data.toList).toArray⟩ := ⟨_, rfl⟩
    obtain ⟨Y, hY⟩ : ∃ Y : ByteArray, Y = ⟨(behindL (part 256) s.data.toList).toArray⟩ := ⟨_, rfl⟩
    have c1 := hide (fun w => front_short s X hX w hs)
    have c2 := hide (fun w => behind_short s Y hY w hs)
    have c3 := fun w => refFront_any s w hs
    have c4 := fun w => refBehind_any s w hs
    rw [← hX] at c3
    rw [← hY] at c4
    have C3 := hide c3
    have C4 := hide c4
    clear c3 c4 hX hY
    go_enter Tryz.func51, Tryz.ntmps51
    go_wp2_with (first
      | (go_at_call 17; refine (unhide c1 _).mono ?_; rintro e w1 ⟨rfl, hb1⟩)
      | (go_at_call 18; refine (unhide c2 _).mono ?_; rintro e w2 ⟨rfl, hb2⟩)
      | (go_at_call 87; refine (unhide C3 _).mono ?_; rintro e w3 ⟨rfl, hb3⟩)
      | (go_at_call 88; refine (unhide C4 _).mono ?_; rintro e w4 ⟨rfl, hb4⟩)
      | go_in)
    go_ret
    exact ⟨rfl, (hb1.trans (hb2.mono hb1.size)).trans ((hb3.mono (Nat.le_trans hb1.size hb2.size)).trans (hb4.mono (Nat.le_trans (Nat.le_trans hb1.size hb2.size) hb3.size)))⟩
  · go_enter Tryz.func51, Tryz.ntmps51
    go_wp2_with (first
      | (go_at_call 17; refine (front_long s _ (by omega) hm).mono ?_; rintro e w' ⟨rfl, rfl⟩)
      | (go_at_call 18; refine (behind_long s _ (by omega) hm).mono ?_; rintro e w' ⟨rfl, rfl⟩)
      | go_in)
    go_ret
    exact ⟨rfl, Below.refl _ _⟩

set_option maxHeartbeats 1000000 in
set_option maxRecDepth 100000 in
theorem moves_any (b off len cap : Nat) (S : Nat → ByteArray) (w : World) (hlen : len ≤ 9223372036854775807) (hb : b < w.heap.size)
    (hc : ∀ k, k < len → w.cell? ⟨b, off + k * 5 + 2, none⟩ = some (.string (S k)) ∧ (S k).size ≤ maxLen) :
    Calls Tryz.prog 28 #[.slice (some ⟨b, off, none⟩) len cap] w fun e w' => e = .returned (.bool true) ∧ Below w.heap.size w w' := by
  have HC := hide hc
  clear hc
  go_enter Tryz.func28, Tryz.ntmps28
  go_wp2
  go_loopw [3] (fun i wr => ∃ k : Nat, k ≤ len ∧ i = .int .i64 k ∧ Below w.heap.size w wr) (fun i _ => len - (intOf i).toNat)
  case atStart => exact ⟨0, Nat.zero_le _, rfl, Below.refl _ _⟩
  case round =>
    obtain ⟨k, hk, rfl, hbx⟩ := hrel
    by_cases hlt : k < len
    · by_cases hbig : (k : Int) < 1152921504606846976
      · have hd : decide ((k : Int) < 1152921504606846976) = true := decide_eq_true hbig
        clear hbig
        have hcell : wr.cell? ⟨b, off + k * 5 + 2, none⟩ = some (.string (S k)) := (hbx.cell (p := ⟨b, off + k * 5 + 2, none⟩) hb).trans (HC.out k hlt).1
        have cW := hide (law_moves (S k) wr (HC.out k hlt).2)
        go_wp2_with (go_at_call 51; refine (unhide cW).mono ?_; rintro e w' ⟨rfl, hb2⟩)
        go_roundw
        case rel => exact ⟨k + 1, by omega, by go_num, hbx.trans (hb2.mono hbx.size)⟩
        case measure => simp [intOf]; omega
      · have hd : decide ((k : Int) < 1152921504606846976) = false := decide_eq_false hbig
        clear hbig
        go_wp2
        go_ret
        exact ⟨rfl, hbx⟩
    · go_wp2
      go_ret
      exact ⟨rfl, hbx⟩

set_option maxHeartbeats 400000 in
theorem moves_zero (ao : Option Addr) (cap : Nat) (w : World) :
    Calls Tryz.prog 28 #[.slice ao 0 cap] w fun e w' => e = .returned (.bool true) ∧ Below w.heap.size w w' := by
  go_enter Tryz.func28, Tryz.ntmps28
  go_wp2
  refine wp_loop_rounds 1 ?_
  rw [rounds_succ]
  go_wp2
  go_ret
  exact ⟨rfl, Below.refl _ _⟩
end Go.Proofs.YtkiindkoiomieaaGreatDoor
end

section
/-
  P7: the walks of the document's Telling and Bound.
-/
namespace Go.Proofs.YtkiindkoiomieaaGreatDoor
open Go.RowKit

theorem zeros_there {l : List UInt8} {m : Nat} (h : m < Co.zl l) : l[m]? = some 0 := by
  have e := (Co.zl_split l).1
  generalize Co.zl l = z at *
  rw [e, List.getElem?_append_left (by simpa using h), List.getElem?_replicate, if_pos h]

theorem zeros_stop {l : List UInt8} {c : UInt8} (h : l[Co.zl l]? = some c) : c ≠ 0 := by
  have e := (Co.zl_split l).1
  have hh := Co.dropWhile_head l
  generalize Co.zl l = z at *
  rw [e, List.getElem?_append_right (by simp)] at h
  rcases hh with hh | ⟨c', r, hh, hc⟩
  · rw [hh] at h
    simp at h
  · rw [hh] at h
    simp at h
    subst h
    exact hc

theorem byte_zero {X : ByteArray} {i k m : Nat} (hk : k < X.size) (e : k = i + m) (h : m < Co.zl (X.data.toList.drop i)) : X[k] = 0 := by
  have := zeros_there h
  rw [List.getElem?_drop, ← e] at this
  rw [byte_at X k hk, this]
  rfl

theorem byte_not {X : ByteArray} {i k m : Nat} (hk : k < X.size) (e : k = i + m) (h : m = Co.zl (X.data.toList.drop i)) : X[k] ≠ 0 := by
  refine zeros_stop (l := X.data.toList.drop i) ?_
  rw [← h, List.getElem?_drop, ← e, byte_at X k hk]
  have : X.data.toList[k]? = some X.data.toList[k] := List.getElem?_eq_getElem (by rw [← Lib.size_eq]; exact hk)
  rw [this]
  rfl

theorem frontL_len : ∀ (l t : List UInt8), (frontL l t).length = t.length
  | _, [] => rfl
  | l, c :: t => by
    unfold frontL
    simp [frontL_len]

set_option maxHeartbeats 1000000 in
set_option maxRecDepth 100000 in
theorem refTelling_any (S : ByteArray) (t : List UInt8) (w : World) (hs : S.size ≤ 200) (hT : Co.TurnOf S.data.toList t) :
    Calls Tryz.prog 74 #[.string S] w fun e w' => ∃ v, e = .returned v ∧ w'.ownsRow w.heap.size 3 1 v (Co.tell (frontL (part 256) t)).length ((Co.tell (frontL (part 256) t)).map nv) ∧ Below w.heap.size w w' := by
  obtain ⟨i0, hi0, hz0, hz1, hz2⟩ := info_parts Tryz.info3
  have htl := hT.length
  rw [← Lib.size_eq] at htl
  obtain ⟨ws, g1, f1, t1⟩ := hT
  obtain ⟨TS, hTS⟩ : ∃ TS : ByteArray, TS = ⟨t.toArray⟩ := ⟨_, rfl⟩
  have hTd : TS.data.toList = t := by rw [hTS]
  have eT : strV t = .string TS := by rw [hTS]; rfl
  have hTz : TS.size ≤ 300 := by rw [Lib.size_eq, hTd]; omega
  have c1 := ref_is S ws t (by omega) g1 f1 t1 w
  rw [eT] at c1
  obtain ⟨X, hX⟩ : ∃ X : ByteArray, X = ⟨(frontL (part 256) t).toArray⟩ := ⟨_, rfl⟩
  have hXd : X.data.toList = frontL (part 256) t := by rw [hX]
  have hXs : X.size ≤ 200 := by rw [Lib.size_eq, hXd, frontL_len]; omega
  have c2 : ∀ w, Calls Tryz.prog 87 #[.string TS] w fun e w' => e = .returned (.string X) ∧ Below w.heap.size w w' := fun w => by
    have := refFront_any TS w hTz
    rw [hTd, ← hX] at this
    exact this
  rw [← hXd]
  have hlen := Co.tell_length X.data.toList 0
  rw [← Lib.size_eq, Nat.zero_add] at hlen
  have C1 := hide c1
  have C2 := hide c2
  clear c1 c2 hX hXd hTd eT hTS htl g1 f1 t1
  go_enter Tryz.func74, Tryz.ntmps74
  go_wp2_with fail
  go_at_call 86
  refine C1.out.mono ?_
  rintro e w1 ⟨rfl, hb1⟩
  go_wp2_with fail
  go_at_call 87
  refine (C2.out w1).mono ?_
  rintro e w2 ⟨rfl, hb2⟩
  have k2 : Below w.heap.size w w2 := hb1.trans (hb2.mono hb1.size)
  clear hb1 hb2
  go_wp2
  go_loopw [4, 5] (fun v iv wr => ∃ (i : Nat) (T : List Nat), i ≤ X.size ∧ iv = .int .i64 i ∧ wr.ownsRow w.heap.size 3 1 v T.length (T.map nv) ∧ Below w.heap.size w wr ∧ Hid (Co.tell X.data.toList = T ++ Co.tellA 0 (X.data.toList.drop i))) (fun _ iv _ => X.size - (intOf iv).toNat)
  case atStart => exact ⟨0, [], by omega, rfl, World.ownsRow_nil _ _ _ _, k2, rfl⟩
  case round =>
    clear k2
    obtain ⟨i, T, hi, rfl, hrow, hbx, HT⟩ := hrel
    obtain ⟨ao, cap, rfl⟩ := own_form hrow
    have hTl : T.length ≤ 1000 := by
      have := HT.out
      unfold Co.tell at *
      rw [this, List.length_append] at hlen
      omega
    by_cases hlt : i < X.size
    · have hdr := drop_byte X i hlt
      by_cases hc0 : X[i] = 0
      · have hne : ((X[i].toNat : Int) != 0) = false := by rw [hc0]; rfl
        obtain ⟨n, hn⟩ : ∃ n, n = Co.zl (X.data.toList.drop i) := ⟨_, rfl⟩
        have hd0 : X.data.toList.drop i = 0 :: X.data.toList.drop (i + 1) := by rw [hdr, hc0]
        have hn1 : 1 ≤ n := by rw [hn]; exact Co.zl_pos hd0
        have hn2 : i + n ≤ X.size := by
          have := (Co.zl_split (X.data.toList.drop i)).2
          rw [List.length_drop, ← Lib.size_eq] at this
          omega
        have hnext : Co.tell X.data.toList = ((T ++ [1]) ++ [n]) ++ Co.tellA 0 (X.data.toList.drop (i + n)) := by
          rw [HT.out, Co.tell_at hd0, ← hn, List.drop_drop]
          simp
        have HN := hide hnext
        have Hn := hide hn
        clear hnext hdr hc0 hd0 hn
        go_wp2
        go_loop [6, 5] (fun nv' iv => ∃ (k m : Nat), k ≤ i + n ∧ m ≤ n ∧ iv = .int .i64 (k : Int) ∧ nv' = .int .i64 (m : Int) ∧ Hid (k = i + m)) (fun nv' _ => n - (intOf nv').toNat)
        case atStart => exact ⟨i, 0, by omega, by omega, rfl, rfl, rfl⟩
        case round =>
          obtain ⟨k, m, hk, hm, rfl, rfl, HK⟩ := hrel
          by_cases hmn : m < n
          · have hkx : k < X.size := by have := HK.out; omega
            have hb : X[k] = 0 := byte_zero hkx HK.out (by rw [← Hn.out]; exact hmn)
            have hbe : ((X[k].toNat : Int) == 0) = true := by rw [hb]; rfl
            clear hb
            go_wp2
            go_round
            case rel => exact ⟨k + 1, m + 1, by have := HK.out; omega, by omega, by go_num, by go_num, by show _ = _; have := HK.out; omega⟩
            case measure => simp [intOf]; omega
          · have hke : i + n ≤ k ∧ k ≤ i + n ∧ n ≤ m := by have := HK.out; omega
            have Hke := hide hke
            have hxn : Hid (n = m ∧ i + n = k) := by show _ ∧ _; omega
            have hTl2 : T.length + 1 ≤ 1001 := by omega
            have Hrel : ∀ (a b : World) (v' : Value), b.ownsRow w.heap.size 3 1 v' (T.length + 1 + 1) ((T.map nv ++ [.int .i64 (1 : Int)]) ++ [.int .i64 (m : Int)]) → b.ownsRow w.heap.size 3 1 v' (((T ++ [1]) ++ [n]).length) (((T ++ [1]) ++ [n]).map nv) := fun a b v' h => by
              rw [nv_snoc, nv_snoc, List.length_append, List.length_append, hxn.out.1]
              exact h
            by_cases hkx : k < X.size
            · have hb : X[k] ≠ 0 := byte_not hkx HK.out (by rw [← Hn.out]; exact hxn.out.1.symm)
              have hbe : ((X[k].toNat : Int) == 0) = false := by
                rw [beq_eq_false_iff_ne]
                intro e
                exact hb (UInt8.toNat_inj.1 (by have h0 : X[k].toNat = 0 := by omega
                                                exact h0))
              clear hb hke
              go_wp2_with (first
                | (at_builtin; refine wpList_append_own _ rfl _ _ 23 rfl w.heap.size 3 i0 (.int .i64 0) 1 8 Tryz.underlying23 hi0 hz0 hz1 hz2 rfl (by decide) _ _ _ rfl (hrow.alloc _) ⟨wr.heap.size, 0, none⟩ 1 1 [.int .i64 (1 : Int)] rfl rfl (cell_one_new _ _ _) (fun x hx => by simp at hx; subst hx; rfl) (by unfold maxLen; omega) (by omega) (by have := hbx.size; simp; omega) ?_; intro v' w3 hown3 hgrow3 hnil3; have k3 := (hbx.alloc hbx.size _).grown hgrow3 (by have := hbx.size; simp; omega) (fun j hj => (hrow.lt j hj).1); obtain ⟨ao3, cap3, rfl⟩ := own_form hown3)
                | (at_builtin; refine wpList_append_own _ rfl _ _ 23 rfl w.heap.size 3 i0 (.int .i64 0) 1 8 Tryz.underlying23 hi0 hz0 hz1 hz2 rfl (by decide) _ _ _ rfl (hown3.alloc _) ⟨w3.heap.size, 0, none⟩ 1 1 [.int .i64 (m : Int)] rfl rfl (cell_one_new _ _ _) (fun x hx => by simp at hx; subst hx; rfl) (by unfold maxLen; omega) (by omega) (by have := k3.size; simp; omega) ?_; intro v'' w4 hown4 hgrow4 hnil4; have k4 := (k3.alloc k3.size _).grown hgrow4 (by have := k3.size; simp; omega) (fun j hj => (hown3.lt j hj).1)))
              go_roundw
              case rel => exact ⟨k, (T ++ [1]) ++ [n], by omega, rfl, Hrel w3 _ _ hown4, k4, by rw [← hxn.out.2]; exact HN⟩
              case measure => have := hxn.out.2; simp [intOf]; omega
            · clear hke
              go_wp2_with (first
                | (at_builtin; refine wpList_append_own _ rfl _ _ 23 rfl w.heap.size 3 i0 (.int .i64 0) 1 8 Tryz.underlying23 hi0 hz0 hz1 hz2 rfl (by decide) _ _ _ rfl (hrow.alloc _) ⟨wr.heap.size, 0, none⟩ 1 1 [.int .i64 (1 : Int)] rfl rfl (cell_one_new _ _ _) (fun x hx => by simp at hx; subst hx; rfl) (by unfold maxLen; omega) (by omega) (by have := hbx.size; simp; omega) ?_; intro v' w3 hown3 hgrow3 hnil3; have k3 := (hbx.alloc hbx.size _).grown hgrow3 (by have := hbx.size; simp; omega) (fun j hj => (hrow.lt j hj).1); obtain ⟨ao3, cap3, rfl⟩ := own_form hown3)
                | (at_builtin; refine wpList_append_own _ rfl _ _ 23 rfl w.heap.size 3 i0 (.int .i64 0) 1 8 Tryz.underlying23 hi0 hz0 hz1 hz2 rfl (by decide) _ _ _ rfl (hown3.alloc _) ⟨w3.heap.size, 0, none⟩ 1 1 [.int .i64 (m : Int)] rfl rfl (cell_one_new _ _ _) (fun x hx => by simp at hx; subst hx; rfl) (by unfold maxLen; omega) (by omega) (by have := k3.size; simp; omega) ?_; intro v'' w4 hown4 hgrow4 hnil4; have k4 := (k3.alloc k3.size _).grown hgrow4 (by have := k3.size; simp; omega) (fun j hj => (hown3.lt j hj).1)))
              go_roundw
              case rel => exact ⟨k, (T ++ [1]) ++ [n], by omega, rfl, Hrel w3 _ _ hown4, k4, by rw [← hxn.out.2]; exact HN⟩
              case measure => have := hxn.out.2; simp [intOf]; omega
      · have hne : ((X[i].toNat : Int) != 0) = true := by
          rw [bne_iff_ne]
          intro e
          exact hc0 (UInt8.toNat_inj.1 (by have : X[i].toNat = 0 := by omega
                                           exact this))
        have hc256 := X[i].toNat_lt
        obtain ⟨c, hc⟩ : ∃ c, c = X[i].toNat := ⟨_, rfl⟩
        have hcI : (X[i].toNat : Int) = (c : Int) := by rw [hc]
        have hnext : Co.tell X.data.toList = (T ++ [c + 1]) ++ Co.tellA 0 (X.data.toList.drop (i + 1)) := by
          rw [HT.out, hdr, Co.tell_nonzero _ hc0, hc, List.append_assoc]
          rfl
        have HN := hide hnext
        rw [← hc] at hc256
        clear hnext hdr hc hc0
        go_wp2_with (at_builtin; refine wpList_append_own _ rfl _ _ 23 rfl w.heap.size 3 i0 (.int .i64 0) 1 8 Tryz.underlying23 hi0 hz0 hz1 hz2 rfl (by decide) _ _ _ rfl (hrow.alloc _) ⟨wr.heap.size, 0, none⟩ 1 1 [.int .i64 ((c : Int) + 1)] rfl rfl (cell_one_new _ _ _) (fun x hx => by simp at hx; subst hx; rfl) (by unfold maxLen; omega) (by omega) (by have := hbx.size; simp; omega) ?_; intro v' w3 hown' hgrow3 hnil3)
        go_roundw
        case rel =>
          refine ⟨i + 1, T ++ [c + 1], by omega, by go_num, ?_, (hbx.alloc hbx.size _).grown hgrow3 (by have := hbx.size; simp; omega) (fun j hj => (hrow.lt j hj).1), HN⟩
          rw [nv_snoc, List.length_append, Int.natCast_add]
          exact hown'
        case measure => simp [intOf]; omega
    · have hfin : Co.tell X.data.toList = T := by
        rw [HT.out, drop_end X i hlt]
        exact List.append_nil _
      have HF := hide hfin
      clear hfin
      go_wp2
      go_ret
      refine ⟨_, rfl, ?_, hbx⟩
      rw [HF.out]
      exact hrow
end Go.Proofs.YtkiindkoiomieaaGreatDoor
end

section
/-
  P7: the walk of the document's Bound.
-/
namespace Go.Proofs.YtkiindkoiomieaaGreatDoor
open Go.RowKit

theorem lowB_len : ∀ j n, (lowB j n).length = j
  | 0, _ => rfl
  | j + 1, n => by rw [low_next, List.length_cons, lowB_len]

theorem gamma_len (n : Nat) : (gammaOne n).length = (Co.gbits n).length := by
  unfold gammaOne Co.gbits
  rw [List.length_append, List.length_append, List.length_replicate, List.length_replicate, lowB_len, Co.lowN_length]

theorem bound_sum {zs : List Nat} {i z : Nat} (h : zs[i]? = some z) : (Co.gbitsL (zs.take (i + 1))).length = (Co.gbitsL (zs.take i)).length + (Co.gbits z).length := by
  rw [List.take_add_one, h, Co.gbitsL_append, List.length_append]
  show _ + (Co.gbitsL [z]).length = _
  rw [Co.gbitsL_cons, Co.gbitsL_nil, List.append_nil]

def boundN (zs : List Nat) (size : Nat) : Nat := min (((Co.gbitsL zs).length + 7) / 8) size + 2

set_option maxHeartbeats 1000000 in
set_option maxRecDepth 100000 in
theorem bound_any (S : ByteArray) (t : List UInt8) (w : World) (hs : S.size ≤ 200) (hT : Co.TurnOf S.data.toList t) :
    Calls Tryz.prog 42 #[.string S] w fun e w' => e = .returned (.int .i64 (boundN (Co.tell (frontL (part 256) t)) S.size : Nat)) ∧ Below w.heap.size w w' := by
  have htl := hT.length
  rw [← Lib.size_eq] at htl
  obtain ⟨zs, hzs⟩ : ∃ zs, zs = Co.tell (frontL (part 256) t) := ⟨_, rfl⟩
  have hr : Hid (∀ z ∈ zs, 1 ≤ z ∧ z ≤ 256) := by
    rw [hzs]
    exact Co.tell_range _ 0 (by rw [frontL_len]; omega)
  have hl : zs.length ≤ 400 := by
    rw [hzs]
    have := Co.tell_length (frontL (part 256) t) 0
    rw [frontL_len] at this
    unfold Co.tell
    omega
  have cT := refTelling_any S t w hs hT
  rw [← hzs] at cT ⊢
  have CT := hide cT
  clear cT hzs hT htl
  go_enter Tryz.func42, Tryz.ntmps42
  go_wp2_with fail
  go_at_call 74
  refine CT.out.mono ?_
  rintro e w1 ⟨v, rfl, hrow, hb⟩
  obtain ⟨_, ao, cap, lb, rfl, hao, hc⟩ := row_cells hrow
  have HC := hide hc
  have HA := hide hao
  clear hc hao hrow
  go_wp2
  go_loop [3, 5] (fun nv' iv => ∃ (i n : Nat), i ≤ zs.length ∧ iv = .int .i64 (i : Int) ∧ nv' = .int .i64 (n : Int) ∧ n ≤ 61 * i ∧ Hid (n = (Co.gbitsL (zs.take i)).length)) (fun _ iv => zs.length - (intOf iv).toNat)
  case atStart => exact ⟨0, 0, by omega, rfl, rfl, by omega, rfl⟩
  case round =>
    obtain ⟨i, n, hi, rfl, rfl, hn, HN⟩ := hrel
    by_cases hlt : i < zs.length
    · obtain ⟨z, hz⟩ : ∃ z, zs[i]? = some z := ⟨_, List.getElem?_eq_getElem hlt⟩
      obtain ⟨rfl, hlb⟩ := HA.out (by omega)
      have hcell := HC.out i z hz
      rw [Nat.zero_add] at hcell
      have hzr := hr.out z (List.mem_of_getElem? hz)
      obtain ⟨xb, hxb⟩ : ∃ xb : ByteArray, xb = ⟨(gammaOne z).toArray⟩ := ⟨_, rfl⟩
      have cB := bits_any z w1 (by omega) (by omega)
      rw [← hxb] at cB
      have CB := hide cB
      have hxl : xb.data.toList = gammaOne z := by rw [hxb]
      have hxs : xb.size ≤ 61 := by
        rw [Lib.size_eq, hxl]
        exact gammaOne_length (by omega) (by omega)
      have Hx : Hid (n + xb.size = (Co.gbitsL (zs.take (i + 1))).length) := by
        show _ = _
        rw [bound_sum hz, HN.out, Lib.size_eq, hxl, gamma_len]
      clear cB hxb hxl hz
      go_wp2_with (go_at_call 75; refine CB.out.mono ?_; rintro e w' ⟨rfl, rfl⟩)
      go_round
      case rel => exact ⟨i + 1, n + xb.size, by omega, by go_num, by go_num, by omega, Hx⟩
      case measure => simp [intOf]; omega
    · have he : n = (Co.gbitsL zs).length := by rw [HN.out, List.take_of_length_le (by omega)]
      have HE := hide he
      clear he
      have hn2 : n ≤ 24400 := by omega
      obtain ⟨q, hqe⟩ : ∃ q, q = (n + 7) / 8 := ⟨_, rfl⟩
      have hq : ((n : Int) + 7).tdiv 8 = (q : Int) := by
        rw [Int.tdiv_eq_ediv_of_nonneg (by omega)]
        omega
      have hq2 : ((n : Int) + 7) / 8 = (q : Int) := by omega
      have hq3 : q ≤ 4000 := by omega
      have HQ : Hid (boundN zs S.size = min q S.size + 2) := by
        show _ = _
        unfold boundN
        rw [← HE.out, hqe]
      clear hqe
      by_cases hbig : S.size < q
      · have hres : Hid (((boundN zs S.size : Nat) : Int) = (S.size : Int) + 2) := by
          show _ = _
          rw [HQ.out]
          omega
        go_wp2
        go_ret
        refine ⟨?_, hb⟩
        rw [hres.out]
        rfl
      · have hres : Hid (((boundN zs S.size : Nat) : Int) = (q : Int) + 2) := by
          show _ = _
          rw [HQ.out]
          omega
        go_wp2
        go_ret
        refine ⟨?_, hb⟩
        rw [hres.out]
        rfl
end Go.Proofs.YtkiindkoiomieaaGreatDoor
end

section
/-
  P7: the walks of packs and Packs.
-/
namespace Go.Proofs.YtkiindkoiomieaaGreatDoor
open Go.RowKit

theorem bound_holds {d t : List UInt8} {p : List UInt8} (hT : Co.TurnOf d t) (hp : Co.PackOf d p) : p.length ≤ boundN (Co.tell (frontL (part 256) t)) d.length := by
  obtain ⟨u, hu, rfl⟩ := hp
  rw [hu.uniq hT]
  have := Co.packX_length d (frontL (part 256) t)
  unfold boundN
  omega

set_option maxHeartbeats 2000000 in
set_option maxRecDepth 100000 in
theorem law_packs (S T : ByteArray) (size : Int) (w : World) (hmS : S.size ≤ maxLen) (hmT : T.size ≤ maxLen) :
    Calls Tryz.prog 22 #[.string S, .string T, .int .i64 size] w fun e w' => e = .returned (.bool true) ∧ Below w.heap.size w w' := by
  by_cases hs : S.size ≤ 200
  · have hdS : decide ((200 : Int) < (S.size : Int)) = false := decide_eq_false (by omega)
    go_enter Tryz.func22, Tryz.ntmps22
    go_wp2_with fail
    go_at_call 41
    refine (pack_short S w hs).mono ?_
    rintro e w1 ⟨p, rfl, hp, hb1⟩
    obtain ⟨P, hP⟩ : ∃ P : ByteArray, P = ⟨p.toArray⟩ := ⟨_, rfl⟩
    have hPd : P.data.toList = p := by rw [hP]
    rw [← hP]
    obtain ⟨t, hT, hpx⟩ := hp
    have hp : Co.PackOf S.data.toList p := ⟨t, hT, hpx⟩
    obtain ⟨B, hBe⟩ : ∃ B : Nat, B = boundN (Co.tell (frontL (part 256) t)) S.size := ⟨_, rfl⟩
    have hPB : P.size ≤ B := by
      have := bound_holds hT hp
      rw [← Lib.size_eq] at this
      rw [hBe, Lib.size_eq, hPd]
      exact this
    have hB2 : B ≤ 202 := by
      rw [hBe]
      unfold boundN
      omega
    have cB := fun w => bound_any S t w hs hT
    rw [← hBe] at cB
    have CB := hide cB
    have hU : Hid (∀ r, Co.UnOf P.data.toList S.size r → r = some S.data.toList) := fun r hr => by
      rw [Lib.size_eq, hPd] at hr
      exact Co.unpack_pack (by rw [← Lib.size_eq]; exact hs) hp hr
    have hdB : decide ((B : Int) < (P.size : Int)) = false := decide_eq_false (by omega)
    clear cB hBe hT hpx hp hP hPd
    go_wp2_with (first
      | (go_at_call 13; refine (num_any _ _).mono ?_; rintro e w' ⟨rfl, hw⟩; rw [hw]; clear hw w')
      | (go_at_call 42; refine (CB.out _).mono ?_; rintro e w2 ⟨rfl, hb2⟩))
    go_at_call 43
    refine (unpack_fit P S.size w2 (by omega) hs).mono ?_
    rintro e w3 ⟨hb3, r, hr, hre⟩
    have hr2 := hU.out r hr
    subst hr2
    obtain rfl : e = .returned (.tuple #[.string S, .int .i64 0]) := by
      rcases hre with ⟨d, hd, rfl⟩ | ⟨h, _⟩
      · cases hd
        rfl
      · cases h
    clear hr hre
    have k2 : Below w.heap.size w w2 := hb1.trans (hb2.mono hb1.size)
    have k3 : Below w.heap.size w w3 := k2.trans (hb3.mono k2.size)
    clear hb1 hb2 hb3 k2
    go_wp2_with (go_at_call 13; refine (num_any _ _).mono ?_; rintro e w' ⟨rfl, hw⟩; rw [hw]; clear hw w')
    unfold maxLen at *
    by_cases hT4 : 4000 < T.size
    · have hdT : decide ((4000 : Int) < (T.size : Int)) = true := decide_eq_true (by omega)
      go_at_call 43
      refine (unpack_long T size _ hT4 (by omega)).mono ?_
      rintro e w9 ⟨hb9, rfl⟩
      go_wp2_with (go_at_call 13; refine (num_any _ _).mono ?_; rintro e w' ⟨rfl, hw⟩; rw [hw]; clear hw w')
      go_ret
      exact ⟨rfl, k3.trans (hb9.mono k3.size)⟩
    · have hdT : decide ((4000 : Int) < (T.size : Int)) = false := decide_eq_false (by omega)
      by_cases hneg : size < 0
      · have hdn : decide (size < 0) = true := decide_eq_true hneg
        go_at_call 43
        refine (unpack_arg T size _ (by omega) (.inl hneg)).mono ?_
        rintro e w9 ⟨hb9, rfl⟩
        clear hneg
        go_wp2_with (go_at_call 13; refine (num_any _ _).mono ?_; rintro e w' ⟨rfl, hw⟩; rw [hw]; clear hw w')
        go_ret
        exact ⟨rfl, k3.trans (hb9.mono k3.size)⟩
      · by_cases hbig : 200 < size
        · have hdn : decide (size < 0) = false := decide_eq_false hneg
          have hdb : decide ((200 : Int) < size) = true := decide_eq_true hbig
          go_at_call 43
          refine (unpack_arg T size _ (by omega) (.inr hbig)).mono ?_
          rintro e w9 ⟨hb9, rfl⟩
          clear hneg hbig
          go_wp2_with (go_at_call 13; refine (num_any _ _).mono ?_; rintro e w' ⟨rfl, hw⟩; rw [hw]; clear hw w')
          go_ret
          exact ⟨rfl, k3.trans (hb9.mono k3.size)⟩
        · obtain ⟨n, rfl⟩ : ∃ n : Nat, size = (n : Int) := ⟨size.toNat, by omega⟩
          have hn : n ≤ 200 := by omega
          clear hneg hbig
          go_at_call 43
          refine (unpack_fit T n _ (by omega) hn).mono ?_
          rintro e w9 ⟨hb9, r, hr, ⟨d, rfl, rfl⟩ | ⟨rfl, rfl⟩⟩
          · obtain ⟨D, hD⟩ : ∃ D : ByteArray, D = ⟨d.toArray⟩ := ⟨_, rfl⟩
            have hDs : D.size = n := by rw [Lib.size_eq, hD]; exact hr.size
            have hDe : ((D.size : Int) == (n : Int)) = true := by rw [hDs]; simp
            have hDl : D.size ≤ 200 := by omega
            rw [← hD]
            clear hD hDs hr
            go_wp2_with (go_at_call 13; refine (num_any _ _).mono ?_; rintro e w' ⟨rfl, hw⟩; rw [hw]; clear hw w')
            go_ret
            exact ⟨rfl, k3.trans (hb9.mono k3.size)⟩
          · clear hr
            go_wp2_with (go_at_call 13; refine (num_any _ _).mono ?_; rintro e w' ⟨rfl, hw⟩; rw [hw]; clear hw w')
            go_ret
            exact ⟨rfl, k3.trans (hb9.mono k3.size)⟩

  · have hdS : decide ((200 : Int) < (S.size : Int)) = true := decide_eq_true (by omega)
    go_enter Tryz.func22, Tryz.ntmps22
    go_wp2_with fail
    go_at_call 41
    refine (pack_long S w (by omega) (by unfold maxLen at hmS; omega)).mono ?_
    rintro e w1 ⟨rfl, hb1⟩
    go_wp2_with (go_at_call 13; refine (num_any _ _).mono ?_; rintro e w' ⟨rfl, hw⟩; rw [hw]; clear hw w')
    unfold maxLen at *
    by_cases hT4 : 4000 < T.size
    · have hdT : decide ((4000 : Int) < (T.size : Int)) = true := decide_eq_true (by omega)
      go_at_call 43
      refine (unpack_long T size _ hT4 (by omega)).mono ?_
      rintro e w9 ⟨hb9, rfl⟩
      go_wp2_with (go_at_call 13; refine (num_any _ _).mono ?_; rintro e w' ⟨rfl, hw⟩; rw [hw]; clear hw w')
      go_ret
      exact ⟨rfl, hb1.trans (hb9.mono hb1.size)⟩
    · have hdT : decide ((4000 : Int) < (T.size : Int)) = false := decide_eq_false (by omega)
      by_cases hneg : size < 0
      · have hdn : decide (size < 0) = true := decide_eq_true hneg
        go_at_call 43
        refine (unpack_arg T size _ (by omega) (.inl hneg)).mono ?_
        rintro e w9 ⟨hb9, rfl⟩
        clear hneg
        go_wp2_with (go_at_call 13; refine (num_any _ _).mono ?_; rintro e w' ⟨rfl, hw⟩; rw [hw]; clear hw w')
        go_ret
        exact ⟨rfl, hb1.trans (hb9.mono hb1.size)⟩
      · by_cases hbig : 200 < size
        · have hdn : decide (size < 0) = false := decide_eq_false hneg
          have hdb : decide ((200 : Int) < size) = true := decide_eq_true hbig
          go_at_call 43
          refine (unpack_arg T size _ (by omega) (.inr hbig)).mono ?_
          rintro e w9 ⟨hb9, rfl⟩
          clear hneg hbig
          go_wp2_with (go_at_call 13; refine (num_any _ _).mono ?_; rintro e w' ⟨rfl, hw⟩; rw [hw]; clear hw w')
          go_ret
          exact ⟨rfl, hb1.trans (hb9.mono hb1.size)⟩
        · obtain ⟨n, rfl⟩ : ∃ n : Nat, size = (n : Int) := ⟨size.toNat, by omega⟩
          have hn : n ≤ 200 := by omega
          clear hneg hbig
          go_at_call 43
          refine (unpack_fit T n _ (by omega) hn).mono ?_
          rintro e w9 ⟨hb9, r, hr, ⟨d, rfl, rfl⟩ | ⟨rfl, rfl⟩⟩
          · obtain ⟨D, hD⟩ : ∃ D : ByteArray, D = ⟨d.toArray⟩ := ⟨_, rfl⟩
            have hDs : D.size = n := by rw [Lib.size_eq, hD]; exact hr.size
            have hDe : ((D.size : Int) == (n : Int)) = true := by rw [hDs]; simp
            have hDl : D.size ≤ 200 := by omega
            rw [← hD]
            clear hD hDs hr
            go_wp2_with (go_at_call 13; refine (num_any _ _).mono ?_; rintro e w' ⟨rfl, hw⟩; rw [hw]; clear hw w')
            go_ret
            exact ⟨rfl, hb1.trans (hb9.mono hb1.size)⟩
          · clear hr
            go_wp2_with (go_at_call 13; refine (num_any _ _).mono ?_; rintro e w' ⟨rfl, hw⟩; rw [hw]; clear hw w')
            go_ret
            exact ⟨rfl, hb1.trans (hb9.mono hb1.size)⟩

set_option maxHeartbeats 1000000 in
set_option maxRecDepth 100000 in
theorem packs_any (b off len cap : Nat) (w : World) (hlen : len ≤ 9223372036854775807) (hb : b < w.heap.size)
    (hc : ∀ k, k < len → ∃ (na : Int) (S T : ByteArray), w.cell? ⟨b, off + k * 5, none⟩ = some (.int .i64 na) ∧ w.cell? ⟨b, off + k * 5 + 2, none⟩ = some (.string S) ∧ w.cell? ⟨b, off + k * 5 + 3, none⟩ = some (.string T) ∧ S.size ≤ maxLen ∧ T.size ≤ maxLen) :
    Calls Tryz.prog 7 #[.slice (some ⟨b, off, none⟩) len cap] w fun e w' => e = .returned (.bool true) ∧ Below w.heap.size w w' := by
  have HC := hide hc
  clear hc
  go_enter Tryz.func7, Tryz.ntmps7
  go_wp2
  go_loopw [3] (fun i wr => ∃ k : Nat, k ≤ len ∧ i = .int .i64 k ∧ Below w.heap.size w wr) (fun i _ => len - (intOf i).toNat)
  case atStart => exact ⟨0, Nat.zero_le _, rfl, Below.refl _ _⟩
  case round =>
    obtain ⟨k, hk, rfl, hbx⟩ := hrel
    by_cases hlt : k < len
    · by_cases hbig : (k : Int) < 1152921504606846976
      · have hd : decide ((k : Int) < 1152921504606846976) = true := decide_eq_true hbig
        clear hbig
        obtain ⟨na, S, T, gA, gS, gT, mS, mT⟩ := HC.out k hlt
        have hcA : wr.cell? ⟨b, off + k * 5, none⟩ = some (.int .i64 na) := (hbx.cell (p := ⟨b, off + k * 5, none⟩) hb).trans gA
        have hcS : wr.cell? ⟨b, off + k * 5 + 2, none⟩ = some (.string S) := (hbx.cell (p := ⟨b, off + k * 5 + 2, none⟩) hb).trans gS
        have hcT : wr.cell? ⟨b, off + k * 5 + 3, none⟩ = some (.string T) := (hbx.cell (p := ⟨b, off + k * 5 + 3, none⟩) hb).trans gT
        have cW := hide (fun W => law_packs S T na W mS mT)
        clear gA gS gT
        go_wp2_with fail
        go_region_with ((go_at_call 22; refine ((unhide cW) _).mono ?_; rintro e w' ⟨rfl, hb2⟩))
        all_goals (
          go_wp2
          go_roundw
          case rel => exact ⟨k + 1, by omega, by go_num, hbx.drew.trans (hb2.mono hbx.size)⟩
          case measure => simp [intOf]; omega)
      · have hd : decide ((k : Int) < 1152921504606846976) = false := decide_eq_false hbig
        clear hbig
        go_wp2
        go_ret
        exact ⟨rfl, hbx⟩
    · go_wp2
      go_ret
      exact ⟨rfl, hbx⟩

set_option maxHeartbeats 400000 in
theorem packs_zero (ao : Option Addr) (cap : Nat) (w : World) :
    Calls Tryz.prog 7 #[.slice ao 0 cap] w fun e w' => e = .returned (.bool true) ∧ Below w.heap.size w w' := by
  go_enter Tryz.func7, Tryz.ntmps7
  go_wp2
  refine wp_loop_rounds 1 ?_
  rw [rounds_succ]
  go_wp2
  go_ret
  exact ⟨rfl, Below.refl _ _⟩
end Go.Proofs.YtkiindkoiomieaaGreatDoor
end

section
/-
  P8: the walks of the document's Crc and number.
-/
namespace Go.Proofs.YtkiindkoiomieaaGreatDoor
open Go.RowKit

theorem xor_i64 {x y : Nat} (hx : x < 4294967296) (hy : y < 4294967296) : bits .xor .i64 (x : Int) (y : Int) = ((x ^^^ y : Nat) : Int) := by
  have e : (BitVec.ofInt 64 (x : Int) ^^^ BitVec.ofInt 64 (y : Int)).toNat = x ^^^ y := by
    rw [BitVec.toNat_xor]
    have h1 : (BitVec.ofInt 64 (x : Int)).toNat = x := by rw [BitVec.toNat_ofInt]; omega
    have h2 : (BitVec.ofInt 64 (y : Int)).toNat = y := by rw [BitVec.toNat_ofInt]; omega
    rw [h1, h2]
  show IntKind.i64.wrap ((BitVec.ofInt 64 (x : Int) ^^^ BitVec.ofInt 64 (y : Int)).toNat : Int) = _
  rw [e]
  have := Co.xor_lt hx hy
  exact IntWalk.i64_in _ (by omega)

set_option maxHeartbeats 1000000 in
set_option maxRecDepth 100000 in
theorem refCrc_any (S : ByteArray) (w : World) (hs : S.size ≤ 1000) :
    Calls Tryz.prog 45 #[.string S] w fun e w' => e = .returned (.int .i64 (Co.crcF S.data.toList : Nat)) ∧ w' = w := by
  go_enter Tryz.func45, Tryz.ntmps45
  go_wp2
  go_loop [3, 4] (fun cv iv => ∃ i c : Nat, i ≤ S.size ∧ iv = .int .i64 i ∧ cv = .int .i64 c ∧ c < 4294967296 ∧ Hid (c = Co.crcL 4294967295 (S.data.toList.take i))) (fun _ iv => S.size - (intOf iv).toNat)
  case atStart => exact ⟨0, 4294967295, by omega, rfl, rfl, by omega, rfl⟩
  case round =>
    obtain ⟨i, c, hi, rfl, rfl, hc, HC⟩ := hrel
    by_cases hlt : i < S.size
    · have hb := S[i].toNat_lt
      have hnext : Co.crcL 4294967295 (S.data.toList.take (i + 1)) = Co.crcSteps 8 (c ^^^ S[i].toNat) := by
        rw [List.take_add_one, byte_get0 S i hlt]
        show Co.crcL _ (_ ++ [S[i]]) = _
        rw [Co.crcL_snoc, ← HC.out]
        rfl
      have HN := hide hnext
      have hx := xor_i64 (x := c) (y := S[i].toNat) hc (by omega)
      have hxl : c ^^^ S[i].toNat < 4294967296 := Co.xor_lt hc (by omega)
      obtain ⟨c0, hc0⟩ : ∃ c0, c0 = c ^^^ S[i].toNat := ⟨_, rfl⟩
      rw [← hc0] at hx hxl
      have HC0 := hide hc0
      clear hnext hc0
      go_wp2
      go_loop [3, 5] (fun cv kv => ∃ k d : Nat, k ≤ 8 ∧ kv = .int .i64 k ∧ cv = .int .i64 d ∧ d < 4294967296 ∧ Hid (d = Co.crcSteps k c0)) (fun _ kv => 8 - (intOf kv).toNat)
      case atStart => exact ⟨0, c0, by omega, rfl, rfl, hxl, rfl⟩
      case round =>
        obtain ⟨k, d, hk, rfl, rfl, hd, HD⟩ := hrel
        by_cases hk8 : k < 8
        · obtain ⟨h, hh⟩ : ∃ h, h = d / 2 := ⟨_, rfl⟩
          have hhl : h < 2147483648 := by omega
          have hq1 : (d : Int).tdiv 2 = (h : Int) := by rw [Int.tdiv_eq_ediv_of_nonneg (by omega)]; omega
          have hq2 : (d : Int) / 2 = (h : Int) := by omega
          have hst : Co.crcSteps (k + 1) c0 = Co.crcStep d := by rw [Co.crcSteps_snoc, ← HD.out]
          by_cases hodd : d % 2 = 1
          · have hr : (d : Int).tmod 2 = 1 := by rw [Int.tmod_eq_emod_of_nonneg (by omega)]; omega
            have hr2 : (d : Int) % 2 = 1 := by omega
            have hxr := xor_i64 (x := h) (y := 3988292384) (by omega) (by omega)
            have hl : h ^^^ 3988292384 < 4294967296 := Co.xor_lt (by omega) (by omega)
            have hst2 : h ^^^ 3988292384 = Co.crcSteps (k + 1) c0 := by rw [hst, Co.crcStep, if_pos hodd, ← hh]
            have HST := hide hst2
            clear hst hst2 hh hodd
            obtain ⟨g, hg⟩ : ∃ g, g = h ^^^ 3988292384 := ⟨_, rfl⟩
            rw [← hg] at hxr hl HST
            have HX : Hid (bits .xor .i64 (h : Int) 3988292384 = (g : Int)) := hxr
            clear hg hxr
            go_wp2
            go_round
            case rel => exact ⟨k + 1, g, by omega, by go_num, congrArg (Value.int .i64) HX.out, hl, HST.out⟩
            case measure => simp [intOf]; omega
          · have hr : (d : Int).tmod 2 = 0 := by rw [Int.tmod_eq_emod_of_nonneg (by omega)]; omega
            have hr2 : (d : Int) % 2 = 0 := by omega
            have hst2 : h = Co.crcSteps (k + 1) c0 := by rw [hst, Co.crcStep, if_neg hodd, ← hh]
            have HST := hide hst2
            clear hst hst2 hh hodd
            go_wp2
            go_round
            case rel => exact ⟨k + 1, h, by omega, by go_num, rfl, by omega, HST.out⟩
            case measure => simp [intOf]; omega
        · have hk8' : k = 8 := by omega
          have hfin : d = Co.crcL 4294967295 (S.data.toList.take (i + 1)) := by rw [HN.out, HD.out, hk8', HC0.out]
          have HF := hide hfin
          clear hfin hk8'
          go_wp2
          go_round
          case rel => exact ⟨i + 1, d, by omega, by go_num, rfl, hd, HF.out⟩
          case measure => simp [intOf]; omega
    · have hfin : Co.crcF S.data.toList = c ^^^ 4294967295 := by
        unfold Co.crcF
        rw [HC.out, List.take_of_length_le (by rw [← Lib.size_eq]; omega)]
      have HF := hide hfin
      have hx := xor_i64 (x := c) (y := 4294967295) hc (by omega)
      rw [← hfin] at hx
      have HX : Hid (bits .xor .i64 (c : Int) 4294967295 = ((Co.crcF S.data.toList : Nat) : Int)) := hx
      clear hfin hx
      go_wp2
      go_ret
      refine ⟨?_, rfl⟩
      rw [← HX.out]
      rfl

theorem take_back {l : List UInt8} {n : Nat} (h : n < l.length) (c : UInt8) (hc : l[n]? = some c) (k : Nat) : Co.leN ((l.drop n).take (k + 1)) = c.toNat + 256 * Co.leN ((l.drop (n + 1)).take k) := by
  have e : l.drop n = c :: l.drop (n + 1) := by
    rw [List.drop_eq_getElem_cons h]
    congr 1
    rw [List.getElem?_eq_getElem h] at hc
    exact Option.some.inj hc
  rw [e, List.take_succ_cons, Co.leN]

set_option maxHeartbeats 1000000 in
set_option maxRecDepth 100000 in
theorem refNumber_any (S : ByteArray) (n : Nat) (w : World) (hs : S.size ≤ 5000) (hn : n ≤ 4) (hn2 : n ≤ S.size) :
    Calls Tryz.prog 78 #[.string S, .int .i64 (n : Int)] w fun e w' => e = .returned (.int .i64 (Co.leN (S.data.toList.take n) : Nat)) ∧ w' = w := by
  go_enter Tryz.func78, Tryz.ntmps78
  go_wp2
  go_loop [5, 6] (fun vv iv => ∃ i v : Nat, i ≤ n ∧ iv = .int .i64 ((i : Int) - 1) ∧ vv = .int .i64 (v : Int) ∧ v < 256 ^ (n - i) ∧ Hid (v = Co.leN ((S.data.toList.drop i).take (n - i)))) (fun _ iv => (intOf iv + 1).toNat)
  case atStart => exact ⟨n, 0, by omega, rfl, rfl, Nat.pow_pos (by omega), by show _ = _; simp [Co.leN]⟩
  case round =>
    obtain ⟨i, v, hi, rfl, rfl, hv, HV⟩ := hrel
    by_cases hi0 : 0 < i
    · obtain ⟨j, rfl⟩ : ∃ j, i = j + 1 := ⟨i - 1, by omega⟩
      have hj : ((j + 1 : Nat) : Int) - 1 = (j : Int) := by omega
      rw [hj]
      have hjs : j < S.size := by omega
      have hb := S[j].toNat_lt
      have hv2 : v < 16777216 := by
        have h1 : 256 ^ (n - (j + 1)) ≤ 256 ^ 3 := Nat.pow_le_pow_right (by omega) (by omega)
        omega
      have hnext : S[j].toNat + 256 * v = Co.leN ((S.data.toList.drop j).take (n - j)) := by
        rw [show n - j = (n - (j + 1)) + 1 by omega, take_back (by rw [← Lib.size_eq]; exact hjs) S[j] (byte_get0 S j hjs), ← HV.out]
      have hlt : S[j].toNat + 256 * v < 256 ^ (n - j) := by
        rw [show n - j = (n - (j + 1)) + 1 by omega, Nat.pow_succ]
        omega
      have HN := hide hnext
      clear hnext
      go_wp2
      go_round
      case rel => exact ⟨j, S[j].toNat + 256 * v, by omega, rfl, by go_num, hlt, HN⟩
      case measure => simp [intOf]
    · obtain rfl : i = 0 := by omega
      go_wp2
      go_ret
      refine ⟨?_, rfl⟩
      rw [HV.out]
      rfl
end Go.Proofs.YtkiindkoiomieaaGreatDoor
end

