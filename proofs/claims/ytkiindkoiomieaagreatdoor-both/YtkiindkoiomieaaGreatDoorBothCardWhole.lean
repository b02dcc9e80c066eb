import Derived.Test.YtkiindkoiomieaaGreatDoorRows
import Derived.ProofKit
import Derived.ChangeSlices
import Derived.Deep.Slices
import Derived.Deep.Strs
import Derived.Test.YtkiindkoiomieaaGreatDoorJ05
import Derived.Test.YtkiindkoiomieaaGreatDoorJ08
import Derived.Test.YtkiindkoiomieaaGreatDoorCards
import Derived.Test.YtkiindkoiomieaaGreatDoorTie
import Derived.Test.YtkiindkoiomieaaGreatDoorJ15
section
/-
  A script as data: its steps, each five cells.
-/
namespace Go.Proofs.YtkiindkoiomieaaGreatDoor
open Go.ChangeShapes Go.WideShapes Go.ChangeAt Go.RowKit Go.Deep

theorem Tryz.own : ownKnob Tryz.prog.godebug = none := by kernel_rfl
theorem Tryz.cells25 : Tryz.prog.cellsOf 25 = 5 := by kernel_rfl
theorem Tryz.cells9 : Tryz.prog.cellsOf 9 = 1 := by kernel_rfl
theorem Tryz.cells23 : Tryz.prog.cellsOf 23 = 1 := by kernel_rfl

/-- One step of a script, as it lies at a place of a block. -/
structure OpAt (W : World) (b o : Nat) (na nb : Int) (S T : ByteArray) (la : Option Addr) (ll lc : Nat) (zs : List Int) : Prop where
  cA : W.cell? ⟨b, o, none⟩ = some (.int .i64 na)
  cB : W.cell? ⟨b, o + 1, none⟩ = some (.int .i64 nb)
  cS : W.cell? ⟨b, o + 2, none⟩ = some (.string S)
  cT : W.cell? ⟨b, o + 3, none⟩ = some (.string T)
  cL : W.cell? ⟨b, o + 4, none⟩ = some (.slice la ll lc)
  sS : S.size ≤ maxLen
  sT : T.size ≤ maxLen
  wA : (Lit.int .i64 na).wf = true
  wB : (Lit.int .i64 nb).wf = true
  zl : zs.length = ll
  lm : ll ≤ maxLen
  wz : ∀ z ∈ zs, (Lit.int .i64 z).wf = true
  at_ : (ll = 0 ∧ (la = none → lc = 0)) ∨ ∃ lb lo, la = some ⟨lb, lo, none⟩ ∧ lb < W.heap.size ∧ ∀ j, j < ll → W.cell? ⟨lb, lo + j, none⟩ = some (.int .i64 (zs.getD j 0))

section
variable {H : Type} {enc : TypeId × Value → H}

theorem trod_struct5 {P : Program} {w : World} {base : Nat} {spare : Nat → Bool} {held : Bool} {t : TypeId} {f0 f1 f2 f3 f4 : Field} {fuel : Nat} {cs : List Value} {x : DataW H × List MemPlace}
    (ht : P.underlying t = some (.struct #[f0, f1, f2, f3, f4])) (h : DataW.trod enc P w base spare held fuel t cs = some x) :
    ∃ (y : Nat → DataW H × List MemPlace) (n : Nat), x = (.agg [(y 0).1, (y 1).1, (y 2).1, (y 3).1, (y 4).1], (y 0).2 ++ ((y 1).2 ++ ((y 2).2 ++ ((y 3).2 ++ (y 4).2)))) ∧ cs.length = P.cellsOf t ∧
      ∀ i f, #[f0, f1, f2, f3, f4][i]? = some f → DataW.trod enc P w base spare held n f.type ((cs.drop f.offset).take (P.cellsOf f.type)) = some (y i) := by
  obtain ⟨xs, n, _, rfl, hl, hlen, hf⟩ := DataW.trod_struct ht h
  match xs, hlen with
  | [y0, y1, y2, y3, y4], _ =>
    refine ⟨fun i => [y0, y1, y2, y3, y4].getD i y0, n, by simp, hl, fun i f hi => ?_⟩
    have h1 := hf i f hi
    have hlt : i < 5 := (Array.getElem?_eq_some_iff.1 hi).1
    rw [h1]
    simp [List.getD, List.getElem?_eq_getElem (show i < [y0, y1, y2, y3, y4].length from hlt)]

set_option maxRecDepth 100000 in
theorem open_ops {W : World} {a0 : Option Addr} {len cap fuel : Nat} {d0 : DataW H} {p : List MemPlace}
    (hf : DataW.trod enc Tryz.prog W 0 (fun _ => true) true fuel 22 [.slice a0 len cap] = some (d0, p)) (hlt : ∀ x ∈ p, x.block < W.heap.size) :
    len ≤ maxLen ∧ (len = 0 ∨ ∃ (b off : Nat) (D : Nat → DataW H) (rest : List (DataW H)), a0 = some ⟨b, off, none⟩ ∧ b < W.heap.size ∧ d0 = .slice ((List.range len).map D) rest ∧
      ∀ k, k < len → ∃ na nb S T la ll lc zs dl, OpAt W b (off + k * 5) na nb S T la ll lc zs ∧ D k = .agg [.lit (.int .i64 na), .lit (.int .i64 nb), .lit (.string S.data.toList), .lit (.string T.data.toList), dl] ∧
        ((dl = .nil ∧ ll = 0) ∨ ∃ sp, dl = .slice (lits .i64 zs) sp)) := by
  rcases open_slice Tryz.underlying22 hf with ⟨hcs, hx⟩ | ⟨a, len', cap', m, n, D, Pl, hcs, _, hl, hm, hmm, hx, hel⟩
  · simp at hcs
    obtain ⟨_, rfl, _⟩ := hcs
    exact ⟨Nat.zero_le _, .inl rfl⟩
  · simp at hcs
    obtain ⟨rfl, rfl, rfl⟩ := hcs
    simp only [Prod.mk.injEq] at hx
    obtain ⟨rfl, rfl⟩ := hx
    simp only [if_true] at hmm
    subst hmm
    refine ⟨by omega, ?_⟩
    by_cases h0 : len = 0
    · exact .inl h0
    right
    obtain ⟨b, off, spot⟩ := a
    have hspot : spot = none := by
      obtain ⟨cs', hc0, ht0⟩ := hel 0 (by omega)
      rw [Tryz.cells25] at hc0
      obtain ⟨_, hl5, hcell⟩ := World.cells?_some hc0
      have := hcell 0 (by omega)
      rw [List.getElem?_eq_getElem (by omega)] at this
      simpa [Addr.add] using World.cell?_spot this
    subst hspot
    refine ⟨b, off, D, _, rfl, ?_, rfl, fun k hk => ?_⟩
    · refine hlt (.cell b (off + 0)) (List.mem_append_left _ ?_)
      simp only [MemPlace.row, List.mem_map, List.mem_range]
      exact ⟨0, by rw [Tryz.cells25]; omega, rfl⟩
    · obtain ⟨cs', hc0, ht0⟩ := hel k (by omega)
      rw [Tryz.cells25] at hc0
      obtain ⟨_, hl5, hcell⟩ := World.cells?_some hc0
      obtain ⟨y, n', hD, _, hy⟩ := trod_struct5 Tryz.underlying25 ht0
      simp only [Prod.mk.injEq] at hD
      obtain ⟨c0, c1, c2, c3, c4, rfl⟩ : ∃ c0 c1 c2 c3 c4, cs' = [c0, c1, c2, c3, c4] := by
        match cs', hl5 with
        | [c0, c1, c2, c3, c4], _ => exact ⟨c0, c1, c2, c3, c4, rfl⟩
      obtain ⟨na, h01, h02, wA⟩ := DataW.trod_int Tryz.underlying3 (hy 0 _ rfl)
      obtain ⟨nb, h11, h12, wB⟩ := DataW.trod_int Tryz.underlying3 (hy 1 _ rfl)
      obtain ⟨S, h21, h22, sS⟩ := DataW.trod_string Tryz.underlying9 (hy 2 _ rfl)
      obtain ⟨T, h31, h32, sT⟩ := DataW.trod_string Tryz.underlying9 (hy 3 _ rfl)
      simp [Tryz.cells3] at h01 h11
      simp [Tryz.cells9] at h21 h31
      subst h01 h11 h21 h31
      have r0 := hcell 0 (by omega)
      have r1 := hcell 1 (by omega)
      have r2 := hcell 2 (by omega)
      have r3 := hcell 3 (by omega)
      have r4 := hcell 4 (by omega)
      simp [Addr.add_lit] at r0 r1 r2 r3 r4
      have hP : ∀ x ∈ (y 4).2, x.block < W.heap.size := fun x hx => hlt x (List.mem_append_right _ (List.mem_flatMap.2 ⟨k, List.mem_range.2 (by omega), by rw [hD.2]; simp [hx]⟩))
      rcases open_ints Tryz.underlying23 Tryz.underlying3 Tryz.cells3 (hy 4 _ rfl) with ⟨h41, h42⟩ | ⟨a, ll, lc, zs, h41, _, hll, hlm, hzl, h42, hcz, hwz⟩
      · simp [Tryz.cells23] at h41
        subst h41
        refine ⟨na, nb, S, T, none, 0, 0, [], .nil, ⟨r0, r1, r2, r3, r4, sS, sT, wA, wB, rfl, Nat.zero_le _, by simp, .inl ⟨rfl, fun _ => rfl⟩⟩, ?_, .inl ⟨rfl, rfl⟩⟩
        rw [hD.1, h02, h12, h22, h32, h42]
      · simp [Tryz.cells23] at h41
        subst h41
        simp only [if_true] at hzl
        have hD' : D k = .agg [.lit (.int .i64 na), .lit (.int .i64 nb), .lit (.string S.data.toList), .lit (.string T.data.toList), .slice (lits .i64 (zs.take ll)) (lits .i64 (zs.drop ll))] := by
          rw [hD.1, h02, h12, h22, h32, h42]
        refine ⟨na, nb, S, T, some a, ll, lc, zs.take ll, _, ⟨r0, r1, r2, r3, r4, sS, sT, wA, wB, by simp; omega, by omega, fun z hz => hwz z (List.mem_of_mem_take hz), ?_⟩, hD', .inr ⟨_, rfl⟩⟩
        by_cases hl0 : ll = 0
        · exact .inl ⟨hl0, fun h => by cases h⟩
        · right
          obtain ⟨lb, lo, lsp⟩ := a
          have hls : lsp = none := by simpa [Addr.add] using World.cell?_spot (hcz 0 (by omega))
          subst hls
          refine ⟨lb, lo, rfl, ?_, fun j hj => ?_⟩
          · refine hP (.cell lb (lo + 0)) ?_
            rw [h42]
            simp only [MemPlace.row, List.mem_map, List.mem_range]
            exact ⟨0, by omega, rfl⟩
          · have := hcz j (by omega)
            rw [Addr.add_lit] at this
            rw [this]
            congr 2
            simp [List.getD, hj]
end
end Go.Proofs.YtkiindkoiomieaaGreatDoor
end

section
/-
  The card of Both.
-/
namespace Go.Proofs.YtkiindkoiomieaaGreatDoor
open Go.ChangeShapes Go.WideShapes Go.ChangeAt Go.RowKit Go.Deep

set_option maxHeartbeats 400000 in
theorem both_zero (ao : Option Addr) (cap : Nat) (w : World)
    (hal : ∀ W, Calls Tryz.prog 14 #[] W fun e w' => e = .returned (.bool true) ∧ Below W.heap.size W w') :
    Calls Tryz.prog 4 #[.slice ao 0 cap] w fun e w' => e = .returned (.bool true) ∧ Below w.heap.size w w' := by
  go_enter Tryz.func4, Tryz.ntmps4
  go_wp2
  refine wp_loop_rounds 1 ?_
  rw [rounds_succ]
  go_wp2_with (go_at_call 14; refine (hal _).mono ?_; rintro e w1 ⟨rfl, hb1⟩)
  go_ret
  exact ⟨rfl, hb1⟩

set_option maxHeartbeats 1000000 in
set_option maxRecDepth 100000 in
theorem both_lifted (hal : ∀ W, Calls Tryz.prog 14 #[] W fun e w' => e = .returned (.bool true) ∧ Below W.heap.size W w') (os : Os) (started : os.Started) (H : Type) (enc : TypeId × Value → H) :
    ReturnsInHanded {} Tryz.checked os 4 .any (fun w args => (Rows.bothSpec.pre enc Tryz.prog Tryz.f4 Rows.bothRow.domain false w args ∧ laidMetH Tryz.prog seatLaid w) ∧ sizedMet enc Tryz.prog Tryz.f4 (OpenSpec.ofChange Rows.bothSpec) false w args)
      (Rows.bothSpec.post enc Tryz.prog Tryz.f4 false true false false) := by
  refine returnsInHanded_of_change_and (C := Tryz.checked) (X := fun w _ => laidMetH Tryz.prog seatLaid w) (fun _ _ _ hh h => h.of_heap hh) Tryz.own started (by kernel_rfl) Tryz.func4
    (ChangeSpec.witness_shaped (enc := enc) (C := Tryz.checked) (os := os) (X := fun w _ => laidMetH Tryz.prog seatLaid w) false (World.laidAll Tryz.prog os seatLaid) #[.slice none 0 0] 8 (World.laidAll_os _ _ _)
      (World.shaped_of_ZipB (by kernel_rfl) (by kernel_rfl)) (by kernel_rfl) (by kernel_rfl) (by kernel_rfl)
      (by rw [MakeChecks.laidMetH_plain _ _ _ (by kernel_rfl)]; exact laidMet_laidAll _ (by kernel_rfl) (by kernel_rfl))) ?_
  intro W base args ds gs before hval0 hW hcnd _ _ _
  have hval : ∀ (j : Nat) t v, Tryz.f4.params[j]? = some t → args[j]? = some v → Value.okWide Tryz.prog W .any base t v := hval0
  have hW' := hW
  obtain ⟨p, q, hA0, hV, rfl, _, _⟩ := hW
  have hA : DataW.TrodAll enc Tryz.prog W 0 (fun _ => true) true Tryz.f4.params.toList args.toList ds p := hA0
  rw [Tryz.params4] at hA hval
  obtain ⟨v0, d0, rfl, rfl, h0⟩ := trodAll_one hA
  obtain ⟨rfl, rfl⟩ := trodVars_none hV
  have h0k := h0
  obtain ⟨fuel, hf⟩ := h0
  clear hA0 hval0 hcnd
  simp only [List.append_nil] at hW'
  have hlt : ∀ x ∈ p, x.block < W.heap.size := fun x hx => by simpa using hW'.lt x hx
  obtain ⟨a0, len, cap, rfl⟩ := okWide_slice Tryz.underlying22 (hval 0 22 v0 rfl rfl)
  have key : Calls Tryz.prog 4 #[.slice a0 len cap] W fun e w' => e = .returned (.bool true) ∧ Below W.heap.size W w' := by
    obtain ⟨hlm, h0len | ⟨b, off, D, rest, rfl, hb, rfl, hop⟩⟩ := open_ops hf hlt
    · subst h0len
      exact both_zero a0 cap W hal
    · have hS : ∀ k, ∃ s : ByteArray, k < len → W.cell? ⟨b, off + k * 5 + 2, none⟩ = some (.string s) ∧ s.size ≤ maxLen := fun k => by
        by_cases hk : k < len
        · obtain ⟨_, _, S, _, _, _, _, _, _, ho, _⟩ := hop k hk
          exact ⟨S, fun _ => ⟨ho.cS, ho.sS⟩⟩
        · exact ⟨⟨#[]⟩, fun h => absurd h hk⟩
      exact both_any b off len cap (fun k => (hS k).choose) W (by unfold maxLen at hlm; omega) hb (fun k hk => (hS k).choose_spec hk) hal
  refine key.mono fun e W' ⟨he, hbel⟩ => ?_
  subst he
  exact ⟨_, rfl, ⟨_, _, _, [], _, [], hW', trodAll_mk1 (shut_bool Tryz.underlying4 true), trodAll_mk1 (Below.trod Tryz.laidOut (by kernel_rfl) (of_decide_eq_true (by kernel_rfl)) h0k hbel hlt), rfl, hbel.frame _, fun h => by cases h⟩⟩

theorem both_row : Rows.BothSaid :=
  OpenClaim.holds_of_wide 4 Tryz.f4 rfl rfl rfl rfl rfl rfl rfl ⟨rfl, rfl, rfl, rfl, rfl⟩ rfl rfl rfl rfl rfl (by kernel_rfl) Tryz.func4 (by kernel_rfl)
    (of_decide_eq_true (by kernel_rfl)) (by unfold Func.isWrapper; first | (rw [if_pos (by decide +kernel)]; kernel_rfl) | (rw [if_neg (by decide +kernel)]; exact ⟨rfl, rfl⟩))
    (fun os started H enc _ => both_lifted alive_any os started H enc)

theorem both_card : Rows.BothCardSaid :=
  Claim7.holds_tied_plain_at .later [] [.data, .pinned] true _ false
    both_row (fun _ h => by cases h) (by kernel_rfl) (fun _ h => by cases h) both_row_tie rfl ⟨rfl, rfl⟩ (by kernel_rfl) rfl
    (fun f fn hf hfn => by
      obtain rfl : f = 4 := Option.some.inj ((show Tryz.prog.funcNamed "twine/twinelaw.Both" = some 4 by kernel_rfl).symm.trans hf) |>.symm
      obtain rfl : fn = Tryz.f4 := (Option.some.inj (Tryz.func4.symm.trans hfn)).symm
      exact ⟨by kernel_rfl, fun j t ht => by
        rw [Tryz.params4] at ht
        have hm : t ∈ [22] := by simpa using Array.mem_of_getElem? ht
        have hall : ([22].all fun u => !Tryz.prog.wantsStandIn u) = true := by kernel_rfl
        exact (show Tryz.prog.wantsStandIn t = false by simpa using List.all_eq_true.1 hall t hm)⟩)
    (by kernel_rfl)
end Go.Proofs.YtkiindkoiomieaaGreatDoor
end

