import Derived.Test.YtkiindkoiomieaaGreatDoorAllCardK1
import Derived.Test.YtkiindkoiomieaaGreatDoorAllCardK2
import Derived.SizedLaws
import Derived.Test.YtkiindkoiomieaaGreatDoorCards
import Derived.Test.YtkiindkoiomieaaGreatDoorTie
import Derived.Test.YtkiindkoiomieaaGreatDoorJ15
section
/-
  The card of All.
-/
namespace Go.Proofs.YtkiindkoiomieaaGreatDoor
open Go.ChangeShapes Go.WideShapes Go.ChangeAt Go.RowKit Go.Deep


theorem Tryz.bytes3 : Tryz.prog.bytesOf 3 = 8 := by kernel_rfl

section
variable {H : Type}

theorem mem_all {P : Program} {e : TypeId} {d : DataW H} {n : Nat} (hn : n ∈ d.weights P e) : ∀ {l : List (DataW H)}, d ∈ l → n ∈ DataW.weightsAll P e l
  | x :: l, hd => by
    rw [DataW.weightsAll, List.mem_append]
    rcases List.mem_cons.1 hd with h | h
    · subst h
      exact .inl hn
    · exact .inr (mem_all hn h)

/-- The reach of a step's list. -/
theorem list_reach {D : Nat → DataW H} {rest : List (DataW H)} {len k : Nat} {na nb : Int} {S T : List UInt8} {zs : List Int} {sp : List (DataW H)}
    (hsz : (DataW.weightsEach Tryz.prog [22] [.slice ((List.range len).map D) rest]).all (· ≤ reachBytes) = true) (hk : k < len)
    (hD : D k = .agg [.lit (.int .i64 na), .lit (.int .i64 nb), .lit (.string S), .lit (.string T), .slice (lits .i64 zs) sp]) : zs.length * 8 ≤ 140737488351232 := by
  have h1 : ((lits (H := H) .i64 zs).length + sp.length) * Tryz.prog.bytesOf 3 ∈ (DataW.slice (lits .i64 zs) sp).weights Tryz.prog 23 := by
    simp only [DataW.weights, Tryz.underlying23]
    exact List.mem_cons_self ..
  have h2 : ((lits (H := H) .i64 zs).length + sp.length) * Tryz.prog.bytesOf 3 ∈ (D k).weights Tryz.prog 25 := by
    rw [hD]
    simp only [DataW.weights, Tryz.underlying25]
    exact DataW.weights_mem_each (j := 4) rfl rfl _ h1
  have h3 : ((lits (H := H) .i64 zs).length + sp.length) * Tryz.prog.bytesOf 3 ∈ (DataW.slice ((List.range len).map D) rest).weights Tryz.prog 22 := by
    simp only [DataW.weights, Tryz.underlying22]
    exact List.mem_cons_of_mem _ (List.mem_append_left _ (mem_all h2 (List.mem_map.2 ⟨k, List.mem_range.2 hk, rfl⟩)))
  have h4 := DataW.weights_mem_each (j := 0) (ts := [22]) (ds := [.slice ((List.range len).map D) rest]) rfl rfl _ h3
  have h5 := List.all_eq_true.1 hsz _ h4
  rw [Tryz.bytes3] at h5
  simp [lits, reachBytes] at h5
  omega
end

set_option maxHeartbeats 1000000 in
set_option maxRecDepth 100000 in
theorem all_lifted (os : Os) (started : os.Started) (H : Type) (enc : TypeId × Value → H) :
    ReturnsInHanded {} Tryz.checked os 10 .any (fun w args => (Rows.allSpec.pre enc Tryz.prog Tryz.f10 Rows.allRow.domain false w args ∧ laidMetH Tryz.prog seatLaid w) ∧ sizedMet enc Tryz.prog Tryz.f10 (OpenSpec.ofChange Rows.allSpec) false w args)
      (Rows.allSpec.post enc Tryz.prog Tryz.f10 false true false false) := by
  refine returnsInHanded_of_change_and (C := Tryz.checked) (X := fun w _ => laidMetH Tryz.prog seatLaid w) (fun _ _ _ hh h => h.of_heap hh) Tryz.own started (by kernel_rfl) Tryz.func10
    (ChangeSpec.witness_shaped (enc := enc) (C := Tryz.checked) (os := os) (X := fun w _ => laidMetH Tryz.prog seatLaid w) false (World.laidAll Tryz.prog os seatLaid) #[.slice none 0 0] 8 (World.laidAll_os _ _ _)
      (World.shaped_of_ZipB (by kernel_rfl) (by kernel_rfl)) (by kernel_rfl) (by kernel_rfl) (by kernel_rfl)
      (by rw [MakeChecks.laidMetH_plain _ _ _ (by kernel_rfl)]; exact laidMet_laidAll _ (by kernel_rfl) (by kernel_rfl))) ?_
  intro W base args ds gs before hval0 hW hcnd hsz0 _ _
  have hval : ∀ (j : Nat) t v, Tryz.f10.params[j]? = some t → args[j]? = some v → Value.okWide Tryz.prog W .any base t v := hval0
  have hsz : (DataW.weightsEach Tryz.prog (Tryz.f10.params.toList ++ Rows.allSpec.plain.varTypes Tryz.prog) (ds ++ gs)).all (· ≤ reachBytes) = true := hsz0
  have hW' := hW
  obtain ⟨p, q, hA0, hV, rfl, _, _⟩ := hW
  have hA : DataW.TrodAll enc Tryz.prog W 0 (fun _ => true) true Tryz.f10.params.toList args.toList ds p := hA0
  rw [Tryz.params10] at hA hval hsz
  obtain ⟨v0, d0, rfl, rfl, h0⟩ := trodAll_one hA
  obtain ⟨rfl, rfl⟩ := trodVars_none hV
  have h0k := h0
  obtain ⟨fuel, hf⟩ := h0
  clear hA0 hval0 hcnd hsz0
  simp only [List.append_nil] at hW'
  have hlt : ∀ x ∈ p, x.block < W.heap.size := fun x hx => by simpa using hW'.lt x hx
  obtain ⟨a0, len, cap, rfl⟩ := okWide_slice Tryz.underlying22 (hval 0 22 v0 rfl rfl)
  have key : Calls Tryz.prog 10 #[.slice a0 len cap] W fun e w' => e = .returned (.bool true) ∧ Below W.heap.size W w' := by
    obtain ⟨hlm, h0len | ⟨b, off, D, rest, rfl, hb, rfl, hop⟩⟩ := open_ops hf hlt
    · subst h0len
      exact all_ok (.inl rfl)
    · have hsz' : (DataW.weightsEach Tryz.prog [22] [.slice ((List.range len).map D) rest]).all (· ≤ reachBytes) = true := hsz
      refine all_ok (.inr ⟨b, off, rfl, hb, by unfold maxLen at hlm; omega, fun k hk => ?_⟩)
      obtain ⟨na, nb, S, T, la, ll, lc, zs, dl, ho, hD, hdl⟩ := hop k hk
      have hreach : ll * 8 ≤ 140737488351232 := by
        rcases hdl with ⟨_, h1⟩ | ⟨sp, rfl⟩
        · omega
        · rw [← ho.zl]
          exact list_reach hsz' hk hD
      rcases ho.at_ with ⟨h1, _⟩ | ⟨lb, lo, h1, h2, h3⟩
      · have hzl := ho.zl
        have hz0 : zs = [] := List.eq_nil_of_length_eq_zero (by omega)
        exact ⟨na, nb, S, T, la, ll, lc, zs, 0, 0, ho.cA, ho.cB, ho.cS, ho.cT, ho.cL, ho.sS, ho.sT, hreach, ho.zl, fun h => by omega, fun j z hj => by rw [hz0] at hj; simp at hj⟩
      · exact ⟨na, nb, S, T, la, ll, lc, zs, lb, lo, ho.cA, ho.cB, ho.cS, ho.cT, ho.cL, ho.sS, ho.sT, hreach, ho.zl, fun _ => ⟨h1, h2⟩, fun j z hj => by
          have hj' := (List.getElem?_eq_some_iff.1 hj).1
          rw [h3 j (by have := ho.zl; omega)]
          simp [List.getD, hj]⟩
  refine key.mono fun e W' ⟨he, hbel⟩ => ?_
  subst he
  exact ⟨_, rfl, ⟨_, _, _, [], _, [], hW', trodAll_mk1 (shut_bool Tryz.underlying4 true), trodAll_mk1 (Below.trod Tryz.laidOut (by kernel_rfl) (of_decide_eq_true (by kernel_rfl)) h0k hbel hlt), rfl, hbel.frame _, fun h => by cases h⟩⟩

theorem all_row : Rows.AllSaid :=
  OpenClaim.holds_of_wide 10 Tryz.f10 rfl rfl rfl rfl rfl rfl rfl ⟨rfl, rfl, rfl, rfl, rfl⟩ rfl rfl rfl rfl rfl (by kernel_rfl) Tryz.func10 (by kernel_rfl)
    (of_decide_eq_true (by kernel_rfl)) (by unfold Func.isWrapper; first | (rw [if_pos (by decide +kernel)]; kernel_rfl) | (rw [if_neg (by decide +kernel)]; exact ⟨rfl, rfl⟩))
    (fun os started H enc _ => all_lifted os started H enc)

theorem all_card : Rows.AllCardSaid :=
  Claim7.holds_tied_plain_at .later [] [.data, .pinned] true _ false
    all_row (fun _ h => by cases h) (by kernel_rfl) (fun _ h => by cases h) all_row_tie rfl ⟨rfl, rfl⟩ (by kernel_rfl) rfl
    (fun f fn hf hfn => by
      obtain rfl : f = 10 := Option.some.inj ((show Tryz.prog.funcNamed "twine/twinelaw.All" = some 10 by kernel_rfl).symm.trans hf) |>.symm
      obtain rfl : fn = Tryz.f10 := (Option.some.inj (Tryz.func10.symm.trans hfn)).symm
      exact ⟨by kernel_rfl, fun j t ht => by
        rw [Tryz.params10] at ht
        have hm : t ∈ [22] := by simpa using Array.mem_of_getElem? ht
        have hall : ([22].all fun u => !Tryz.prog.wantsStandIn u) = true := by kernel_rfl
        exact (show Tryz.prog.wantsStandIn t = false by simpa using List.all_eq_true.1 hall t hm)⟩)
    (by kernel_rfl)
end Go.Proofs.YtkiindkoiomieaaGreatDoor
end

