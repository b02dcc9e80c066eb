/-
  P5: places and bytes, as functions of lists; the walk of bytesAt.
-/
import Derived.Test.YtkiindkoiomieaaList
import Derived.Deep.WholeRow
namespace Go.Proofs.Ytkiindkoiomieaa
open Go.RowKit

/-- Bytes as places in the list. -/
def frontL : List UInt8 → List UInt8 → List UInt8
  | _, [] => []
  | l, c :: r => UInt8.ofNat (l.idxOf c) :: frontL (mtf l (l.idxOf c)) r

/-- Places as bytes of the list. -/
def behindL : List UInt8 → List UInt8 → List UInt8
  | _, [] => []
  | l, p :: r => (l[p.toNat]?.getD 0) :: behindL (mtf l p.toNat) r

/-- All bytes stand in the list. -/
def Full (l : List UInt8) : Prop := l.length = 256 ∧ ∀ c, c ∈ l

theorem full_part : Full (part 256) := by
  refine ⟨part_length _, fun c => ?_⟩
  refine List.mem_map.2 ⟨c.toNat, List.mem_range.2 (by have := c.toNat_lt; omega), ?_⟩
  rw [if_pos (by have := c.toNat_lt; omega)]
  simp

theorem Full.mtf {l : List UInt8} (h : Full l) {p : Nat} (hp : p < 256) : Full (mtf l p) := by
  have hp' : p < l.length := by rw [h.1]; exact hp
  refine ⟨by rw [mtf_length hp', h.1], fun c => ?_⟩
  have hc := h.2 c
  rw [← List.take_append_drop p l, List.mem_append] at hc
  rw [List.drop_eq_getElem_cons hp', List.mem_cons] at hc
  unfold Go.Proofs.Ytkiindkoiomieaa.mtf
  rw [List.getElem?_eq_getElem hp', Option.getD_some, List.mem_cons, List.mem_append]
  rcases hc with h1 | h1 | h1
  · exact .inr (.inl h1)
  · exact .inl h1
  · exact .inr (.inr h1)

theorem drop_byte (s : ByteArray) (k : Nat) (h : k < s.size) : s.data.toList.drop k = s[k] :: s.data.toList.drop (k + 1) := by
  have h' : k < s.data.toList.length := by simpa using h
  rw [List.drop_eq_getElem_cons h']
  rfl

theorem builder_kept {T e : TypeId} {B b : Nat} {bs : List Value} {w w' : World} {g : Nat} (h : Lib.IsBuilder T e B b bs w) (hg : w.grownBy w' (some g)) (hgB : g < B) : Lib.IsBuilder T e B b bs w' := by
  have key : ∀ p, Lib.BuilderAt T e B b p bs w → Lib.BuilderAt T e B b p bs w' := fun p hp => by
    have hlt := hp.lt
    obtain ⟨hB, v, hb, hown, hne⟩ := hp
    refine ⟨hB, v, by rw [hg.block b hlt (by simp; omega)]; exact hb, hown.kept hg ?_, hne⟩
    cases hv : v.ownBlock with
    | none => exact .inl rfl
    | some k =>
      right
      have := (hown.lt k hv).1
      simp
      omega
  rcases h with h | h
  · exact .inl (key _ h)
  · exact .inr (key _ h)

theorem byteCells_snoc (l : List UInt8) (c : UInt8) : Lib.byteCells l ++ [.int .u8 c.toNat] = Lib.byteCells (l ++ [c]) := by simp [Lib.byteCells]

theorem fresh_at (w1 : World) (o : Obj) : Lib.IsBuilder 66 5 (w1.heap.size + 1) (w1.heap.size + 1) (Lib.byteCells []) ((w1.alloc o).alloc (.cells #[.pointer none, .slice none 0 0] 66)) := by
  have h := Lib.fresh_isBuilder 66 5 (w1.alloc o)
  have e : (w1.alloc o).heap.size = w1.heap.size + 1 := by simp
  rw [e] at h
  exact h

theorem ret_str {a b : List UInt8} (h : a = b) : Ending.returned (.string ⟨a.toArray⟩) = .returned (.string ⟨b.toArray⟩) := by rw [h]

theorem drop_end (s : ByteArray) (k : Nat) (h : ¬ k < s.size) : s.data.toList.drop k = [] := List.drop_eq_nil_of_le (by rw [← Lib.size_eq]; omega)

set_option maxHeartbeats 1000000 in
set_option maxRecDepth 100000 in
theorem bytesAt_any (s : ByteArray) (w : World) (hs : s.size ≤ 500) :
    Calls Try.prog 39 #[.string s] w fun e w' => e = .returned (.string ⟨(behindL (part 256) s.data.toList).toArray⟩) ∧ Below w.heap.size w w' := by
  have hz := zv71
  go_enter Try.func39, Try.ntmps39
  go_wp2_with (first
    | (go_at_call 56; refine (sorted_any _).mono ?_; rintro e w1 ⟨rfl, hb1⟩)
    | (refine wpList_store_row rfl 86 (.tmp 3) (.tmp 7) rfl w1.heap.size (cellsB (part 256)) rfl rfl 86 (cellsB (part 0)) (heap_alloc_new _ _) (by rw [cellsB_size, part_length]; exact Try.size86) (by rw [cellsB_size, cellsB_size, part_length, part_length]) (all_one _) ?_; rw [World.setRow_alloc_new]))
  clear hz
  go_loopw [10] (fun i wr => ∃ (k : Nat) (l out : List UInt8), k ≤ s.size ∧ i = .int .i64 k ∧ Hid (wr.heap[w1.heap.size]? = some (.cells (cellsB l) 86 (0, 0))) ∧ Lib.IsBuilder 66 5 (w1.heap.size + 1) (w1.heap.size + 1) (Lib.byteCells out) wr ∧ out.length = k ∧ Full l ∧ Below w.heap.size w wr ∧ w1.heap.size + 1 ≤ wr.heap.size ∧ Hid (out ++ behindL l (s.data.toList.drop k) = behindL (part 256) s.data.toList)) (fun i _ => s.size - (intOf i).toNat)
  case atStart => exact ⟨0, part 256, [], Nat.zero_le _, rfl, heap_alloc2_old _ _ _, fresh_at _ _, rfl, full_part, (hb1.alloc hb1.size _).alloc (by have := hb1.size; simp; omega) _, by simp, rfl⟩
  case round =>
    obtain ⟨k, l, out, hk, rfl, HL, hB, hok, hfull, hbx, hsz, HS⟩ := hrel
    by_cases hlt : k < s.size
    · obtain ⟨c, hc⟩ : ∃ c, l[s[k].toNat]? = some c := ⟨_, List.getElem?_eq_getElem (by rw [hfull.1]; have := s[k].toNat_lt; omega)⟩
      have hcell := bl_cell HL.out hc
      have hpl : s[k].toNat < 256 := by have := s[k].toNat_lt; omega
      have HC := hide hc
      have cW := hide (write_any (w1.heap.size + 1) (w1.heap.size + 1) (Lib.byteCells out) c.toNat wr hB (by rw [Lib.byteCells_length]; omega) hsz)
      have HF := hide hfull
      have hstep : behindL l (s.data.toList.drop k) = c :: behindL (mtf l s[k].toNat) (s.data.toList.drop (k + 1)) := by
        rw [drop_byte s k hlt, behindL, hc, Option.getD_some]
      have HST := hide hstep
      clear hB hc hfull hstep
      go_wp2_with (first
        | (go_at_call 41; refine (unhide cW).mono ?_; rintro e w2 ⟨rfl, hb2, hbl2⟩; have cL := hide (lay_any w1.heap.size s[k].toNat l w2 HF.out.1 hpl ((hbl2.block _ (Nat.lt_succ_self _)).trans HL.out)))
        | (go_at_call 58; refine (unhide cL).mono ?_; rintro e w3 ⟨rfl, hl3, hg3⟩; have HL3 := hide hl3; clear hl3))
      go_roundw
      case rel =>
        refine ⟨k + 1, mtf l s[k].toNat, out ++ [c], by omega, by go_num, HL3, ?_, by simp; exact hok, HF.out.mtf hpl, (hbx.trans (hbl2.mono (by have := hb1.size; omega))).grown hg3 (by have := hb1.size; have := hbl2.size; omega) (fun j hj => by cases hj; exact hb1.size), ?_, ?_⟩
        · rw [← byteCells_snoc]
          exact builder_kept (.inr hb2) hg3 (Nat.lt_succ_self _)
        · have := hbl2.size
          have := hg3.size
          omega
        · show _ = _
          rw [← HS.out, HST.out, List.append_assoc]
          rfl
      case measure => simp [intOf]; omega
    · go_wp2_with (go_at_call 42; refine (Try.Builder_String_any _ _ _ _ hB (by omega)).mono ?_; rintro e w' ⟨rfl, hb3⟩)
      go_ret
      have hend := HS.out
      rw [drop_end s k hlt, behindL, List.append_nil] at hend
      exact ⟨ret_str hend, hbx.trans (hb3.mono (by have := hb1.size; omega))⟩

theorem index_of {l : List UInt8} {c : UInt8} (h : c ∈ l) : Lib.indexByte l c = (l.idxOf c : Nat) := by
  induction l with
  | nil => cases h
  | cons b l ih =>
    by_cases hb : b = c
    · subst hb
      simp [Lib.indexByte]
    · have hm : c ∈ l := by
        rcases List.mem_cons.1 h with h1 | h1
        · exact absurd h1.symm hb
        · exact h1
      have hbc : (b == c) = false := by simpa using hb
      have hne : ((l.idxOf c : Int) == -1) = false := by rw [beq_eq_false_iff_ne]; omega
      rw [List.idxOf_cons, hbc, Lib.indexByte, hbc, ih hm, hne]
      simp

theorem idx_lt {l : List UInt8} (h : Full l) (c : UInt8) : l.idxOf c < 256 := by
  rw [← h.1]
  exact List.idxOf_lt_length_of_mem (h.2 c)

theorem bytesOf_cast (l : List UInt8) : Lib.bytesOf (l.map fun b => (b.toNat : Int)) = l := by
  unfold Lib.bytesOf
  rw [List.map_map]
  conv => rhs; rw [← List.map_id l]
  apply List.map_congr_left
  intro b _
  simp

set_option maxHeartbeats 1000000 in
set_option maxRecDepth 100000 in
theorem placesOf_any (s : ByteArray) (w : World) (hs : s.size ≤ 300) :
    Calls Try.prog 38 #[.string s] w fun e w' => e = .returned (.string ⟨(frontL (part 256) s.data.toList).toArray⟩) ∧ Below w.heap.size w w' := by
  have hz := zv71
  go_enter Try.func38, Try.ntmps38
  go_wp2_with (first
    | (go_at_call 56; refine (sorted_any _).mono ?_; rintro e w1 ⟨rfl, hb1⟩)
    | (refine wpList_store_row rfl 86 (.tmp 3) (.tmp 7) rfl w1.heap.size (cellsB (part 256)) rfl rfl 86 (cellsB (part 0)) (heap_alloc_new _ _) (by rw [cellsB_size, part_length]; exact Try.size86) (by rw [cellsB_size, cellsB_size, part_length, part_length]) (all_one _) ?_; rw [World.setRow_alloc_new]))
  clear hz
  go_loopw [10] (fun i wr => ∃ (k : Nat) (l out : List UInt8), k ≤ s.size ∧ i = .int .i64 k ∧ Hid (wr.heap[w1.heap.size]? = some (.cells (cellsB l) 86 (0, 0))) ∧ Lib.IsBuilder 66 5 (w1.heap.size + 1) (w1.heap.size + 1) (Lib.byteCells out) wr ∧ out.length = k ∧ Full l ∧ Below w.heap.size w wr ∧ w1.heap.size + 1 ≤ wr.heap.size ∧ Hid (out ++ frontL l (s.data.toList.drop k) = frontL (part 256) s.data.toList)) (fun i _ => s.size - (intOf i).toNat)
  case atStart => exact ⟨0, part 256, [], Nat.zero_le _, rfl, heap_alloc2_old _ _ _, fresh_at _ _, rfl, full_part, (hb1.alloc hb1.size _).alloc (by have := hb1.size; simp; omega) _, by simp, rfl⟩
  case round =>
    obtain ⟨k, l, out, hk, rfl, HL, hB, hok, hfull, hbx, hsz, HS⟩ := hrel
    by_cases hlt : k < s.size
    · obtain ⟨p, hp⟩ : ∃ p, p = l.idxOf s[k] := ⟨_, rfl⟩
      have hpl : p < 256 := by rw [hp]; exact idx_lt hfull _
      have hpw : IntKind.u8.wrap (p : Int) = (p : Int) := IntWalk.u8_in _ (by omega)
      have hpc : (p : Int) = ((UInt8.ofNat p).toNat : Int) := by simp; omega
      have cI := Try.bytes_IndexByte w1.heap.size 0 256 256 (l.map fun b => (b.toNat : Int)) (s[k].toNat : Int)
      have cI2 : ∀ W : World, W.heap = wr.heap → Calls Try.prog 57 #[.slice (some ⟨w1.heap.size, 0, none⟩) 256 256, .int .u8 (s[k].toNat : Int)] W fun e w' => e = .returned (.int .i64 (p : Int)) ∧ w' = W := fun W hW => by
        have h := cI W (by simp [hfull.1]) (fun i hi => by
          have hi' : i < l.length := by rw [hfull.1]; exact hi
          have := bl_cell (w := W) (g := w1.heap.size) (l := l) (t := 86) (fr := (0, 0)) (by rw [hW]; exact HL.out) (List.getElem?_eq_getElem hi')
          rw [Nat.zero_add, this]
          simp [List.getD, hi'])
        rw [bytesOf_cast] at h
        have e1 : (s[k].toNat : Int).toNat.toUInt8 = s[k] := by simp
        rw [e1, index_of (hfull.2 _), ← hp] at h
        exact h
      have hstep : frontL l (s.data.toList.drop k) = UInt8.ofNat p :: frontL (mtf l p) (s.data.toList.drop (k + 1)) := by
        rw [drop_byte s k hlt, frontL, ← hp]
      have HI := hide cI2
      have cW := hide (fun n => write_any (w1.heap.size + 1) (w1.heap.size + 1) (Lib.byteCells out) (p : Int) (wr.drewN n) hB (by rw [Lib.byteCells_length]; omega) hsz)
      have HF := hide hfull
      have HST := hide hstep
      have HP := hide hpc
      clear hB hfull hstep cI cI2 hp hpc
      go_wp2_with fail
      go_quiet ((go_at_call 57; exact Calls.quiet_of_same (HI.out _ rfl)))
      go_wp2_with (first
        | (go_at_call 41; refine (unhide cW _).mono ?_; rintro e w2 ⟨rfl, hb2, hbl2⟩; have cL := hide (lay_any w1.heap.size p l w2 HF.out.1 hpl ((hbl2.block _ (Nat.lt_succ_self _)).trans HL.out)))
        | (go_at_call 58; refine (unhide cL).mono ?_; rintro e w3 ⟨rfl, hl3, hg3⟩; have HL3 := hide hl3; clear hl3))
      go_roundw
      case rel =>
        have hbl3 : Below (w1.heap.size + 1) wr w2 := (below_drewN (Below.refl _ _) _).trans hbl2
        refine ⟨k + 1, mtf l p, out ++ [UInt8.ofNat p], by omega, by go_num, HL3, ?_, by simp; exact hok, HF.out.mtf hpl, (hbx.trans (hbl3.mono (by have := hb1.size; omega))).grown hg3 (by have := hb1.size; have := hbl3.size; omega) (fun j hj => by cases hj; exact hb1.size), ?_, ?_⟩
        · rw [← byteCells_snoc, ← HP.out]
          exact builder_kept (.inr hb2) hg3 (Nat.lt_succ_self _)
        · have := hbl3.size
          have := hg3.size
          omega
        · show _ = _
          rw [← HS.out, HST.out, List.append_assoc]
          rfl
      case measure => simp [intOf]; omega
    · go_wp2_with (go_at_call 42; refine (Try.Builder_String_any _ _ _ _ hB (by omega)).mono ?_; rintro e w' ⟨rfl, hb3⟩)
      go_ret
      have hend := HS.out
      rw [drop_end s k hlt, frontL, List.append_nil] at hend
      exact ⟨ret_str hend, hbx.trans (hb3.mono (by have := hb1.size; omega))⟩
end Go.Proofs.Ytkiindkoiomieaa
