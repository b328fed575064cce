/- slices.Grow, slices.Concat of two slices of gates; extended. -/
import Derived.Test.YtjjdgiondpnpcaaH
import Derived.Lib.AppendZeros
namespace Go.Proofs.Ytjjdgiondpnpcaa
open Go.RowKit

/-- An empty row of the call's own is handed back. -/
def EmptyPost (w : World) (e : Ending) (w' : World) : Prop := ∃ v, e = .returned v ∧ Own w' w.heap.size v [] ∧ Below w.heap.size w w'

theorem zeroCells_size (z : Array Value) (n : Nat) : (Builtin.zeroCells z n).size = n * z.size := by
  simp [Builtin.zeroCells]

set_option maxHeartbeats 1000000 in
theorem grow_any (k : Nat) (w : World) (h0 : 0 < k) (hk : k ≤ 2000000) :
    Calls Try.prog 66 #[.slice none 0 0, .int .i64 (k : Int)] w (EmptyPost w) := by
  have hs : (Try.t44).size = 2 := by kernel_rfl
  have hb : (Try.t44).bytes = 16 := by kernel_rfl
  have hr := fun ty => Lib.run_append_nil_zeros (P := Try.prog) w 24 3 ty 44 Try.t44 (.agg #[.int .i64 0, .int .i64 0]) .i64 .i64 Try.underlying24 Try.underlying3 (by kernel_rfl) (by kernel_rfl) k h0 (by rw [hs]; omega) (by omega) (by rw [hb]; omega)
  have hge := grownCap_ge w k 0 44
  have hle := grownCap_le_maxLen w k 0 44 (by unfold maxLen; omega)
  have hsz : (Builtin.zeroCells (Value.agg #[.int .i64 0, .int .i64 0]).cells k ++ Builtin.zeroCells (Value.agg #[.int .i64 0, .int .i64 0]).cells (grownCap w k 0 44 - k)).size = grownCap w k 0 44 * 2 := by
    rw [Array.size_append, zeroCells_size, zeroCells_size]
    have : (Value.agg #[Value.int .i64 0, .int .i64 0]).cells.size = 2 := by kernel_rfl
    rw [this]
    omega
  generalize grownCap w k 0 44 = cap at *
  generalize (Builtin.zeroCells (Value.agg #[.int .i64 0, .int .i64 0]).cells k ++ Builtin.zeroCells (Value.agg #[.int .i64 0, .int .i64 0]).cells (cap - k)) = cur at *
  have HR := Lib.hid hr
  have HSZ := Lib.hid hsz
  have HLE := Lib.hid hle
  clear hr hsz hs hb hle
  go_enter Try.func66, Try.ntmps66
  go_wp2_with (at_builtin; go_loud (refine Lib.wpList_append_run _ rfl _ _ _ _ rfl _ _ rfl rfl _ _ (HR.out _) ?_))
  go_ret
  exact ⟨_, rfl, ⟨rfl, Or.inr ⟨w.heap.size, cap, cur, rfl, Nat.le_refl _, Blk.new w.drew 44 cur, Nat.zero_le _, HLE.out, HSZ.out, rfl⟩⟩, ((Below.refl w.heap.size w).alloc (Nat.le_refl _) _).drew⟩

theorem grow_int (x : Int) (w : World) (h0 : 0 < x) (hx : x ≤ 2000000) : Calls Try.prog 66 #[.slice none 0 0, .int .i64 x] w (EmptyPost w) := by
  obtain ⟨k, rfl⟩ := Int.eq_ofNat_of_zero_le (Int.le_of_lt h0)
  exact grow_any k w (by omega) (by omega)
theorem Own.block {w : World} {base : Nat} {v : Value} {gs : List (Int × Int)} (h : Own w base v gs) : ∀ k, v.ownBlock = some k → base ≤ k := by
  intro k e
  rcases h.2 with ⟨rfl, _⟩ | ⟨g, cap, cur, rfl, hb, _⟩
  · cases e
  · simp [Value.ownBlock] at e
    omega

/-- What the second loop keeps. -/
def CRel (w : World) (gs hs : List (Int × Int)) (v i : Value) (wr : World) : Prop :=
  Below w.heap.size w wr ∧ ((i = .int .i64 0 ∧ Own wr w.heap.size v []) ∨ (i = .int .i64 1 ∧ Own wr w.heap.size v gs) ∨ (i = .int .i64 2 ∧ Own wr w.heap.size v (gs ++ hs)))

set_option maxRecDepth 100000 in
set_option maxHeartbeats 2000000 in
theorem concat_any (kb : Nat) (A A2 : Option Addr) (c c2 : Nat) (gs hs : List (Int × Int)) (w : World) (B : Nat) (hkb : kb < w.heap.size)
    (hc0 : w.cell? ⟨kb, 0, none⟩ = some (.slice A gs.length c)) (hc1 : w.cell? ⟨kb, 1, none⟩ = some (.slice A2 hs.length c2))
    (hl : gs.length ≤ 1000000) (hl2 : hs.length ≤ 1000000) (hpos : 0 < hs.length) (hg : Gr w B A gs) (hg2 : Gr w B A2 hs) (hB : B ≤ w.heap.size) :
    Calls Try.prog 60 #[.slice (some ⟨kb, 0, none⟩) 2 2] w (GatesPost (gs ++ hs) w) := by
  have HL := Lib.hid hl
  have HL2 := Lib.hid hl2
  go_enter Try.func60, Try.ntmps60
  go_wp2
  go_loop [3, 11] (fun z i => (i = .int .i64 0 ∧ z = .int .i64 0) ∨ (i = .int .i64 1 ∧ z = .int .i64 (gs.length : Int)) ∨ (i = .int .i64 2 ∧ z = .int .i64 ((gs.length : Int) + hs.length))) (fun _ i => 2 - (intOf i).toNat)
  case atStart => exact Or.inl ⟨rfl, rfl⟩
  case round =>
    rcases hrel with ⟨rfl, rfl⟩ | ⟨rfl, rfl⟩ | ⟨rfl, rfl⟩
    · go_wp2
      exact ⟨Or.inr (Or.inl ⟨rfl, rfl⟩), by simp [intOf]⟩
    · go_wp2
      exact ⟨Or.inr (Or.inr ⟨rfl, rfl⟩), by simp [intOf]⟩
    · go_wp2_with fail
      refine (grow_int _ _ (by omega) (by omega)).mono ?_
      rintro e w1 ⟨v1, rfl, hown1, hb1⟩
      clear hl hl2
      go_wp2
      go_loopw [6, 27] (fun v i wr => CRel w gs hs v i wr) (fun _ i _ => 2 - (intOf i).toNat)
      case atStart => exact ⟨hb1, Or.inl ⟨rfl, hown1⟩⟩
      case round =>
        obtain ⟨hbr, ⟨rfl, hown⟩ | ⟨rfl, hown⟩ | ⟨rfl, hown⟩⟩ := hrel
        · have k0 := (hbr.cell (p := ⟨kb, 0, none⟩) hkb).trans hc0
          have hgr := hg.below hbr hB
          go_wp2_with (at_builtin; go_loud (refine wpList_gates rfl _ _ rfl w.heap.size B _ [] gs rfl ?own _ _ rfl ?gr ?len ?base ?_))
          case own => exact hown
          case gr => exact hgr
          case len => have := HL.out; simp; omega
          case base => exact hbr.size
          intro v' w' hown' hgrow _
          have hbn := hbr.grown hgrow hbr.size hown.block
          go_wp2
          exact ⟨⟨hbn, Or.inr (Or.inl ⟨rfl, hown'⟩)⟩, by simp [intOf]⟩
        · have k1 := (hbr.cell (p := ⟨kb, 1, none⟩) hkb).trans hc1
          have hgr := hg2.below hbr hB
          go_wp2_with (at_builtin; go_loud (refine wpList_gates rfl _ _ rfl w.heap.size B _ gs hs rfl ?own _ _ rfl ?gr ?len ?base ?_))
          case own => exact hown
          case gr => exact hgr
          case len => have := HL.out; have := HL2.out; omega
          case base => exact hbr.size
          intro v' w' hown' hgrow _
          have hbn := hbr.grown hgrow hbr.size hown.block
          go_wp2
          exact ⟨⟨hbn, Or.inr (Or.inr ⟨rfl, hown'⟩)⟩, by simp [intOf]⟩
        · obtain ⟨A', c', rfl, hG⟩ := hown.gr
          have hsep := hown.sep
          go_wp2
          go_ret
          exact ⟨A', c', rfl, hG, hsep, hbr⟩
end Go.Proofs.Ytjjdgiondpnpcaa
