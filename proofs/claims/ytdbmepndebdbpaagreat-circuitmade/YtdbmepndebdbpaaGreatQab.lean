/- build: the index is made. -/
import Derived.Test.YtdbmepndebdbpaaGreatQaa
import Derived.Defers
import Derived.RegionCalls
import Derived.Laws.LoneSync
import Derived.Laws.NewBlocks
import Derived.Maps.AppendAt
import Derived.Deep.AppendLies
import Derived.RegionTactic
import Derived.OwnWalk
import Derived.Lib.AppendZeros
namespace Go.Proofs.YtdbmepndebdbpaaGreat
open Go.RowKit

/-- Block g is just the cells cs of type t, none frozen. -/
def Blk (w : World) (g : Nat) (t : TypeId) (cs : Array Value) : Prop := w.heap[g]? = some (.cells cs t (0, 0))
section
variable {w w' : World} {g : Nat} {t : TypeId} {cs : Array Value}
theorem Blk.lt (h : Blk w g t cs) : g < w.heap.size := by
  apply Classical.byContradiction
  intro hn
  unfold Blk at h
  rw [Array.getElem?_eq_none (by omega)] at h
  cases h
theorem Blk.cell (h : Blk w g t cs) (i : Nat) : w.cell? ⟨g, i, none⟩ = cs[i]? := cell_of_row w g i cs t (0, 0) h
theorem Blk.frozen (h : Blk w g t cs) (i : Nat) : w.frozen? ⟨g, i, none⟩ = false := by
  unfold Blk at h
  simp [World.frozen?, h]
theorem Blk.new (w : World) (t : TypeId) (cs : Array Value) : Blk (w.alloc (.cells cs t)) w.heap.size t cs := heap_alloc_new w _
theorem Blk.keep (h : Blk w g t cs) (hk : w'.heap[g]? = w.heap[g]?) : Blk w' g t cs := hk.trans h
theorem Blk.drewN (h : Blk w g t cs) (n : Nat) : Blk (w.drewN n) g t cs := h
theorem Blk.alloc (h : Blk w g t cs) (o : Obj) : Blk (w.alloc o) g t cs := h.keep (Below.heap_alloc w o g h.lt)
theorem Blk.put (h : Blk w g t cs) (i : Nat) (u : Value) : Blk (w.setCell ⟨g, i, none⟩ u) g t (cs.setIfInBounds i u) := by
  unfold Blk at h ⊢
  simp [World.setCell, Array.getElem?_modify, h]
theorem Blk.far (h : Blk w g t cs) {p : Addr} (hp : g ≠ p.block) (u : Value) : Blk (w.setCell p u) g t cs := h.keep (Below.heap_setCell w p u g hp)
theorem Blk.below {B : Nat} (h : Blk w g t cs) (hb : Below B w w') (hg : g < B) : Blk w' g t cs := h.keep (hb.block g hg)
theorem Blk.grown {row : Option Nat} (h : Blk w g t cs) (hb : w.grownBy w' row) (hg : some g ≠ row) : Blk w' g t cs := h.keep (hb.block g h.lt hg)
end

def zeros (N : Nat) : Array Value := Array.replicate N (.int .i64 0)
theorem made_zeros (N : Nat) : madeCells (Value.int .i64 0).cells N = zeros N := by
  unfold madeCells zeros
  apply Array.ext
  · simp
  · intro i h1 h2
    simp [Value.cells, Nat.mod_one]
theorem zeros_get (N i : Nat) (h : i < N) : (zeros N)[i]? = some (.int .i64 ((0 : Nat) : Int)) := by simp [zeros, h]
theorem make_ints (N : Nat) (hN : N ≤ 1000000) (w : World) : (Instr.makeSlice 25 (.int .i64 (N : Int)) (.int .i64 (N : Int))).run Tryz.prog w = .ok (.slice (some ⟨w.heap.size, 0, none⟩) N N) (w.alloc (.cells (zeros N) 3)) := by
  have hb : (Tryz.t3).bytes = 8 := by kernel_rfl
  have hs : (Tryz.t3).size = 1 := by kernel_rfl
  have := run_make (P := Tryz.prog) w 25 3 Tryz.t3 (.int .i64 0) Tryz.underlying25 (by kernel_rfl) (by kernel_rfl) .i64 .i64 N N (by omega) (by omega) (by rw [hb]; omega) (by omega)
  rw [hs, Nat.mul_one, Int.toNat_natCast, made_zeros] at this
  exact this
theorem shl_two (b : Nat) (hb : b ≤ 11) : wrap64 (2 * 2 ^ min b 64) = ((2 ^ (b + 1) : Nat) : Int) := by
  rw [Nat.min_eq_left (by omega)]
  have h1 : 2 ^ b ≤ 2 ^ 11 := Nat.pow_le_pow_right (by omega) hb
  have h2 : ((2 ^ b : Nat) : Int) = 2 ^ b := by simp
  rw [Nat.pow_succ]
  unfold wrap64
  omega

/-- The index at ib is built over the gates gs. -/
def Built (w' : World) (ib lo : Nat) (A : Option Addr) (c : Nat) (gs : List (Int × Int)) (d st se : Value) : Prop :=
  ∃ (sb m : Nat) (S : Nat → Nat), Blk w' ib 88 #[.slice A gs.length c, d, st, se, .slice (some ⟨sb, 0, none⟩) (2 ^ m) (2 ^ m), .bool (!Gm.nodB gs)] ∧
    lo ≤ sb ∧ sb < w'.heap.size ∧ Row w' sb (2 ^ m) S ∧ Gm.Tab gs hashF (2 ^ m) gs.length S ∧ 2 ^ m ≤ 1000000 ∧ gs.length < 2 ^ m
/-- What holds when k gates have been put in. -/
def BInv (w wr : World) (ib : Nat) (A : Option Addr) (c : Nat) (gs : List (Int × Int)) (d st se : Value) (N k : Nat) (S : Nat → Nat) : Prop :=
  Blk wr ib 88 #[.slice A gs.length c, d, st, se, .slice (some ⟨w.heap.size, 0, none⟩) N N, .bool (!Gm.nodB (gs.take k))] ∧
  (∃ cs, Blk wr w.heap.size 3 cs ∧ ∀ i, i < N → cs[i]? = some (.int .i64 (S i : Int))) ∧ Gm.Tab gs hashF N k S ∧ w.grownBy wr (some ib)
theorem grown_alloc {a w : World} {row : Option Nat} (h : a.grownBy w row) (o : Obj) : a.grownBy (w.alloc o) row :=
  ⟨h.os, h.tape, h.output, Nat.le_trans h.size (by simp), fun i hi hne => (Below.heap_alloc w o i (Nat.lt_of_lt_of_le hi h.size)).trans (h.block i hi hne)⟩
theorem grown_set {a w : World} {g : Nat} (h : a.grownBy w (some g)) {p : Addr} (hp : p.block = g ∨ a.heap.size ≤ p.block) (u : Value) : a.grownBy (w.setCell p u) (some g) :=
  ⟨h.os, h.tape, h.output, by simpa [World.setCell] using h.size, fun i hi hne => (Below.heap_setCell w p u i (by
    rintro rfl
    rcases hp with hp | hp
    · exact hne (by rw [hp])
    · omega)).trans (h.block i hi hne)⟩
theorem grown_below {a w w' : World} {row : Option Nat} (h : a.grownBy w row) (hb : Below w.heap.size w w') : a.grownBy w' row :=
  ⟨hb.os.trans h.os, hb.tape.trans h.tape, hb.output.trans h.output, Nat.le_trans h.size hb.size, fun i hi hn => (hb.block i (Nat.lt_of_lt_of_le hi h.size)).trans (h.block i hi hn)⟩
theorem BInv.start {w : World} {ib : Nat} {A : Option Addr} {c : Nat} {gs : List (Int × Int)} {d st se sv : Value} {N : Nat}
    (hix : Blk w ib 88 #[.slice A gs.length c, d, st, se, sv, .bool false]) :
    BInv w ((w.setCell ⟨ib, 4, none⟩ (.slice (some ⟨w.heap.size, 0, none⟩) N N)).alloc (.cells (zeros N) 3)) ib A c gs d st se N 0 (fun _ => 0) := by
  refine ⟨?_, ⟨zeros N, ?_, fun i hi => zeros_get N i hi⟩, Gm.Tab.zero, ?_⟩
  · exact (hix.put 4 _).alloc _
  · have := Blk.new (w.setCell ⟨ib, 4, none⟩ (.slice (some ⟨w.heap.size, 0, none⟩) N N)) 3 (zeros N)
    simpa using this
  · exact grown_alloc (grown_set (World.grownBy.refl w _) (Or.inl rfl) _) _
theorem BInv.dup {w wr w2 : World} {ib : Nat} {A : Option Addr} {c : Nat} {gs : List (Int × Int)} {d st se : Value} {N k r : Nat} {S : Nat → Nat} {g : Int × Int} (h : BInv w wr ib A c gs d st se N k S) (hib : ib < w.heap.size) (hk : k < gs.length) (hg : gs[k] = g)
    (hb : Below wr.heap.size wr w2) (hr : r < N) (hs : Gm.Stops gs N S g (hashF g) r) (h0 : S r ≠ 0) : BInv w (w2.setCell ⟨ib, 5, none⟩ (.bool true)) ib A c gs d st se N (k + 1) S := by
  obtain ⟨h1, ⟨cs, h2, h3⟩, h4, h5⟩ := h
  have hgd : gs.getD k (0, 0) = g := by rw [← hg]; simp [List.getElem?_eq_getElem hk]
  have hh := hs
  obtain ⟨_, _, _, _, hit⟩ := hh
  refine ⟨?_, ⟨cs, ?_, h3⟩, h4.dup hr hit h0 hgd, ?_⟩
  · have e : (!Gm.nodB (gs.take (k + 1))) = true := by
      have hin : gs[k] ∈ gs.take k := by
        obtain ⟨hlt, e⟩ := Gm.gAt_lt (gs := gs) h0 (Nat.le_trans (h4.le r hr) (Nat.le_of_lt hk))
        have hle := h4.le r hr
        have hgg := hit.resolve_left h0
        rw [e, ← hg] at hgg
        rw [← hgg]
        exact List.mem_take_iff_getElem.2 ⟨S r - 1, by omega, rfl⟩
      have : ¬ (gs.take (k + 1)).Nodup := fun hn => ((Gm.nod_take gs k hk).1 hn).2 hin
      simp [Gm.nodB, this]
    rw [e]
    exact (h1.below hb h1.lt).put 5 _
  · exact (h2.below hb h2.lt).far (by simp; omega) _
  · exact grown_set (grown_below h5 hb) (Or.inl rfl) _
theorem BInv.put {w wr w2 : World} {ib : Nat} {A : Option Addr} {c : Nat} {gs : List (Int × Int)} {d st se : Value} {N k r : Nat} {S : Nat → Nat} {g : Int × Int} (h : BInv w wr ib A c gs d st se N k S) (hib : ib < w.heap.size) (hk : k < gs.length) (hg : gs[k] = g)
    (hb : Below wr.heap.size wr w2) (hr : r < N) (hs : Gm.Stops gs N S g (hashF g) r) (h0 : S r = 0) : BInv w (w2.setCell ⟨w.heap.size, r, none⟩ (.int .i64 ((k : Int) + 1))) ib A c gs d st se N (k + 1) (Gm.upd S r (k + 1)) := by
  obtain ⟨h1, ⟨cs, h2, h3⟩, h4, h5⟩ := h
  have hgd : gs.getD k (0, 0) = g := by rw [← hg]; simp [List.getElem?_eq_getElem hk]
  refine ⟨?_, ⟨_, (h2.below hb h2.lt).put r _, fun i hi => ?_⟩, h4.put hr hs h0 hgd, ?_⟩
  · have e : Gm.nodB (gs.take (k + 1)) = Gm.nodB (gs.take k) := by
      have hnot : gs[k] ∉ gs.take k := by
        intro hin
        obtain ⟨p, hp, e⟩ := List.mem_take_iff_getElem.1 hin
        refine h4.miss hs h0 p (by omega) ?_
        rw [← hg, ← e]
        simp [List.getElem?_eq_getElem (show p < gs.length by omega)]
      have := Gm.nod_take gs k hk
      simp [Gm.nodB, this, hnot]
    rw [e]
    exact (h1.below hb h1.lt).far (by simp; omega) _
  · rw [Array.getElem?_setIfInBounds]
    by_cases e : r = i
    · subst e
      have : r < cs.size := by
        have := h3 r hr
        apply Classical.byContradiction
        intro hn
        rw [Array.getElem?_eq_none (by omega)] at this
        cases this
      simp [this, Gm.upd]
    · rw [if_neg e, h3 i hi]
      simp [Gm.upd, show ¬ i = r from fun e' => e e'.symm]
  · exact grown_set (grown_below h5 hb) (Or.inr (Nat.le_refl _)) _

set_option maxRecDepth 100000 in
set_option maxHeartbeats 2000000 in
theorem build_any (ib : Nat) (A : Option Addr) (c : Nat) (gs : List (Int × Int)) (d st se sv : Value) (w : World) (B : Nat)
    (hl : gs.length ≤ 2000) (hix : Blk w ib 88 #[.slice A gs.length c, d, st, se, sv, .bool false]) (hg : Gr w B A gs) (hB : B ≤ ib) :
    Calls Tryz.prog 75 #[.pointer (some ⟨ib, 0, none⟩)] w
      fun e w' => e = .returned (.tuple #[]) ∧ Built w' ib w.heap.size A c gs d st se ∧ w.grownBy w' (some ib) := by
  have hib := hix.lt
  have c0 := hix.cell 0
  have c4 := hix.cell 4
  have f4 := hix.frozen 4
  simp only [List.getElem?_toArray, List.getElem?_cons_zero, List.getElem?_cons_succ] at c0 c4
  have hbl := bitLen_lt gs.length (by omega)
  have hbt := bitLen_top gs.length hl
  have hsh := shl_two _ hbt
  have hp1 : 2 ^ (Lib.bitLen gs.length + 1) ≤ 2 ^ 12 := Nat.pow_le_pow_right (by omega) (by omega)
  have hp2 : gs.length < 2 ^ (Lib.bitLen gs.length + 1) := by rw [Nat.pow_succ]; omega
  generalize hN : 2 ^ (Lib.bitLen gs.length + 1) = N at *
  have HN := Lib.hid hN
  have hmk := make_ints N (by omega)
  clear hN hbl hbt
  go_enter Tryz.func75, Tryz.ntmps75
  go_wp2_with (go_at_call 78; refine (len_any _ _ (by omega) (by omega)).mono ?_; rintro e w' ⟨rfl, rfl⟩)
  have hst := BInv.start (N := N) hix
  have HST := Lib.hid hst
  clear hst hsh hmk c0 c4 f4
  go_loopw [22] (fun i wr => ∃ (k : Nat) (S : Nat → Nat), k ≤ gs.length ∧ i = .int .i64 (k : Int) ∧ BInv w wr ib A c gs d st se N k S) (fun i _ => gs.length - (intOf i).toNat)
  case atStart => exact ⟨0, _, Nat.zero_le _, rfl, HST.out⟩
  case round =>
    obtain ⟨k, S, hk, rfl, hinv⟩ := hrel
    have hinv' := hinv
    obtain ⟨h1, ⟨cs, h2, h3⟩, h4, h5⟩ := hinv'
    by_cases hlt : k < gs.length
    · obtain ⟨b, off, hA, hbB, g1, g2⟩ := (hg.grown h5 (by omega) (fun _ e => by injection e with e; omega)) k hlt
      subst hA
      generalize hgk : gs[k] = g at *
      obtain ⟨x, y⟩ := g
      simp only at g1 g2
      have HGK := Lib.hid hgk
      have hwr : w.heap.size < wr.heap.size := h2.lt
      have hsl := slot_any ib w.heap.size (Lib.bitLen gs.length + 1) (some ⟨b, off, none⟩) c gs S x y (wr.alloc (Obj.cells #[.int .i64 x, .int .i64 y] 58)) (by simp; omega) (by simp; omega)
        (by rw [HN.out]; omega) (by omega) (by rw [(h1.alloc _).cell 0]; rfl) (by rw [(h1.alloc _).cell 4, HN.out]; rfl) B ((hg.grown h5 (by omega) (fun _ e => by injection e with e; omega)).keep (fun p hp => World.cell?_alloc_lt wr _ p (by omega))) (by simp; omega)
        (by rw [HN.out]; exact fun i hi => by rw [(h2.alloc _).cell i]; exact h3 i hi) (by rw [HN.out]; exact fun i hi => Nat.le_trans (h4.le i hi) hk) (by rw [HN.out]; exact Nat.lt_of_le_of_lt h4.few (by omega))
      rw [HN.out] at hsl
      have HSL := Lib.hid hsl
      have HI := Lib.hid hinv
      have H3 := Lib.hid h3
      clear hsl hgk hinv h3
      go_wp2_with fail
      refine HSL.out.mono ?_
      rintro e w2 ⟨r, rfl, hr, hs, hb⟩
      have hbw : Below wr.heap.size wr w2 := ((Below.refl _ _).alloc (Nat.le_refl _) _).trans (hb.mono (by simp))
      have b1 := h1.below hbw h1.lt
      have b2 := h2.below hbw h2.lt
      have c4 := b1.cell 4
      have c5 := b1.cell 5
      have f5 := b1.frozen 5
      have cr := (b2.cell r).trans (H3.out r hr)
      have fr := b2.frozen r
      simp only [List.getElem?_toArray, List.getElem?_cons_zero, List.getElem?_cons_succ] at c4 c5
      have hix1 := ix1 w.heap.size N r (by omega) hr
      have HS := Lib.hid hs
      have HR := Lib.hid hr
      clear hs hb hr
      by_cases hz : S r = 0
      · have HP := Lib.hid (HI.out.put hib hlt HGK.out hbw HR.out HS.out hz)
        rw [hz] at cr
        have cr0 : w2.cell? ⟨w.heap.size, r, none⟩ = some (.int .i64 0) := cr
        clear cr hz
        have hd : ((0 : Int) != 0) = false := by simp
        go_wp2
        go_roundw
        case rel => exact ⟨k + 1, _, by omega, by go_num, HP.out⟩
        case measure => simp [intOf]; omega
      · have HP := Lib.hid (HI.out.dup hib hlt HGK.out hbw HR.out HS.out hz)
        have hd : ((S r : Int) != 0) = true := by simp; omega
        clear hz
        go_wp2
        go_roundw
        case rel => exact ⟨k + 1, _, by omega, by go_num, HP.out⟩
        case measure => simp [intOf]; omega
    · have hkk : k = gs.length := by omega
      subst hkk
      rw [List.take_length] at h1
      have HB := Lib.hid (show Built wr ib w.heap.size A c gs d st se from ⟨w.heap.size, Lib.bitLen gs.length + 1, S, by rw [HN.out]; exact h1, Nat.le_refl _, h2.lt, by rw [HN.out]; exact fun i hi => by rw [h2.cell i]; exact h3 i hi, by rw [HN.out]; exact h4, by rw [HN.out]; omega, by rw [HN.out]; exact hp2⟩)
      clear hinv h3
      go_wp2
      go_end0
      exact ⟨rfl, HB.out, h5⟩
end Go.Proofs.YtdbmepndebdbpaaGreat
/- sync.Once over the index: Do, the first time and later; repeats and find. -/
namespace Go.Proofs.YtdbmepndebdbpaaGreat
open Go.RowKit

theorem race_disable (w : World) : (callFunc 91 #[]).run Tryz.prog w = .ok (.value (.tuple #[])) w := run_call_mark0 Tryz.func91 (by kernel_rfl) (by kernel_rfl) (by kernel_rfl) .disable (by kernel_rfl) w
theorem race_enable (w : World) : (callFunc 93 #[]).run Tryz.prog w = .ok (.value (.tuple #[])) w := run_call_mark0 Tryz.func93 (by kernel_rfl) (by kernel_rfl) (by kernel_rfl) .enable (by kernel_rfl) w
theorem race_acquire (a : Addr) (w : World) : (callFunc 94 #[.pointer (some a)]).run Tryz.prog w = .ok (.value (.tuple #[])) w := run_call_marked Tryz.func94 (by kernel_rfl) (by kernel_rfl) (by kernel_rfl) .acquire (by kernel_rfl) a w
theorem race_merge (a : Addr) (w : World) : (callFunc 96 #[.pointer (some a)]).run Tryz.prog w = .ok (.value (.tuple #[])) w := run_call_marked Tryz.func96 (by kernel_rfl) (by kernel_rfl) (by kernel_rfl) .releaseMerge (by kernel_rfl) a w

theorem once_store (a : Addr) (x : Value) (u : FrameMode) (w : World) (hc : w.cell? a = some x) (hz : w.frozen? a = false) :
    CallsD Tryz.prog 83 #[.pointer (some a), .bool true] u w fun e u' w' => u' = u ∧ (e = .returned (.tuple #[]) ∧ w' = w.drew.setCell a (.int .u32 1)) := by
  have hc' : w.drew.cell? a = some x := by go_simp
  have hz' : w.drew.frozen? a = false := by go_simp
  have hst := run_call_store (P := Tryz.prog) Tryz.func89 (by kernel_rfl) (by kernel_rfl) (by kernel_rfl) (by kernel_rfl) (k := .u32) (y := 1) hc' hz'
  go_enter_d Tryz.func83, Tryz.ntmps83
  go_wp2
  go_region_calls
  all_goals (go_end0; exact ⟨rfl, rfl⟩)

set_option maxRecDepth 100000 in
theorem once_unlock (a : Addr) (u : FrameMode) (w : World) (hc : w.cell? a = some (.int .i32 1)) (hz : w.frozen? a = false) :
    CallsD Tryz.prog 82 #[.pointer (some a)] u w fun e u' w' => u' = u ∧ (e = .returned (.tuple #[]) ∧ w' = w.setCell a (.int .i32 0)) := by
  have hd := race_disable
  have he := race_enable
  have hr := race_merge
  have hadd := run_call_add (P := Tryz.prog) Tryz.func97 (by kernel_rfl) (by kernel_rfl) (by kernel_rfl) .i32 (by kernel_rfl) (y := -1) (s := 0) hc hz (by simp [go_sem]; rfl)
  have hcv := run_convert_to_unsafe (P := Tryz.prog) (src := 119) (dst := 123) Tryz.underlying119 Tryz.underlying123 (by kernel_rfl) hc
  go_enter_d Tryz.func82, Tryz.ntmps82
  go_wp2
  go_end0
  go_wp2
  go_end0
  exact ⟨rfl, rfl⟩

set_option maxRecDepth 100000 in
theorem once_lock (a : Addr) (w : World) (hc : w.cell? a = some (.int .i32 0)) (hz : w.frozen? a = false) :
    Calls Tryz.prog 81 #[.pointer (some a)] w fun e w' => e = .returned (.tuple #[]) ∧ w' = w.setCell a (.int .i32 1) := by
  have hd := race_disable
  have he := race_enable
  have ha := race_acquire
  have hcas := run_call_cas_hit (P := Tryz.prog) Tryz.func92 (by kernel_rfl) (by kernel_rfl) (by kernel_rfl) .i32 (by kernel_rfl) (y := 1) hc hz
  have hc' : (w.setCell a (.int .i32 1)).cell? a = some (.int .i32 1) := World.cell?_setCell_same w a _ hc
  have hcv := run_convert_to_unsafe (P := Tryz.prog) (src := 119) (dst := 123) Tryz.underlying119 Tryz.underlying123 (by kernel_rfl) hc'
  go_enter Tryz.func81, Tryz.ntmps81
  go_wp2
  first | go_end0 | (simp only [Exit.inBlock, Exit.then]; refine bodyPost_ret (results_none rfl _ _ _) rfl ?_) | refine bodyPost_ret (results_none rfl _ _ _) rfl ?_
  go_wp2
  go_end0
  exact ⟨rfl, rfl⟩

set_option maxRecDepth 100000 in
set_option maxHeartbeats 1600000 in
theorem once_slow (ib : Nat) (A : Option Addr) (c : Nat) (gs : List (Int × Int)) (se sv : Value) (w : World) (B : Nat)
    (hl : gs.length ≤ 2000) (hix : Blk w ib 88 #[.slice A gs.length c, .int .u32 0, .int .i32 0, se, sv, .bool false]) (hg : Gr w B A gs) (hB : B ≤ ib) :
    Calls Tryz.prog 77 #[.pointer (some ⟨ib, 1, none⟩), .func (.func 75) #[.pointer (some ⟨ib, 0, none⟩)] #[]] w
      fun e w' => e = .returned (.tuple #[]) ∧ Built w' ib w.heap.size A c gs (.int .u32 1) (.int .i32 0) se ∧ w.grownBy w' (some ib) := by
  have c2 := hix.cell 2
  have f2 := hix.frozen 2
  simp only [List.getElem?_toArray, List.getElem?_cons_zero, List.getElem?_cons_succ] at c2
  have h1 := hix.put 2 (.int .i32 1)
  have e1 : #[Value.slice A gs.length c, .int .u32 0, .int .i32 0, se, sv, .bool false].setIfInBounds 2 (.int .i32 1) = #[Value.slice A gs.length c, .int .u32 0, .int .i32 1, se, sv, .bool false] := rfl
  rw [e1] at h1
  have hg1 : Gr (w.setCell ⟨ib, 2, none⟩ (.int .i32 1)) B A gs := hg.keep fun p hp => World.cell?_setCell_other w _ p _ (fun e => by subst e; simp at hp; omega)
  have hbd := build_any ib A c gs (.int .u32 0) (.int .i32 1) se sv _ B hl h1 hg1 hB
  have c1 := h1.cell 1
  simp only [List.getElem?_toArray, List.getElem?_cons_zero, List.getElem?_cons_succ] at c1
  have hl := run_call_load (P := Tryz.prog) Tryz.func80 (by kernel_rfl) (by kernel_rfl) (by kernel_rfl) .u32 (by kernel_rfl) c1
  have hnot : ∀ (x : Bool) (w : World), (Op.unary .not (.bool x)).run Tryz.prog w = .ok (.bool (!x)) w := fun _ _ => rfl
  have HBD := Lib.hid hbd
  clear hbd e1
  go_enter_defers Tryz.func77, Tryz.ntmps77
  go_wp2_with (first | (go_at_call 81; refine (once_lock ⟨ib, 2, none⟩ _ c2 f2).mono ?_; rintro e w' ⟨rfl, rfl⟩) | (go_at_call 76; go_in) | (go_at_call 75; refine HBD.out.mono ?_; rintro e w2 ⟨rfl, hbt, hgr⟩))
  obtain ⟨sb, m, S, hk, hlo, hsb, hrow, htab, hm, hlt⟩ := hbt
  have hibl := hix.lt
  have hne : sb ≠ ib := by simp at hlo; omega
  have hk1 := hk.cell 1
  have hk2 := hk.cell 2
  simp only [List.getElem?_toArray, List.getElem?_cons_zero, List.getElem?_cons_succ] at hk1 hk2
  refine leaves_cons (f := 83) (args := #[.pointer (some ⟨ib, 1, none⟩), .bool true]) (by simp) (by simp [go_sem]) ?_
  refine (once_store ⟨ib, 1, none⟩ (.int .u32 0) .returning _ hk1 (hk.frozen 1)).mono ?_
  rintro e u' w3 ⟨rfl, rfl, rfl⟩
  have hk' : Blk (w2.drew.setCell ⟨ib, 1, none⟩ (.int .u32 1)) ib 88 #[.slice A gs.length c, .int .u32 1, .int .i32 1, se, .slice (some ⟨sb, 0, none⟩) (2 ^ m) (2 ^ m), .bool (!Gm.nodB gs)] := Blk.put (w := w2.drew) hk 1 (.int .u32 1)
  have hk3 := hk'.cell 2
  simp only [List.getElem?_toArray, List.getElem?_cons_zero, List.getElem?_cons_succ] at hk3
  refine leaves_cons (f := 82) (args := #[.pointer (some ⟨ib, 2, none⟩)]) (by simp [settle]) (by simp [go_sem]) ?_
  refine (once_unlock ⟨ib, 2, none⟩ _ _ hk3 (hk'.frozen 2)).mono ?_
  rintro e u' w4 ⟨rfl, rfl, rfl⟩
  have hfin : Built ((w2.drew.setCell ⟨ib, 1, none⟩ (.int .u32 1)).setCell ⟨ib, 2, none⟩ (.int .i32 0)) ib w.heap.size A c gs (.int .u32 1) (.int .i32 0) se := by
    refine ⟨sb, m, S, hk'.put 2 (.int .i32 0), by simpa using hlo, by simpa [World.setCell] using hsb, fun i hi => ?_, htab, hm, hlt⟩
    rw [World.cell?_setCell_other _ ⟨ib, 2, none⟩ ⟨sb, i, none⟩ _ (fun e => hne (congrArg Addr.block e).symm), World.cell?_setCell_other _ ⟨ib, 1, none⟩ ⟨sb, i, none⟩ _ (fun e => hne (congrArg Addr.block e).symm)]
    exact hrow i hi
  have hgf : w.grownBy ((w2.drew.setCell ⟨ib, 1, none⟩ (.int .u32 1)).setCell ⟨ib, 2, none⟩ (.int .i32 0)) (some ib) := by
    have h0 : w.grownBy (w.setCell ⟨ib, 2, none⟩ (.int .i32 1)) (some ib) := grown_set (World.grownBy.refl w _) (Or.inl rfl) _
    have h1 : w.grownBy w2.drew (some ib) := ⟨hgr.os.trans h0.os, hgr.tape.trans h0.tape, hgr.output.trans h0.output, Nat.le_trans h0.size hgr.size, fun i hi hn => (hgr.block i (by simpa using hi) hn).trans (h0.block i hi hn)⟩
    exact grown_set (p := ⟨ib, 2, none⟩) (grown_set (p := ⟨ib, 1, none⟩) h1 (Or.inl rfl) (.int .u32 1)) (Or.inl rfl) (.int .i32 0)
  simp [Leaves, settle, results, Tryz.results77]
  exact ⟨hfin, hgf⟩

set_option maxRecDepth 100000 in
set_option maxHeartbeats 1600000 in
theorem do_first (ib : Nat) (A : Option Addr) (c : Nat) (gs : List (Int × Int)) (se sv : Value) (w : World) (B : Nat)
    (hl : gs.length ≤ 2000) (hix : Blk w ib 88 #[.slice A gs.length c, .int .u32 0, .int .i32 0, se, sv, .bool false]) (hg : Gr w B A gs) (hB : B ≤ ib) :
    Calls Tryz.prog 74 #[.pointer (some ⟨ib, 1, none⟩), .func (.func 75) #[.pointer (some ⟨ib, 0, none⟩)] #[]] w
      fun e w' => e = .returned (.tuple #[]) ∧ Built w' ib w.heap.size A c gs (.int .u32 1) (.int .i32 0) se ∧ w.grownBy w' (some ib) := by
  have c1 := hix.cell 1
  simp only [List.getElem?_toArray, List.getElem?_cons_zero, List.getElem?_cons_succ] at c1
  have hld := run_call_load (P := Tryz.prog) Tryz.func80 (by kernel_rfl) (by kernel_rfl) (by kernel_rfl) .u32 (by kernel_rfl) c1
  have hnot : ∀ (x : Bool) (w : World), (Op.unary .not (.bool x)).run Tryz.prog w = .ok (.bool (!x)) w := fun _ _ => rfl
  have HS := Lib.hid (once_slow ib A c gs se sv w B hl hix hg hB)
  go_enter Tryz.func74, Tryz.ntmps74
  go_wp2_with (first | (go_at_call 77; refine HS.out.mono ?_; rintro e w' ⟨rfl, hb, hgr⟩) | (go_at_call 76; go_in))
  go_end0
  exact ⟨rfl, hb, hgr⟩

theorem do_done (a : Addr) (fv : Value) (w : World) (h0 : w.cell? a = some (.int .u32 1)) :
    Calls Tryz.prog 74 #[.pointer (some a), fv] w fun e w' => e = .returned (.tuple #[]) ∧ w = w' := by
  have hld := run_call_load (P := Tryz.prog) Tryz.func80 (by kernel_rfl) (by kernel_rfl) (by kernel_rfl) .u32 (by kernel_rfl) h0
  have hnot : ∀ (x : Bool) (w : World), (Op.unary .not (.bool x)).run Tryz.prog w = .ok (.bool (!x)) w := fun _ _ => rfl
  go_enter Tryz.func74, Tryz.ntmps74
  go_wp2
  go_end0
  exact ⟨rfl, rfl⟩
end Go.Proofs.YtdbmepndebdbpaaGreat
/- repeats, find, right, Right. -/
namespace Go.Proofs.YtdbmepndebdbpaaGreat
open Go.RowKit

set_option maxRecDepth 100000 in
set_option maxHeartbeats 1600000 in
theorem repeats_first (ib : Nat) (A : Option Addr) (c : Nat) (gs : List (Int × Int)) (se sv : Value) (w : World) (B : Nat)
    (hl : gs.length ≤ 2000) (hix : Blk w ib 88 #[.slice A gs.length c, .int .u32 0, .int .i32 0, se, sv, .bool false]) (hg : Gr w B A gs) (hB : B ≤ ib) :
    Calls Tryz.prog 68 #[.pointer (some ⟨ib, 0, none⟩)] w
      fun e w' => e = .returned (.bool (!Gm.nodB gs)) ∧ Built w' ib w.heap.size A c gs (.int .u32 1) (.int .i32 0) se ∧ w.grownBy w' (some ib) := by
  have hmf : ∀ (fn : Fn) (first cap : Array Value) (w : World), (Instr.makeFunc fn first cap).run Tryz.prog w = .ok (.func fn first cap) w := fun _ _ _ _ => rfl
  have c0 := hix.cell 0
  simp only [List.getElem?_toArray, List.getElem?_cons_zero] at c0
  have HD := Lib.hid (do_first ib A c gs se sv w B hl hix hg hB)
  generalize hq : (!Gm.nodB gs) = q
  have HQ := Lib.hid hq
  clear hq
  go_enter Tryz.func68, Tryz.ntmps68
  go_wp2_with fail
  refine HD.out.mono ?_
  rintro e w' ⟨rfl, hb, hgr⟩
  have hb' := hb
  obtain ⟨sb, m, S, hk, _⟩ := hb'
  have c5 := hk.cell 5
  simp only [List.getElem?_toArray, List.getElem?_cons_zero, List.getElem?_cons_succ] at c5
  rw [HQ.out] at c5
  clear hk
  go_wp2
  go_ret
  exact ⟨rfl, hb, hgr⟩

/-- What is found. -/
def FindPost (gs : List (Int × Int)) (g : Int × Int) (w : World) (e : Ending) (w' : World) : Prop :=
  ((gs.length ≤ gs.idxOf g ∧ e = .returned (.tuple #[.int .i64 0, .bool false])) ∨ (gs.idxOf g < gs.length ∧ e = .returned (.tuple #[.int .i64 (gs.idxOf g : Int), .bool true]))) ∧ Below w.heap.size w w'

theorem grown_both {a b c : World} {row : Option Nat} (h : a.grownBy b row) (k : b.grownBy c row) : a.grownBy c row :=
  ⟨k.os.trans h.os, k.tape.trans h.tape, k.output.trans h.output, Nat.le_trans h.size k.size, fun i hi hn => (k.block i (Nat.lt_of_lt_of_le hi h.size) hn).trans (h.block i hi hn)⟩
theorem grown_of_below {a w : World} (h : Below a.heap.size a w) (row : Option Nat) : a.grownBy w row := grown_below (World.grownBy.refl a row) h
theorem Built.lower {w : World} {ib lo lo' : Nat} {A : Option Addr} {c : Nat} {gs : List (Int × Int)} {d st se : Value} (h : Built w ib lo A c gs d st se) (hl : lo' ≤ lo) : Built w ib lo' A c gs d st se := by
  obtain ⟨sb, m, S, a, b, r⟩ := h
  exact ⟨sb, m, S, a, Nat.le_trans hl b, r⟩
theorem Built.below {w w' : World} {ib lo : Nat} {A : Option Addr} {c : Nat} {gs : List (Int × Int)} {d st se : Value} (h : Built w ib lo A c gs d st se) (hb : Below w.heap.size w w') : Built w' ib lo A c gs d st se := by
  obtain ⟨sb, m, S, a, b, hs, hr, r⟩ := h
  exact ⟨sb, m, S, a.below hb a.lt, b, Nat.lt_of_lt_of_le hs hb.size, hr.below hb hs, r⟩

/-- What right leaves: whether the graph is right; then the index is built. -/
def RightPost (n : Int) (gs : List (Int × Int)) (ib : Nat) (A : Option Addr) (c : Nat) (se : Value) (w : World) (e : Ending) (w' : World) : Prop :=
  e = .returned (.bool (Gm.rightB n gs)) ∧ w.grownBy w' (some ib) ∧ (Gm.rightB n gs = true → Built w' ib w.heap.size A c gs (.int .u32 1) (.int .i32 0) se)

set_option maxRecDepth 100000 in
set_option maxHeartbeats 1600000 in
theorem right_first (n : Int) (ib : Nat) (A : Option Addr) (c : Nat) (gs : List (Int × Int)) (se sv : Value) (w : World) (B : Nat)
    (hl : gs.length ≤ 1000000) (hix : Blk w ib 88 #[.slice A gs.length c, .int .u32 0, .int .i32 0, se, sv, .bool false]) (hg : Gr w B A gs) (hB : B ≤ ib) (hw : Wf gs) :
    Calls Tryz.prog 46 #[.agg #[.int .i64 n, .slice A gs.length c], .pointer (some ⟨ib, 0, none⟩)] w (RightPost n gs ib A c se w) := by
  have hib := hix.lt
  have hfit := Lib.hid (fits_any n A gs.length c (w.alloc (Obj.cells #[Value.int .i64 n, .slice A gs.length c] 41)) hl)
  by_cases h1 : Gm.fitB n gs.length = true
  · have hn : 0 ≤ n ∧ n ≤ 2000 ∧ gs.length ≤ 2000 := by simp [Gm.fitB] at h1; omega
    obtain ⟨hn0, hn1, hn2⟩ := hn
    by_cases h2 : Gm.ordB n 0 gs = true
    · have hr : Gm.rightB n gs = Gm.nodB gs := by simp [Gm.rightB, h1, h2]
      have HR := Lib.hid hr
      have H1 := Lib.hid h1
      have H2 := Lib.hid h2
      clear hr h1 h2
      go_enter Tryz.func46, Tryz.ntmps46
      go_wp2_with fail
      refine hfit.out.mono ?_
      rintro e w1 ⟨rfl, hb1⟩
      rw [H1.out]
      obtain ⟨k0, _⟩ := bcell hb1
      have hs1 : w.heap.size < w1.heap.size := by have := hb1.size; simp at this; omega
      have hbw1 : Below w.heap.size w w1 := ((Below.refl w.heap.size w).alloc (Nat.le_refl _) _).trans (hb1.mono (by simp))
      go_wp2_with fail
      refine (ordered_any n A c gs w1 hn0 hn1 hl B (hg.below hbw1 (by omega)) (by omega) hw).mono ?_
      rintro e w2 ⟨rfl, hb2⟩
      rw [H2.out]
      have hbw2 : Below w.heap.size w w2 := hbw1.trans (hb2.mono hbw1.size)
      clear k0
      go_wp2_with fail
      refine (repeats_first ib A c gs se sv w2 B hn2 (hix.below hbw2 hib) (hg.below hbw2 (by omega)) hB).mono ?_
      rintro e w3 ⟨rfl, hbt, hgr⟩
      have hnot : ∀ (x : Bool) (w : World), (Op.unary .not (.bool x)).run Tryz.prog w = .ok (.bool (!x)) w := fun _ _ => rfl
      go_wp2
      go_ret
      exact ⟨ret_bool HR.out.symm, grown_both (grown_of_below hbw2 _) hgr, fun _ => hbt.lower hbw2.size⟩
    · have hr : Gm.rightB n gs = false := by simp [Gm.rightB, h2]
      have HR := Lib.hid hr
      have H1 := Lib.hid h1
      have H2 := Lib.hid (show Gm.ordB n 0 gs = false by simpa using h2)
      clear hr h1 h2
      go_enter Tryz.func46, Tryz.ntmps46
      go_wp2_with fail
      refine hfit.out.mono ?_
      rintro e w1 ⟨rfl, hb1⟩
      rw [H1.out]
      obtain ⟨k0, _⟩ := bcell hb1
      have hs1 : w.heap.size < w1.heap.size := by have := hb1.size; simp at this; omega
      have hbw1 : Below w.heap.size w w1 := ((Below.refl w.heap.size w).alloc (Nat.le_refl _) _).trans (hb1.mono (by simp))
      go_wp2_with fail
      refine (ordered_any n A c gs w1 hn0 hn1 hl B (hg.below hbw1 (by omega)) (by omega) hw).mono ?_
      rintro e w2 ⟨rfl, hb2⟩
      rw [H2.out]
      have hbw2 : Below w.heap.size w w2 := hbw1.trans (hb2.mono hbw1.size)
      clear k0
      go_wp2
      go_ret
      exact ⟨ret_bool HR.out.symm, grown_of_below hbw2 _, fun h => by rw [HR.out] at h; cases h⟩
  · have hr : Gm.rightB n gs = false := by simp [Gm.rightB, h1]
    have HR := Lib.hid hr
    have H1 := Lib.hid (show Gm.fitB n gs.length = false by simpa using h1)
    clear hr h1
    go_enter Tryz.func46, Tryz.ntmps46
    go_wp2_with fail
    refine hfit.out.mono ?_
    rintro e w1 ⟨rfl, hb1⟩
    rw [H1.out]
    have hbw1 : Below w.heap.size w w1 := ((Below.refl w.heap.size w).alloc (Nat.le_refl _) _).trans (hb1.mono (by simp))
    go_wp2
    go_ret
    exact ⟨ret_bool HR.out.symm, grown_of_below hbw1 _, fun h => by rw [HR.out] at h; cases h⟩

set_option maxRecDepth 100000 in
set_option maxHeartbeats 1600000 in
theorem Right_any (n : Int) (A : Option Addr) (c : Nat) (gs : List (Int × Int)) (w : World) (B : Nat) (hl : gs.length ≤ 1000000) (hg : Gr w B A gs) (hB : B ≤ w.heap.size) (hw : Wf gs) :
    Calls Tryz.prog 25 #[.agg #[.int .i64 n, .slice A gs.length c]] w fun e w' => e = .returned (.bool (Gm.rightB n gs)) ∧ Below w.heap.size w w' := by
  go_enter Tryz.func25, Tryz.ntmps25
  go_wp2_with fail
  have hbw : Below w.heap.size w ((w.alloc (Obj.cells #[Value.int .i64 n, .slice A gs.length c] 41)).alloc (Obj.cells #[.slice A gs.length c, .int .u32 0, .int .i32 0, .int .u32 0, .slice none 0 0, .bool false] 88)) :=
    ((Below.refl w.heap.size w).alloc (Nat.le_refl _) _).alloc (by simp) _
  have hk : Blk ((w.alloc (Obj.cells #[Value.int .i64 n, .slice A gs.length c] 41)).alloc (Obj.cells #[.slice A gs.length c, .int .u32 0, .int .i32 0, .int .u32 0, .slice none 0 0, .bool false] 88)) (w.heap.size + 1) 88 #[.slice A gs.length c, .int .u32 0, .int .i32 0, .int .u32 0, .slice none 0 0, .bool false] := by
    have := Blk.new (w.alloc (Obj.cells #[Value.int .i64 n, .slice A gs.length c] 41)) 88 #[.slice A gs.length c, .int .u32 0, .int .i32 0, .int .u32 0, .slice none 0 0, .bool false]
    simpa using this
  refine (right_first n (w.heap.size + 1) A c gs _ _ _ B hl hk (hg.below hbw hB) (by omega) hw).mono ?_
  rintro e w' ⟨rfl, hgr, _⟩
  have hfin := hbw.grown hgr (by simp; omega) (fun k e => by injection e with e; omega)
  go_wp2
  go_ret
  exact ⟨rfl, hfin⟩
end Go.Proofs.YtdbmepndebdbpaaGreat
/- Slices of gates that the call itself makes: append; slices.Clone, slices.Concat; same, extended. -/
namespace Go.Proofs.YtdbmepndebdbpaaGreat
open Go.RowKit

/-- The cells of gates. -/
def flat : List (Int × Int) → List Value
  | [] => []
  | g :: r => .int .i64 g.1 :: .int .i64 g.2 :: flat r
theorem flat_length (gs : List (Int × Int)) : (flat gs).length = gs.length * 2 := by
  induction gs with
  | nil => rfl
  | cons g r ih => simp only [flat, List.length_cons, ih]; omega
theorem flat_append (gs hs : List (Int × Int)) : flat (gs ++ hs) = flat gs ++ flat hs := by
  induction gs with
  | nil => rfl
  | cons g r ih => simp [flat, ih]
theorem flat_get (gs : List (Int × Int)) (k : Nat) (h : k < gs.length) : (flat gs)[k * 2]? = some (.int .i64 (gs[k]).1) ∧ (flat gs)[k * 2 + 1]? = some (.int .i64 (gs[k]).2) := by
  induction gs generalizing k with
  | nil => simp at h
  | cons g r ih =>
    cases k with
    | zero => simp [flat]
    | succ k =>
      have := ih k (by simpa using h)
      rw [show (k + 1) * 2 = k * 2 + 1 + 1 by omega]
      simpa [flat] using this
theorem flat_one (gs : List (Int × Int)) : ∀ u ∈ flat gs, u.oneCell' = true := by
  induction gs with
  | nil => intro u h; simp [flat] at h
  | cons g r ih =>
    intro u h
    simp only [flat, List.mem_cons] at h
    rcases h with rfl | rfl | h
    · rfl
    · rfl
    · exact ih u h
/-- A row of gates of the call's own. -/
def Own (w : World) (base : Nat) (v : Value) (gs : List (Int × Int)) : Prop := w.ownsRow base 58 2 v gs.length (flat gs)
theorem Own.gr {w : World} {base : Nat} {v : Value} {gs : List (Int × Int)} (h : Own w base v gs) : ∃ A c, v = .slice A gs.length c ∧ Gr w w.heap.size A gs := by
  obtain ⟨_, h2⟩ := h
  rcases h2 with ⟨rfl, h0⟩ | ⟨g, cap, cur, rfl, _, hh, hn, _, hs, ht⟩
  · exact ⟨none, 0, by rw [h0], fun k hk => by omega⟩
  · refine ⟨_, cap, rfl, fun k hk => ⟨g, 0, rfl, ?_, ?_, ?_⟩⟩
    · exact Blk.lt (t := 58) hh
    · obtain ⟨f1, _⟩ := flat_get gs k hk
      rw [← ht, List.getElem?_take_of_lt (by omega)] at f1
      rw [Nat.zero_add, Blk.cell (t := 58) hh, ← Array.getElem?_toList]
      exact f1
    · obtain ⟨_, f2⟩ := flat_get gs k hk
      rw [← ht, List.getElem?_take_of_lt (by omega)] at f2
      rw [Nat.zero_add, Blk.cell (t := 58) hh, ← Array.getElem?_toList]
      exact f2
theorem Gr.cells {w : World} {B : Nat} {ad : Addr} {gs : List (Int × Int)} (h : Gr w B (some ad) gs) : ∀ j u, (flat gs)[j]? = some u → w.cell? (ad.add j) = some u := by
  intro j u hu
  have hj : j < gs.length * 2 := by
    rw [← flat_length]
    exact (List.getElem?_eq_some_iff.1 hu).1
  obtain ⟨b, off, e, _, h1, h2⟩ := h (j / 2) (by omega)
  injection e with e
  subst e
  obtain ⟨f1, f2⟩ := flat_get gs (j / 2) (by omega)
  have ha : (⟨b, off, none⟩ : Addr).add j = ⟨b, off + j, none⟩ := by simp [Addr.add]
  rw [ha]
  rcases Nat.mod_two_eq_zero_or_one j with hm | hm
  · have ej : j / 2 * 2 = j := by omega
    rw [ej] at h1 f1
    rw [h1, ← hu, f1]
  · have ej : j / 2 * 2 + 1 = j := by omega
    rw [Nat.add_assoc, ej] at h2
    rw [ej] at f2
    rw [h2, ← hu, f2]

theorem run_append_gates (w : World) (base B : Nat) (ty : TypeId) (v : Value) (gs hs : List (Int × Int)) (hown : Own w base v gs) (A : Option Addr) (c : Nat) (hg : Gr w B A hs)
    (hl : gs.length + hs.length ≤ 2000000) (hbase : base ≤ w.heap.size) :
    ∃ v' w', (Builtin.append_ #[24, 24] ty #[v, .slice A hs.length c]).run Tryz.prog w = .ok v' w' ∧ Own w' base v' (gs ++ hs) ∧ w.grownBy w' v.ownBlock ∧ (v'.ownBlock = v.ownBlock ∨ v'.ownBlock = some w.heap.size) := by
  have hi : Tryz.prog.info? 58 = some Tryz.t58 := by kernel_rfl
  cases A with
  | none =>
    have h0 : hs = [] := by
      cases hs with
      | nil => rfl
      | cons g r =>
        obtain ⟨_, _, e, _⟩ := hg 0 (by simp)
        cases e
    subst h0
    refine ⟨v, w, ?_, by simpa using hown, World.grownBy.refl w _, Or.inl rfl⟩
    rcases hown.2 with ⟨rfl, _⟩ | ⟨g, cap, cur, rfl, _, _, hnc, _⟩
    · simp [Builtin.append_, run_underlying Tryz.underlying24, sizeOf, typeInfo, hi, Builtin.lenOf, Builtin.firstCells]
    · simp [Builtin.append_, run_underlying Tryz.underlying24, sizeOf, typeInfo, hi, Builtin.lenOf, Builtin.firstCells, hnc, storeCells]
  | some ad =>
    have hm : gs.length + hs.length ≤ maxLen := by unfold maxLen; omega
    obtain ⟨v', w', h1, h2, h3, _, h5⟩ := run_append_own_at (P := Tryz.prog) w base 24 ty 58 Tryz.t58 (.agg #[.int .i64 0, .int .i64 0]) 2 16 Tryz.underlying24 hi (by kernel_rfl) (by kernel_rfl) (by kernel_rfl) (by kernel_rfl) (by omega)
      v gs.length (flat gs) hown ad hs.length c (flat hs) (flat_length hs) hg.cells (flat_one hs) hm (by omega) hbase
    exact ⟨v', w', h1, by unfold Own; rw [List.length_append, flat_append]; exact h2, h3, h5⟩

theorem wpList_gates {ops : Array Oper} {rest : List Oper} {o : Oper} {a : Act} {Q : Exit → Act → World → Prop} {w : World} (hgd : o.guard = none) (s x : Operand)
    (ho : o.op = .call { callee := .builtin .append, args := #[s, x], argTypes := #[24, 24] })
    (base B : Nat) (v : Value) (gs hs : List (Int × Int)) (hs1 : a.eval s = v) (hown : Own w base v gs) (A : Option Addr) (c : Nat) (hx : a.eval x = .slice A hs.length c) (hg : Gr w B A hs)
    (hl : gs.length + hs.length ≤ 2000000) (hbase : base ≤ w.heap.size)
    (h : ∀ v' w', Own w' base v' (gs ++ hs) → w.grownBy w' v.ownBlock → (v'.ownBlock = v.ownBlock ∨ v'.ownBlock = some w.heap.size) → wpList Tryz.prog ops Q rest (a.put o.dst v') w') : wpList Tryz.prog ops Q (o :: rest) a w := by
  refine wpList_plain hgd fun K hK => ?_
  obtain ⟨v', w', hrun, h2, h3, h4⟩ := run_append_gates w base B o.type v gs hs hown A c hg hl hbase
  unfold Oper.wp execOp
  simp only [ho, resolve, invoke, builtin, Sem.run_bind, Sem.run_pure, Result.andThen_ok, List.map_toArray, List.map_cons, List.map_nil, hs1, hx, hrun]
  exact hK _ _ (h v' w' h2 h3 h4)

/-- The address lies from block lo on, or below block B. -/
def Sep (B lo : Nat) (A : Option Addr) : Prop := ∀ ad, A = some ad → ad.block < B ∨ lo ≤ ad.block
theorem Sep.none_ {B lo : Nat} : Sep B lo none := fun _ h => by cases h
theorem Sep.ne {B lo k : Nat} {A : Option Addr} (h : Sep B lo A) (h1 : B ≤ k) (h2 : k < lo) : ∀ ad, A = some ad → ad.block ≠ k := fun ad e => by
  rcases h ad e with h | h <;> omega
theorem Sep.mono {B B' lo lo' : Nat} {A : Option Addr} (h : Sep B lo A) (h1 : B ≤ B') (h2 : lo' ≤ lo) : Sep B' lo' A := fun ad e => by
  rcases h ad e with h | h <;> omega
theorem Gr.set {w : World} {C : Nat} {A : Option Addr} {gs : List (Int × Int)} (h : Gr w C A gs) {p : Addr} (hp : ∀ ad, A = some ad → ad.block ≠ p.block) (u : Value) : Gr (w.setCell p u) C A gs := by
  intro k hk
  obtain ⟨b, off, e, hb, h1, h2⟩ := h k hk
  have hne := hp _ e
  exact ⟨b, off, e, hb, (World.cell?_setCell_other w p ⟨b, _, none⟩ u (fun e => hne (by rw [e]))).trans h1, (World.cell?_setCell_other w p ⟨b, _, none⟩ u (fun e => hne (by rw [e]))).trans h2⟩

/-- A slice of the gates gs is handed back. -/
def GatesPost (gs : List (Int × Int)) (w : World) (e : Ending) (w' : World) : Prop := ∃ A' c', e = .returned (.slice A' gs.length c') ∧ Gr w' w'.heap.size A' gs ∧ Sep 0 w.heap.size A' ∧ Below w.heap.size w w'
theorem Own.sep {w : World} {base : Nat} {A : Option Addr} {n c : Nat} {gs : List (Int × Int)} (h : Own w base (.slice A n c) gs) : Sep 0 base A := by
  intro ad e
  subst e
  rcases h.2 with ⟨h2, _⟩ | ⟨g, cap, cur, h2, hb, _⟩
  · simp at h2
  · simp only [Value.slice.injEq, Option.some.injEq] at h2
    obtain ⟨rfl, _, _⟩ := h2
    exact Or.inr hb

set_option maxHeartbeats 1000000 in
theorem clone_any (A : Option Addr) (c : Nat) (gs : List (Int × Int)) (w : World) (B : Nat) (hl : gs.length ≤ 1000000) (hg : Gr w B A gs) (hB : B ≤ w.heap.size) :
    Calls Tryz.prog 33 #[.slice A gs.length c] w (GatesPost gs w) := by
  have HL := Lib.hid hl
  clear hl
  cases A with
  | none =>
    have h0 : gs = [] := by
      cases gs with
      | nil => rfl
      | cons g r =>
        obtain ⟨_, _, e, _⟩ := hg 0 (by simp)
        cases e
    subst h0
    have hnil := fun W a n c => Lib.run_eql_slice_nil (P := Tryz.prog) W 24 58 a n c 0 0 Tryz.underlying24
    go_enter Tryz.func33, Tryz.ntmps33
    go_wp2
    go_ret
    exact ⟨none, 0, rfl, fun k hk => by simp at hk, Sep.none_, Below.refl _ _⟩
  | some ad =>
    have hnil := fun W a n c => Lib.run_eql_slice_nil (P := Tryz.prog) W 24 58 a n c 0 0 Tryz.underlying24
    go_enter Tryz.func33, Tryz.ntmps33
    go_wp2_with (at_builtin; go_loud (refine wpList_gates rfl _ _ rfl w.heap.size B _ [] gs rfl ?own _ _ rfl ?gr ?len ?base ?_))
    case own => exact ⟨rfl, Or.inr ⟨w.heap.size, 0, #[], rfl, Nat.le_refl _, Blk.new w _ #[], Nat.le_refl _, by unfold maxLen; omega, rfl, rfl⟩⟩
    case gr => exact hg.keep (fun p hp => World.cell?_alloc_lt w _ p (by omega))
    case len => have := HL.out; simp; omega
    case base => simp
    intro v' w' hown hgr _
    have hbw : Below w.heap.size w w' := ((Below.refl w.heap.size w).alloc (Nat.le_refl _) _).grown hgr (by simp) (fun k e => by simp [Value.ownBlock] at e; omega)
    obtain ⟨A', c', rfl, hG⟩ := hown.gr
    have hsep := hown.sep
    go_wp2
    go_ret
    exact ⟨A', c', rfl, hG, hsep, hbw⟩

/-- A graph is handed back. -/
def GraphPost (n : Int) (gs : List (Int × Int)) (w : World) (e : Ending) (w' : World) : Prop := ∃ A' c', e = .returned (.agg #[.int .i64 n, .slice A' gs.length c']) ∧ Gr w' w'.heap.size A' gs ∧ Sep 0 w.heap.size A' ∧ Below w.heap.size w w'

end Go.Proofs.YtdbmepndebdbpaaGreat
/- slices.Grow, slices.Concat of two slices of gates; extended. -/
namespace Go.Proofs.YtdbmepndebdbpaaGreat
open Go.RowKit

/-- An empty row of the call's own is handed back. -/
def EmptyPost (w : World) (e : Ending) (w' : World) : Prop := ∃ v, e = .returned v ∧ Own w' w.heap.size v [] ∧ Below w.heap.size w w'

theorem zeroCells_size (z : Array Value) (n : Nat) : (Builtin.zeroCells z n).size = n * z.size := by
  simp [Builtin.zeroCells]

theorem Own.block {w : World} {base : Nat} {v : Value} {gs : List (Int × Int)} (h : Own w base v gs) : ∀ k, v.ownBlock = some k → base ≤ k := by
  intro k e
  rcases h.2 with ⟨rfl, _⟩ | ⟨g, cap, cur, rfl, hb, _⟩
  · cases e
  · simp [Value.ownBlock] at e
    omega

/-- What the second loop keeps. -/
def CRel (w : World) (gs hs : List (Int × Int)) (v i : Value) (wr : World) : Prop :=
  Below w.heap.size w wr ∧ ((i = .int .i64 0 ∧ Own wr w.heap.size v []) ∨ (i = .int .i64 1 ∧ Own wr w.heap.size v gs) ∨ (i = .int .i64 2 ∧ Own wr w.heap.size v (gs ++ hs)))

end Go.Proofs.YtdbmepndebdbpaaGreat
/- extended. -/
namespace Go.Proofs.YtdbmepndebdbpaaGreat
open Go.RowKit

theorem keep2 {w : World} {g i k : Nat} {u v1 v2 : Value} (h : w.cell? ⟨g, i, none⟩ = some u) (hne : k ≠ g) : ((w.setCell ⟨k, 0, none⟩ v1).setCell ⟨k, 1, none⟩ v2).cell? ⟨g, i, none⟩ = some u :=
  (World.cell?_setCell_other _ _ _ _ (fun e => hne (congrArg Addr.block e))).trans ((World.cell?_setCell_other _ _ _ _ (fun e => hne (congrArg Addr.block e))).trans h)

end Go.Proofs.YtdbmepndebdbpaaGreat
/- simple. -/
namespace Go.Proofs.YtdbmepndebdbpaaGreat
open Go.RowKit

/-- What simple hands back. -/
def SimplePost (a b : Int) (w : World) (e : Ending) (w' : World) : Prop := e = .returned (.tuple #[.int .i64 ((Gm.simpleS a b).getD 0), .bool (Gm.simpleS a b).isSome]) ∧ w = w'

end Go.Proofs.YtdbmepndebdbpaaGreat
