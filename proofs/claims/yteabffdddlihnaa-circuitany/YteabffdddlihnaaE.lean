/- build: the index is made. -/
import Derived.Test.YteabffdddlihnaaC
import Derived.Test.YteabffdddlihnaaL
namespace Go.Proofs.Yteabffdddlihnaa
open Go.RowKit

/-- Block g is just the cells cs of type t, none frozen. -/
def Blk (w : World) (g : Nat) (t : TypeId) (cs : Array Value) : Prop := w.heap[g]? = some (.cells cs t (0, 0))
section
variable {w w' : World} {g : Nat} {t : TypeId} {cs : Array Value}
theorem Blk.lt (h : Blk w g t cs) : g < w.heap.size := by
  apply Classical.byContradiction
  intro hn
  unfold Blk at h
  rw [Array.getElem?_eq_none (by omega)] at h
  cases h
theorem Blk.cell (h : Blk w g t cs) (i : Nat) : w.cell? ⟨g, i, none⟩ = cs[i]? := cell_of_row w g i cs t (0, 0) h
theorem Blk.frozen (h : Blk w g t cs) (i : Nat) : w.frozen? ⟨g, i, none⟩ = false := by
  unfold Blk at h
  simp [World.frozen?, h]
theorem Blk.new (w : World) (t : TypeId) (cs : Array Value) : Blk (w.alloc (.cells cs t)) w.heap.size t cs := heap_alloc_new w _
theorem Blk.keep (h : Blk w g t cs) (hk : w'.heap[g]? = w.heap[g]?) : Blk w' g t cs := hk.trans h
theorem Blk.drewN (h : Blk w g t cs) (n : Nat) : Blk (w.drewN n) g t cs := h
theorem Blk.alloc (h : Blk w g t cs) (o : Obj) : Blk (w.alloc o) g t cs := h.keep (Below.heap_alloc w o g h.lt)
theorem Blk.put (h : Blk w g t cs) (i : Nat) (u : Value) : Blk (w.setCell ⟨g, i, none⟩ u) g t (cs.setIfInBounds i u) := by
  unfold Blk at h ⊢
  simp [World.setCell, Array.getElem?_modify, h]
theorem Blk.far (h : Blk w g t cs) {p : Addr} (hp : g ≠ p.block) (u : Value) : Blk (w.setCell p u) g t cs := h.keep (Below.heap_setCell w p u g hp)
theorem Blk.below {B : Nat} (h : Blk w g t cs) (hb : Below B w w') (hg : g < B) : Blk w' g t cs := h.keep (hb.block g hg)
theorem Blk.grown {row : Option Nat} (h : Blk w g t cs) (hb : w.grownBy w' row) (hg : some g ≠ row) : Blk w' g t cs := h.keep (hb.block g h.lt hg)
end

def zeros (N : Nat) : Array Value := Array.replicate N (.int .i64 0)
theorem made_zeros (N : Nat) : madeCells (Value.int .i64 0).cells N = zeros N := by
  unfold madeCells zeros
  apply Array.ext
  · simp
  · intro i h1 h2
    simp [Value.cells, Nat.mod_one]
theorem zeros_get (N i : Nat) (h : i < N) : (zeros N)[i]? = some (.int .i64 ((0 : Nat) : Int)) := by simp [zeros, Array.getElem?_replicate, h]
theorem make_ints (N : Nat) (hN : N ≤ 1000000) (w : World) : (Instr.makeSlice 24 (.int .i64 (N : Int)) (.int .i64 (N : Int))).run Try.prog w = .ok (.slice (some ⟨w.heap.size, 0, none⟩) N N) (w.alloc (.cells (zeros N) 3)) := by
  have hb : (Try.t3).bytes = 8 := by kernel_rfl
  have hs : (Try.t3).size = 1 := by kernel_rfl
  have := run_make (P := Try.prog) w 24 3 Try.t3 (.int .i64 0) Try.underlying24 (by kernel_rfl) (by kernel_rfl) .i64 .i64 N N (by omega) (by omega) (by rw [hb]; omega) (by omega)
  rw [hs, Nat.mul_one, Int.toNat_natCast, made_zeros] at this
  exact this
theorem shl_two (b : Nat) (hb : b ≤ 11) : wrap64 (2 * 2 ^ min b 64) = ((2 ^ (b + 1) : Nat) : Int) := by
  rw [Nat.min_eq_left (by omega)]
  have h1 : 2 ^ b ≤ 2 ^ 11 := Nat.pow_le_pow_right (by omega) hb
  have h2 : ((2 ^ b : Nat) : Int) = 2 ^ b := by simp
  rw [Nat.pow_succ]
  unfold wrap64
  omega

/-- The index at ib is built over the gates gs. -/
def Built (w' : World) (ib lo : Nat) (A : Option Addr) (c : Nat) (gs : List (Int × Int)) (d st se : Value) : Prop :=
  ∃ (sb m : Nat) (S : Nat → Nat), Blk w' ib 95 #[.slice A gs.length c, d, st, se, .slice (some ⟨sb, 0, none⟩) (2 ^ m) (2 ^ m), .bool (!Gm.nodB gs)] ∧
    lo ≤ sb ∧ sb < w'.heap.size ∧ Row w' sb (2 ^ m) S ∧ Gm.Tab gs hashF (2 ^ m) gs.length S ∧ 2 ^ m ≤ 1000000 ∧ gs.length < 2 ^ m
/-- What holds when k gates have been put in. -/
def BInv (w wr : World) (ib : Nat) (A : Option Addr) (c : Nat) (gs : List (Int × Int)) (d st se : Value) (N k : Nat) (S : Nat → Nat) : Prop :=
  Blk wr ib 95 #[.slice A gs.length c, d, st, se, .slice (some ⟨w.heap.size, 0, none⟩) N N, .bool (!Gm.nodB (gs.take k))] ∧
  (∃ cs, Blk wr w.heap.size 3 cs ∧ ∀ i, i < N → cs[i]? = some (.int .i64 (S i : Int))) ∧ Gm.Tab gs hashF N k S ∧ w.grownBy wr (some ib)
theorem grown_alloc {a w : World} {row : Option Nat} (h : a.grownBy w row) (o : Obj) : a.grownBy (w.alloc o) row :=
  ⟨h.os, h.tape, h.output, Nat.le_trans h.size (by simp), fun i hi hne => (Below.heap_alloc w o i (Nat.lt_of_lt_of_le hi h.size)).trans (h.block i hi hne)⟩
theorem grown_set {a w : World} {g : Nat} (h : a.grownBy w (some g)) {p : Addr} (hp : p.block = g ∨ a.heap.size ≤ p.block) (u : Value) : a.grownBy (w.setCell p u) (some g) :=
  ⟨h.os, h.tape, h.output, by simpa [World.setCell] using h.size, fun i hi hne => (Below.heap_setCell w p u i (by
    rintro rfl
    rcases hp with hp | hp
    · exact hne (by rw [hp])
    · omega)).trans (h.block i hi hne)⟩
theorem grown_below {a w w' : World} {row : Option Nat} (h : a.grownBy w row) (hb : Below w.heap.size w w') : a.grownBy w' row :=
  ⟨hb.os.trans h.os, hb.tape.trans h.tape, hb.output.trans h.output, Nat.le_trans h.size hb.size, fun i hi hn => (hb.block i (Nat.lt_of_lt_of_le hi h.size)).trans (h.block i hi hn)⟩
theorem BInv.start {w : World} {ib : Nat} {A : Option Addr} {c : Nat} {gs : List (Int × Int)} {d st se sv : Value} {N : Nat}
    (hix : Blk w ib 95 #[.slice A gs.length c, d, st, se, sv, .bool false]) :
    BInv w ((w.setCell ⟨ib, 4, none⟩ (.slice (some ⟨w.heap.size, 0, none⟩) N N)).alloc (.cells (zeros N) 3)) ib A c gs d st se N 0 (fun _ => 0) := by
  refine ⟨?_, ⟨zeros N, ?_, fun i hi => zeros_get N i hi⟩, Gm.Tab.zero, ?_⟩
  · exact (hix.put 4 _).alloc _
  · have := Blk.new (w.setCell ⟨ib, 4, none⟩ (.slice (some ⟨w.heap.size, 0, none⟩) N N)) 3 (zeros N)
    simpa using this
  · exact grown_alloc (grown_set (World.grownBy.refl w _) (Or.inl rfl) _) _
theorem BInv.dup {w wr w2 : World} {ib : Nat} {A : Option Addr} {c : Nat} {gs : List (Int × Int)} {d st se : Value} {N k r : Nat} {S : Nat → Nat} {g : Int × Int} (h : BInv w wr ib A c gs d st se N k S) (hib : ib < w.heap.size) (hk : k < gs.length) (hg : gs[k] = g)
    (hb : Below wr.heap.size wr w2) (hr : r < N) (hs : Gm.Stops gs N S g (hashF g) r) (h0 : S r ≠ 0) : BInv w (w2.setCell ⟨ib, 5, none⟩ (.bool true)) ib A c gs d st se N (k + 1) S := by
  obtain ⟨h1, ⟨cs, h2, h3⟩, h4, h5⟩ := h
  have hgd : gs.getD k (0, 0) = g := by rw [← hg]; simp [List.getElem?_eq_getElem hk]
  have hh := hs
  obtain ⟨_, _, _, _, hit⟩ := hh
  refine ⟨?_, ⟨cs, ?_, h3⟩, h4.dup hr hit h0 hgd, ?_⟩
  · have e : (!Gm.nodB (gs.take (k + 1))) = true := by
      have hin : gs[k] ∈ gs.take k := by
        obtain ⟨hlt, e⟩ := Gm.gAt_lt (gs := gs) h0 (Nat.le_trans (h4.le r hr) (Nat.le_of_lt hk))
        have hle := h4.le r hr
        have hgg := hit.resolve_left h0
        rw [e, ← hg] at hgg
        rw [← hgg]
        exact List.mem_take_iff_getElem.2 ⟨S r - 1, by omega, rfl⟩
      have : ¬ (gs.take (k + 1)).Nodup := fun hn => ((Gm.nod_take gs k hk).1 hn).2 hin
      simp [Gm.nodB, this]
    rw [e]
    exact (h1.below hb h1.lt).put 5 _
  · exact (h2.below hb h2.lt).far (by simp; omega) _
  · exact grown_set (grown_below h5 hb) (Or.inl rfl) _
theorem BInv.put {w wr w2 : World} {ib : Nat} {A : Option Addr} {c : Nat} {gs : List (Int × Int)} {d st se : Value} {N k r : Nat} {S : Nat → Nat} {g : Int × Int} (h : BInv w wr ib A c gs d st se N k S) (hib : ib < w.heap.size) (hk : k < gs.length) (hg : gs[k] = g)
    (hb : Below wr.heap.size wr w2) (hr : r < N) (hs : Gm.Stops gs N S g (hashF g) r) (h0 : S r = 0) : BInv w (w2.setCell ⟨w.heap.size, r, none⟩ (.int .i64 ((k : Int) + 1))) ib A c gs d st se N (k + 1) (Gm.upd S r (k + 1)) := by
  obtain ⟨h1, ⟨cs, h2, h3⟩, h4, h5⟩ := h
  have hgd : gs.getD k (0, 0) = g := by rw [← hg]; simp [List.getElem?_eq_getElem hk]
  refine ⟨?_, ⟨_, (h2.below hb h2.lt).put r _, fun i hi => ?_⟩, h4.put hr hs h0 hgd, ?_⟩
  · have e : Gm.nodB (gs.take (k + 1)) = Gm.nodB (gs.take k) := by
      have hnot : gs[k] ∉ gs.take k := by
        intro hin
        obtain ⟨p, hp, e⟩ := List.mem_take_iff_getElem.1 hin
        refine h4.miss hs h0 p (by omega) ?_
        rw [← hg, ← e]
        simp [List.getElem?_eq_getElem (show p < gs.length by omega)]
      have := Gm.nod_take gs k hk
      simp [Gm.nodB, this, hnot]
    rw [e]
    exact (h1.below hb h1.lt).far (by simp; omega) _
  · rw [Array.getElem?_setIfInBounds]
    by_cases e : r = i
    · subst e
      have : r < cs.size := by
        have := h3 r hr
        apply Classical.byContradiction
        intro hn
        rw [Array.getElem?_eq_none (by omega)] at this
        cases this
      simp [this, Gm.upd]
    · rw [if_neg e, h3 i hi]
      simp [Gm.upd, show ¬ i = r from fun e' => e e'.symm]
  · exact grown_set (grown_below h5 hb) (Or.inr (Nat.le_refl _)) _

set_option maxRecDepth 100000 in
set_option maxHeartbeats 2000000 in
theorem build_any (ib : Nat) (A : Option Addr) (c : Nat) (gs : List (Int × Int)) (d st se sv : Value) (w : World) (B : Nat)
    (hl : gs.length ≤ 2000) (hix : Blk w ib 95 #[.slice A gs.length c, d, st, se, sv, .bool false]) (hg : Gr w B A gs) (hB : B ≤ ib) :
    Calls Try.prog 79 #[.pointer (some ⟨ib, 0, none⟩)] w
      fun e w' => e = .returned (.tuple #[]) ∧ Built w' ib w.heap.size A c gs d st se ∧ w.grownBy w' (some ib) := by
  have hib := hix.lt
  have c0 := hix.cell 0
  have c4 := hix.cell 4
  have f4 := hix.frozen 4
  simp only [List.getElem?_toArray, List.getElem?_cons_zero, List.getElem?_cons_succ] at c0 c4
  have hbl := bitLen_lt gs.length (by omega)
  have hbt := bitLen_top gs.length hl
  have hsh := shl_two _ hbt
  have hp1 : 2 ^ (Lib.bitLen gs.length + 1) ≤ 2 ^ 12 := Nat.pow_le_pow_right (by omega) (by omega)
  have hp2 : gs.length < 2 ^ (Lib.bitLen gs.length + 1) := by rw [Nat.pow_succ]; omega
  generalize hN : 2 ^ (Lib.bitLen gs.length + 1) = N at *
  have HN := Lib.hid hN
  have hmk := make_ints N (by omega)
  clear hN hbl hbt
  go_enter Try.func79, Try.ntmps79
  go_wp2_with (go_at_call 82; refine (len_any _ _ (by omega) (by omega)).mono ?_; rintro e w' ⟨rfl, rfl⟩)
  have hst := BInv.start (N := N) hix
  have HST := Lib.hid hst
  clear hst hsh hmk c0 c4 f4
  go_loopw [22] (fun i wr => ∃ (k : Nat) (S : Nat → Nat), k ≤ gs.length ∧ i = .int .i64 (k : Int) ∧ BInv w wr ib A c gs d st se N k S) (fun i _ => gs.length - (intOf i).toNat)
  case atStart => exact ⟨0, _, Nat.zero_le _, rfl, HST.out⟩
  case round =>
    obtain ⟨k, S, hk, rfl, hinv⟩ := hrel
    have hinv' := hinv
    obtain ⟨h1, ⟨cs, h2, h3⟩, h4, h5⟩ := hinv'
    by_cases hlt : k < gs.length
    · obtain ⟨b, off, hA, hbB, g1, g2⟩ := (hg.grown h5 (by omega) (fun _ e => by injection e with e; omega)) k hlt
      subst hA
      generalize hgk : gs[k] = g at *
      obtain ⟨x, y⟩ := g
      simp only at g1 g2
      have HGK := Lib.hid hgk
      have hwr : w.heap.size < wr.heap.size := h2.lt
      have hsl := slot_any ib w.heap.size (Lib.bitLen gs.length + 1) (some ⟨b, off, none⟩) c gs S x y (wr.alloc (Obj.cells #[.int .i64 x, .int .i64 y] 64)) (by simp; omega) (by simp; omega)
        (by rw [HN.out]; omega) (by omega) (by rw [(h1.alloc _).cell 0]; rfl) (by rw [(h1.alloc _).cell 4, HN.out]; rfl) B ((hg.grown h5 (by omega) (fun _ e => by injection e with e; omega)).keep (fun p hp => World.cell?_alloc_lt wr _ p (by omega))) (by simp; omega)
        (by rw [HN.out]; exact fun i hi => by rw [(h2.alloc _).cell i]; exact h3 i hi) (by rw [HN.out]; exact fun i hi => Nat.le_trans (h4.le i hi) hk) (by rw [HN.out]; exact Nat.lt_of_le_of_lt h4.few (by omega))
      rw [HN.out] at hsl
      have HSL := Lib.hid hsl
      have HI := Lib.hid hinv
      have H3 := Lib.hid h3
      clear hsl hgk hinv h3
      go_wp2_with fail
      refine HSL.out.mono ?_
      rintro e w2 ⟨r, rfl, hr, hs, hb⟩
      have hbw : Below wr.heap.size wr w2 := ((Below.refl _ _).alloc (Nat.le_refl _) _).trans (hb.mono (by simp))
      have b1 := h1.below hbw h1.lt
      have b2 := h2.below hbw h2.lt
      have c4 := b1.cell 4
      have c5 := b1.cell 5
      have f5 := b1.frozen 5
      have cr := (b2.cell r).trans (H3.out r hr)
      have fr := b2.frozen r
      simp only [List.getElem?_toArray, List.getElem?_cons_zero, List.getElem?_cons_succ] at c4 c5
      have hix1 := ix1 w.heap.size N r (by omega) hr
      have HS := Lib.hid hs
      have HR := Lib.hid hr
      clear hs hb hr
      by_cases hz : S r = 0
      · have HP := Lib.hid (HI.out.put hib hlt HGK.out hbw HR.out HS.out hz)
        rw [hz] at cr
        have cr0 : w2.cell? ⟨w.heap.size, r, none⟩ = some (.int .i64 0) := cr
        clear cr hz
        have hd : ((0 : Int) != 0) = false := by simp
        go_wp2
        go_roundw
        case rel => exact ⟨k + 1, _, by omega, by go_num, HP.out⟩
        case measure => simp [intOf]; omega
      · have HP := Lib.hid (HI.out.dup hib hlt HGK.out hbw HR.out HS.out hz)
        have hd : ((S r : Int) != 0) = true := by simp; omega
        clear hz
        go_wp2
        go_roundw
        case rel => exact ⟨k + 1, _, by omega, by go_num, HP.out⟩
        case measure => simp [intOf]; omega
    · have hkk : k = gs.length := by omega
      subst hkk
      rw [List.take_length] at h1
      have HB := Lib.hid (show Built wr ib w.heap.size A c gs d st se from ⟨w.heap.size, Lib.bitLen gs.length + 1, S, by rw [HN.out]; exact h1, Nat.le_refl _, h2.lt, by rw [HN.out]; exact fun i hi => by rw [h2.cell i]; exact h3 i hi, by rw [HN.out]; exact h4, by rw [HN.out]; omega, by rw [HN.out]; exact hp2⟩)
      clear hinv h3
      go_wp2
      go_end0
      exact ⟨rfl, HB.out, h5⟩
end Go.Proofs.Yteabffdddlihnaa
