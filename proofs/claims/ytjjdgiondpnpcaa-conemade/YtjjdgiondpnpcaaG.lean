/- repeats, find, right, Right. -/
import Derived.Test.YtjjdgiondpnpcaaF
namespace Go.Proofs.Ytjjdgiondpnpcaa
open Go.RowKit

set_option maxRecDepth 100000 in
set_option maxHeartbeats 1600000 in
theorem repeats_first (ib : Nat) (A : Option Addr) (c : Nat) (gs : List (Int × Int)) (se sv : Value) (w : World) (B : Nat)
    (hl : gs.length ≤ 2000) (hix : Blk w ib 79 #[.slice A gs.length c, .int .u32 0, .int .i32 0, se, sv, .bool false]) (hg : Gr w B A gs) (hB : B ≤ ib) :
    Calls Try.prog 54 #[.pointer (some ⟨ib, 0, none⟩)] w
      fun e w' => e = .returned (.bool (!Gm.nodB gs)) ∧ Built w' ib w.heap.size A c gs (.int .u32 1) (.int .i32 0) se ∧ w.grownBy w' (some ib) := by
  have hmf : ∀ (fn : Fn) (first cap : Array Value) (w : World), (Instr.makeFunc fn first cap).run Try.prog w = .ok (.func fn first cap) w := fun _ _ _ _ => rfl
  have c0 := hix.cell 0
  simp only [List.getElem?_toArray, List.getElem?_cons_zero, List.getElem?_cons_succ] at c0
  have HD := Lib.hid (do_first ib A c gs se sv w B hl hix hg hB)
  generalize hq : (!Gm.nodB gs) = q
  have HQ := Lib.hid hq
  clear hq
  go_enter Try.func54, Try.ntmps54
  go_wp2_with fail
  refine HD.out.mono ?_
  rintro e w' ⟨rfl, hb, hgr⟩
  have hb' := hb
  obtain ⟨sb, m, S, hk, _⟩ := hb'
  have c5 := hk.cell 5
  simp only [List.getElem?_toArray, List.getElem?_cons_zero, List.getElem?_cons_succ] at c5
  rw [HQ.out] at c5
  clear hk
  go_wp2
  go_ret
  exact ⟨rfl, hb, hgr⟩

/-- What is found. -/
def FindPost (gs : List (Int × Int)) (g : Int × Int) (w : World) (e : Ending) (w' : World) : Prop :=
  ((gs.length ≤ gs.idxOf g ∧ e = .returned (.tuple #[.int .i64 0, .bool false])) ∨ (gs.idxOf g < gs.length ∧ e = .returned (.tuple #[.int .i64 (gs.idxOf g : Int), .bool true]))) ∧ Below w.heap.size w w'

set_option maxRecDepth 100000 in
set_option maxHeartbeats 1600000 in
theorem find_done (ib lo : Nat) (A : Option Addr) (c : Nat) (gs : List (Int × Int)) (se : Value) (x y : Int) (w : World) (B : Nat)
    (hl : gs.length ≤ 2000) (hbt : Built w ib lo A c gs (.int .u32 1) (.int .i32 0) se) (hg : Gr w B A gs) (hB : B ≤ w.heap.size) (hn : gs.Nodup) :
    Calls Try.prog 49 #[.pointer (some ⟨ib, 0, none⟩), .agg #[.int .i64 x, .int .i64 y]] w (FindPost gs (x, y) w) := by
  have hmf : ∀ (fn : Fn) (first cap : Array Value) (w : World), (Instr.makeFunc fn first cap).run Try.prog w = .ok (.func fn first cap) w := fun _ _ _ _ => rfl
  obtain ⟨sb, m, S, hk, _, hsb, hrow, htab, hm, hlt⟩ := hbt
  have hib := hk.lt
  have ha := hk.alloc (Obj.cells #[Value.int .i64 x, .int .i64 y] 44)
  have c0 := ha.cell 0
  have c1 := ha.cell 1
  have c4 := ha.cell 4
  simp only [List.getElem?_toArray, List.getElem?_cons_zero, List.getElem?_cons_succ] at c0 c1 c4
  have hra : Row (w.alloc (Obj.cells #[Value.int .i64 x, .int .i64 y] 44)) sb (2 ^ m) S := fun i hi => (World.cell?_alloc_lt w _ ⟨sb, i, none⟩ hsb).trans (hrow i hi)
  have hga := hg.keep (w' := w.alloc (Obj.cells #[Value.int .i64 x, .int .i64 y] 44)) (fun p hp => World.cell?_alloc_lt w _ p (by omega))
  have HSL := Lib.hid (slot_any ib sb m A c gs S x y (w.alloc (Obj.cells #[Value.int .i64 x, .int .i64 y] 44)).drew (by simp; omega) (by simp; omega) hm (by omega) c0 c4 B hga (by simp; omega) hra (fun i hi => htab.le i hi) (Nat.lt_of_le_of_lt htab.few hlt))
  have d0 : (w.alloc (Obj.cells #[Value.int .i64 x, .int .i64 y] 44)).cell? ⟨w.heap.size, 0, none⟩ = some (.int .i64 x) := by simp
  have d1 : (w.alloc (Obj.cells #[Value.int .i64 x, .int .i64 y] 44)).cell? ⟨w.heap.size, 1, none⟩ = some (.int .i64 y) := by simp
  have HRA := Lib.hid hra
  clear hra
  go_enter Try.func49, Try.ntmps49
  go_wp2_with (go_at_call 57; refine (do_done ⟨ib, 1, none⟩ _ _ c1).mono ?_; rintro e w' ⟨rfl, rfl⟩)
  go_region_held3 (fun W => W.cell? ⟨ib, 4, none⟩ = some (.slice (some ⟨sb, 0, none⟩) (2 ^ m) (2 ^ m)) ∧ W.cell? ⟨w.heap.size, 0, none⟩ = some (.int .i64 x) ∧ W.cell? ⟨w.heap.size, 1, none⟩ = some (.int .i64 y) ∧ ∀ i, i < 2 ^ m → W.cell? ⟨sb, i, none⟩ = some (.int .i64 (S i : Int)))
    (first | exact ⟨c4, d0, d1, HRA.out⟩ | exact ⟨(hb.cell (p := ⟨ib, 4, none⟩) (by simp; omega)).trans c4, (hb.cell (p := ⟨w.heap.size, 0, none⟩) (by simp)).trans d0, (hb.cell (p := ⟨w.heap.size, 1, none⟩) (by simp)).trans d1, fun i hi => (hb.cell (p := ⟨sb, i, none⟩) (by simp; omega)).trans (HRA.out i hi)⟩)
    (first | (go_at_call 59; refine HSL.out.mono ?_; rintro e w2 ⟨r, rfl, hr, hs, hb⟩; have hix1 := ix1 sb (2 ^ m) r hm hr; have hcr := (hb.cell (p := ⟨sb, r, none⟩) (by simp; omega)).trans (HRA.out r hr)))
  have hbw : Below w.heap.size w w2 := (((Below.refl w.heap.size w).alloc (Nat.le_refl _) _).drew).trans (hb.mono (by simp))
  rcases htab.find hn hr hs with ⟨h0, hi⟩ | ⟨h0, hi, he⟩
  · rw [h0]
    have hd : ((0 : Int) == 0) = true := by simp
    clear hs hcr htab hr hb hix1
    go_wp2
    go_ret2
    exact ⟨Or.inl ⟨hi, rfl⟩, hbw⟩
  · rw [he]
    have hd : ((((gs.idxOf (x, y) + 1 : Nat)) : Int) == 0) = false := by simp; omega
    generalize hix : gs.idxOf (x, y) = p at *
    have HIX := Lib.hid hix
    clear hs hcr htab hr hb hix1 he h0 hix
    go_wp2
    go_ret2
    refine ⟨Or.inr ⟨by rw [HIX.out]; exact hi, ?_⟩, hbw⟩
    rw [HIX.out]
    rfl

theorem grown_both {a b c : World} {row : Option Nat} (h : a.grownBy b row) (k : b.grownBy c row) : a.grownBy c row :=
  ⟨k.os.trans h.os, k.tape.trans h.tape, k.output.trans h.output, Nat.le_trans h.size k.size, fun i hi hn => (k.block i (Nat.lt_of_lt_of_le hi h.size) hn).trans (h.block i hi hn)⟩
theorem grown_of_below {a w : World} (h : Below a.heap.size a w) (row : Option Nat) : a.grownBy w row := grown_below (World.grownBy.refl a row) h
theorem Built.lower {w : World} {ib lo lo' : Nat} {A : Option Addr} {c : Nat} {gs : List (Int × Int)} {d st se : Value} (h : Built w ib lo A c gs d st se) (hl : lo' ≤ lo) : Built w ib lo' A c gs d st se := by
  obtain ⟨sb, m, S, a, b, r⟩ := h
  exact ⟨sb, m, S, a, Nat.le_trans hl b, r⟩
theorem Built.below {w w' : World} {ib lo : Nat} {A : Option Addr} {c : Nat} {gs : List (Int × Int)} {d st se : Value} (h : Built w ib lo A c gs d st se) (hb : Below w.heap.size w w') : Built w' ib lo A c gs d st se := by
  obtain ⟨sb, m, S, a, b, hs, hr, r⟩ := h
  exact ⟨sb, m, S, a.below hb a.lt, b, Nat.lt_of_lt_of_le hs hb.size, hr.below hb hs, r⟩

/-- What right leaves: whether the graph is right; then the index is built. -/
def RightPost (n : Int) (gs : List (Int × Int)) (ib : Nat) (A : Option Addr) (c : Nat) (se : Value) (w : World) (e : Ending) (w' : World) : Prop :=
  e = .returned (.bool (Gm.rightB n gs)) ∧ w.grownBy w' (some ib) ∧ (Gm.rightB n gs = true → Built w' ib w.heap.size A c gs (.int .u32 1) (.int .i32 0) se)

set_option maxRecDepth 100000 in
set_option maxHeartbeats 1600000 in
theorem right_first (n : Int) (ib : Nat) (A : Option Addr) (c : Nat) (gs : List (Int × Int)) (se sv : Value) (w : World) (B : Nat)
    (hl : gs.length ≤ 1000000) (hix : Blk w ib 79 #[.slice A gs.length c, .int .u32 0, .int .i32 0, se, sv, .bool false]) (hg : Gr w B A gs) (hB : B ≤ ib) (hw : Wf gs) :
    Calls Try.prog 42 #[.agg #[.int .i64 n, .slice A gs.length c], .pointer (some ⟨ib, 0, none⟩)] w (RightPost n gs ib A c se w) := by
  have hib := hix.lt
  have hfit := Lib.hid (fits_any n A gs.length c (w.alloc (Obj.cells #[Value.int .i64 n, .slice A gs.length c] 26)) hl)
  by_cases h1 : Gm.fitB n gs.length = true
  · have hn : 0 ≤ n ∧ n ≤ 2000 ∧ gs.length ≤ 2000 := by simp [Gm.fitB] at h1; omega
    obtain ⟨hn0, hn1, hn2⟩ := hn
    by_cases h2 : Gm.ordB n 0 gs = true
    · have hr : Gm.rightB n gs = Gm.nodB gs := by simp [Gm.rightB, h1, h2]
      have HR := Lib.hid hr
      have H1 := Lib.hid h1
      have H2 := Lib.hid h2
      clear hr h1 h2
      go_enter Try.func42, Try.ntmps42
      go_wp2_with fail
      refine hfit.out.mono ?_
      rintro e w1 ⟨rfl, hb1⟩
      rw [H1.out]
      obtain ⟨k0, _⟩ := bcell hb1
      have hs1 : w.heap.size < w1.heap.size := by have := hb1.size; simp at this; omega
      have hbw1 : Below w.heap.size w w1 := ((Below.refl w.heap.size w).alloc (Nat.le_refl _) _).trans (hb1.mono (by simp))
      go_wp2_with fail
      refine (ordered_any n A c gs w1 hn0 hn1 hl B (hg.below hbw1 (by omega)) (by omega) hw).mono ?_
      rintro e w2 ⟨rfl, hb2⟩
      rw [H2.out]
      have hbw2 : Below w.heap.size w w2 := hbw1.trans (hb2.mono hbw1.size)
      clear k0
      go_wp2_with fail
      refine (repeats_first ib A c gs se sv w2 B hn2 (hix.below hbw2 hib) (hg.below hbw2 (by omega)) hB).mono ?_
      rintro e w3 ⟨rfl, hbt, hgr⟩
      have hnot : ∀ (x : Bool) (w : World), (Op.unary .not (.bool x)).run Try.prog w = .ok (.bool (!x)) w := fun _ _ => rfl
      go_wp2
      go_ret
      exact ⟨ret_bool HR.out.symm, grown_both (grown_of_below hbw2 _) hgr, fun _ => hbt.lower hbw2.size⟩
    · have hr : Gm.rightB n gs = false := by simp [Gm.rightB, h2]
      have HR := Lib.hid hr
      have H1 := Lib.hid h1
      have H2 := Lib.hid (show Gm.ordB n 0 gs = false by simpa using h2)
      clear hr h1 h2
      go_enter Try.func42, Try.ntmps42
      go_wp2_with fail
      refine hfit.out.mono ?_
      rintro e w1 ⟨rfl, hb1⟩
      rw [H1.out]
      obtain ⟨k0, _⟩ := bcell hb1
      have hs1 : w.heap.size < w1.heap.size := by have := hb1.size; simp at this; omega
      have hbw1 : Below w.heap.size w w1 := ((Below.refl w.heap.size w).alloc (Nat.le_refl _) _).trans (hb1.mono (by simp))
      go_wp2_with fail
      refine (ordered_any n A c gs w1 hn0 hn1 hl B (hg.below hbw1 (by omega)) (by omega) hw).mono ?_
      rintro e w2 ⟨rfl, hb2⟩
      rw [H2.out]
      have hbw2 : Below w.heap.size w w2 := hbw1.trans (hb2.mono hbw1.size)
      clear k0
      go_wp2
      go_ret
      exact ⟨ret_bool HR.out.symm, grown_of_below hbw2 _, fun h => by rw [HR.out] at h; cases h⟩
  · have hr : Gm.rightB n gs = false := by simp [Gm.rightB, h1]
    have HR := Lib.hid hr
    have H1 := Lib.hid (show Gm.fitB n gs.length = false by simpa using h1)
    clear hr h1
    go_enter Try.func42, Try.ntmps42
    go_wp2_with fail
    refine hfit.out.mono ?_
    rintro e w1 ⟨rfl, hb1⟩
    rw [H1.out]
    have hbw1 : Below w.heap.size w w1 := ((Below.refl w.heap.size w).alloc (Nat.le_refl _) _).trans (hb1.mono (by simp))
    go_wp2
    go_ret
    exact ⟨ret_bool HR.out.symm, grown_of_below hbw1 _, fun h => by rw [HR.out] at h; cases h⟩

set_option maxRecDepth 100000 in
set_option maxHeartbeats 1600000 in
theorem Right_any (n : Int) (A : Option Addr) (c : Nat) (gs : List (Int × Int)) (w : World) (B : Nat) (hl : gs.length ≤ 1000000) (hg : Gr w B A gs) (hB : B ≤ w.heap.size) (hw : Wf gs) :
    Calls Try.prog 32 #[.agg #[.int .i64 n, .slice A gs.length c]] w fun e w' => e = .returned (.bool (Gm.rightB n gs)) ∧ Below w.heap.size w w' := by
  go_enter Try.func32, Try.ntmps32
  go_wp2_with fail
  have hbw : Below w.heap.size w ((w.alloc (Obj.cells #[Value.int .i64 n, .slice A gs.length c] 26)).alloc (Obj.cells #[.slice A gs.length c, .int .u32 0, .int .i32 0, .int .u32 0, .slice none 0 0, .bool false] 79)) :=
    ((Below.refl w.heap.size w).alloc (Nat.le_refl _) _).alloc (by simp) _
  have hk : Blk ((w.alloc (Obj.cells #[Value.int .i64 n, .slice A gs.length c] 26)).alloc (Obj.cells #[.slice A gs.length c, .int .u32 0, .int .i32 0, .int .u32 0, .slice none 0 0, .bool false] 79)) (w.heap.size + 1) 79 #[.slice A gs.length c, .int .u32 0, .int .i32 0, .int .u32 0, .slice none 0 0, .bool false] := by
    have := Blk.new (w.alloc (Obj.cells #[Value.int .i64 n, .slice A gs.length c] 26)) 79 #[.slice A gs.length c, .int .u32 0, .int .i32 0, .int .u32 0, .slice none 0 0, .bool false]
    simpa using this
  refine (right_first n (w.heap.size + 1) A c gs _ _ _ B hl hk (hg.below hbw hB) (by omega) hw).mono ?_
  rintro e w' ⟨rfl, hgr, _⟩
  have hfin := hbw.grown hgr (by simp; omega) (fun k e => by injection e with e; omega)
  go_wp2
  go_ret
  exact ⟨rfl, hfin⟩
end Go.Proofs.Ytjjdgiondpnpcaa
