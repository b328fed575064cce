/- repeats, find, right, Right. -/
import Derived.Test.YteabffdddlihnaaF
namespace Go.Proofs.Yteabffdddlihnaa
open Go.RowKit

set_option maxRecDepth 100000 in
set_option maxHeartbeats 1600000 in
theorem repeats_first (ib : Nat) (A : Option Addr) (c : Nat) (gs : List (Int × Int)) (se sv : Value) (w : World) (B : Nat)
    (hl : gs.length ≤ 2000) (hix : Blk w ib 95 #[.slice A gs.length c, .int .u32 0, .int .i32 0, se, sv, .bool false]) (hg : Gr w B A gs) (hB : B ≤ ib) :
    Calls Try.prog 74 #[.pointer (some ⟨ib, 0, none⟩)] w
      fun e w' => e = .returned (.bool (!Gm.nodB gs)) ∧ Built w' ib w.heap.size A c gs (.int .u32 1) (.int .i32 0) se ∧ w.grownBy w' (some ib) := by
  have hmf : ∀ (fn : Fn) (first cap : Array Value) (w : World), (Instr.makeFunc fn first cap).run Try.prog w = .ok (.func fn first cap) w := fun _ _ _ _ => rfl
  have c0 := hix.cell 0
  simp only [List.getElem?_toArray, List.getElem?_cons_zero, List.getElem?_cons_succ] at c0
  have HD := Lib.hid (do_first ib A c gs se sv w B hl hix hg hB)
  generalize hq : (!Gm.nodB gs) = q
  have HQ := Lib.hid hq
  clear hq
  go_enter Try.func74, Try.ntmps74
  go_wp2_with fail
  refine HD.out.mono ?_
  rintro e w' ⟨rfl, hb, hgr⟩
  have hb' := hb
  obtain ⟨sb, m, S, hk, _⟩ := hb'
  have c5 := hk.cell 5
  simp only [List.getElem?_toArray, List.getElem?_cons_zero, List.getElem?_cons_succ] at c5
  rw [HQ.out] at c5
  clear hk
  go_wp2
  go_ret
  exact ⟨rfl, hb, hgr⟩

/-- What is found. -/
def FindPost (gs : List (Int × Int)) (g : Int × Int) (w : World) (e : Ending) (w' : World) : Prop :=
  ((gs.length ≤ gs.idxOf g ∧ e = .returned (.tuple #[.int .i64 0, .bool false])) ∨ (gs.idxOf g < gs.length ∧ e = .returned (.tuple #[.int .i64 (gs.idxOf g : Int), .bool true]))) ∧ Below w.heap.size w w'

theorem grown_both {a b c : World} {row : Option Nat} (h : a.grownBy b row) (k : b.grownBy c row) : a.grownBy c row :=
  ⟨k.os.trans h.os, k.tape.trans h.tape, k.output.trans h.output, Nat.le_trans h.size k.size, fun i hi hn => (k.block i (Nat.lt_of_lt_of_le hi h.size) hn).trans (h.block i hi hn)⟩
theorem grown_of_below {a w : World} (h : Below a.heap.size a w) (row : Option Nat) : a.grownBy w row := grown_below (World.grownBy.refl a row) h
theorem Built.lower {w : World} {ib lo lo' : Nat} {A : Option Addr} {c : Nat} {gs : List (Int × Int)} {d st se : Value} (h : Built w ib lo A c gs d st se) (hl : lo' ≤ lo) : Built w ib lo' A c gs d st se := by
  obtain ⟨sb, m, S, a, b, r⟩ := h
  exact ⟨sb, m, S, a, Nat.le_trans hl b, r⟩
theorem Built.below {w w' : World} {ib lo : Nat} {A : Option Addr} {c : Nat} {gs : List (Int × Int)} {d st se : Value} (h : Built w ib lo A c gs d st se) (hb : Below w.heap.size w w') : Built w' ib lo A c gs d st se := by
  obtain ⟨sb, m, S, a, b, hs, hr, r⟩ := h
  exact ⟨sb, m, S, a.below hb a.lt, b, Nat.lt_of_lt_of_le hs hb.size, hr.below hb hs, r⟩

/-- What right leaves: whether the graph is right; then the index is built. -/
def RightPost (n : Int) (gs : List (Int × Int)) (ib : Nat) (A : Option Addr) (c : Nat) (se : Value) (w : World) (e : Ending) (w' : World) : Prop :=
  e = .returned (.bool (Gm.rightB n gs)) ∧ w.grownBy w' (some ib) ∧ (Gm.rightB n gs = true → Built w' ib w.heap.size A c gs (.int .u32 1) (.int .i32 0) se)

set_option maxRecDepth 100000 in
set_option maxHeartbeats 1600000 in
theorem right_first (n : Int) (ib : Nat) (A : Option Addr) (c : Nat) (gs : List (Int × Int)) (se sv : Value) (w : World) (B : Nat)
    (hl : gs.length ≤ 1000000) (hix : Blk w ib 95 #[.slice A gs.length c, .int .u32 0, .int .i32 0, se, sv, .bool false]) (hg : Gr w B A gs) (hB : B ≤ ib) (hw : Wf gs) :
    Calls Try.prog 59 #[.agg #[.int .i64 n, .slice A gs.length c], .pointer (some ⟨ib, 0, none⟩)] w (RightPost n gs ib A c se w) := by
  have hib := hix.lt
  have hfit := Lib.hid (fits_any n A gs.length c (w.alloc (Obj.cells #[Value.int .i64 n, .slice A gs.length c] 45)) hl)
  by_cases h1 : Gm.fitB n gs.length = true
  · have hn : 0 ≤ n ∧ n ≤ 2000 ∧ gs.length ≤ 2000 := by simp [Gm.fitB] at h1; omega
    obtain ⟨hn0, hn1, hn2⟩ := hn
    by_cases h2 : Gm.ordB n 0 gs = true
    · have hr : Gm.rightB n gs = Gm.nodB gs := by simp [Gm.rightB, h1, h2]
      have HR := Lib.hid hr
      have H1 := Lib.hid h1
      have H2 := Lib.hid h2
      clear hr h1 h2
      go_enter Try.func59, Try.ntmps59
      go_wp2_with fail
      refine hfit.out.mono ?_
      rintro e w1 ⟨rfl, hb1⟩
      rw [H1.out]
      obtain ⟨k0, _⟩ := bcell hb1
      have hs1 : w.heap.size < w1.heap.size := by have := hb1.size; simp at this; omega
      have hbw1 : Below w.heap.size w w1 := ((Below.refl w.heap.size w).alloc (Nat.le_refl _) _).trans (hb1.mono (by simp))
      go_wp2_with fail
      refine (ordered_any n A c gs w1 hn0 hn1 hl B (hg.below hbw1 (by omega)) (by omega) hw).mono ?_
      rintro e w2 ⟨rfl, hb2⟩
      rw [H2.out]
      have hbw2 : Below w.heap.size w w2 := hbw1.trans (hb2.mono hbw1.size)
      clear k0
      go_wp2_with fail
      refine (repeats_first ib A c gs se sv w2 B hn2 (hix.below hbw2 hib) (hg.below hbw2 (by omega)) hB).mono ?_
      rintro e w3 ⟨rfl, hbt, hgr⟩
      have hnot : ∀ (x : Bool) (w : World), (Op.unary .not (.bool x)).run Try.prog w = .ok (.bool (!x)) w := fun _ _ => rfl
      go_wp2
      go_ret
      exact ⟨ret_bool HR.out.symm, grown_both (grown_of_below hbw2 _) hgr, fun _ => hbt.lower hbw2.size⟩
    · have hr : Gm.rightB n gs = false := by simp [Gm.rightB, h2]
      have HR := Lib.hid hr
      have H1 := Lib.hid h1
      have H2 := Lib.hid (show Gm.ordB n 0 gs = false by simpa using h2)
      clear hr h1 h2
      go_enter Try.func59, Try.ntmps59
      go_wp2_with fail
      refine hfit.out.mono ?_
      rintro e w1 ⟨rfl, hb1⟩
      rw [H1.out]
      obtain ⟨k0, _⟩ := bcell hb1
      have hs1 : w.heap.size < w1.heap.size := by have := hb1.size; simp at this; omega
      have hbw1 : Below w.heap.size w w1 := ((Below.refl w.heap.size w).alloc (Nat.le_refl _) _).trans (hb1.mono (by simp))
      go_wp2_with fail
      refine (ordered_any n A c gs w1 hn0 hn1 hl B (hg.below hbw1 (by omega)) (by omega) hw).mono ?_
      rintro e w2 ⟨rfl, hb2⟩
      rw [H2.out]
      have hbw2 : Below w.heap.size w w2 := hbw1.trans (hb2.mono hbw1.size)
      clear k0
      go_wp2
      go_ret
      exact ⟨ret_bool HR.out.symm, grown_of_below hbw2 _, fun h => by rw [HR.out] at h; cases h⟩
  · have hr : Gm.rightB n gs = false := by simp [Gm.rightB, h1]
    have HR := Lib.hid hr
    have H1 := Lib.hid (show Gm.fitB n gs.length = false by simpa using h1)
    clear hr h1
    go_enter Try.func59, Try.ntmps59
    go_wp2_with fail
    refine hfit.out.mono ?_
    rintro e w1 ⟨rfl, hb1⟩
    rw [H1.out]
    have hbw1 : Below w.heap.size w w1 := ((Below.refl w.heap.size w).alloc (Nat.le_refl _) _).trans (hb1.mono (by simp))
    go_wp2
    go_ret
    exact ⟨ret_bool HR.out.symm, grown_of_below hbw1 _, fun h => by rw [HR.out] at h; cases h⟩

set_option maxRecDepth 100000 in
set_option maxHeartbeats 1600000 in
theorem Right_any (n : Int) (A : Option Addr) (c : Nat) (gs : List (Int × Int)) (w : World) (B : Nat) (hl : gs.length ≤ 1000000) (hg : Gr w B A gs) (hB : B ≤ w.heap.size) (hw : Wf gs) :
    Calls Try.prog 36 #[.agg #[.int .i64 n, .slice A gs.length c]] w fun e w' => e = .returned (.bool (Gm.rightB n gs)) ∧ Below w.heap.size w w' := by
  go_enter Try.func36, Try.ntmps36
  go_wp2_with fail
  have hbw : Below w.heap.size w ((w.alloc (Obj.cells #[Value.int .i64 n, .slice A gs.length c] 45)).alloc (Obj.cells #[.slice A gs.length c, .int .u32 0, .int .i32 0, .int .u32 0, .slice none 0 0, .bool false] 95)) :=
    ((Below.refl w.heap.size w).alloc (Nat.le_refl _) _).alloc (by simp) _
  have hk : Blk ((w.alloc (Obj.cells #[Value.int .i64 n, .slice A gs.length c] 45)).alloc (Obj.cells #[.slice A gs.length c, .int .u32 0, .int .i32 0, .int .u32 0, .slice none 0 0, .bool false] 95)) (w.heap.size + 1) 95 #[.slice A gs.length c, .int .u32 0, .int .i32 0, .int .u32 0, .slice none 0 0, .bool false] := by
    have := Blk.new (w.alloc (Obj.cells #[Value.int .i64 n, .slice A gs.length c] 45)) 95 #[.slice A gs.length c, .int .u32 0, .int .i32 0, .int .u32 0, .slice none 0 0, .bool false]
    simpa using this
  refine (right_first n (w.heap.size + 1) A c gs _ _ _ B hl hk (hg.below hbw hB) (by omega) hw).mono ?_
  rintro e w' ⟨rfl, hgr, _⟩
  have hfin := hbw.grown hgr (by simp; omega) (fun k e => by injection e with e; omega)
  go_wp2
  go_ret
  exact ⟨rfl, hfin⟩
end Go.Proofs.Yteabffdddlihnaa
