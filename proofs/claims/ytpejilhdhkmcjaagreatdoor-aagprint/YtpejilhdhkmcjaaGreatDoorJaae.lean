/- sync.Once over the index: Do, the first time and later; repeats and find. -/
import Derived.Test.YtpejilhdhkmcjaaGreatDoorJaAl
import Derived.Test.YtpejilhdhkmcjaaGreatDoorJaad
import Derived.Defers
import Derived.RegionCalls
import Derived.Laws.LoneSync
import Derived.Laws.NewBlocks
import Derived.Maps.AppendAt
import Derived.Deep.AppendLies
import Derived.RegionTactic
import Derived.OwnWalk
import Derived.Lib.AppendZeros
import Derived.Deep.DeepCutAuto
import Derived.Deep.RegionWith
namespace Go.Proofs.YtpejilhdhkmcjaaGreatDoor
open Go.RowKit

theorem race_disable (w : World) : (callFunc 168 #[]).run Tryz.prog w = .ok (.value (.tuple #[])) w := run_call_mark0 Tryz.func168 (by kernel_rfl) (by kernel_rfl) (by kernel_rfl) .disable (by kernel_rfl) w
theorem race_enable (w : World) : (callFunc 170 #[]).run Tryz.prog w = .ok (.value (.tuple #[])) w := run_call_mark0 Tryz.func170 (by kernel_rfl) (by kernel_rfl) (by kernel_rfl) .enable (by kernel_rfl) w
theorem race_acquire (a : Addr) (w : World) : (callFunc 171 #[.pointer (some a)]).run Tryz.prog w = .ok (.value (.tuple #[])) w := run_call_marked Tryz.func171 (by kernel_rfl) (by kernel_rfl) (by kernel_rfl) .acquire (by kernel_rfl) a w
theorem race_merge (a : Addr) (w : World) : (callFunc 173 #[.pointer (some a)]).run Tryz.prog w = .ok (.value (.tuple #[])) w := run_call_marked Tryz.func173 (by kernel_rfl) (by kernel_rfl) (by kernel_rfl) .releaseMerge (by kernel_rfl) a w

theorem once_store (a : Addr) (x : Value) (u : FrameMode) (w : World) (hc : w.cell? a = some x) (hz : w.frozen? a = false) :
  CallsD Tryz.prog 139 #[.pointer (some a), .bool true] u w fun e u' w' => u' = u ∧ (e = .returned (.tuple #[]) ∧ w' = w.drew.setCell a (.int .u32 1)) := by
 have hc' : w.drew.cell? a = some x := by go_simp
 have hz' : w.drew.frozen? a = false := by go_simp
 have hst := run_call_store (P := Tryz.prog) Tryz.func159 (by kernel_rfl) (by kernel_rfl) (by kernel_rfl) (by kernel_rfl) (k := .u32) (y := 1) hc' hz'
 go_enter_d Tryz.func139, Tryz.ntmps139
 go_wp2
 go_region_calls
 all_goals (go_end0; exact ⟨rfl, rfl⟩)

set_option maxRecDepth 100000 in
theorem once_unlock (a : Addr) (u : FrameMode) (w : World) (hc : w.cell? a = some (.int .i32 1)) (hz : w.frozen? a = false) :
  CallsD Tryz.prog 138 #[.pointer (some a)] u w fun e u' w' => u' = u ∧ (e = .returned (.tuple #[]) ∧ w' = w.setCell a (.int .i32 0)) := by
 have hd := race_disable
 have he := race_enable
 have hr := race_merge
 have hadd := run_call_add (P := Tryz.prog) Tryz.func174 (by kernel_rfl) (by kernel_rfl) (by kernel_rfl) .i32 (by kernel_rfl) (y := -1) (s := 0) hc hz (by simp [go_sem]; rfl)
 have hcv := run_convert_to_unsafe (P := Tryz.prog) (src := 201) (dst := 205) Tryz.underlying201 Tryz.underlying205 (by kernel_rfl) hc
 go_enter_d Tryz.func138, Tryz.ntmps138
 go_wp2
 go_end0
 go_wp2
 go_end0
 exact ⟨rfl, rfl⟩

set_option maxRecDepth 100000 in
theorem once_lock (a : Addr) (w : World) (hc : w.cell? a = some (.int .i32 0)) (hz : w.frozen? a = false) :
  Calls Tryz.prog 137 #[.pointer (some a)] w fun e w' => e = .returned (.tuple #[]) ∧ w' = w.setCell a (.int .i32 1) := by
 have hd := race_disable
 have he := race_enable
 have ha := race_acquire
 have hcas := run_call_cas_hit (P := Tryz.prog) Tryz.func169 (by kernel_rfl) (by kernel_rfl) (by kernel_rfl) .i32 (by kernel_rfl) (y := 1) hc hz
 have hc' : (w.setCell a (.int .i32 1)).cell? a = some (.int .i32 1) := World.cell?_setCell_same w a _ hc
 have hcv := run_convert_to_unsafe (P := Tryz.prog) (src := 201) (dst := 205) Tryz.underlying201 Tryz.underlying205 (by kernel_rfl) hc'
 go_enter Tryz.func137, Tryz.ntmps137
 go_wp2
 first | go_end0 | (simp only [Exit.inBlock, Exit.then]; refine bodyPost_ret (results_none rfl _ _ _) rfl ?_) | refine bodyPost_ret (results_none rfl _ _ _) rfl ?_
 go_wp2
 go_end0
 exact ⟨rfl, rfl⟩

set_option maxRecDepth 100000 in
set_option maxHeartbeats 1600000 in
theorem once_slow (ib : Nat) (A : Option Addr) (c : Nat) (gs : List (Int × Int)) (se sv : Value) (w : World) (B : Nat)
  (hl : gs.length ≤ 2000) (hix : Blk w ib 125 #[.slice A gs.length c, .int .u32 0, .int .i32 0, se, sv, .bool false]) (hg : Gr w B A gs) (hB : B ≤ ib) :
  Calls Tryz.prog 120 #[.pointer (some ⟨ib, 1, none⟩), .func (.func 111) #[.pointer (some ⟨ib, 0, none⟩)] #[]] w
   fun e w' => e = .returned (.tuple #[]) ∧ Built w' ib w.heap.size A c gs (.int .u32 1) (.int .i32 0) se ∧ w.grownBy w' (some ib) := by
 have c2 := hix.cell 2
 have f2 := hix.frozen 2
 simp only [zD, zE, zF] at c2
 have h1 := hix.put 2 (.int .i32 1)
 have e1 : #[Value.slice A gs.length c, .int .u32 0, .int .i32 0, se, sv, .bool false].setIfInBounds 2 (.int .i32 1) = #[Value.slice A gs.length c, .int .u32 0, .int .i32 1, se, sv, .bool false] := rfl
 rw [e1] at h1
 have hg1 : Gr (w.setCell ⟨ib, 2, none⟩ (.int .i32 1)) B A gs := hg.keep fun p hp => World.cell?_setCell_other w _ p _ (fun e => by subst e; simp at hp; omega)
 have hbd := build_any ib A c gs (.int .u32 0) (.int .i32 1) se sv _ B hl h1 hg1 hB
 have c1 := h1.cell 1
 simp only [zD, zE, zF] at c1
 have hl := run_call_load (P := Tryz.prog) Tryz.func136 (by kernel_rfl) (by kernel_rfl) (by kernel_rfl) .u32 (by kernel_rfl) c1
 have hnot : ∀ (x : Bool) (w : World), (Op.unary .not (.bool x)).run Tryz.prog w = .ok (.bool (!x)) w := fun _ _ => rfl
 have HBD := Lib.hid hbd
 clear hbd e1
 go_enter_defers Tryz.func120, Tryz.ntmps120
 go_wp2_with (first | (go_at_call 137; refine (once_lock ⟨ib, 2, none⟩ _ c2 f2).mono ?_; rintro e w' ⟨rfl, rfl⟩) | (go_at_call 119; go_in) | (go_at_call 111; refine HBD.out.mono ?_; rintro e w2 ⟨rfl, hbt, hgr⟩))
 obtain ⟨sb, m, S, hk, hlo, hsb, hrow, htab, hm, hlt⟩ := hbt
 have hibl := hix.lt
 have hne : sb ≠ ib := by simp at hlo; omega
 have hk1 := hk.cell 1
 have hk2 := hk.cell 2
 simp only [zD, zE, zF] at hk1 hk2
 refine leaves_cons (f := 139) (args := #[.pointer (some ⟨ib, 1, none⟩), .bool true]) (by simp) (by simp [go_sem]) ?_
 refine (once_store ⟨ib, 1, none⟩ (.int .u32 0) .returning _ hk1 (hk.frozen 1)).mono ?_
 rintro e u' w3 ⟨rfl, rfl, rfl⟩
 have hk' : Blk (w2.drew.setCell ⟨ib, 1, none⟩ (.int .u32 1)) ib 125 #[.slice A gs.length c, .int .u32 1, .int .i32 1, se, .slice (some ⟨sb, 0, none⟩) (2 ^ m) (2 ^ m), .bool (!Gm.nodB gs)] := Blk.put (w := w2.drew) hk 1 (.int .u32 1)
 have hk3 := hk'.cell 2
 simp only [zD, zE, zF] at hk3
 refine leaves_cons (f := 138) (args := #[.pointer (some ⟨ib, 2, none⟩)]) (by simp [settle]) (by simp [go_sem]) ?_
 refine (once_unlock ⟨ib, 2, none⟩ _ _ hk3 (hk'.frozen 2)).mono ?_
 rintro e u' w4 ⟨rfl, rfl, rfl⟩
 have hfin : Built ((w2.drew.setCell ⟨ib, 1, none⟩ (.int .u32 1)).setCell ⟨ib, 2, none⟩ (.int .i32 0)) ib w.heap.size A c gs (.int .u32 1) (.int .i32 0) se := by
  refine ⟨sb, m, S, hk'.put 2 (.int .i32 0), by simpa using hlo, by simpa [World.setCell] using hsb, fun i hi => ?_, htab, hm, hlt⟩
  rw [World.cell?_setCell_other _ ⟨ib, 2, none⟩ ⟨sb, i, none⟩ _ (fun e => hne (congrArg Addr.block e).symm), World.cell?_setCell_other _ ⟨ib, 1, none⟩ ⟨sb, i, none⟩ _ (fun e => hne (congrArg Addr.block e).symm)]
  exact hrow i hi
 have hgf : w.grownBy ((w2.drew.setCell ⟨ib, 1, none⟩ (.int .u32 1)).setCell ⟨ib, 2, none⟩ (.int .i32 0)) (some ib) := by
  have h0 : w.grownBy (w.setCell ⟨ib, 2, none⟩ (.int .i32 1)) (some ib) := grown_set (World.grownBy.refl w _) (Or.inl rfl) _
  have h1 : w.grownBy w2.drew (some ib) := ⟨hgr.os.trans h0.os, hgr.tape.trans h0.tape, hgr.output.trans h0.output, Nat.le_trans h0.size hgr.size, fun i hi hn => (hgr.block i (by simpa using hi) hn).trans (h0.block i hi hn)⟩
  exact grown_set (p := ⟨ib, 2, none⟩) (grown_set (p := ⟨ib, 1, none⟩) h1 (Or.inl rfl) (.int .u32 1)) (Or.inl rfl) (.int .i32 0)
 simp [Leaves, settle, results, Tryz.results120]
 exact ⟨hfin, hgf⟩

set_option maxRecDepth 100000 in
set_option maxHeartbeats 1600000 in
theorem do_first (ib : Nat) (A : Option Addr) (c : Nat) (gs : List (Int × Int)) (se sv : Value) (w : World) (B : Nat)
  (hl : gs.length ≤ 2000) (hix : Blk w ib 125 #[.slice A gs.length c, .int .u32 0, .int .i32 0, se, sv, .bool false]) (hg : Gr w B A gs) (hB : B ≤ ib) :
  Calls Tryz.prog 110 #[.pointer (some ⟨ib, 1, none⟩), .func (.func 111) #[.pointer (some ⟨ib, 0, none⟩)] #[]] w
   fun e w' => e = .returned (.tuple #[]) ∧ Built w' ib w.heap.size A c gs (.int .u32 1) (.int .i32 0) se ∧ w.grownBy w' (some ib) := by
 have c1 := hix.cell 1
 simp only [zD, zE, zF] at c1
 have hld := run_call_load (P := Tryz.prog) Tryz.func136 (by kernel_rfl) (by kernel_rfl) (by kernel_rfl) .u32 (by kernel_rfl) c1
 have hnot : ∀ (x : Bool) (w : World), (Op.unary .not (.bool x)).run Tryz.prog w = .ok (.bool (!x)) w := fun _ _ => rfl
 have HS := Lib.hid (once_slow ib A c gs se sv w B hl hix hg hB)
 go_enter Tryz.func110, Tryz.ntmps110
 go_wp2_with (first | (go_at_call 120; refine HS.out.mono ?_; rintro e w' ⟨rfl, hb, hgr⟩) | (go_at_call 119; go_in))
 go_end0
 exact ⟨rfl, hb, hgr⟩

end Go.Proofs.YtpejilhdhkmcjaaGreatDoor
/- repeats, find, right, Right. -/
namespace Go.Proofs.YtpejilhdhkmcjaaGreatDoor
open Go.RowKit

set_option maxRecDepth 100000 in
set_option maxHeartbeats 1600000 in
theorem repeats_first (ib : Nat) (A : Option Addr) (c : Nat) (gs : List (Int × Int)) (se sv : Value) (w : World) (B : Nat)
  (hl : gs.length ≤ 2000) (hix : Blk w ib 125 #[.slice A gs.length c, .int .u32 0, .int .i32 0, se, sv, .bool false]) (hg : Gr w B A gs) (hB : B ≤ ib) :
  Calls Tryz.prog 97 #[.pointer (some ⟨ib, 0, none⟩)] w
   fun e w' => e = .returned (.bool (!Gm.nodB gs)) ∧ Built w' ib w.heap.size A c gs (.int .u32 1) (.int .i32 0) se ∧ w.grownBy w' (some ib) := by
 have hmf : ∀ (fn : Fn) (first cap : Array Value) (w : World), (Instr.makeFunc fn first cap).run Tryz.prog w = .ok (.func fn first cap) w := fun _ _ _ _ => rfl
 have c0 := hix.cell 0
 simp only [zD, zE] at c0
 have HD := Lib.hid (do_first ib A c gs se sv w B hl hix hg hB)
 generalize hq : (!Gm.nodB gs) = q
 have HQ := Lib.hid hq
 clear hq
 go_enter Tryz.func97, Tryz.ntmps97
 go_wp2_with fail
 refine HD.out.mono ?_
 rintro e w' ⟨rfl, hb, hgr⟩
 have hb' := hb
 obtain ⟨sb, m, S, hk, _⟩ := hb'
 have c5 := hk.cell 5
 simp only [zD, zE, zF] at c5
 rw [HQ.out] at c5
 clear hk
 go_wp2
 go_ret
 exact ⟨rfl, hb, hgr⟩

theorem grown_both {a b c : World} {row : Option Nat} (h : a.grownBy b row) (k : b.grownBy c row) : a.grownBy c row :=
 ⟨k.os.trans h.os, k.tape.trans h.tape, k.output.trans h.output, Nat.le_trans h.size k.size, fun i hi hn => (k.block i (Nat.lt_of_lt_of_le hi h.size) hn).trans (h.block i hi hn)⟩
theorem grown_of_below {a w : World} (h : Below a.heap.size a w) (row : Option Nat) : a.grownBy w row := grown_below (World.grownBy.refl a row) h
theorem Built.lower {w : World} {ib lo lo' : Nat} {A : Option Addr} {c : Nat} {gs : List (Int × Int)} {d st se : Value} (h : Built w ib lo A c gs d st se) (hl : lo' ≤ lo) : Built w ib lo' A c gs d st se := by
 obtain ⟨sb, m, S, a, b, r⟩ := h
 exact ⟨sb, m, S, a, Nat.le_trans hl b, r⟩
/-- What right leaves: whether the graph is right; then the index is built. -/
def RightPost (n : Int) (gs : List (Int × Int)) (ib : Nat) (A : Option Addr) (c : Nat) (se : Value) (w : World) (e : Ending) (w' : World) : Prop :=
 e = .returned (.bool (Gm.rightB n gs)) ∧ w.grownBy w' (some ib) ∧ (Gm.rightB n gs = true → Built w' ib w.heap.size A c gs (.int .u32 1) (.int .i32 0) se)

set_option maxRecDepth 100000 in
set_option maxHeartbeats 1600000 in
theorem right_first (n : Int) (ib : Nat) (A : Option Addr) (c : Nat) (gs : List (Int × Int)) (se sv : Value) (w : World) (B : Nat)
  (hl : gs.length ≤ 1000000) (hix : Blk w ib 125 #[.slice A gs.length c, .int .u32 0, .int .i32 0, se, sv, .bool false]) (hg : Gr w B A gs) (hB : B ≤ ib) (hw : Wf gs) :
  Calls Tryz.prog 73 #[.agg #[.int .i64 n, .slice A gs.length c], .pointer (some ⟨ib, 0, none⟩)] w (RightPost n gs ib A c se w) := by
 have hib := hix.lt
 have hfit := Lib.hid (fits_any n A gs.length c (w.alloc (Obj.cells #[Value.int .i64 n, .slice A gs.length c] 64)) hl)
 by_cases h1 : Gm.fitB n gs.length = true
 ·
  have hn : 0 ≤ n ∧ n ≤ 2000 ∧ gs.length ≤ 2000 := by simp [Gm.fitB] at h1; omega
  obtain ⟨hn0, hn1, hn2⟩ := hn
  by_cases h2 : Gm.ordB n 0 gs = true
  ·
   have hr : Gm.rightB n gs = Gm.nodB gs := by simp [Gm.rightB, h1, h2]
   have HR := Lib.hid hr
   have H1 := Lib.hid h1
   have H2 := Lib.hid h2
   clear hr h1 h2
   go_enter Tryz.func73, Tryz.ntmps73
   go_wp2_with fail
   refine hfit.out.mono ?_
   rintro e w1 ⟨rfl, hb1⟩
   rw [H1.out]
   obtain ⟨k0, _⟩ := bcell hb1
   have hs1 : w.heap.size < w1.heap.size := by have := hb1.size; simp at this; omega
   have hbw1 : Below w.heap.size w w1 := ((Below.refl w.heap.size w).alloc (Nat.le_refl _) _).trans (hb1.mono (by simp))
   go_wp2_with fail
   refine (ordered_any n A c gs w1 hn0 hn1 hl B (hg.below hbw1 (by omega)) (by omega) hw).mono ?_
   rintro e w2 ⟨rfl, hb2⟩
   rw [H2.out]
   have hbw2 : Below w.heap.size w w2 := hbw1.trans (hb2.mono hbw1.size)
   clear k0
   go_wp2_with fail
   refine (repeats_first ib A c gs se sv w2 B hn2 (hix.below hbw2 hib) (hg.below hbw2 (by omega)) hB).mono ?_
   rintro e w3 ⟨rfl, hbt, hgr⟩
   have hnot : ∀ (x : Bool) (w : World), (Op.unary .not (.bool x)).run Tryz.prog w = .ok (.bool (!x)) w := fun _ _ => rfl
   go_wp2
   go_ret
   exact ⟨ret_bool HR.out.symm, grown_both (grown_of_below hbw2 _) hgr, fun _ => hbt.lower hbw2.size⟩
  have hr : Gm.rightB n gs = false := by simp [Gm.rightB, h2]
  have HR := Lib.hid hr
  have H1 := Lib.hid h1
  have H2 := Lib.hid (show Gm.ordB n 0 gs = false by simpa using h2)
  clear hr h1 h2
  go_enter Tryz.func73, Tryz.ntmps73
  go_wp2_with fail
  refine hfit.out.mono ?_
  rintro e w1 ⟨rfl, hb1⟩
  rw [H1.out]
  obtain ⟨k0, _⟩ := bcell hb1
  have hs1 : w.heap.size < w1.heap.size := by have := hb1.size; simp at this; omega
  have hbw1 : Below w.heap.size w w1 := ((Below.refl w.heap.size w).alloc (Nat.le_refl _) _).trans (hb1.mono (by simp))
  go_wp2_with fail
  refine (ordered_any n A c gs w1 hn0 hn1 hl B (hg.below hbw1 (by omega)) (by omega) hw).mono ?_
  rintro e w2 ⟨rfl, hb2⟩
  rw [H2.out]
  have hbw2 : Below w.heap.size w w2 := hbw1.trans (hb2.mono hbw1.size)
  clear k0
  go_wp2
  go_ret
  exact ⟨ret_bool HR.out.symm, grown_of_below hbw2 _, fun h => by rw [HR.out] at h; cases h⟩
 have hr : Gm.rightB n gs = false := by simp [Gm.rightB, h1]
 have HR := Lib.hid hr
 have H1 := Lib.hid (show Gm.fitB n gs.length = false by simpa using h1)
 clear hr h1
 go_enter Tryz.func73, Tryz.ntmps73
 go_wp2_with fail
 refine hfit.out.mono ?_
 rintro e w1 ⟨rfl, hb1⟩
 rw [H1.out]
 have hbw1 : Below w.heap.size w w1 := ((Below.refl w.heap.size w).alloc (Nat.le_refl _) _).trans (hb1.mono (by simp))
 go_wp2
 go_ret
 exact ⟨ret_bool HR.out.symm, grown_of_below hbw1 _, fun h => by rw [HR.out] at h; cases h⟩

set_option maxRecDepth 100000 in
set_option maxHeartbeats 1600000 in
theorem Right_any (n : Int) (A : Option Addr) (c : Nat) (gs : List (Int × Int)) (w : World) (B : Nat) (hl : gs.length ≤ 1000000) (hg : Gr w B A gs) (hB : B ≤ w.heap.size) (hw : Wf gs) :
  Calls Tryz.prog 49 #[.agg #[.int .i64 n, .slice A gs.length c]] w fun e w' => e = .returned (.bool (Gm.rightB n gs)) ∧ Below w.heap.size w w' := by
 go_enter Tryz.func49, Tryz.ntmps49
 go_wp2_with fail
 have hbw : Below w.heap.size w ((w.alloc (Obj.cells #[Value.int .i64 n, .slice A gs.length c] 64)).alloc (Obj.cells #[.slice A gs.length c, .int .u32 0, .int .i32 0, .int .u32 0, .slice none 0 0, .bool false] 125)) :=
  ((Below.refl w.heap.size w).alloc (Nat.le_refl _) _).alloc (by simp) _
 have hk : Blk ((w.alloc (Obj.cells #[Value.int .i64 n, .slice A gs.length c] 64)).alloc (Obj.cells #[.slice A gs.length c, .int .u32 0, .int .i32 0, .int .u32 0, .slice none 0 0, .bool false] 125)) (w.heap.size + 1) 125 #[.slice A gs.length c, .int .u32 0, .int .i32 0, .int .u32 0, .slice none 0 0, .bool false] := by
  have := Blk.new (w.alloc (Obj.cells #[Value.int .i64 n, .slice A gs.length c] 64)) 125 #[.slice A gs.length c, .int .u32 0, .int .i32 0, .int .u32 0, .slice none 0 0, .bool false]
  simpa using this
 refine (right_first n (w.heap.size + 1) A c gs _ _ _ B hl hk (hg.below hbw hB) (by omega) hw).mono ?_
 rintro e w' ⟨rfl, hgr, _⟩
 have hfin := hbw.grown hgr (by simp; omega) (fun k e => by injection e with e; omega)
 go_wp2
 go_ret
 exact ⟨rfl, hfin⟩
end Go.Proofs.YtpejilhdhkmcjaaGreatDoor
/- Slices of gates that the call itself makes: append; slices.Clone, slices.Concat; same, extended. -/
namespace Go.Proofs.YtpejilhdhkmcjaaGreatDoor
open Go.RowKit

/-- The cells of gates. -/
def flat : List (Int × Int) → List Value
 | [] => []
 | g :: r => .int .i64 g.1 :: .int .i64 g.2 :: flat r
theorem flat_append (gs hs : List (Int × Int)) : flat (gs ++ hs) = flat gs ++ flat hs := by
 induction gs with
 | nil => rfl
 | cons g r ih => simp [flat, ih]
theorem flat_get (gs : List (Int × Int)) (k : Nat) (h : k < gs.length) : (flat gs)[k * 2]? = some (.int .i64 (gs[k]).1) ∧ (flat gs)[k * 2 + 1]? = some (.int .i64 (gs[k]).2) := by
 induction gs generalizing k with
 | nil => simp at h
 | cons g r ih =>
  cases k with
  | zero => simp [flat]
  | succ k =>
   have := ih k (by simpa using h)
   rw [show (k + 1) * 2 = k * 2 + 1 + 1 by omega]
   simpa [flat] using this
/-- A row of gates of the call's own. -/
def Own (w : World) (base : Nat) (v : Value) (gs : List (Int × Int)) : Prop := w.ownsRow base 57 2 v gs.length (flat gs)
theorem Own.gr {w : World} {base : Nat} {v : Value} {gs : List (Int × Int)} (h : Own w base v gs) : ∃ A c, v = .slice A gs.length c ∧ Gr w w.heap.size A gs := by
 obtain ⟨_, h2⟩ := h
 rcases h2 with ⟨rfl, h0⟩ | ⟨g, cap, cur, rfl, _, hh, hn, _, hs, ht⟩
 ·
  exact ⟨none, 0, by rw [h0], fun k hk => by omega⟩
 refine ⟨_, cap, rfl, fun k hk => ⟨g, 0, rfl, ?_, ?_, ?_⟩⟩
 ·
  exact Blk.lt (t := 57) hh
 ·
  obtain ⟨f1, _⟩ := flat_get gs k hk
  rw [← ht, List.getElem?_take_of_lt (by omega)] at f1
  rw [Nat.zero_add, Blk.cell (t := 57) hh, ← Array.getElem?_toList]
  exact f1
 obtain ⟨_, f2⟩ := flat_get gs k hk
 rw [← ht, List.getElem?_take_of_lt (by omega)] at f2
 rw [Nat.zero_add, Blk.cell (t := 57) hh, ← Array.getElem?_toList]
 exact f2
/-- The address lies from block lo on, or below block B. -/
def Sep (B lo : Nat) (A : Option Addr) : Prop := ∀ ad, A = some ad → ad.block < B ∨ lo ≤ ad.block
theorem Gr.set {w : World} {C : Nat} {A : Option Addr} {gs : List (Int × Int)} (h : Gr w C A gs) {p : Addr} (hp : ∀ ad, A = some ad → ad.block ≠ p.block) (u : Value) : Gr (w.setCell p u) C A gs := by
 intro k hk
 obtain ⟨b, off, e, hb, h1, h2⟩ := h k hk
 have hne := hp _ e
 exact ⟨b, off, e, hb, (World.cell?_setCell_other w p ⟨b, _, none⟩ u (fun e => hne (by rw [e]))).trans h1, (World.cell?_setCell_other w p ⟨b, _, none⟩ u (fun e => hne (by rw [e]))).trans h2⟩

end Go.Proofs.YtpejilhdhkmcjaaGreatDoor
/- slices.Grow, slices.Concat of two slices of gates; extended. -/
namespace Go.Proofs.YtpejilhdhkmcjaaGreatDoor
open Go.RowKit

end Go.Proofs.YtpejilhdhkmcjaaGreatDoor
/- extended. -/
namespace Go.Proofs.YtpejilhdhkmcjaaGreatDoor
open Go.RowKit

end Go.Proofs.YtpejilhdhkmcjaaGreatDoor
/- simple. -/
namespace Go.Proofs.YtpejilhdhkmcjaaGreatDoor
open Go.RowKit

end Go.Proofs.YtpejilhdhkmcjaaGreatDoor
/- graph.And. -/
namespace Go.Proofs.YtpejilhdhkmcjaaGreatDoor
open Go.RowKit

/-- The boxes of a call: the graph at block k, the result behind it. -/
structure Boxes (w W : World) (n : Int) (s : Value) : Prop where
 low : Below w.heap.size w W
 d0 : W.cell? ⟨w.heap.size, 0, none⟩ = some (.int .i64 n)
 d1 : W.cell? ⟨w.heap.size, 1, none⟩ = some s
 e0 : W.cell? ⟨w.heap.size + 1, 0, none⟩ = some (.int .i64 0)
 e1 : W.cell? ⟨w.heap.size + 1, 1, none⟩ = some (.slice none 0 0)
 f0 : W.frozen? ⟨w.heap.size + 1, 0, none⟩ = false
 f1 : W.frozen? ⟨w.heap.size + 1, 1, none⟩ = false
 sz : w.heap.size + 1 < W.heap.size
end Go.Proofs.YtpejilhdhkmcjaaGreatDoor
/- graph.And of a right graph and its literals. -/
namespace Go.Proofs.YtpejilhdhkmcjaaGreatDoor
open Go.RowKit

end Go.Proofs.YtpejilhdhkmcjaaGreatDoor
/- What andS gives: bounds. -/
namespace Go.Proofs.YtpejilhdhkmcjaaGreatDoor
open Go.RowKit

structure AndFacts (n : Int) (gs : List (Int × Int)) (r : Gm.Res) : Prop where
 lit0 : 0 ≤ r.2.1
 lit1 : r.2.1 ≤ 4000
 len : r.1.2.length ≤ gs.length + 1
 wf : Wf r.1.2
 lit : r.2.2 = 0 → Gm.litB r.1.1 r.1.2.length r.2.1 = true
end Go.Proofs.YtpejilhdhkmcjaaGreatDoor
/- What Or and Ite rest on. -/
namespace Go.Proofs.YtpejilhdhkmcjaaGreatDoor
open Go.RowKit

structure BoxG (w W : World) (n : Int) (s : Value) : Prop where
 bx : Boxes w W n s
 g0 : W.frozen? ⟨w.heap.size, 0, none⟩ = false
 g1 : W.frozen? ⟨w.heap.size, 1, none⟩ = false
end Go.Proofs.YtpejilhdhkmcjaaGreatDoor
