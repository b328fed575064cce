/- sync.Once over the index: Do, the first time and later; repeats and find. -/
import Derived.Test.YteabffdddlihnaaE
import Derived.Defers
import Derived.RegionCalls
import Derived.Laws.LoneSync
import Derived.Laws.NewBlocks
namespace Go.Proofs.Yteabffdddlihnaa
open Go.RowKit

theorem race_disable (w : World) : (callFunc 95 #[]).run Try.prog w = .ok (.value (.tuple #[])) w := run_call_mark0 Try.func95 (by kernel_rfl) (by kernel_rfl) (by kernel_rfl) .disable (by kernel_rfl) w
theorem race_enable (w : World) : (callFunc 97 #[]).run Try.prog w = .ok (.value (.tuple #[])) w := run_call_mark0 Try.func97 (by kernel_rfl) (by kernel_rfl) (by kernel_rfl) .enable (by kernel_rfl) w
theorem race_acquire (a : Addr) (w : World) : (callFunc 98 #[.pointer (some a)]).run Try.prog w = .ok (.value (.tuple #[])) w := run_call_marked Try.func98 (by kernel_rfl) (by kernel_rfl) (by kernel_rfl) .acquire (by kernel_rfl) a w
theorem race_merge (a : Addr) (w : World) : (callFunc 100 #[.pointer (some a)]).run Try.prog w = .ok (.value (.tuple #[])) w := run_call_marked Try.func100 (by kernel_rfl) (by kernel_rfl) (by kernel_rfl) .releaseMerge (by kernel_rfl) a w

theorem once_store (a : Addr) (x : Value) (u : FrameMode) (w : World) (hc : w.cell? a = some x) (hz : w.frozen? a = false) :
    CallsD Try.prog 87 #[.pointer (some a), .bool true] u w fun e u' w' => u' = u ∧ (e = .returned (.tuple #[]) ∧ w' = w.drew.setCell a (.int .u32 1)) := by
  have hc' : w.drew.cell? a = some x := by go_simp
  have hz' : w.drew.frozen? a = false := by go_simp
  have hst := run_call_store (P := Try.prog) Try.func93 (by kernel_rfl) (by kernel_rfl) (by kernel_rfl) (by kernel_rfl) (k := .u32) (y := 1) hc' hz'
  go_enter_d Try.func87, Try.ntmps87
  go_wp2
  go_region_calls
  all_goals (go_end0; exact ⟨rfl, rfl⟩)

set_option maxRecDepth 100000 in
theorem once_unlock (a : Addr) (u : FrameMode) (w : World) (hc : w.cell? a = some (.int .i32 1)) (hz : w.frozen? a = false) :
    CallsD Try.prog 86 #[.pointer (some a)] u w fun e u' w' => u' = u ∧ (e = .returned (.tuple #[]) ∧ w' = w.setCell a (.int .i32 0)) := by
  have hd := race_disable
  have he := race_enable
  have hr := race_merge
  have hadd := run_call_add (P := Try.prog) Try.func101 (by kernel_rfl) (by kernel_rfl) (by kernel_rfl) .i32 (by kernel_rfl) (y := -1) (s := 0) hc hz (by simp [go_sem]; rfl)
  have hcv := run_convert_to_unsafe (P := Try.prog) (src := 121) (dst := 125) Try.underlying121 Try.underlying125 (by kernel_rfl) hc
  go_enter_d Try.func86, Try.ntmps86
  go_wp2
  go_end0
  go_wp2
  go_end0
  exact ⟨rfl, rfl⟩

set_option maxRecDepth 100000 in
theorem once_lock (a : Addr) (w : World) (hc : w.cell? a = some (.int .i32 0)) (hz : w.frozen? a = false) :
    Calls Try.prog 85 #[.pointer (some a)] w fun e w' => e = .returned (.tuple #[]) ∧ w' = w.setCell a (.int .i32 1) := by
  have hd := race_disable
  have he := race_enable
  have ha := race_acquire
  have hcas := run_call_cas_hit (P := Try.prog) Try.func96 (by kernel_rfl) (by kernel_rfl) (by kernel_rfl) .i32 (by kernel_rfl) (y := 1) hc hz
  have hc' : (w.setCell a (.int .i32 1)).cell? a = some (.int .i32 1) := World.cell?_setCell_same w a _ hc
  have hcv := run_convert_to_unsafe (P := Try.prog) (src := 121) (dst := 125) Try.underlying121 Try.underlying125 (by kernel_rfl) hc'
  go_enter Try.func85, Try.ntmps85
  go_wp2
  first | go_end0 | (simp only [Exit.inBlock, Exit.then]; refine bodyPost_ret (results_none rfl _ _ _) rfl ?_) | refine bodyPost_ret (results_none rfl _ _ _) rfl ?_
  go_wp2
  go_end0
  exact ⟨rfl, rfl⟩

set_option maxRecDepth 100000 in
set_option maxHeartbeats 1600000 in
theorem once_slow (ib : Nat) (A : Option Addr) (c : Nat) (gs : List (Int × Int)) (se sv : Value) (w : World) (B : Nat)
    (hl : gs.length ≤ 2000) (hix : Blk w ib 95 #[.slice A gs.length c, .int .u32 0, .int .i32 0, se, sv, .bool false]) (hg : Gr w B A gs) (hB : B ≤ ib) :
    Calls Try.prog 81 #[.pointer (some ⟨ib, 1, none⟩), .func (.func 79) #[.pointer (some ⟨ib, 0, none⟩)] #[]] w
      fun e w' => e = .returned (.tuple #[]) ∧ Built w' ib w.heap.size A c gs (.int .u32 1) (.int .i32 0) se ∧ w.grownBy w' (some ib) := by
  have c2 := hix.cell 2
  have f2 := hix.frozen 2
  simp only [List.getElem?_toArray, List.getElem?_cons_zero, List.getElem?_cons_succ] at c2
  have h1 := hix.put 2 (.int .i32 1)
  have e1 : #[Value.slice A gs.length c, .int .u32 0, .int .i32 0, se, sv, .bool false].setIfInBounds 2 (.int .i32 1) = #[Value.slice A gs.length c, .int .u32 0, .int .i32 1, se, sv, .bool false] := rfl
  rw [e1] at h1
  have hg1 : Gr (w.setCell ⟨ib, 2, none⟩ (.int .i32 1)) B A gs := hg.keep fun p hp => World.cell?_setCell_other w _ p _ (fun e => by subst e; simp at hp; omega)
  have hbd := build_any ib A c gs (.int .u32 0) (.int .i32 1) se sv _ B hl h1 hg1 hB
  have c1 := h1.cell 1
  simp only [List.getElem?_toArray, List.getElem?_cons_zero, List.getElem?_cons_succ] at c1
  have hl := run_call_load (P := Try.prog) Try.func84 (by kernel_rfl) (by kernel_rfl) (by kernel_rfl) .u32 (by kernel_rfl) c1
  have hnot : ∀ (x : Bool) (w : World), (Op.unary .not (.bool x)).run Try.prog w = .ok (.bool (!x)) w := fun _ _ => rfl
  have HBD := Lib.hid hbd
  clear hbd e1
  go_enter_defers Try.func81, Try.ntmps81
  go_wp2_with (first | (go_at_call 85; refine (once_lock ⟨ib, 2, none⟩ _ c2 f2).mono ?_; rintro e w' ⟨rfl, rfl⟩) | (go_at_call 80; go_in) | (go_at_call 79; refine HBD.out.mono ?_; rintro e w2 ⟨rfl, hbt, hgr⟩))
  obtain ⟨sb, m, S, hk, hlo, hsb, hrow, htab, hm, hlt⟩ := hbt
  have hibl := hix.lt
  have hne : sb ≠ ib := by simp at hlo; omega
  have hk1 := hk.cell 1
  have hk2 := hk.cell 2
  simp only [List.getElem?_toArray, List.getElem?_cons_zero, List.getElem?_cons_succ] at hk1 hk2
  refine leaves_cons (f := 87) (args := #[.pointer (some ⟨ib, 1, none⟩), .bool true]) (by simp) (by simp [go_sem]) ?_
  refine (once_store ⟨ib, 1, none⟩ (.int .u32 0) .returning _ hk1 (hk.frozen 1)).mono ?_
  rintro e u' w3 ⟨rfl, rfl, rfl⟩
  have hk' : Blk (w2.drew.setCell ⟨ib, 1, none⟩ (.int .u32 1)) ib 95 #[.slice A gs.length c, .int .u32 1, .int .i32 1, se, .slice (some ⟨sb, 0, none⟩) (2 ^ m) (2 ^ m), .bool (!Gm.nodB gs)] := Blk.put (w := w2.drew) hk 1 (.int .u32 1)
  have hk3 := hk'.cell 2
  simp only [List.getElem?_toArray, List.getElem?_cons_zero, List.getElem?_cons_succ] at hk3
  refine leaves_cons (f := 86) (args := #[.pointer (some ⟨ib, 2, none⟩)]) (by simp [settle]) (by simp [go_sem]) ?_
  refine (once_unlock ⟨ib, 2, none⟩ _ _ hk3 (hk'.frozen 2)).mono ?_
  rintro e u' w4 ⟨rfl, rfl, rfl⟩
  have hfin : Built ((w2.drew.setCell ⟨ib, 1, none⟩ (.int .u32 1)).setCell ⟨ib, 2, none⟩ (.int .i32 0)) ib w.heap.size A c gs (.int .u32 1) (.int .i32 0) se := by
    refine ⟨sb, m, S, hk'.put 2 (.int .i32 0), by simpa using hlo, by simpa [World.setCell] using hsb, fun i hi => ?_, htab, hm, hlt⟩
    rw [World.cell?_setCell_other _ ⟨ib, 2, none⟩ ⟨sb, i, none⟩ _ (fun e => hne (congrArg Addr.block e).symm), World.cell?_setCell_other _ ⟨ib, 1, none⟩ ⟨sb, i, none⟩ _ (fun e => hne (congrArg Addr.block e).symm)]
    exact hrow i hi
  have hgf : w.grownBy ((w2.drew.setCell ⟨ib, 1, none⟩ (.int .u32 1)).setCell ⟨ib, 2, none⟩ (.int .i32 0)) (some ib) := by
    have h0 : w.grownBy (w.setCell ⟨ib, 2, none⟩ (.int .i32 1)) (some ib) := grown_set (World.grownBy.refl w _) (Or.inl rfl) _
    have h1 : w.grownBy w2.drew (some ib) := ⟨hgr.os.trans h0.os, hgr.tape.trans h0.tape, hgr.output.trans h0.output, Nat.le_trans h0.size hgr.size, fun i hi hn => (hgr.block i (by simpa using hi) hn).trans (h0.block i hi hn)⟩
    exact grown_set (p := ⟨ib, 2, none⟩) (grown_set (p := ⟨ib, 1, none⟩) h1 (Or.inl rfl) (.int .u32 1)) (Or.inl rfl) (.int .i32 0)
  simp [Leaves, settle, results, Try.results81]
  exact ⟨hfin, hgf⟩

set_option maxRecDepth 100000 in
set_option maxHeartbeats 1600000 in
theorem do_first (ib : Nat) (A : Option Addr) (c : Nat) (gs : List (Int × Int)) (se sv : Value) (w : World) (B : Nat)
    (hl : gs.length ≤ 2000) (hix : Blk w ib 95 #[.slice A gs.length c, .int .u32 0, .int .i32 0, se, sv, .bool false]) (hg : Gr w B A gs) (hB : B ≤ ib) :
    Calls Try.prog 78 #[.pointer (some ⟨ib, 1, none⟩), .func (.func 79) #[.pointer (some ⟨ib, 0, none⟩)] #[]] w
      fun e w' => e = .returned (.tuple #[]) ∧ Built w' ib w.heap.size A c gs (.int .u32 1) (.int .i32 0) se ∧ w.grownBy w' (some ib) := by
  have c1 := hix.cell 1
  simp only [List.getElem?_toArray, List.getElem?_cons_zero, List.getElem?_cons_succ] at c1
  have hld := run_call_load (P := Try.prog) Try.func84 (by kernel_rfl) (by kernel_rfl) (by kernel_rfl) .u32 (by kernel_rfl) c1
  have hnot : ∀ (x : Bool) (w : World), (Op.unary .not (.bool x)).run Try.prog w = .ok (.bool (!x)) w := fun _ _ => rfl
  have HS := Lib.hid (once_slow ib A c gs se sv w B hl hix hg hB)
  go_enter Try.func78, Try.ntmps78
  go_wp2_with (first | (go_at_call 81; refine HS.out.mono ?_; rintro e w' ⟨rfl, hb, hgr⟩) | (go_at_call 80; go_in))
  go_end0
  exact ⟨rfl, hb, hgr⟩

theorem do_done (a : Addr) (fv : Value) (w : World) (h0 : w.cell? a = some (.int .u32 1)) :
    Calls Try.prog 78 #[.pointer (some a), fv] w fun e w' => e = .returned (.tuple #[]) ∧ w = w' := by
  have hld := run_call_load (P := Try.prog) Try.func84 (by kernel_rfl) (by kernel_rfl) (by kernel_rfl) .u32 (by kernel_rfl) h0
  have hnot : ∀ (x : Bool) (w : World), (Op.unary .not (.bool x)).run Try.prog w = .ok (.bool (!x)) w := fun _ _ => rfl
  go_enter Try.func78, Try.ntmps78
  go_wp2
  go_end0
  exact ⟨rfl, rfl⟩
end Go.Proofs.Yteabffdddlihnaa
