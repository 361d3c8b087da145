import Derived.Test.YtoddffpbbnicpaaProg
import Derived.Test.YtoddffpbbnicpaaShelf
import Derived.Test.YtoddffpbbnicpaaRuB
import Derived.WalkKit
import Derived.WalkSpells
import Derived.Laws.Pointers
import Derived.Outline
import Derived.BigQuiet
import Derived.Deep.QuietTactic
import Derived.Deep.DeepFit
import Derived.Deep.RegionHeld3
import Derived.Deep.RegionLaw
import Derived.KernelRfl
import Derived.IntWalk
import Derived.LoopTactic
import Derived.StillTailTactics
import Derived.BigRegion
import Derived.ChangeAlike
namespace Go.Proofs
open Go.RowKit
set_option linter.unusedVariables false

/-- A ring in memory: at block g, its slots in block h: it has room for M, and the row L. -/
def RingAt (w : World) (g h M : Nat) (L : List Int) : Prop :=
  ∃ (zs : List Int) (f c : Nat), Lies M zs f L ∧ Blk w g 76 #[.slice (some ⟨h, 0, none⟩) M c, .int .i64 f, .int .i64 L.length] ∧ Row w 3 1 (.slice (some ⟨h, 0, none⟩) M c) M (ints zs)
section
variable {w w' : World} {g h M : Nat} {L : List Int}
theorem RingAt.lt (H : RingAt w g h M L) : ∀ k ∈ [g, h], k < w.heap.size := by
  obtain ⟨zs, f, c, hl, hB, hR⟩ := H
  intro k hk
  simp at hk
  rcases hk with rfl | rfl
  · exact hB.lt
  · exact hR.lt _ (by simp [foot_some])
theorem RingAt.same (H : RingAt w g h M L) (hk : ∀ k ∈ [g, h], w'.heap[k]? = w.heap[k]?) : RingAt w' g h M L := by
  obtain ⟨zs, f, c, hl, hB, hR⟩ := H
  exact ⟨zs, f, c, hl, hB.same (hk g (by simp)), hR.same (fun k h => hk k (by simp [foot_some] at h; simp [h]))⟩
theorem RingAt.chg {S : List Nat} (H : RingAt w g h M L) (hc : Chg S w w') (hn : ∀ k ∈ [g, h], k ∉ S) : RingAt w' g h M L := H.same fun k hk => hc.block k (H.lt k hk) (hn k hk)
theorem RingAt.quiet (H : RingAt w g h M L) (hc : Chg [] w w') : RingAt w' g h M L := H.chg hc (fun _ _ hk => by cases hk)
theorem RingAt.ne (H : RingAt w g h M L) : g ≠ h := by
  obtain ⟨zs, f, c, hl, hB, hR⟩ := H
  have := hR.ty hB (by decide)
  simpa [foot_some] using this
end
theorem len_any {w : World} {g h M : Nat} {L : List Int} (H : RingAt w g h M L) :
    Calls Try.prog 49 #[.pointer (some ⟨g, 0, none⟩)] w fun e w' => e = .returned (.int .i64 L.length) ∧ w = w' := by
  obtain ⟨zs, f, c, hl, hB, hR⟩ := H
  have c2 := hB.cell 2
  clear hB hR hl
  go_enter Try.func49, Try.ntmps49
  go_wp2
  go_ret
  exact ⟨rfl, rfl⟩
theorem most_any {w : World} {g h M : Nat} {L : List Int} (H : RingAt w g h M L) :
    Calls Try.prog 57 #[.pointer (some ⟨g, 0, none⟩)] w fun e w' => e = .returned (.int .i64 M) ∧ w = w' := by
  obtain ⟨zs, f, c, hl, hB, hR⟩ := H
  have c0 := hB.cell 0
  clear hB hR hl
  go_enter Try.func57, Try.ntmps57
  go_wp2
  go_ret
  exact ⟨rfl, rfl⟩
theorem Blk.at (w : World) (t : TypeId) (cs : Array Value) {n : Nat} (h : n = w.heap.size) : Blk (w.alloc (.cells cs t)) n t cs := by subst h; exact Blk.new w t cs
/-- The closure that reckons places: it has the front and how much room there is. -/
def Reckons (w : World) (v : Value) (f M B : Nat) : Prop :=
  ∃ p q, v = .func (.func 68) #[] #[.pointer (some ⟨p, 0, none⟩), .pointer (some ⟨q, 0, none⟩)] ∧ Blk w p 3 #[.int .i64 f] ∧ Blk w q 3 #[.int .i64 M] ∧ B ≤ p ∧ B ≤ q
theorem place_any {w : World} {g h M f c : Nat} {zs L : List Int} (hl : Lies M zs f L) (hB : Blk w g 76 #[.slice (some ⟨h, 0, none⟩) M c, .int .i64 f, .int .i64 L.length]) :
    Calls Try.prog 58 #[.pointer (some ⟨g, 0, none⟩)] w fun e w' => ∃ v, e = .returned v ∧ Reckons w' v f M w.heap.size ∧ Chg [] w w' := by
  have c0 := hB.cell 0
  have c1 := hB.cell 1
  clear hB hl
  have n0 := World.new_ne w _ c0
  have n1 := World.new_ne w _ c1
  go_enter Try.func58, Try.ntmps58
  go_wp2
  go_region_held3 (fun w' => w'.cell? ⟨g, 0, none⟩ = some (.slice (some ⟨h, 0, none⟩) M c) ∧ w'.cell? ⟨g, 1, none⟩ = some (.int .i64 f)) (go_keep) (fail)
  all_goals
    go_wp2
    go_ret
    first
      | exact ⟨_, rfl, ⟨_, _, rfl, ((Blk.new w 3 _).alloc _).drew, (Blk.at (w.alloc _) 3 _ (by simp)).drew, Nat.le_refl _, Nat.le_succ _⟩, (((Chg.refl _ _).alloc _).alloc _).drew⟩
      | exact ⟨_, rfl, ⟨_, _, rfl, (Blk.at (w.alloc _) 3 _ (by simp)).drew, ((Blk.new w 3 _).alloc _).drew, Nat.le_succ _, Nat.le_refl _⟩, (((Chg.refl _ _).alloc _).alloc _).drew⟩
theorem reckon_any {w : World} {p q f M k : Nat} (h0 : 0 < M) (h1 : M ≤ 4096) (hf : f < M) (hk : k ≤ 8192) (hp : Blk w p 3 #[.int .i64 f]) (hq : Blk w q 3 #[.int .i64 M]) :
    Calls Try.prog 68 #[.int .i64 (k : Nat), .pointer (some ⟨p, 0, none⟩), .pointer (some ⟨q, 0, none⟩)] w fun e w' => e = .returned (.int .i64 (((f + k) % M : Nat) : Int)) ∧ w = w' := by
  have c0 := hp.cell 0
  have c1 := hq.cell 0
  clear hp hq
  have hM : (M : Int) ≠ 0 := by omega
  go_enter Try.func68, Try.ntmps68
  go_wp2
  go_ret
  exact ⟨by push_cast; rfl, rfl⟩
set_option maxHeartbeats 800000 in
theorem push_full {w : World} {g h M : Nat} {L : List Int} (H : RingAt w g h M L) (x : Int) (hm : ¬ L.length < M) :
    Calls Try.prog 38 #[.pointer (some ⟨g, 0, none⟩), .int .i64 x] w fun e w' => e = .returned (.int .i64 3) ∧ Chg [] w w' := by
  obtain ⟨zs, f, c, hl, hB, hR⟩ := id H
  have z0 := hl.z0
  have hmm := hl.many
  obtain ⟨m, hmL⟩ : ∃ m, m = L.length := ⟨_, rfl⟩
  have c2 := hB.cell 2
  simp only [List.getElem?_toArray, List.getElem?_cons_succ, List.getElem?_cons_zero, ← hmL] at c2
  rw [← hmL] at hm hmm
  obtain rfl : m = M := by omega
  have HA := most_any H
  have HQ : ∀ n, Calls Try.prog 57 #[.pointer (some ⟨g, 0, none⟩)] (w.drewN n) fun e w' => e = .returned (.int .i64 m) ∧ w' = w.drewN n := fun n => (most_any (H.quiet ((Chg.refl _ _).drewN n))).mono fun e w' ⟨h1, h2⟩ => ⟨h1, h2.symm⟩
  have hz : ((m : Int) == 0) = false := by simp; omega
  have he : ((m : Int) == (m : Int)) = true := by simp
  clear hB hl hR hmL hm
  go_enter Try.func38, Try.ntmps38
  go_wp2_with (go_at_call 57; refine HA.mono ?_; rintro e w' ⟨rfl, rfl⟩)
  go_quiet ((go_at_call 57; exact Calls.quiet_of_same (HQ _)))
  go_wp2
  go_ret
  exact ⟨rfl, (Chg.refl _ _).drewN _⟩

theorem RingAt.push {w w1 : World} {g h M f c : Nat} {zs L : List Int} (hl : Lies M zs f L) (hB : Blk w g 76 #[.slice (some ⟨h, 0, none⟩) M c, .int .i64 f, .int .i64 L.length]) (hR : Row w 3 1 (.slice (some ⟨h, 0, none⟩) M c) M (ints zs)) (hr : L.length < M) (x : Int) (hc : Chg [] w w1) :
    RingAt ((w1.setCell ⟨h, (f + L.length) % M, none⟩ (.int .i64 x)).setCell ⟨g, 2, none⟩ (.int .i64 (L.length + 1))) g h M (L ++ [x]) ∧
    Chg [g, h] w ((w1.setCell ⟨h, (f + L.length) % M, none⟩ (.int .i64 x)).setCell ⟨g, 2, none⟩ (.int .i64 (L.length + 1))) := by
  have hne : g ≠ h := by
    have := hR.ty hB (by decide)
    simpa [foot_some] using this
  have hB1 := hB.chg hc (by simp)
  have hR1 := hR.chg hc (fun _ _ h => by cases h)
  refine ⟨⟨_, f, c, hl.push hr x, ?_, ?_⟩, ?_⟩
  · have := (hB1.far (p := ⟨h, (f + L.length) % M, none⟩) hne (.int .i64 x)).set_ 2 (.int .i64 (L.length + 1))
    simpa using this
  · rw [ints_set]
    exact (hR1.set_ (by have := hl.place L.length; omega) (.int .i64 x)).far (by simpa [foot_some] using hne) _
  · exact (hc.any.setCell (p := ⟨h, _, none⟩) (.inl (by simp)) _).setCell (p := ⟨g, 2, none⟩) (.inl (by simp)) _
set_option maxHeartbeats 1600000 in
theorem push_room {w : World} {g h M : Nat} {L : List Int} (H : RingAt w g h M L) (x : Int) (hm : L.length < M) :
    Calls Try.prog 38 #[.pointer (some ⟨g, 0, none⟩), .int .i64 x] w fun e w' => e = .returned (.int .i64 0) ∧ RingAt w' g h M (L ++ [x]) ∧ Chg [g, h] w w' := by
  obtain ⟨zs, f, c, hl, hB, hR⟩ := id H
  have HP := Lib.hid (fun w1 => RingAt.push (w1 := w1) hl hB hR hm x)
  have HK := Lib.hid hl
  have HBB := Lib.hid hB
  have z0 := hl.z0
  have z1 := hl.z1
  have hf := hl.front
  have hpl := hl.place L.length
  obtain ⟨m, hmL⟩ : ∃ m, m = L.length := ⟨_, rfl⟩
  have c2 := hB.cell 2
  have c0 := hB.cell 0
  have f2 := hB.frozen 2
  have lg := hB.lt
  obtain ⟨_, _, _, _, _, hcell, hfz, lh⟩ := hR.form (by omega)
  simp only [List.getElem?_toArray, List.getElem?_cons_succ, List.getElem?_cons_zero, ← hmL] at c2 c0
  rw [← hmL] at hm hpl
  have HA := most_any H
  have HQ : ∀ n, Calls Try.prog 57 #[.pointer (some ⟨g, 0, none⟩)] (w.drewN n) fun e w' => e = .returned (.int .i64 M) ∧ w' = w.drewN n := fun n => (most_any (H.quiet ((Chg.refl _ _).drewN n))).mono fun e w' ⟨h1, h2⟩ => ⟨h1, h2.symm⟩
  have HPl := Lib.hid (fun w1 (hc : Chg [] w w1) => place_any hl (hB.chg hc (by simp)))
  have hz : ((M : Int) == 0) = false := by simp; omega
  have he : ((m : Int) == (M : Int)) = false := by simp; omega
  have hML := Lib.hid hmL
  clear hB hl hR hmL
  go_enter Try.func38, Try.ntmps38
  go_wp2_with (go_at_call 57; refine HA.mono ?_; rintro e w' ⟨rfl, rfl⟩)
  go_quiet ((go_at_call 57; exact Calls.quiet_of_same (HQ _)))
  go_wp2_with (go_at_call 58; refine (HPl.out _ ((Chg.refl _ _).drewN _)).mono ?_; rintro e w1 ⟨v, rfl, ⟨p, q, rfl, hp, hq, _, _⟩, hc1⟩)
  have k0 := (hc1.cell (p := ⟨g, 0, none⟩) lg (by simp)).trans c0
  have k2 := (hc1.cell (p := ⟨g, 2, none⟩) lg (by simp)).trans c2
  have q2 := (hc1.frozen (p := ⟨g, 2, none⟩) lg (by simp)).trans f2
  have HC : ∀ W : World, W.heap = w1.heap → Calls Try.prog 68 #[.int .i64 (m : Nat), .pointer (some ⟨p, 0, none⟩), .pointer (some ⟨q, 0, none⟩)] W fun e w' => e = .returned (.int .i64 (((f + m) % M : Nat) : Int)) ∧ W = w' :=
    fun W hW => reckon_any z0 z1 hf (by omega) (by unfold Blk at hp ⊢; rw [hW]; exact hp) (by unfold Blk at hq ⊢; rw [hW]; exact hq)
  obtain ⟨x0, hx0⟩ : ∃ x0, w1.cell? ⟨h, (f + m) % M, none⟩ = some x0 := by
    have hx : (f + m) % M < (ints zs).length := by rw [ints_len, HK.out.len]; exact hpl
    have := hcell _ _ (List.getElem?_eq_getElem hx)
    exact ⟨_, (hc1.cell (p := ⟨h, _, none⟩) lh (by simp)).trans this⟩
  have fx := (hc1.frozen (p := ⟨h, (f + m) % M, none⟩) lh (by simp)).trans (hfz _)
  obtain ⟨P, hP⟩ : ∃ P, P = (f + m) % M := ⟨_, rfl⟩
  rw [← hP] at HC hx0 fx hpl
  have hPP := Lib.hid hP
  have hgh : g ≠ h := H.ne
  have hhg : h ≠ g := fun e => H.ne e.symm
  have i0 : (0 : Int) ≤ (P : Int) := by omega
  have i1 : (P : Int) < (M : Int) := by omega
  clear hP hp hq hcell hfz HA HQ
  go_region_held3 (fun w' => w'.cell? ⟨g, 0, none⟩ = some (.slice (some ⟨h, 0, none⟩) M c) ∧ w'.cell? ⟨g, 2, none⟩ = some (.int .i64 m)) (go_keep)
    (first | (go_at_call 68; refine (HC _ (by rfl)).mono ?_; rintro e w' ⟨rfl, rfl⟩))
  all_goals
    go_wp2
    go_ret
    have hfin := HP.out w1 (((Chg.refl _ _).drewN _).then hc1)
    rw [← hML.out, ← hPP.out] at hfin
    exact ⟨rfl, hfin.1.quiet (Chg.refl _ _).drew, hfin.2.drew⟩
theorem pop_none {w : World} {g h M : Nat} (H : RingAt w g h M []) :
    Calls Try.prog 44 #[.pointer (some ⟨g, 0, none⟩)] w fun e w' => e = .returned (.tuple #[.int .i64 0, .bool false]) ∧ w = w' := by
  have HA := len_any H
  go_enter Try.func44, Try.ntmps44
  go_wp2_with (go_at_call 49; refine HA.mono ?_; rintro e w' ⟨rfl, rfl⟩)
  go_ret2
  exact ⟨rfl, rfl⟩
theorem RingAt.pop {w w1 : World} {g h M f c : Nat} {zs L : List Int} {x : Int} (hl : Lies M zs f (x :: L)) (hB : Blk w g 76 #[.slice (some ⟨h, 0, none⟩) M c, .int .i64 f, .int .i64 (x :: L).length]) (hR : Row w 3 1 (.slice (some ⟨h, 0, none⟩) M c) M (ints zs)) (hc : Chg [] w w1) :
    RingAt ((w1.setCell ⟨g, 1, none⟩ (.int .i64 (((f + 1) % M : Nat) : Int))).setCell ⟨g, 2, none⟩ (.int .i64 L.length)) g h M L ∧
    Chg [g, h] w ((w1.setCell ⟨g, 1, none⟩ (.int .i64 (((f + 1) % M : Nat) : Int))).setCell ⟨g, 2, none⟩ (.int .i64 L.length)) := by
  have hne : g ≠ h := by
    have := hR.ty hB (by decide)
    simpa [foot_some] using this
  have hB1 := hB.chg hc (by simp)
  have hR1 := hR.chg hc (fun _ _ h => by cases h)
  refine ⟨⟨_, (f + 1) % M, c, hl.tail, ?_, ?_⟩, ?_⟩
  · have := (hB1.set_ 1 (.int .i64 (((f + 1) % M : Nat) : Int))).set_ 2 (.int .i64 L.length)
    simpa using this
  · exact (hR1.far (by simpa [foot_some] using hne) _).far (by simpa [foot_some] using hne) _
  · exact (hc.any.setCell (p := ⟨g, 1, none⟩) (.inl (by simp)) _).setCell (p := ⟨g, 2, none⟩) (.inl (by simp)) _
set_option maxHeartbeats 1600000 in
theorem pop_some {w : World} {g h M : Nat} {L : List Int} {x : Int} (H : RingAt w g h M (x :: L)) :
    Calls Try.prog 44 #[.pointer (some ⟨g, 0, none⟩)] w fun e w' => e = .returned (.tuple #[.int .i64 x, .bool true]) ∧ RingAt w' g h M L ∧ Chg [g, h] w w' := by
  obtain ⟨zs, f, c, hl, hB, hR⟩ := id H
  have HP := Lib.hid (fun w1 => RingAt.pop (w1 := w1) hl hB hR)
  have z0 := hl.z0
  have z1 := hl.z1
  have hf := hl.front
  have hmany := hl.many
  obtain ⟨m, hmL⟩ : ∃ m, m = L.length := ⟨_, rfl⟩
  have hlen : (x :: L).length = m + 1 := by rw [hmL]; rfl
  rw [hlen] at hmany
  have c1 := hB.cell 1
  have f1 := hB.frozen 1
  have c2 := hB.cell 2
  have c0 := hB.cell 0
  have f2 := hB.frozen 2
  have lg := hB.lt
  obtain ⟨_, _, _, _, _, hcell, hfz, lh⟩ := hR.form (by omega)
  have hx := hcell f _ (ints_at hl.head)
  simp only [List.getElem?_toArray, List.getElem?_cons_succ, List.getElem?_cons_zero, hlen] at c2 c0 c1
  have HA : ∀ W, Chg [] w W → Calls Try.prog 49 #[.pointer (some ⟨g, 0, none⟩)] W fun e w' => e = .returned (.int .i64 ((m + 1 : Nat) : Int)) ∧ W = w' := fun W hW => by have := len_any (H.quiet hW); rwa [hlen] at this
  have HPl := Lib.hid (fun w1 (hc : Chg [] w w1) => place_any hl (hB.chg hc (by simp)))
  have hML := Lib.hid hmL
  have hz : (((m + 1 : Nat) : Int) == 0) = false := by simp; omega
  clear hB hl hR hmL hcell hfz hlen
  go_enter Try.func44, Try.ntmps44
  go_wp2_with (first
    | (go_at_call 49; refine (HA _ (Chg.refl _ _)).mono ?_; rintro e w' ⟨rfl, rfl⟩)
    | (go_at_call 58; refine (HPl.out _ (Chg.refl _ _)).mono ?_; rintro e w1 ⟨v, rfl, ⟨p, q, rfl, hp, hq, _, _⟩, hc1⟩))
  have k0 := (hc1.cell (p := ⟨g, 0, none⟩) lg (by simp)).trans c0
  have k1 := (hc1.cell (p := ⟨g, 1, none⟩) lg (by simp)).trans c1
  have q1 := (hc1.frozen (p := ⟨g, 1, none⟩) lg (by simp)).trans f1
  have k2 := (hc1.cell (p := ⟨g, 2, none⟩) lg (by simp)).trans c2
  have q2 := (hc1.frozen (p := ⟨g, 2, none⟩) lg (by simp)).trans f2
  have kx := (hc1.cell (p := ⟨h, f, none⟩) lh (by simp)).trans hx
  have HC0 : ∀ n, Calls Try.prog 68 #[.int .i64 0, .pointer (some ⟨p, 0, none⟩), .pointer (some ⟨q, 0, none⟩)] (w1.drewN n) fun e w' => e = .returned (.int .i64 (f : Nat)) ∧ w' = w1.drewN n :=
    fun n => (reckon_any (k := 0) z0 z1 hf (by omega) (hp.drewN n) (hq.drewN n)).mono fun e w' ⟨h1, h2⟩ => ⟨by rw [h1, Nat.add_zero, Nat.mod_eq_of_lt hf], h2.symm⟩
  have HC1 : ∀ n, Calls Try.prog 68 #[.int .i64 1, .pointer (some ⟨p, 0, none⟩), .pointer (some ⟨q, 0, none⟩)] (w1.drewN n) fun e w' => e = .returned (.int .i64 (((f + 1) % M : Nat) : Int)) ∧ w1.drewN n = w' :=
    fun n => (reckon_any (k := 1) z0 z1 hf (by omega) (hp.drewN n) (hq.drewN n))
  obtain ⟨P, hP⟩ : ∃ P, P = (f + 1) % M := ⟨_, rfl⟩
  rw [← hP] at HC1
  have hPP := Lib.hid hP
  have i0 : (0 : Int) ≤ (f : Int) := by omega
  have i1 : (f : Int) < (M : Int) := by omega
  clear hP hp hq HA c0 c1 c2 hx f1 f2
  go_quiet ((go_at_call 68; exact Calls.quiet_of_same (HC0 _)))
  go_wp2_with (go_at_call 68; refine (HC1 _).mono ?_; rintro e w' ⟨rfl, rfl⟩)
  go_ret2
  have hfin := HP.out w1 hc1
  rw [← hML.out, ← hPP.out] at hfin
  exact ⟨rfl, hfin.1.quiet ((Chg.refl _ _).drewN _), hfin.2.drewN _⟩
end Go.Proofs
