import Derived.Test.YtfpljhjndjpdmaaRiV
namespace Go.Proofs
open Go.RowKit
set_option linter.unusedVariables false

/-! ### A ring that is not there, and a zero one -/
/-- A zero ring at block g. -/
def ZeroAt (w : World) (g : Nat) : Prop := Blk w g 49 #[.slice none 0 0, .int .i64 0, .int .i64 0]
theorem ZeroAt.quiet {w w' : World} {g : Nat} (h : ZeroAt w g) (hc : Chg [] w w') : ZeroAt w' g := Blk.chg h hc (by simp)
theorem zlen {w : World} {g : Nat} (h : ZeroAt w g) : Calls Try.prog 14 #[.pointer (some ⟨g, 0, none⟩)] w fun e w' => e = .returned (.int .i64 0) ∧ w = w' := by
  have c2 := Blk.cell h 2
  clear h
  go_enter Try.func14, Try.ntmps14
  go_wp2
  go_ret
  exact ⟨rfl, rfl⟩
theorem zmost {w : World} {g : Nat} (h : ZeroAt w g) : Calls Try.prog 21 #[.pointer (some ⟨g, 0, none⟩)] w fun e w' => e = .returned (.int .i64 0) ∧ w = w' := by
  have c0 := Blk.cell h 0
  clear h
  go_enter Try.func21, Try.ntmps21
  go_wp2
  go_ret
  exact ⟨rfl, rfl⟩
theorem zpieces {w : World} {g : Nat} (h : ZeroAt w g) : Calls Try.prog 31 #[.pointer (some ⟨g, 0, none⟩)] w fun e w' => ∃ v, e = .returned v ∧ Pieces v [] w' [] ∧ Chg [] w w' := by
  have c0 := Blk.cell h 0
  have c1 := Blk.cell h 1
  have c2 := Blk.cell h 2
  have lg := Blk.lt h
  have n0 := World.new_ne w _ c0
  have k0 : (w.alloc (.cells #[.slice none 0 0, .slice none 0 0] 57)).cell? ⟨g, 0, none⟩ = _ := (World.cell?_alloc_past _ _ _ lg).trans c0
  have k1 : (w.alloc (.cells #[.slice none 0 0, .slice none 0 0] 57)).cell? ⟨g, 1, none⟩ = _ := (World.cell?_alloc_past _ _ _ lg).trans c1
  have k2 : (w.alloc (.cells #[.slice none 0 0, .slice none 0 0] 57)).cell? ⟨g, 2, none⟩ = _ := (World.cell?_alloc_past _ _ _ lg).trans c2
  clear h
  go_enter Try.func31, Try.ntmps31
  go_wp2
  go_quiet (fail)
  go_wp2
  go_quiet (fail)
  go_wp2
  go_region_held3 (fun w' => w'.cell? ⟨g, 0, none⟩ = some (.slice none 0 0) ∧ w'.cell? ⟨g, 1, none⟩ = some (.int .i64 0)) (go_keep) (fail)
  go_wp2
  exact bodyPost_ret (v := .agg #[.slice none 0 0, .slice none 0 0]) (by simp [results, Try.results31, go_sem]) rfl ⟨_, rfl, ⟨_, _, [], [], rfl, Rd.nil _, Rd.nil _, rfl, by simp [foot_nil], by simp [foot_nil]⟩, still2 _ _ _ _ _ _ _⟩
theorem ZeroAt.has {w : World} {g : Nat} (h : ZeroAt w g) : Has w (.pointer (some ⟨g, 0, none⟩)) [] := fun W hW =>
  ⟨(zpieces (h.quiet hW)).mono fun e w' ⟨v, h1, h2, h3⟩ => ⟨v, _, h1, h2, h3⟩, zlen (h.quiet hW)⟩
theorem ZeroAt.room {w : World} {g : Nat} (h : ZeroAt w g) : Room w (.pointer (some ⟨g, 0, none⟩)) 0 := fun W hW => zmost (h.quiet hW)
/-- What a receiver without anything answers. -/
theorem npop {w : World} {r : Value} (h : Has w r []) : Calls Try.prog 13 #[r] w fun e w' => e = .returned (.tuple #[.int .i64 0, .bool false]) ∧ w = w' := by
  have HA := (h w (Chg.refl _ _)).2
  clear h
  go_enter Try.func13, Try.ntmps13
  go_wp2_with (go_at_call 14; refine HA.mono ?_; rintro e w' ⟨rfl, rfl⟩)
  go_ret2
  exact ⟨rfl, rfl⟩
theorem npush {w : World} {r : Value} (h : Room w r 0) (x : Int) : Calls Try.prog 12 #[r, .int .i64 x] w fun e w' => e = .returned (.int .i64 1) ∧ w = w' := by
  have HA := h w (Chg.refl _ _)
  clear h
  go_enter Try.func12, Try.ntmps12
  go_wp2_with (go_at_call 21; refine HA.mono ?_; rintro e w' ⟨rfl, rfl⟩)
  go_ret
  exact ⟨rfl, rfl⟩
theorem ntake {w : World} {r : Value} (h : Has w r []) : Calls Try.prog 15 #[r, .int .i64 3] w fun e w' => e = .returned (.slice none 0 0) ∧ w = w' := by
  have HA := (h w (Chg.refl _ _)).2
  clear h
  go_enter Try.func15, Try.ntmps15
  go_wp2_with (go_at_call 14; refine HA.mono ?_; rintro e w' ⟨rfl, rfl⟩)
  go_loop [5, 12] (fun l i => l = .slice none 0 0 ∧ i = .int .i64 0) (fun l i => 0)
  case atStart => exact ⟨rfl, rfl⟩
  case round =>
    obtain ⟨rfl, rfl⟩ := hrel
    go_wp2
    go_ret
    exact ⟨rfl, rfl⟩
theorem nhas {w : World} {r : Value} (h : Has w r []) : Calls Try.prog 20 #[r, .int .i64 1] w fun e w' => e = .returned (.bool false) ∧ Chg [] w w' := has_of (by simp) h 1
theorem nremove {w : World} {r : Value} (h : Has w r []) : Calls Try.prog 19 #[r, .int .i64 1] w fun e w' => e = .returned (.bool false) ∧ Chg [] w w' := remove_no (by simp) h 1 (by simp [findAt])
theorem nsame {w : World} {r o : Value} (h : Has w r []) (ho : Has w o []) (hr : Room w r 0) (hro : Room w o 0) : Calls Try.prog 18 #[r, o] w fun e w' => e = .returned (.bool true) ∧ Chg [] w w' := same_yes (by simp) (by simp) h ho hr hro
theorem Has.len0 {w : World} {r : Value} (h : Has w r []) : Calls Try.prog 14 #[r] w fun e w' => e = .returned (.int .i64 0) ∧ w = w' := (h w (Chg.refl _ _)).2
theorem Room.at0 {w : World} {r : Value} (h : Room w r 0) : Calls Try.prog 21 #[r] w fun e w' => e = .returned (.int .i64 0) ∧ w = w' := h w (Chg.refl _ _)
theorem Room.quiet {w w' : World} {r : Value} {M : Nat} (h : Room w r M) (hc : Chg [] w w') : Room w' r M := fun W hW => h W (hc.then hW)
set_option maxRecDepth 100000 in
set_option maxHeartbeats 3200000 in
theorem nil_any (w : World) : Calls Try.prog 7 #[] w fun e w' => e = .returned (.bool true) ∧ Chg [] w w' := by
  have hz : ZeroAt (w.alloc (.cells #[.slice none 0 0, .int .i64 0, .int .i64 0] 49)) w.heap.size := Blk.new w 49 _
  have HZ := Lib.hid hz.has
  have HR := Lib.hid hz.room
  have p13n := npop (has_nil (w.alloc (.cells #[.slice none 0 0, .int .i64 0, .int .i64 0] 49)))
  have p13z := npop HZ.out
  have p12n := npush (room_nil (w.alloc (.cells #[.slice none 0 0, .int .i64 0, .int .i64 0] 49))) 1
  have p12z := npush HR.out 1
  have p15n := ntake (has_nil (w.alloc (.cells #[.slice none 0 0, .int .i64 0, .int .i64 0] 49)))
  have p15z := ntake HZ.out
  have p19 := nremove (has_nil (w.alloc (.cells #[.slice none 0 0, .int .i64 0, .int .i64 0] 49)))
  clear hz
  go_enter Try.func7, Try.ntmps7
  go_wp2_with (first
    | (go_at_call 13; ((with_reducible refine p13n.mono ?_); rintro e w' ⟨rfl, rfl⟩))
    | (go_at_call 13; ((with_reducible refine p13z.mono ?_); rintro e w' ⟨rfl, rfl⟩))
    | (go_at_call 12; ((with_reducible refine p12n.mono ?_); rintro e w' ⟨rfl, rfl⟩))
    | (go_at_call 12; ((with_reducible refine p12z.mono ?_); rintro e w' ⟨rfl, rfl⟩))
    | (go_at_call 15; ((with_reducible refine p15n.mono ?_); rintro e w' ⟨rfl, rfl⟩))
    | (go_at_call 15; ((with_reducible refine p15z.mono ?_); rintro e w' ⟨rfl, rfl⟩))
    | (go_at_call 19; ((with_reducible refine p19.mono ?_); rintro e w1 ⟨rfl, hc⟩); have C1 := Lib.hid hc; clear hc)
    | (go_at_call 20; ((with_reducible refine (nhas (HZ.out.quiet C1.out)).mono ?_); rintro e w2 ⟨rfl, hc⟩); have C2 := Lib.hid (C1.out.then hc); clear hc)
    | (go_at_call 14; ((with_reducible refine (len_nil _).mono ?_); rintro e w' ⟨rfl, rfl⟩))
    | (go_at_call 14; ((with_reducible refine (HZ.out.quiet C2.out).len0.mono ?_); rintro e w' ⟨rfl, rfl⟩))
    | (go_at_call 21; ((with_reducible refine (most_nil _).mono ?_); rintro e w' ⟨rfl, rfl⟩))
    | (go_at_call 21; ((with_reducible refine (HR.out.quiet C2.out).at0.mono ?_); rintro e w' ⟨rfl, rfl⟩))
    | (go_at_call 17; ((with_reducible refine (copy_nil _).mono ?_); rintro e w' ⟨rfl, rfl⟩))
    | (go_at_call 18; ((with_reducible refine (nsame (has_nil _) (HZ.out.quiet C2.out) (room_nil _) (HR.out.quiet C2.out)).mono ?_); rintro e w3 ⟨rfl, hc⟩); have C3 := Lib.hid (C2.out.then hc); clear hc)
    | (go_at_call 18; ((with_reducible refine (nsame (HZ.out.quiet C3.out) (has_nil _) (HR.out.quiet C3.out) (room_nil _)).mono ?_); rintro e w4 ⟨rfl, hc⟩); have C4 := Lib.hid (C3.out.then hc); clear hc)
    | (go_at_call 9; refine (known_any _).mono ?_; rintro e w5 ⟨rfl, hc⟩; have C5 := Lib.hid (C4.out.then hc); clear hc))
  go_ret
  exact ⟨rfl, ((Chg.refl _ _).alloc _).then C5.out⟩
end Go.Proofs
