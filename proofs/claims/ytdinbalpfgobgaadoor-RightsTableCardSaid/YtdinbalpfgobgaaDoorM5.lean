import Derived.Test.YtdinbalpfgobgaaDoorM4
import Derived.Test.YtdinbalpfgobgaaDoorM2
import Derived.Deep.RegionHeld3
section
namespace Go.Proofs
open Go.RowKit
set_option linter.unusedVariables false
set_option linter.unusedSimpArgs false

theorem dem_args (k : Int) : (demP k).length ≤ 2 ∧ ∀ x ∈ demP k, x.arg < (rowOf k).args := by
  rcases call_cases k with rfl | rfl | rfl | rfl | rfl | rfl | rfl | rfl | rfl | rfl | rfl | rfl | rfl | rfl | rfl | rfl | rfl | rfl | rfl | rfl | rfl | rfl | hk
  case inr.inr.inr.inr.inr.inr.inr.inr.inr.inr.inr.inr.inr.inr.inr.inr.inr.inr.inr.inr.inr.inr =>
    have h1 : demP k = [] := demP_none fun x hx e => by
      have : ∀ x ∈ tableE, 1 ≤ x.1 ∧ x.1 ≤ 22 := by decide
      have := this x hx
      omega
    rw [h1]
    exact ⟨by decide, fun x hx => by simp at hx⟩
  all_goals exact ⟨by decide, by decide⟩
theorem heap_setCell {w : World} {b o : Nat} {cs : Array Value} {e : TypeId} {fz : Nat × Nat} {v : Value} (h : w.heap[b]? = some (.cells cs e fz)) : (w.setCell ⟨b, o, none⟩ v).heap[b]? = some (.cells (cs.setIfInBounds o v) e fz) := by
  simp [World.setCell, Array.getElem?_modify, h]
/-- The slice's block: what each demand speaks of stays. -/
def Rest (w : World) (b : Nat) (l : List NeedC) (n : Nat) : Prop := ∃ cs, w.heap[b]? = some (.cells cs 36 (0, 0)) ∧ cs.size = 3 * n ∧ ∀ (i : Nat) x, l[i]? = some x → cs[i * 3]? = some (.int .i64 x.arg)
theorem Rest.put {w : World} {b : Nat} {l : List NeedC} {n : Nat} (h : Rest w b l n) (j d : Nat) (hd : d = 1 ∨ d = 2) (v : Value) : Rest (w.setCell ⟨b, j * 3 + d, none⟩ v) b l n := by
  obtain ⟨cs, h1, h2, h3⟩ := h
  refine ⟨_, heap_setCell h1, by simp [h2], fun i x hx => ?_⟩
  rw [Array.getElem?_setIfInBounds_ne (by omega)]
  exact h3 i x hx
theorem Rest.cell {w : World} {b : Nat} {l : List NeedC} {n : Nat} (h : Rest w b l n) {j d : Nat} (hj : j < n) (hd : d < 3) : (∃ u, w.cell? ⟨b, j * 3 + d, none⟩ = some u) ∧ w.frozen? ⟨b, j * 3 + d, none⟩ = false := by
  obtain ⟨cs, h1, h2, _⟩ := h
  refine ⟨⟨cs[j * 3 + d]'(by omega), ?_⟩, Lib.frozen_of_heap h1 _⟩
  rw [Lib.cell_of_heap h1]
  exact Array.getElem?_eq_getElem _
theorem Rest.arg {w : World} {b : Nat} {l : List NeedC} {n : Nat} (h : Rest w b l n) {j : Nat} {x : NeedC} (hx : l[j]? = some x) : w.cell? ⟨b, j * 3, none⟩ = some (.int .i64 x.arg) := by
  obtain ⟨cs, h1, _, h3⟩ := h
  rw [Lib.cell_of_heap h1]
  exact h3 j x hx
set_option maxHeartbeats 4000000 in
set_option maxRecDepth 100000 in
theorem table_law (k : Int) (k0 : -9223372036854775808 ≤ k) (k1 : k ≤ 9223372036854775807) (w : World) (hT : TabAt w) :
    Calls Tryd.prog 3 #[.int .i64 k] w fun e w' => e = .returned (.bool true) ∧ Below w.heap.size w w' := by
  have e5 := rof_any k
  have e6 := rdem_any k
  have e7 := dem_any k k0 k1
  have e8 := fun W (hW : TabAt W) => name_any k W hW
  have e9 := fun W (hW : TabAt W) => args_any k W hW
  obtain ⟨hl2, harg⟩ := dem_args k
  obtain ⟨l, hl⟩ : ∃ l, l = demP k := ⟨_, rfl⟩
  obtain ⟨⟨nm, ar, q0, r0, q1, r1⟩, hx⟩ : ∃ x, x = rowOf k := ⟨_, rfl⟩
  rw [← hx] at e5 e8 e9 harg
  rw [← hl] at e6 e7 hl2 harg
  simp only at e8 e9 harg
  clear hl hx
  have hargH := Lib.hid harg
  clear harg
  go_enter Tryd.func3, Tryd.ntmps3
  go_wp2_with (first
    | (go_at_call 5; refine (e5 _).mono ?_; rintro e w1 ⟨rfl, b1⟩)
    | (go_at_call 6; refine (e6 _).mono ?_; rintro e w2 ⟨vw, rfl, b2, hw2⟩)
    | (go_at_call 7; refine (e7 _).mono ?_; rintro e w3 ⟨v, rfl, b3, hv3⟩))
  have hb12 : Below w.heap.size w (w1.alloc (.cells #[.string ⟨nm.toArray⟩, .int .i64 ar, .int .i64 q0, .int .i64 r0, .int .i64 q1, .int .i64 r1] 23)) := b1.alloc b1.size _
  have HW2 : Hid (Below w.heap.size w w2) := Lib.hid (hb12.trans (b2.mono hb12.size))
  have HC2 : Hid (w1.heap.size < w2.heap.size ∧ w2.cell? ⟨w1.heap.size, 0, none⟩ = some (.string ⟨nm.toArray⟩) ∧ w2.cell? ⟨w1.heap.size, 1, none⟩ = some (.int .i64 ar)) :=
    Lib.hid ⟨by have := b2.size; simp at this; omega, (b2.cell (show w1.heap.size < _ by simp)).trans (by simp), (b2.cell (show w1.heap.size < _ by simp)).trans (by simp)⟩
  have HC : Hid (∀ wx, Below w2.heap.size w2 wx → wx.cell? ⟨w1.heap.size, 0, none⟩ = some (.string ⟨nm.toArray⟩) ∧ wx.cell? ⟨w1.heap.size, 1, none⟩ = some (.int .i64 ar)) :=
    Lib.hid fun wx hb => ⟨(hb.cell (show w1.heap.size < _ from HC2.out.1)).trans HC2.out.2.1, (hb.cell (show w1.heap.size < _ from HC2.out.1)).trans HC2.out.2.2⟩
  have HT := Lib.hid (fun wx (hb : Below w2.heap.size w2 wx) => (hT.next HW2.out).next hb)
  have HR := Lib.hid (fun wx (hb : Below w2.heap.size w2 wx) => hw2.next hb)
  have HV := Lib.hid hv3
  have HB3 := Lib.hid b3
  have HV3 := Lib.hid (fun wx (hb : Below w3.heap.size w3 wx) => hv3.reads.next hb)
  obtain ⟨t0, t1⟩ := HC.out _ b3
  have hq1 : (nm == nm) = true := by simp
  have hq2 : (ar != ar) = false := by simp
  clear hb12 b1 b2 b3 hw2 hv3
  go_region_held3 (fun w' => w'.cell? ⟨w1.heap.size, 0, none⟩ = some (.string ⟨nm.toArray⟩) ∧ w'.cell? ⟨w1.heap.size, 1, none⟩ = some (.int .i64 ar))
    (first | (go_keep; done))
    (first
      | (go_at_call 10; have _t := HA9; refine (same_any (HV3.out _ HA9.out) (HR.out _ (HB3.out.trans (HA9.out.mono HB3.out.size))) (by omega)).mono ?_; rintro e w4 ⟨rfl, b⟩; have HA4 : Hid (Below w3.heap.size w3 w4) := Lib.hid (HA9.out.trans (b.mono HA9.out.size)); obtain ⟨s0, s1⟩ := HC.out _ (HB3.out.trans (HA4.out.mono HB3.out.size)); clear b)
      | (go_at_call 9; have _t := HA8; refine (e9 _ (HT.out _ (HB3.out.trans (HA8.out.mono HB3.out.size)))).mono ?_; rintro e wb ⟨rfl, b⟩; have HA9 : Hid (Below w3.heap.size w3 wb) := Lib.hid (HA8.out.trans (b.mono HA8.out.size)); obtain ⟨s0, s1⟩ := HC.out _ (HB3.out.trans (HA9.out.mono HB3.out.size)); clear b)
      | (go_at_call 8; refine (e8 _ (HT.out _ (HB3.out.trans (((Below.refl w3.heap.size w3).drew).mono HB3.out.size)))).mono ?_; rintro e wa ⟨rfl, b⟩; have HA8 : Hid (Below w3.heap.size w3 wa) := Lib.hid (((Below.refl w3.heap.size w3).drew).trans b); obtain ⟨s0, s1⟩ := HC.out _ (HB3.out.trans (HA8.out.mono HB3.out.size)); clear b))
  have HX4 : Hid (Below w2.heap.size w2 w4) := Lib.hid (HB3.out.trans (HA4.out.mono HB3.out.size))
  clear s0 s1 t0 t1
  rcases HV.out with ⟨rfl, rfl⟩ | ⟨b, hbB, rfl, hheap⟩
  · go_wp2
    go_loopg [7] 0 (fun gh iv wr => gh = 0 ∧ iv = .int .i64 0 ∧ Hid (Below w2.heap.size w2 wr))
    case atStart => exact ⟨rfl, rfl, HX4⟩
    case round =>
      obtain ⟨-, rfl, HX⟩ := hrel
      go_wp2_with (first
        | (go_at_call 7; refine (e7 _).mono ?_; rintro e w5 ⟨v5, rfl, b5, hv5⟩; have HX5 := Lib.hid (HX.out.trans (b5.mono HX.out.size)); have HV5 := Lib.hid hv5; clear b5 hv5)
        | (go_at_call 10; refine (same_any HV5.out.reads (HR.out _ HX5.out) (by omega)).mono ?_; rintro e w6 ⟨rfl, b6⟩; have HX6 := Lib.hid (HX5.out.trans (b6.mono HX5.out.size)); clear b6)
        | (go_at_call 11; refine (known_any _).mono ?_; rintro e w7 ⟨rfl, b7⟩; have HX7 := Lib.hid (HX6.out.trans (b7.mono HX6.out.size)); clear b7))
      go_ret
      exact ⟨rfl, HW2.out.trans (HX7.out.mono HW2.out.size)⟩
  · have HRS : Hid (Rest w4 b l l.length) := Lib.hid (by
      refine ⟨_, ((HA4.out.block b (Array.getElem?_eq_some_iff.1 hheap).1).trans hheap), ?_, fun i x hx => ?_⟩
      · have : ∀ l : List NeedC, (l.flatMap NeedC.cells).length = 3 * l.length := fun l => by
          induction l with
          | nil => rfl
          | cons a t ih => rw [List.flatMap_cons, List.length_append, ih]; simp; omega
        simpa using this l
      · have := flat_at l i x 0 hx (by omega)
        simpa using this)
    have hbB' := Lib.hid hbB
    clear hheap hbB
    obtain ⟨n, hn⟩ : ∃ n, n = l.length := ⟨_, rfl⟩
    rw [← hn] at hl2 HRS
    have HN := Lib.hid hn
    go_wp2
    rw [← hn]
    clear hn
    go_loopg [7] n (fun gh iv wr => ∃ j : Nat, j + gh = n ∧ iv = .int .i64 j ∧ Hid (Below w2.heap.size w2 wr) ∧ Hid (Rest wr b l n))
    case atStart => exact ⟨0, by omega, rfl, HX4, HRS⟩
    case round =>
      obtain ⟨j, hj, rfl, HX, HS⟩ := hrel
      by_cases hlt : j < n
      · have j0 : (0 : Int) ≤ (j : Int) := by omega
        have j1 : (j : Int) < (n : Int) := by omega
        obtain ⟨x, hx⟩ : ∃ x, l[j]? = some x := ⟨_, List.getElem?_eq_getElem (by rw [← HN.out]; exact hlt)⟩
        have hxa := hargH.out x (List.mem_of_getElem? hx)
        have x0 := HS.out.arg hx
        obtain ⟨⟨u1, x1⟩, f1⟩ := HS.out.cell (d := 1) hlt (by omega)
        obtain ⟨⟨u2, x2⟩, f2⟩ := HS.out.cell (d := 2) hlt (by omega)
        obtain ⟨s0, s1⟩ := HC.out _ HX.out
        obtain ⟨y, hy⟩ : ∃ y, y = x.arg := ⟨_, rfl⟩
        rw [← hy] at hxa x0
        clear hx hy
        go_wp2
        go_quiet (fail)
        go_wp2
        go_roundg (n - j - 1)
        case measure => omega
        case rel => exact ⟨j + 1, by omega, by go_num, Lib.hid (((below_drewN HX.out _).setCell (p := ⟨b, j * 3 + 2, none⟩) hbB'.out _).setCell (p := ⟨b, j * 3 + 1, none⟩) hbB'.out _), Lib.hid ((Rest.put (w := wr.drewN _) HS.out j 2 (.inr rfl) _).put j 1 (.inl rfl) _)⟩
      · obtain rfl : n = j := by omega
        go_wp2_with (first
          | (go_at_call 7; refine (e7 _).mono ?_; rintro e w5 ⟨v5, rfl, b5, hv5⟩; have HX5 := Lib.hid (HX.out.trans (b5.mono HX.out.size)); have HV5 := Lib.hid hv5; clear b5 hv5)
          | (go_at_call 10; refine (same_any HV5.out.reads (HR.out _ HX5.out) (by have := HN.out; omega)).mono ?_; rintro e w6 ⟨rfl, b6⟩; have HX6 := Lib.hid (HX5.out.trans (b6.mono HX5.out.size)); clear b6)
          | (go_at_call 11; refine (known_any _).mono ?_; rintro e w7 ⟨rfl, b7⟩; have HX7 := Lib.hid (HX6.out.trans (b7.mono HX6.out.size)); clear b7))
        go_ret
        exact ⟨rfl, HW2.out.trans (HX7.out.mono HW2.out.size)⟩
end Go.Proofs
end
