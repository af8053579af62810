import Derived.Test.YtfgahilgjpjncabDone
import Derived.Deep.DeepCutAuto
namespace Go.Proofs.Ytfgahilgjpjncab
open Go.RowKit

theorem Try.info39 : (Try.prog.info? 39).map (fun i => (i.zero, i.size, i.bytes)) = some (some (.slice none 0 0), 1, 24) := by kernel_rfl
theorem Try.info40 : (Try.prog.info? 40).map (fun i => (i.zero, i.size, i.bytes)) = some (some (.slice none 0 0), 1, 24) := by kernel_rfl
theorem Try.info4 : (Try.prog.info? 4).map (fun i => (i.zero, i.size, i.bytes)) = some (some (.bool false), 1, 1) := by kernel_rfl
theorem Try.info3 : (Try.prog.info? 3).map (fun i => (i.zero, i.size, i.bytes)) = some (some (.int .i64 0), 1, 8) := by kernel_rfl

theorem New_at (n s : Int) (w : World) (N : Nat) (hN : w.heap.size = N) (h1 : 1 ≤ n) (h2 : n ≤ 48) :
    Calls Try.prog 10 #[.int .i64 n, .int .i64 s] w fun e w' => e = .returned (.tuple #[ptr N, .int .i64 0]) ∧ w' = w.alloc (.cells (z45.setIfInBounds 0 (.int .i64 n)) 45) := by
  subst hN; exact New_ok0 n s w h1 h2

theorem new_row (n : Nat) (w : World) : (w.alloc (.cells (z45.setIfInBounds 0 (.int .i64 n)) 45)).rowIs w.heap.size 45 2305 (xf n) := by
  have h := World.rowIs_alloc w (z45.setIfInBounds 0 (.int .i64 n)) 45 (xf n) ?_
  · rw [Array.size_setIfInBounds, z45_size] at h; exact h
  · intro i hi
    rw [Array.size_setIfInBounds, z45_size] at hi
    rw [Array.getElem?_setIfInBounds]
    by_cases e : i = 0
    · subst e; simp [xf, z45_size]
    · rw [if_neg (fun h => e h.symm)]
      obtain ⟨k, rfl⟩ : ∃ k, i = 1 + k := ⟨i - 1, by omega⟩
      rw [z45_get k (by omega)]
      simp [xf]

def cW (n : Nat) : Array Value := #[.int .i64 n, .pointer none, .pointer none, .slice none 0 0, .slice none 0 0, .int .i64 0]

theorem start_mid (n : Nat) (w : World) :
    Mid ((((((w.alloc (.cells (cW n) 31)).alloc (.cells (z45.setIfInBounds 0 (.int .i64 n)) 45)).alloc (.cells (z45.setIfInBounds 0 (.int .i64 n)) 45))).setCell ⟨w.heap.size, 1, none⟩ (ptr (w.heap.size + 1))).setCell ⟨w.heap.size, 2, none⟩ (ptr (w.heap.size + 2)))
      w.heap.size w.heap.size (w.heap.size + 1) (w.heap.size + 2) n (.slice none 0 0) (.slice none 0 0) 0 0 (.slice none 0 0) (.slice none 0 0) (fun _ => 0) (fun _ => 0) := by
  have r0 : (w.alloc (.cells (cW n) 31)).rowIs w.heap.size 31 6 (fun i => (cW n)[i]?.getD default) := World.rowIs_alloc w (cW n) 31 _ (fun i hi => by simp [hi])
  have r1 := new_row n (w.alloc (.cells (cW n) 31))
  have r2 := new_row n ((w.alloc (.cells (cW n) 31)).alloc (.cells (z45.setIfInBounds 0 (.int .i64 n)) 45))
  have r0' := (r0.alloc (.cells (z45.setIfInBounds 0 (.int .i64 n)) 45)).alloc (.cells (z45.setIfInBounds 0 (.int .i64 n)) 45)
  have r1' := r1.alloc (.cells (z45.setIfInBounds 0 (.int .i64 n)) 45)
  rw [show (w.alloc (.cells (cW n) 31)).heap.size = w.heap.size + 1 from by simp] at r1'
  rw [show ((w.alloc (.cells (cW n) 31)).alloc (.cells (z45.setIfInBounds 0 (.int .i64 n)) 45)).heap.size = w.heap.size + 2 from by simp] at r2
  generalize (((w.alloc (.cells (cW n) 31)).alloc (.cells (z45.setIfInBounds 0 (.int .i64 n)) 45)).alloc (.cells (z45.setIfInBounds 0 (.int .i64 n)) 45)) = z at *
  refine ⟨((r0'.set 1 _).set 2 _).congr ?_, (r1'.setOther (by show w.heap.size + 1 ≠ w.heap.size; omega) _).setOther (by show w.heap.size + 1 ≠ w.heap.size; omega) _, (r2.setOther (by show w.heap.size + 2 ≠ w.heap.size; omega) _).setOther (by show w.heap.size + 2 ≠ w.heap.size; omega) _,
    by omega, World.ownsRow_nil _ _ _ _, World.ownsRow_nil _ _ _ _, fun u hu => by omega, fun u hu => by omega, fun u v hu => by omega, fun u v hu => by omega, by omega, by omega, by omega, fun u hu => by omega, fun u hu => by omega⟩
  intro i hi
  simp only [wf, cW]
  match i, hi with
  | 0, _ => simp
  | 1, _ => simp
  | 2, _ => simp
  | 3, _ => simp
  | 4, _ => simp
  | 5, _ => simp

theorem start_below (n : Nat) (w : World) (v1 v2 : Value) :
    Below w.heap.size w ((((((w.alloc (.cells (cW n) 31)).alloc (.cells (z45.setIfInBounds 0 (.int .i64 n)) 45)).alloc (.cells (z45.setIfInBounds 0 (.int .i64 n)) 45))).setCell ⟨w.heap.size, 1, none⟩ v1).setCell ⟨w.heap.size, 2, none⟩ v2) :=
  (((((Below.refl _ _).alloc (Nat.le_refl _) _).alloc (by simp) _).alloc (by simp; omega) _).setCell (by simp) _).setCell (by simp) _

theorem start_cells (n : Nat) (w : World) :
    (((w.alloc (.cells (cW n) 31)).alloc (.cells (z45.setIfInBounds 0 (.int .i64 n)) 45)).alloc (.cells (z45.setIfInBounds 0 (.int .i64 n)) 45)).cell? ⟨w.heap.size, 1, none⟩ = some (.pointer none) ∧
    (((w.alloc (.cells (cW n) 31)).alloc (.cells (z45.setIfInBounds 0 (.int .i64 n)) 45)).alloc (.cells (z45.setIfInBounds 0 (.int .i64 n)) 45)).cell? ⟨w.heap.size, 2, none⟩ = some (.pointer none) ∧
    ∀ o, (((w.alloc (.cells (cW n) 31)).alloc (.cells (z45.setIfInBounds 0 (.int .i64 n)) 45)).alloc (.cells (z45.setIfInBounds 0 (.int .i64 n)) 45)).frozen? ⟨w.heap.size, o, none⟩ = false := by
  have r0 : (w.alloc (.cells (cW n) 31)).rowIs w.heap.size 31 6 (fun i => (cW n)[i]?.getD default) := World.rowIs_alloc w (cW n) 31 _ (fun i hi => by simp [hi])
  have r1 := (r0.alloc (.cells (z45.setIfInBounds 0 (.int .i64 n)) 45)).alloc (.cells (z45.setIfInBounds 0 (.int .i64 n)) 45)
  exact ⟨r1.cell (i := 1) (by omega), r1.cell (i := 2) (by omega), r1.frozen⟩

/-- The world at the append of a row: the row itself and the one-element slice that holds it have been laid. -/
def atAdd (w : World) (z : Value) (n t e : Nat) : World := ((w.alloc (.cells (madeCells #[z] n) t)).alloc (.cells #[.slice (some ⟨w.heap.size, 0, none⟩) n n] e)).drew

theorem atAdd_cell (w : World) (z : Value) (n t e : Nat) (j : Nat) (u : Value) (h : [Value.slice (some ⟨w.heap.size, 0, none⟩) n n][j]? = some u) : (atAdd w z n t e).cell? ((⟨w.heap.size + 1, 0, none⟩ : Addr).add j) = some u := by
  match j, h with
  | 0, h =>
    simp only [List.getElem?_cons_zero, Option.some.injEq] at h
    subst h
    have r := World.rowIs_alloc (w.alloc (.cells (madeCells #[z] n) t)) #[.slice (some ⟨w.heap.size, 0, none⟩) n n] e (fun _ => .slice (some ⟨w.heap.size, 0, none⟩) n n) (fun i hi => by simp only [List.size_toArray, List.length_cons, List.length_nil] at hi; rw [show i = 0 by omega]; rfl)
    rw [show (w.alloc (.cells (madeCells #[z] n) t)).heap.size = w.heap.size + 1 from by simp] at r
    exact r.cell (i := 0) (by simp)
  | j + 1, h => simp at h

theorem atAdd_one (w : World) (n : Nat) (u : Value) (h : u ∈ [Value.slice (some ⟨w.heap.size, 0, none⟩) n n]) : u.oneCell' = true := by
  simp only [List.mem_singleton] at h; subst h; rfl
theorem atAdd_size (w : World) (z : Value) (n t e : Nat) : (atAdd w z n t e).heap.size = w.heap.size + 2 := by show ((w.alloc _).alloc _).heap.size = _; simp
theorem atAdd_ge {B : Nat} {w : World} (z : Value) (n t e : Nat) (h : B ≤ w.heap.size) : B ≤ (atAdd w z n t e).heap.size := by rw [atAdd_size]; omega
theorem atAdd_row (w : World) (z : Value) (n t e : Nat) : (atAdd w z n t e).rowIs w.heap.size t n (fun _ => z) := ((World.rowIs_made w z n t).alloc _).drew
theorem atAdd_below {B : Nat} {a w : World} (z : Value) (n t e : Nat) (h : Below B a w) (hB : B ≤ w.heap.size) : Below B a (atAdd w z n t e) := ((h.alloc hB _).alloc (by simp; omega) _).drew

section
variable {w w0 : World} {B W a b n : Nat} {s3 s4 : Value} {ke kl : Nat} {ev lv : Value} {er lr : Nat → Nat}
theorem Mid.atAdd (h : Mid w B W a b n s3 s4 ke kl ev lv er lr) (z : Value) (m t e : Nat) : Mid (Ytfgahilgjpjncab.atAdd w z m t e) B W a b n s3 s4 ke kl ev lv er lr := ((h.alloc _).alloc _).drew

theorem owns_slice {e : TypeId} {v : Value} {k : Nat} {xs : List Value} (h : w.ownsRow B e 1 v (k + 1) xs) : ∃ g cap, v = .slice (some ⟨g, 0, none⟩) (k + 1) cap := by
  rcases h.2 with ⟨_, h0⟩ | ⟨g, cap, cur, hv, _⟩
  · omega
  · exact ⟨g, cap, hv⟩

theorem owns_ge {e : TypeId} {v : Value} {k : Nat} {xs : List Value} (h : w.ownsRow B e 1 v k xs) : ∀ i, v.ownBlock = some i → B ≤ i := fun i hi => (h.lt i hi).1

theorem add_edge {v' : Value} {w' : World} (h : Mid w B W a b n s3 s4 ke kl ev lv er lr) (hB : B ≤ w.heap.size) (L : Below B w0 w)
    (ho : w'.ownsRow B 39 1 v' (ke + 1) ((List.range ke).map (sl er n) ++ [.slice (some ⟨w.heap.size, 0, none⟩) n n])) (g : (atAdd w (.bool false) n 4 39).grownBy w' ev.ownBlock) :
    ∃ g cap, v' = .slice (some ⟨g, 0, none⟩) (ke + 1) cap ∧ Hid (∃ er', Mid w' B W a b n s3 s4 (ke + 1) kl v' lv er' lr) ∧ Hid (Below B w0 w') := by
  obtain ⟨q, cap, hv⟩ := owns_slice ho
  have h2 := h.atAdd (.bool false) n 4 39
  refine ⟨q, cap, hv, ⟨_, h2.edge (atAdd_row w _ n 4 39) (fun u hu => ?_) hB ho g⟩, (atAdd_below _ n 4 39 L hB).grown g (by rw [atAdd_size]; omega) (owns_ge h.oe)⟩
  have := (h.re u hu).lt; omega

theorem add_level {v' : Value} {w' : World} (h : Mid w B W a b n s3 s4 ke kl ev lv er lr) (hB : B ≤ w.heap.size) (L : Below B w0 w)
    (ho : w'.ownsRow B 40 1 v' (kl + 1) ((List.range kl).map (sl lr n) ++ [.slice (some ⟨w.heap.size, 0, none⟩) n n])) (g : (atAdd w (.int .i64 0) n 3 40).grownBy w' lv.ownBlock) :
    ∃ g cap, v' = .slice (some ⟨g, 0, none⟩) (kl + 1) cap ∧ Hid (∃ lr', Mid w' B W a b n s3 s4 ke (kl + 1) ev v' er lr') ∧ Hid (Below B w0 w') := by
  obtain ⟨q, cap, hv⟩ := owns_slice ho
  have h2 := h.atAdd (.int .i64 0) n 3 40
  refine ⟨q, cap, hv, ⟨_, h2.level (atAdd_row w _ n 3 40) (fun u hu => ?_) hB ho g⟩, (atAdd_below _ n 3 40 L hB).grown g (by rw [atAdd_size]; omega) (owns_ge h.ol)⟩
  have := (h.rl u hu).lt; omega
end

set_option maxRecDepth 100000 in
set_option maxHeartbeats 1000000 in
theorem begun_any (x y : Int) (w : World) (hx1 : -9223372036854775808 ≤ x) (hx2 : x ≤ 9223372036854775807) (hy1 : -9223372036854775808 ≤ y) (hy2 : y ≤ 9223372036854775807) :
    Calls Try.prog 5 #[.int .i64 x, .int .i64 y] w fun e w' => ∃ W n g E, e = .returned (.tuple #[ptr W, .bool true]) ∧ Inv w' g W n E ∧ Apart g W w.heap.size n ∧ Below w.heap.size w w' := by
  obtain ⟨a0, a1⟩ := pk_range x 48 (by omega)
  obtain ⟨b0, b1⟩ := pk_range y 1048576 (by omega)
  obtain ⟨n, hn⟩ := Int.eq_ofNat_of_zero_le (show 0 ≤ 1 + pk x 48 by omega)
  have Hn : Hid (1 + pk x 48 = (n : Int)) := hn
  have n1 : 1 ≤ (n : Int) := by omega
  have n2 : (n : Int) ≤ 48 := by omega
  clear hn
  go_enter Try.func5, Try.ntmps5
  go_wp2_with fail
  refine (pick_any x 48 _ (by omega) hx1 hx2).mono ?_
  rintro e w ⟨rfl, rfl⟩
  go_wp2_with fail
  rw [Hn.out]
  refine (New_at n y _ (w.heap.size + 1) (by simp) n1 n2).mono ?_
  rintro e w1 ⟨rfl, hw1⟩
  go_wp2_with fail
  refine (pick_any y 1048576 _ (by omega) hy1 hy2).mono ?_
  rintro e w2 ⟨rfl, hw2⟩
  rw [hw2]; clear hw2 w2
  go_wp2_with fail
  refine (New_at n _ _ (w.heap.size + 2) (by simp) n1 n2).mono ?_
  rintro e w2 ⟨rfl, hw2⟩
  have M := start_mid n w
  have L := start_below n w (ptr (w.heap.size + 1)) (ptr (w.heap.size + 2))
  rw [cW, ← hw2] at M L
  obtain ⟨c1, c2, f1⟩ := start_cells n w
  rw [cW, ← hw2] at c1 c2
  rw [cW] at f1; simp only [← hw2] at f1
  clear hw1 hw2 w1
  have HM : Hid (∃ v3 v4 er lr, Mid ((w2.setCell ⟨w.heap.size, 1, none⟩ (ptr (w.heap.size + 1))).setCell ⟨w.heap.size, 2, none⟩ (ptr (w.heap.size + 2))) w.heap.size w.heap.size (w.heap.size + 1) (w.heap.size + 2) n v3 v4 0 0 v3 v4 er lr) := ⟨_, _, _, _, M⟩
  have HL : Hid (Below w.heap.size w ((w2.setCell ⟨w.heap.size, 1, none⟩ (ptr (w.heap.size + 1))).setCell ⟨w.heap.size, 2, none⟩ (ptr (w.heap.size + 2)))) := L
  clear M L
  go_wp2_with fail
  go_loopw [11] (fun i wr => ∃ k : Nat, k ≤ n ∧ i = .int .i64 k ∧ Hid (∃ v3 v4 er lr, Mid wr w.heap.size w.heap.size (w.heap.size + 1) (w.heap.size + 2) n v3 v4 k k v3 v4 er lr) ∧ Hid (Below w.heap.size w wr)) (fun i _ => n - (intOf i).toNat)
  case atStart => exact ⟨0, by omega, rfl, HM, HL⟩
  case round =>
    obtain ⟨k, hk, rfl, hM, hL⟩ := hrel
    clear HM HL c1 c2 f1
    by_cases hlt : k < n
    · obtain ⟨ev, lv, er, lr, hM⟩ := hM.out
      have HM : Hid (Mid wr w.heap.size w.heap.size (w.heap.size + 1) (w.heap.size + 2) n ev lv k k ev lv er lr) := hM
      have c3 : wr.cell? ⟨w.heap.size, 3, none⟩ = some ev := hM.rW.cell (by omega)
      have c4 : wr.cell? ⟨w.heap.size, 4, none⟩ = some lv := hM.rW.cell (by omega)
      have f3 := hM.rW.frozen
      clear hM
      obtain ⟨i39, q0, q1, q2, q3⟩ := info_parts Try.info39
      obtain ⟨i40, p0, p1, p2, p3⟩ := info_parts Try.info40
      have hmb := run_make_row' (P := Try.prog) 39 4 (.bool false) 1 Try.underlying39 Try.info4 rfl .i64 .i64 n (by omega) (by omega)
      have hmi := run_make_row' (P := Try.prog) 40 3 (.int .i64 0) 8 Try.underlying40 Try.info3 rfl .i64 .i64 n (by omega) (by omega)
      go_wp2_with fail
      go_cut [12] from 51 to 79 (fun e wc => ∃ g cap, e = .slice (some ⟨g, 0, none⟩) (k + 1) cap ∧ Hid (∃ er', Mid wc w.heap.size w.heap.size (w.heap.size + 1) (w.heap.size + 2) n ev lv (k + 1) k e lv er' lr) ∧ Hid (Below w.heap.size w wc))
      case first =>
        have hB : w.heap.size ≤ wr.heap.size := hL.out.size
        have HB : Hid (w.heap.size ≤ wr.heap.size) := hB
        have c3a : ∀ o, (wr.alloc o).cell? ⟨w.heap.size, 3, none⟩ = some ev := fun o => (HM.out.alloc o).rW.cell (by omega)
        have c3b : ∀ o p, ((wr.alloc o).alloc p).cell? ⟨w.heap.size, 3, none⟩ = some ev := fun o p => ((HM.out.alloc o).alloc p).rW.cell (by omega)
        have HK : Hid (k + 1 ≤ maxLen) := by show k + 1 ≤ maxLen; unfold maxLen; omega
        clear hB
        go_region_law (refine step_append_mine rfl (.tmp 59) (.tmp 62) 28 rfl w.heap.size 39 i39 (.slice none 0 0) 1 24 Try.underlying28 q0 q1 q2 q3 rfl (by decide) ev k ((List.range k).map (sl er n)) rfl (HM.out.atAdd (.bool false) n 4 39).oe ⟨wr.heap.size + 1, 0, none⟩ 1 1 [.slice (some ⟨wr.heap.size, 0, none⟩) n n] rfl rfl (atAdd_cell wr (.bool false) n 4 39) (atAdd_one wr n) HK.out (by omega) (atAdd_ge (.bool false) n 4 39 HB.out) ?_; intro v' w' ho hg)
        all_goals
          have R := add_edge HM.out HB.out hL.out ho hg
          clear ho hg
          obtain ⟨gg, cap, hv, R2, R3⟩ := R
          go_wp2
          go_meet
          case rel => exact ⟨gg, cap, hv, R2, R3⟩
      case rest =>
        obtain ⟨gg, cap, rfl, R2, R3⟩ := hcut
        obtain ⟨er2, hM2⟩ := R2.out
        have HM2 : Hid (Mid wc w.heap.size w.heap.size (w.heap.size + 1) (w.heap.size + 2) n ev lv (k + 1) k (.slice (some ⟨gg, 0, none⟩) (k + 1) cap) lv er2 lr) := hM2
        clear hM2 R2 c3 c4 HM hL hM
        have c4 : wc.cell? ⟨w.heap.size, 4, none⟩ = some lv := HM2.out.rW.cell (by omega)
        have c4a : ∀ o, (wc.alloc o).cell? ⟨w.heap.size, 4, none⟩ = some lv := fun o => (HM2.out.alloc o).rW.cell (by omega)
        have c4b : ∀ o p, ((wc.alloc o).alloc p).cell? ⟨w.heap.size, 4, none⟩ = some lv := fun o p => ((HM2.out.alloc o).alloc p).rW.cell (by omega)
        go_wp2_with fail
        go_cut [13] from 51 to 79 (fun e wd => ∃ g cap', e = .slice (some ⟨g, 0, none⟩) (k + 1) cap' ∧ Hid (∃ lr', Mid wd w.heap.size w.heap.size (w.heap.size + 1) (w.heap.size + 2) n ev lv (k + 1) (k + 1) (.slice (some ⟨gg, 0, none⟩) (k + 1) cap) e er2 lr') ∧ Hid (Below w.heap.size w wd))
        case first =>
          have HB : Hid (w.heap.size ≤ wc.heap.size) := R3.out.size
          have HK : Hid (k + 1 ≤ maxLen) := by show k + 1 ≤ maxLen; unfold maxLen; omega
          go_region_law (refine step_append_mine rfl (.tmp 67) (.tmp 70) 29 rfl w.heap.size 40 i40 (.slice none 0 0) 1 24 Try.underlying29 p0 p1 p2 p3 rfl (by decide) lv k ((List.range k).map (sl lr n)) rfl (HM2.out.atAdd (.int .i64 0) n 3 40).ol ⟨wc.heap.size + 1, 0, none⟩ 1 1 [.slice (some ⟨wc.heap.size, 0, none⟩) n n] rfl rfl (atAdd_cell wc (.int .i64 0) n 3 40) (atAdd_one wc n) HK.out (by omega) (atAdd_ge (.int .i64 0) n 3 40 HB.out) ?_; intro v' w' ho hg)
          all_goals
            have R := add_level HM2.out HB.out R3.out ho hg
            clear ho hg
            obtain ⟨g2, cap2, hv, R4, R5⟩ := R
            go_wp2
            go_meet
            case rel => exact ⟨g2, cap2, hv, R4, R5⟩
        case rest =>
          clear c4 c4a c4b HM2 R3
          obtain ⟨g2, cap2, rfl, R4, R5⟩ := hcut
          obtain ⟨lr2, hM3⟩ := R4.out
          have HM3 : Hid (Mid wc w.heap.size w.heap.size (w.heap.size + 1) (w.heap.size + 2) n ev lv (k + 1) (k + 1) (.slice (some ⟨gg, 0, none⟩) (k + 1) cap) (.slice (some ⟨g2, 0, none⟩) (k + 1) cap2) er2 lr2) := hM3
          have c3 : wc.cell? ⟨w.heap.size, 3, none⟩ = some ev := hM3.rW.cell (by omega)
          have c4 : wc.cell? ⟨w.heap.size, 4, none⟩ = some lv := hM3.rW.cell (by omega)
          have f3 := hM3.rW.frozen
          clear R4 hM3
          go_wp2_with fail
          go_roundw
          case rel => exact ⟨k + 1, by omega, by go_num, ⟨_, _, _, _, HM3.out.store _ _⟩, (R5.out.setCell (Nat.le_refl _) _).setCell (Nat.le_refl _) _⟩
          case measure => simp [intOf]; omega
    · have hkn : k = n := by omega
      go_wp2_with fail
      refine (New_bad 0 y _ (by omega)).mono ?_
      rintro e w3 ⟨rfl, hw3⟩
      rw [hw3]; clear hw3 w3
      go_wp2_with fail
      refine (New_bad 49 y _ (by omega)).mono ?_
      rintro e w3 ⟨rfl, hw3⟩
      rw [hw3]; clear hw3 w3
      go_wp2_with fail
      go_ret2
      obtain ⟨v3, v4, er, lr, hM⟩ := hM.out
      rw [hkn] at hM
      obtain ⟨g, E, I, A⟩ := mid_done hM (by omega) (by omega)
      exact ⟨w.heap.size, n, g, E, rfl, I, A, hL.out⟩
end Go.Proofs.Ytfgahilgjpjncab
