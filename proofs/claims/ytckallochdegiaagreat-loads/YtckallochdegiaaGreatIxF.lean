import Derived.Test.YtckallochdegiaaGreatIxD
namespace Go.Proofs.YtckallochdegiaaGreat
set_option linter.unusedVariables false
set_option linter.unusedSimpArgs false
open Go.RowKit

/-- What a search at one vertex answers. -/
def SvR (w : World) (b : Nat) (G0 : Gr) (s o : Int) (i : Nat) (t0 T : List Itm) (m x : Nat) (q : Gr × Int) (e : Ending) (w' : World) : Prop :=
  ∃ f : Bool, e = .returned (.bool f) ∧
    (f = false → ∃ G' pr', IdxG w' b G' pr' ∧ seekN i s x q G0.N = .inl (G', pr') ∧ PB G0 G' s o i t0 T m G0.N) ∧
    (f = true → ∃ (q3 r : Gr × Int) (y : Nat), y < G0.N ∧ seekN i s x q y = .inl q3 ∧ seek1 i s x q3 y = .inr r ∧ IdxG w' b r.1 r.2 ∧ SEnd G0 s o i true r.1) ∧ But (fun k => k = b) w w'

set_option maxRecDepth 100000 in
set_option maxHeartbeats 8000000 in
theorem searchVertex_any (w : World) (b : Nat) (G0 G1 : Gr) (pr1 : Int) (i m x : Nat) (s o : Int) (t0 T : List Itm) (arr : Array Value) (ins : Nat → Bool) (h : IdxG w b G1 pr1) (hs : t0 ∈ lv G0 i) (hsv : (s, -1) ∈ t0) (hsz : sizeV t0 * 2 ^ (i + 1) ≤ G0.N) (hrot : Rot t0 T)
    (hPB : PB G0 G1 s o i t0 T m 0) (hm : m < T.length) (hx : T[m]?.getD (0, 0) = ((x : Int), (-1 : Int))) (hin : ∀ y : Nat, y < G0.N → (ins y = true ↔ ((y : Int), (-1 : Int)) ∈ t0)) (harr : arr.size = 48) (hval : ∀ y, y < 48 → arr[y]? = some (.bool (ins y))) :
    Calls Tryz.prog 127 #[ptr b, .int .i64 x, .int .i64 i, .agg arr] w (SvR w b G0 s o i t0 T m x (G1, pr1)) := by
  have n48 : G0.N ≤ 48 := by rw [← hPB.n]; exact hPB.mi.gi.n48
  have hlog : i + 1 ≤ Nat.log2 G0.N := lesser_log (G := G0) (i := i) (by rw [← hPB.n]; exact hPB.mi.gi.n1) hsv hsz
  have l5 : Nat.log2 G0.N ≤ 5 := log2_le5 (by rw [← hPB.n]; exact hPB.mi.gi.n1) n48
  have hxt : ((x : Int), (-1 : Int)) ∈ t0 := by rw [← hx, get_eq hm]; exact (hrot.mem _).2 (List.getElem_mem hm)
  have hxN : x < G0.N := by
    have := ((hPB.mi.gi.li i hPB.mi.il).rng t0 (by rw [hPB.lvi i (Nat.le_refl _)]; exact hs) _ hxt).1
    rw [hPB.n] at this
    simp only at this
    omega
  have hne : ¬ arr = #[] := by intro q; rw [q] at harr; simp at harr
  have x48 : (x : Int) < 48 := by omega
  have hi6 : (i : Int) < 6 := by omega
  have HG := hid h
  have HS : Hid (t0 ∈ lv G0 i ∧ (s, -1) ∈ t0 ∧ sizeV t0 * 2 ^ (i + 1) ≤ G0.N) := ⟨hs, hsv, hsz⟩
  have HRot := hid hrot
  have HPB0 := hid hPB
  have Hx := hid hx
  have HXt := hid hxt
  have HIn := hid hin
  have HVal := hid hval
  have blt := h.ty.lt
  have HW0 : Hid (∀ j, j < 48 → (w.alloc (.cells arr 140)).cell? ⟨w.heap.size, j, none⟩ = some (.bool (ins j))) := fun j hj => by rw [new_cell]; exact hval j hj
  have HB0 : Hid (Below w.heap.size w (w.alloc (.cells arr 140)) ∧ w.heap.size < (w.alloc (.cells arr 140)).heap.size) := ⟨(Below.refl _ _).alloc (Nat.le_refl _) _, by simp⟩
  clear h hs hsv hsz hrot hPB hx hin hval hxt
  go_enter Tryz.func127, Tryz.ntmps127
  go_wp2_with fail
  generalize w.alloc (.cells arr 140) = wa at HW0 HB0 ⊢
  go_loopw [9] (fun q wr => ∃ y : Nat, y ≤ G0.N ∧ q = .int .i64 y ∧ Hid (∃ G' pr', IdxG wr b G' pr' ∧ seekN i s x (G1, pr1) y = .inl (G', pr') ∧ PB G0 G' s o i t0 T m y) ∧ Hid (But (fun k => k = b) w wr) ∧ Hid (∀ j, j < 48 → wr.cell? ⟨w.heap.size, j, none⟩ = some (.bool (ins j))) ∧ Hid (w.heap.size < wr.heap.size)) (fun q _ => G0.N - (intOf q).toNat)
  case atStart => exact ⟨0, by omega, rfl, ⟨G1, pr1, HG.out.below HB0.out.1, rfl, HPB0.out⟩, But.of HB0.out.1, HW0, HB0.out.2⟩
  case round =>
    clear HW0 HB0
    obtain ⟨y, hy, rfl, hG, hB, hW, hSz⟩ := hrel
    obtain ⟨G', pr', hG', hXC, hPB⟩ := hG.out
    obtain ⟨R, F, p1, p2⟩ := hG'
    have dn : wr.cell? ⟨b, 0, none⟩ = some (.int .i64 G0.N) := by rw [← hPB.n]; exact p1.hn
    have HPB := hid hPB
    have HXC := hid hXC
    have HP1 := hid p1
    have HP2 := hid p2
    clear hG hPB hXC p1 p2
    by_cases hyN : y < G0.N
    · have hyN' : (y : Int) < (G0.N : Int) := by omega
      have y48 : (y : Int) < 48 := by omega
      have c0 := HP1.out.c0 x y (by omega) (by omega)
      have c1 := HP1.out.c1 x y (by omega) (by omega)
      have c2 := HP1.out.c2 x y (by omega) (by omega)
      have HXn : Hid (∀ r, seek1 i s x (G', pr') y = .inl r → seekN i s x (G1, pr1) (y + 1) = .inl r) := fun r hr => by
        show (match seekN i s x (G1, pr1) y with | .inl r => seek1 i s x r y | .inr r => .inr r) = _
        rw [HXC.out]; exact hr
      have HGo : Hid (∀ ob, IdxG (wr.alloc ob) b G' pr') := fun ob => ⟨R, F, HP1.out.below ((Below.refl _ _).alloc (Nat.le_refl _) ob), HP2.out⟩
      have HBo : Hid (∀ ob, But (fun k => k = b) w (wr.alloc ob)) := fun ob => hB.out.alloc ob
      have HWo : Hid (∀ ob, ∀ j, j < 48 → (wr.alloc ob).cell? ⟨w.heap.size, j, none⟩ = some (.bool (ins j))) := fun ob j hj => by
        rw [(((Below.refl (wr.heap.size) wr).alloc (Nat.le_refl _) ob).cell (p := ⟨w.heap.size, j, none⟩) hSz.out)]; exact hW.out j hj
      have HSo : Hid (∀ ob, w.heap.size < (wr.alloc ob).heap.size) := fun ob => by have := hSz.out; simp; omega
      rcases find_cases G'.edges (min (x : Int) y) (max (x : Int) y) with hf | ⟨k, hf⟩
      · have HD : Hid (PB G0 G' s o i t0 T m (y + 1)) := HPB.out.skip (by rw [Hx.out]; exact done_no hf)
        have HXk := hid (HXn.out (G', pr') (by simp only [seek1]; rw [if_pos (by rw [hf]; omega)]))
        rw [look_no hf] at c0 c1 c2
        simp only at c0 c1 c2
        clear hf
        go_wp2
        exact ⟨⟨y + 1, by omega, by go_num, ⟨G', pr', HGo.out _, HXk.out, HD.out⟩, HBo.out _, HWo.out _, HSo.out _⟩, by simp [intOf]; omega⟩
      · obtain ⟨k1, k2, k3⟩ := find_ge hf
        rw [look_at hf] at c0 c1 c2
        simp only at c0 c1 c2
        have HF := hid hf
        have HDn : Hid ((G'.edges[k]?.getD e0).tree = true ∨ (G'.edges[k]?.getD e0).lev ≠ i → PB G0 G' s o i t0 T m (y + 1)) := fun q => HPB.out.skip (by rw [Hx.out]; exact done_one HPB.out.mi.gi HF.out q)
        obtain ⟨e, he⟩ : ∃ e, e = G'.edges[k]?.getD e0 := ⟨_, rfl⟩
        have HSk : Hid (e.tree = true ∨ e.lev ≠ i → seek1 i s x (G', pr') y = .inl (G', pr')) := fun q => by rw [he] at q; simp only [seek1]; rw [HF.out, if_neg (by omega), Int.toNat_natCast, if_pos q]
        rw [← he] at c1 c2 HDn k2 k3
        have HE := hid he
        have HK := hid (And.intro k2 k3)
        clear he hf k2 k3
        cases htr : e.tree
        · rw [htr] at c1
          have HTr := hid htr
          clear htr
          by_cases hl : e.lev = i
          · have HL := hid hl
            rw [hl] at c2
            clear hl HDn HSk
            have HSn : Hid (¬ ((G'.edges[k]?.getD e0).tree = true ∨ (G'.edges[k]?.getD e0).lev ≠ i)) := by
              show ¬ _
              rw [← HE.out]
              rintro (q | q)
              · rw [HTr.out] at q; simp at q
              · exact q HL.out
            have L' := hid (HPB.out.mi.gi.li i HPB.out.mi.il)
            have hs' : t0 ∈ lv G' i := by rw [HPB.out.lvi i (Nat.le_refl _)]; exact HS.out.1
            have hxs : Same (lv G' i) x s := ⟨t0, hs', HXt.out, HS.out.2.1⟩
            have rs := (L'.out.rng t0 hs' _ HS.out.2.1).1
            have hsame := L'.out.same_iff (a := (y : Int)) (b := s) (by omega) (by rw [HPB.out.n]; omega) rs.1 rs.2
            have hyt : ins y = true ↔ Same (lv G' i) y s := by
              rw [HIn.out y hyN]
              constructor
              · intro q; exact ⟨t0, hs', q, HS.out.2.1⟩
              · rintro ⟨t1, q1, q2, q3⟩
                have := L'.out.uniq q1 hs' q3 HS.out.2.1 rfl
                rw [this] at q2; exact q2
            have hxy : ((x : Int) = e.u ∧ (y : Int) = e.v) ∨ ((x : Int) = e.v ∧ (y : Int) = e.u) := by have q1 := HK.out.1; have q2 := HK.out.2; omega
            have HFacts := hid (And.intro hs' (And.intro hxs (And.intro hsame (And.intro hyt hxy))))
            clear hs' hxs rs hsame hyt hxy
            have dI := fun ob => HWo.out ob y (by omega)
            have hq : ((i : Int) != (i : Int)) = false := by simp
            cases hins : ins y
            · have dI2 := dI
              rw [hins] at dI2
              clear dI
              have HNs : Hid (¬ Same (lv G' i) y s) := fun q => by have := HFacts.out.2.2.2.1.2 q; rw [hins] at this; simp at this
              clear hins
              have HW1 : Hid (∀ ob, IdxP (wr.alloc ob) b G'.N (look G'.edges) R pr' F) := fun ob => HP1.out.below ((Below.refl _ _).alloc (Nat.le_refl _) ob)
              obtain ⟨f1, f2, f3, f4⟩ := HPB.out.mi.found k1 HE.out.symm HTr.out HL.out HFacts.out.2.2.2.2 HFacts.out.2.1 HNs.out
              have HFo := hid (And.intro f1 f2)
              have HF3 := hid f3
              clear f1 f2 f3 f4
              have hSeek : seek1 i s x (G', pr') y = .inr (lnks (setE G' k ⟨e.u, e.v, i, true⟩) x y (i + 1), pr') := by
                simp only [seek1]
                rw [HF.out, if_neg (by omega), Int.toNat_natCast, if_neg HSn.out, if_pos (fun q => HNs.out (HFacts.out.2.2.1.2 q)), ← HE.out]
              have HSeek := hid hSeek
              clear hSeek
              go_wp2_with fail
              refine (plantEdge_any _ b G'.N (look G'.edges) R pr' F x y i (fun j Q => FR Q (linkT (lv G' j) (tourIx (lv G' j) x).toNat (tourIx (lv G' j) y).toNat x y)) (HW1.out _) (by omega) (by omega) (by omega) (fun j hj => by
                have hjl : j ≤ Nat.log2 G'.N := by rw [HPB.out.n]; omega
                exact (HP2.out.fr j hjl).link (HPB.out.mi.gi.li j hjl) HPB.out.mi.gi.n48 HPB.out.mi.gi.edE (by omega) (by rw [HPB.out.n]; omega) (by omega) (by rw [HPB.out.n]; omega) (HF3.out j hj))).mono ?_
              rintro e' w2 ⟨rfl, ⟨R', F', r1, r2, r3⟩, hb2⟩
              have HR : Hid (IdxG w2 b (lnks (setE G' k ⟨e.u, e.v, i, true⟩) x y (i + 1)) pr' ∧ SEnd G0 s o i true (lnks (setE G' k ⟨e.u, e.v, i, true⟩) x y (i + 1)) ∧ But (fun k => k = b) w w2) := by
                refine ⟨⟨R', F', ?_, ?_⟩, ⟨by rw [lnks_N]; exact HPB.out.n, by rw [lnks_len]; exact HPB.out.tl, ?_, fun _ => HFo.out, fun q => by simp at q⟩, (HBo.out _).same hb2⟩
                · rw [lnks_N, lnks_edges]
                  refine r3.congr (fun x' y' _ _ => ?_) (fun _ _ _ _ => rfl)
                  show _ = look (G'.edges.set k ⟨e.u, e.v, i, true⟩) x' y'
                  rw [look_set HPB.out.mi.gi.nd k1 (u := x) (v := y) (by rw [← HE.out]; exact Prod.ext HK.out.1 HK.out.2) (e' := ⟨e.u, e.v, i, true⟩) (by rw [← HE.out]; rfl)]
                · exact (HP2.out.setE k _).lnks (by show i + 1 ≤ G'.tours.length; rw [HPB.out.mi.gi.tl, HPB.out.n]; omega) r1 r2 (by show i ≤ Nat.log2 G'.N; rw [HPB.out.n]; omega)
                · rw [lnks_edges]
                  show (G'.edges.set k _).map key = _
                  rw [key_set k1 (by rw [← HE.out]; rfl)]; exact HPB.out.up
              clear r1 r2 r3 hb2
              go_wp2
              go_ret
              exact ⟨true, rfl, fun q => by simp at q, fun _ => ⟨_, _, y, hyN, HXC.out, HSeek.out, HR.out.1, HR.out.2.1⟩, HR.out.2.2⟩
            · have dI2 := dI
              rw [hins] at dI2
              clear dI
              have HSm : Hid (((y : Int), (-1 : Int)) ∈ t0 ∧ Same (lv G' i) y s) := ⟨(HIn.out y hyN).1 hins, HFacts.out.2.2.2.1.1 hins⟩
              clear hins
              have HPN : Hid (PB G0 (setE G' k { e with lev := e.lev + 1 }) s o i t0 T m (y + 1)) := by
                have hxy := HFacts.out.2.2.2.2
                refine HPB.out.raise HS.out.1 HS.out.2.1 HS.out.2.2 k1 HE.out.symm HTr.out HL.out ?_ ?_ ?_
                · rw [Hx.out]; exact Prod.ext HK.out.1 HK.out.2
                · rcases hxy with ⟨q1, q2⟩ | ⟨q1, q2⟩
                  · rw [← q1]; exact HXt.out
                  · rw [← q2]; exact HSm.out.1
                · rcases hxy with ⟨q1, q2⟩ | ⟨q1, q2⟩
                  · rw [← q2]; exact HSm.out.1
                  · rw [← q1]; exact HXt.out
              have HXk := hid (HXn.out (setE G' k { e with lev := e.lev + 1 }, wrap64 (pr' + 1)) (by simp only [seek1]; rw [HF.out, if_neg (by omega), Int.toNat_natCast, if_neg HSn.out, if_neg (fun q => q (HFacts.out.2.2.1.1 HSm.out.2)), ← HE.out]))
              have HW1 : Hid (∀ ob, IdxP (wr.alloc ob) b G'.N (look G'.edges) R pr' F) := fun ob => HP1.out.below ((Below.refl _ _).alloc (Nat.le_refl _) ob)
              go_wp2_with fail
              refine (setEdge_any _ b G'.N (look G'.edges) R pr' F x y true false ((i : Int) + 1) (HW1.out _) (by omega) (by omega)).mono ?_
              rintro e' w2 ⟨rfl, ⟨F2, hi2⟩, hb2⟩
              have HI2 := hid (hi2.congr (E' := look (setE G' k { e with lev := e.lev + 1 }).edges) (R' := R) (fun x' y' _ _ => by
                show _ = look (G'.edges.set k { e with lev := e.lev + 1 }) x' y'
                rw [look_set HPB.out.mi.gi.nd k1 (u := x) (v := y) (by rw [← HE.out]; exact Prod.ext HK.out.1 HK.out.2) (e' := { e with lev := e.lev + 1 }) (by rw [← HE.out]; rfl)]
                simp only [HTr.out, HL.out]) (fun _ _ _ _ => rfl))
              have HB2 : Hid (But (fun k => k = b) w w2) := (HBo.out _).same hb2
              have HW2 : Hid (∀ j, j < 48 → w2.cell? ⟨w.heap.size, j, none⟩ = some (.bool (ins j))) := fun j hj => by
                rw [World.cell?_of_block (a := ⟨w.heap.size, j, none⟩) (hb2.block w.heap.size (HSo.out _) (fun q : w.heap.size = b => by omega))]; exact HWo.out _ j hj
              have HS2 : Hid (w.heap.size < w2.heap.size) := Nat.lt_of_lt_of_le (HSo.out _) hb2.size
              clear hi2 hb2
              obtain ⟨F3, hi3⟩ := HI2.out.setR (wrap64 (pr' + 1))
              have HI3 := hid hi3
              have r0 := HI2.out.hr
              have rf := HI2.out.fz
              have HB3 : Hid (But (fun k => k = b) w2 (w2.setCell ⟨b, 7201, none⟩ (.int .i64 (wrap64 (pr' + 1))))) := But.setCell w2 ⟨b, 7201, none⟩ (.int .i64 (wrap64 (pr' + 1)))
              clear hi3 HI2 dI2 c0 c1 c2 dn
              go_wp2
              refine ⟨⟨y + 1, by omega, by go_num, ⟨_, _, ⟨R, F3, HI3.out, HP2.out.setE k _⟩, HXk.out, HPN.out⟩, HB2.out.same HB3.out, fun j hj => ?_, Nat.lt_of_lt_of_le HS2.out HB3.out.size⟩, by simp [intOf]; omega⟩
              rw [World.cell?_of_block (a := ⟨w.heap.size, j, none⟩) (HB3.out.block w.heap.size HS2.out (fun q : w.heap.size = b => by omega))]; exact HW2.out j hj
          · have HD := hid (HDn.out (Or.inr hl))
            have HXk := hid (HXn.out _ (HSk.out (Or.inr hl)))
            have hl2 : (e.lev != (i : Int)) = true := by simpa using hl
            clear hl
            go_wp2
            exact ⟨⟨y + 1, by omega, by go_num, ⟨G', pr', HGo.out _, HXk.out, HD.out⟩, HBo.out _, HWo.out _, HSo.out _⟩, by simp [intOf]; omega⟩
        · have HD := hid (HDn.out (Or.inl htr))
          have HXk := hid (HXn.out _ (HSk.out (Or.inl htr)))
          rw [htr] at c1
          clear htr
          go_wp2
          exact ⟨⟨y + 1, by omega, by go_num, ⟨G', pr', HGo.out _, HXk.out, HD.out⟩, HBo.out _, HWo.out _, HSo.out _⟩, by simp [intOf]; omega⟩
    · have hye : y = G0.N := by omega
      have HEnd : Hid (∃ G' pr', IdxG wr b G' pr' ∧ seekN i s x (G1, pr1) G0.N = .inl (G', pr') ∧ PB G0 G' s o i t0 T m G0.N) := by
        rw [← hye]
        exact ⟨G', pr', ⟨R, F, HP1.out, HP2.out⟩, HXC.out, HPB.out⟩
      clear hye
      go_wp2
      go_ret
      exact ⟨false, rfl, fun _ => HEnd.out, fun q => by simp at q, hB.out⟩

end Go.Proofs.YtckallochdegiaaGreat
namespace Go.Proofs.YtckallochdegiaaGreat
set_option linter.unusedVariables false
set_option linter.unusedSimpArgs false
open Go.RowKit

theorem verts_step (l : List Itm) (m : Nat) (hm : m < l.length) : verts (l.take (m + 1)) = verts (l.take m) ++ if (l[m]?.getD (0, 0)).2 < 0 then [(l[m]?.getD (0, 0)).1.toNat] else [] := by
  rw [get_eq hm, verts, List.take_succ_eq_append_getElem hm, List.filter_append, List.map_append, verts]
  congr 1
  by_cases h : l[m].2 < 0 <;> simp [h]
theorem verts_split (l : List Itm) (m : Nat) : verts l = verts (l.take m) ++ verts (l.drop m) := by
  rw [verts, verts, verts, ← List.map_append, ← List.filter_append, List.take_append_drop]

section
variable {G0 G : Gr} {pr : Int} {s o : Int} {i : Nat} {t0 T : List Itm} {q : Gr × Int}
/-- On to the next vertex of the round. -/
theorem seek_adv (ok : ∀ x, x ∈ T → OkI x) {j : Nat} (hj : j < (verts T).length) : ∀ (d m : Nat), T.length - m ≤ d → m ≤ T.length → verts (T.take m) = (verts T).take j → seekT i s G0.N T q m = .inl (G, pr) → PB G0 G s o i t0 T m 0 →
    ∃ m', m' < T.length ∧ T[m']?.getD (0, 0) = ((((verts T)[j]?.getD 0 : Nat) : Int), (-1 : Int)) ∧ verts (T.take (m' + 1)) = (verts T).take (j + 1) ∧ seekT i s G0.N T q m' = .inl (G, pr) ∧ PB G0 G s o i t0 T m' 0 := by
  intro d
  induction d with
  | zero =>
    intro m hd hm hv _ _
    have : m = T.length := by omega
    subst this
    rw [List.take_length] at hv
    have := congrArg List.length hv
    rw [List.length_take] at this
    omega
  | succ d ih =>
    intro m hd hm hv hs hP
    by_cases c : m < T.length
    · have st := verts_step T m c
      by_cases n : (T[m]?.getD (0, 0)).2 < 0
      · rw [if_pos n, hv] at st
        have sp := verts_split T (m + 1)
        rw [st] at sp
        have lj : ((verts T).take j).length = j := by rw [List.length_take]; omega
        have e1 : (verts T)[j]?.getD 0 = (T[m]?.getD (0, 0)).1.toNat := by
          have : (verts T)[j]?.getD 0 = ((verts T).take j ++ [(T[m]?.getD (0, 0)).1.toNat] ++ verts (T.drop (m + 1)))[j]?.getD 0 := congrArg (fun l : List Nat => l[j]?.getD 0) sp
          rw [this, List.append_assoc, List.getElem?_append_right (by omega), lj, Nat.sub_self]
          rfl
        have o' := ok (T[m]?.getD (0, 0)) (by rw [get_eq c]; exact List.getElem_mem c)
        refine ⟨m, c, ?_, ?_, hs, hP⟩
        · rw [e1, Int.toNat_of_nonneg o'.1]
          exact Prod.ext rfl (o'.neg.1 n)
        · rw [st, List.take_add_one, ← e1, List.getElem?_eq_getElem hj]
          rfl
      · rw [if_neg n, List.append_nil, hv] at st
        refine ih (m + 1) (by omega) (by omega) st ?_ (hP.next (fun k => absurd k n))
        exact seekT_next (y1 := (T[m]?.getD (0, 0)).1) (y2 := (T[m]?.getD (0, 0)).2) hs rfl (by rw [if_neg n])
    · have : m = T.length := by omega
      subst this
      rw [List.take_length] at hv
      have := congrArg List.length hv
      rw [List.length_take] at this
      omega
/-- On to the round's end. -/
theorem seek_end : ∀ (d m : Nat), T.length - m ≤ d → m ≤ T.length → verts (T.take m) = verts T → seekT i s G0.N T q m = .inl (G, pr) → PB G0 G s o i t0 T m 0 → seekT i s G0.N T q T.length = .inl (G, pr) ∧ PB G0 G s o i t0 T T.length 0 := by
  intro d
  induction d with
  | zero =>
    intro m hd hm _ hs hP
    have : m = T.length := by omega
    subst this
    exact ⟨hs, hP⟩
  | succ d ih =>
    intro m hd hm hv hs hP
    by_cases c : m < T.length
    · have st := verts_step T m c
      have sp := verts_split T (m + 1)
      by_cases n : (T[m]?.getD (0, 0)).2 < 0
      · exfalso
        rw [if_pos n, hv] at st
        rw [st] at sp
        have := congrArg List.length sp
        simp at this
      · rw [if_neg n, List.append_nil, hv] at st
        exact ih (m + 1) (by omega) (by omega) st (seekT_next (y1 := (T[m]?.getD (0, 0)).1) (y2 := (T[m]?.getD (0, 0)).2) hs rfl (by rw [if_neg n])) (hP.next (fun k => absurd k n))
    · have : m = T.length := by omega
      subst this
      exact ⟨hs, hP⟩
end

/-- What a search of a half answers. -/
def ShR (w : World) (b : Nat) (G0 : Gr) (s o : Int) (i : Nat) (T : List Itm) (q : Gr × Int) (e : Ending) (w' : World) : Prop :=
  ∃ f : Bool, e = .returned (.bool f) ∧ (∃ G' pr', IdxG w' b G' pr' ∧ ((f = false ∧ seekT i s G0.N T q T.length = .inl (G', pr')) ∨ (f = true ∧ seekT i s G0.N T q T.length = .inr (G', pr'))) ∧ SEnd G0 s o i f G') ∧ But (fun k => k = b) w w'

def zB : Array Value := (List.replicate 48 (Value.bool false)).toArray
theorem zeroB (w : World) : Sem.run Tryz.prog (zeroValue 140) w = .ok (.agg zB) w := by kernel_rfl
theorem zB_size : zB.size = 48 := by simp [zB, -List.reduceReplicate]
theorem zB_ne : ¬ zB = #[] := by intro h; have := congrArg Array.size h; rw [zB_size] at this; simp at this
theorem zB_get (k : Nat) (h : k < 48) : zB[k]? = some (Value.bool false) := by
  simp [zB, h, -List.reduceReplicate]

theorem nums_block {w w' : World} {B : Nat} {v : Value} {l : List Nat} {S : Nat → Prop} (h : NumsAt w B v l) (k : But S w w') (hS : ∀ q, S q → q < w.heap.size → ¬ TyAt w q 3) : NumsAt w' B v l := by
  refine ⟨⟨h.1.1, ?_⟩, h.2⟩
  rcases h.1.2 with q | ⟨g, cap, cur, hv, hB, hg, hle⟩
  · exact Or.inl q
  · have glt : g < w.heap.size := (Array.getElem?_eq_some_iff.1 hg).1
    exact Or.inr ⟨g, cap, cur, hv, hB, by rw [k.block g glt (fun q => hS g q glt ⟨cur, hg⟩)]; exact hg, hle⟩

set_option maxRecDepth 100000 in
set_option maxHeartbeats 8000000 in
theorem searchHalf_any (w : World) (b : Nat) (G0 G1 : Gr) (pr1 : Int) (i xb xo xc : Nat) (s o : Int) (t0 T : List Itm) (h : IdxG w b G1 pr1) (hs : t0 ∈ lv G0 i) (hsv : (s, -1) ∈ t0) (hsz : sizeV t0 * 2 ^ (i + 1) ≤ G0.N) (hrot : Rot t0 T)
    (hPB : PB G0 G1 s o i t0 T 0 0) (hp : PAt w (.slice (some ⟨xb, xo, none⟩) (T.map pv).length xc) (T.map pv) xb xo xc) (hlen : T.length ≤ 3000) :
    Calls Tryz.prog 118 #[ptr b, .slice (some ⟨xb, xo, none⟩) (T.map pv).length xc, .int .i64 i] w (ShR w b G0 s o i T (G1, pr1)) := by
  have hs' : t0 ∈ lv G1 i := by rw [hPB.lvi i (Nat.le_refl _)]; exact hs
  have ok0 := hPB.mi.gi.okI hPB.mi.il hs'
  have ok : ∀ x, x ∈ T → OkI x := fun x hx => ok0 x ((hrot.mem x).2 hx)
  have n48 : G0.N ≤ 48 := by rw [← hPB.n]; exact hPB.mi.gi.n48
  have HOk := hid ok
  have HV : Hid (vtxs (T.map pv) = verts T) := by
    show _ = _
    clear hrot hPB hp hlen
    rw [vtxs, verts]
    induction T with
    | nil => rfl
    | cons x l ih =>
      have ox := ok x (by simp)
      have ii := ih (fun y hy => ok y (by simp [hy]))  (fun y hy => ok y (by simp [hy]))
      simp only [List.map_cons, List.filter_cons]
      by_cases c : x.2 = -1
      · have c1 : ((pv x).1 == (pv x).2) = true := by simp [(pv_self ox).2 c]
        have c2 : decide (x.2 < 0) = true := by simp [ox.neg.2 c]
        rw [if_pos c1, if_pos c2, List.map_cons, List.map_cons, ii, pv_fst]
      · have c1 : ¬ ((pv x).1 == (pv x).2) = true := by simp only [beq_iff_eq]; exact fun q => c ((pv_self ox).1 q)
        have c2 : ¬ decide (x.2 < 0) = true := by simp only [decide_eq_true_eq]; exact fun q => c (ox.neg.1 q)
        rw [if_neg c1, if_neg c2, ii]
  have hVn : 0 < (verts T).length := by
    have : ((s, (-1 : Int))) ∈ T := (hrot.mem _).1 hsv
    have s0 := (ok0 _ hsv).1
    simp only at s0
    have m : s.toNat ∈ verts T := (verts_mem ok).2 (by rw [Int.toNat_of_nonneg s0]; exact this)
    cases hv : verts T with
    | nil => rw [hv] at m; simp at m
    | cons a l => simp
  have hV48 : ∀ x, x ∈ verts T → x < 48 := fun x hx => by
    have := (ok _ ((verts_mem ok).1 hx)).2.1
    simp only at this; omega
  have hVl : (verts T).length ≤ 3000 := by rw [verts_length]; exact Nat.le_trans (sizeV_le T) hlen
  have HVm : Hid (∀ y : Nat, y ∈ verts T ↔ ((y : Int), (-1 : Int)) ∈ t0) := fun y => by rw [verts_mem ok]; exact (hrot.mem _).symm
  have HG := hid h
  have HS : Hid (t0 ∈ lv G0 i ∧ (s, -1) ∈ t0 ∧ sizeV t0 * 2 ^ (i + 1) ≤ G0.N) := ⟨hs, hsv, hsz⟩
  have HRot := hid hrot
  have HPB0 := hid hPB
  have HP := hid hp
  have HV48 := hid hV48
  have blt := h.ty.lt
  have hz := zeroB
  have hz1 := zB_ne
  have HOk2 : Hid (∀ x, x ∈ T.map pv → 0 ≤ x.1 ∧ x.1 < 48) := by
    intro x hx
    obtain ⟨y, hy, rfl⟩ := List.mem_map.1 hx
    rw [pv_fst]
    exact ⟨(ok y hy).1, (ok y hy).2.1⟩
  have HLm : Hid ((T.map pv).length ≤ 3000) := by show _ ≤ _; rw [List.length_map]; exact hlen
  clear h hs hsv hsz hrot hPB hp ok ok0 hs' hV48
  obtain ⟨TP, hTP⟩ : ∃ TP, TP = T.map pv := ⟨_, rfl⟩
  rw [← hTP] at HP HV HOk2 HLm ⊢
  clear hTP
  go_enter Tryz.func118, Tryz.ntmps118
  go_wp2_with fail
  refine (Vertices_any w xb xo xc TP HP.out HLm.out HOk2.out).mono ?_
  rintro e w1 ⟨val, rfl, hn, hb1⟩
  rw [HV.out] at hn
  have HN1 := hid hn
  have HB1 := hid hb1
  obtain ⟨g, cp, hval, gl, gB, gc, gm, gt, gcell⟩ := hn.at_ hVn
  subst hval
  have hs1 := hb1.size
  unfold maxLen at gm
  clear hn hb1 gcell
  obtain ⟨L, hL⟩ : ∃ L, L = verts T := ⟨_, rfl⟩
  rw [← hL] at HN1 hVn hVl HVm HV48 gc
  have HLe := hid hL
  have HRow : Hid ((w1.alloc (.cells zB 140)).rowIs w1.heap.size 140 48 (fun x => .bool (decide (x ∈ L.take 0)))) := by
    have h := World.rowIs_alloc w1 zB 140 (fun x => .bool (decide (x ∈ L.take 0))) (fun i hi => by rw [zB_size] at hi; rw [zB_get i hi]; simp)
    rw [zB_size] at h; exact h
  have HBa : Hid (Below w1.heap.size w1 (w1.alloc (.cells zB 140))) := (Below.refl _ _).alloc (Nat.le_refl _) _
  have HNa : Hid (NumsAt (w1.alloc (.cells zB 140)) w.heap.size (.slice (some ⟨g, 0, none⟩) L.length cp) L) := ⟨HN1.out.1.alloc _, HN1.out.2⟩
  rw [← hL]
  clear hL
  go_wp2_with fail
  generalize w1.alloc (.cells zB 140) = wa at HRow HBa HNa ⊢
  clear hz hz1
  go_loopw [18] (fun q wr => ∃ j : Nat, j ≤ L.length ∧ q = .int .i64 j ∧ Hid (wr.rowIs w1.heap.size 140 48 (fun x => .bool (decide (x ∈ L.take j)))) ∧ Hid (NumsAt wr w.heap.size (.slice (some ⟨g, 0, none⟩) L.length cp) L) ∧ Hid (Below w1.heap.size w1 wr)) (fun q _ => L.length - (intOf q).toNat)
  case atStart => exact ⟨0, by omega, rfl, HRow, HNa, HBa⟩
  case round =>
    clear HRow HNa HBa
    obtain ⟨j, hj, rfl, hR, hN, hB⟩ := hrel
    by_cases hlt : j < L.length
    · have hlt' : (j : Int) < (L.length : Int) := by omega
      obtain ⟨g', cp', hv', _, _, _, _, _, gcell⟩ := hN.out.at_ hVn
      simp only [Value.slice.injEq, Option.some.injEq, Addr.mk.injEq, and_true, true_and] at hv'
      obtain ⟨rfl, rfl⟩ := hv'
      have d := gcell j hlt
      have x48 := HV48.out (L[j]?.getD 0) (by rw [get_eq hlt]; exact List.getElem_mem hlt)
      have HTk : Hid (∀ x, decide (x ∈ L.take (j + 1)) = if x = L[j]?.getD 0 then true else decide (x ∈ L.take j)) := fun x => by
        have k : x ∈ L.take (j + 1) ↔ x ∈ L.take j ∨ x = L[j] := by rw [List.take_succ_eq_append_getElem hlt, List.mem_append, List.mem_singleton]
        rw [get_eq hlt]
        by_cases c : x = L[j]
        · rw [if_pos c]; exact decide_eq_true (k.2 (Or.inr c))
        · rw [if_neg c]; exact decide_eq_decide.2 (k.trans ⟨fun q => q.elim id (fun r => absurd r c), Or.inl⟩)
      obtain ⟨x, hx⟩ : ∃ x, x = L[j]?.getD 0 := ⟨_, rfl⟩
      rw [← hx] at d x48 HTk
      clear hx gcell
      have x48' : (x : Int) < 48 := by omega
      have cx := hR.out.cell (i := x) x48
      have fz := hR.out.frozen
      go_wp2
      have bs := But.setCell wr ⟨w1.heap.size, x, none⟩ (.bool true)
      refine ⟨⟨j + 1, by omega, by go_num, (hR.out.set x (.bool true)).congr (fun y _ => ?_), nums_block hN.out bs (fun q hq _ => ?_), hB.out.setCell (Nat.le_refl _) _⟩, by simp [intOf]; omega⟩
      · rw [HTk.out y]
        by_cases c : y = x <;> simp [c]
      · subst hq
        exact fun q => (rowIs_ty hR.out).ne q (by decide) rfl
    · have hje : j = L.length := by omega
      subst hje
      have HRn := hR.out
      rw [List.take_length] at HRn
      have HRn' := hid HRn
      clear HRn
      have HI1 : Hid (IdxG wr b G1 pr1) := HG.out.below (HB1.out.trans (hB.out.mono hs1))
      have HBw : Hid (But (fun k => k = b) w wr) := But.of (HB1.out.trans (hB.out.mono hs1))
      have HWr : Hid (w.heap.size ≤ w1.heap.size ∧ w1.heap.size < wr.heap.size) := ⟨hs1, HRn'.out.lt⟩
      have HPBs : Hid (∃ m, m ≤ T.length ∧ verts (T.take m) = L.take 0 ∧ ∃ G' pr', IdxG wr b G' pr' ∧ seekT i s G0.N T (G1, pr1) m = .inl (G', pr') ∧ PB G0 G' s o i t0 T m 0) := ⟨0, by omega, by simp [verts], G1, pr1, HI1.out, rfl, HPB0.out⟩
      obtain ⟨arr, harr, hav⟩ : ∃ arr : Array Value, wr.heap[w1.heap.size]? = some (.cells arr 140 (0, 0)) ∧ (arr.size = 48 ∧ ∀ y, y < 48 → arr[y]? = some (.bool (decide (y ∈ L)))) := by
        obtain ⟨c, hc, hcs, hcv⟩ := HRn'.out
        exact ⟨c, hc, hcs, hcv⟩
      have HArr := hid harr
      have HAv := hid hav
      have HNs : Hid (NumsAt wr w.heap.size (.slice (some ⟨g, 0, none⟩) L.length cp) L) := hN
      clear harr hav hR hN hB HI1
      go_wp2_with fail
      go_loopw [27] (fun q wr => ∃ j : Nat, j ≤ L.length ∧ q = .int .i64 j ∧ Hid (∃ m, m ≤ T.length ∧ verts (T.take m) = L.take j ∧ ∃ G' pr', IdxG wr b G' pr' ∧ seekT i s G0.N T (G1, pr1) m = .inl (G', pr') ∧ PB G0 G' s o i t0 T m 0) ∧ Hid (NumsAt wr w.heap.size (.slice (some ⟨g, 0, none⟩) L.length cp) L) ∧ Hid (wr.heap[w1.heap.size]? = some (.cells arr 140 (0, 0))) ∧ Hid (But (fun k => k = b) w wr)) (fun q _ => L.length - (intOf q).toNat)
      case atStart => exact ⟨0, by omega, rfl, HPBs, HNs, HArr, HBw⟩
      case round =>
        clear HPBs HNs HArr HBw HRn'
        obtain ⟨j, hj, rfl, hX, hN, hA, hB⟩ := hrel
        by_cases hlt : j < L.length
        · have hlt' : (j : Int) < (L.length : Int) := by omega
          obtain ⟨g', cp', hv', _, _, _, _, _, gcell⟩ := hN.out.at_ hVn
          simp only [Value.slice.injEq, Option.some.injEq, Addr.mk.injEq, and_true, true_and] at hv'
          obtain ⟨rfl, rfl⟩ := hv'
          have d := gcell j hlt
          obtain ⟨m, m1, m2, G', pr', m3, m4, m5⟩ := hX.out
          obtain ⟨m', n1, n2, n3, n4, n5⟩ := seek_adv HOk.out (j := j) (by rw [← HLe.out]; exact hlt) (T.length - m) m (Nat.le_refl _) m1 (by rw [m2, HLe.out]) m4 m5
          rw [← HLe.out] at n2 n3
          have Hn2 := hid n2
          have Hn3 := hid n3
          have Hn4 := hid n4
          have Hn5 := hid n5
          have HG' := hid m3
          clear hX m1 m2 m3 m4 m5 n2 n3 n4 n5 gcell
          obtain ⟨x, hx⟩ : ∃ x, x = L[j]?.getD 0 := ⟨_, rfl⟩
          rw [← hx] at d Hn2
          clear hx
          have HInf : Hid ((Tryz.prog.info? 140).map (·.size) = some arr.size) := by show _ = _; rw [HAv.out.1]; kernel_rfl
          go_wp2_with (refine wpList_load_row rfl 140 _ rfl w1.heap.size rfl 140 arr (0, 0) _ hA.out Tryz.underlying140 rfl HInf.out ?_)
          refine (searchVertex_any _ b G0 G' pr' i m' x s o t0 T arr (fun y => decide (y ∈ L)) HG'.out HS.out.1 HS.out.2.1 HS.out.2.2 HRot.out Hn5.out n1 Hn2.out (fun y hy => by rw [decide_eq_true_eq]; exact HVm.out y) HAv.out.1 HAv.out.2).mono ?_
          rintro e w2 ⟨f, rfl, hf0, hf1, hb2⟩
          have HB2 : Hid (But (fun k => k = b) w w2) := hB.out.same hb2
          have ity := HG'.out.ty
          have HN2 : Hid (NumsAt w2 w.heap.size (.slice (some ⟨g, 0, none⟩) L.length cp) L) := nums_block hN.out hb2 (fun q hq _ r => by subst hq; exact ity.ne r (by decide) rfl)
          have HA2 : Hid (w2.heap[w1.heap.size]? = some (.cells arr 140 (0, 0))) := by
            show _ = _
            rw [hb2.block w1.heap.size (Array.getElem?_eq_some_iff.1 hA.out).1 (fun q : w1.heap.size = b => by have := HWr.out.1; omega)]; exact hA.out
          have HF0 := hid hf0
          have HF1 := hid hf1
          clear hf0 hf1 hb2 ity d
          cases f
          · have HX2 : Hid (∃ m, m ≤ T.length ∧ verts (T.take m) = L.take (j + 1) ∧ ∃ G' pr', IdxG w2 b G' pr' ∧ seekT i s G0.N T (G1, pr1) m = .inl (G', pr') ∧ PB G0 G' s o i t0 T m 0) := by
              obtain ⟨G2, pr2, q1, q2, q3⟩ := HF0.out rfl
              refine ⟨m' + 1, by omega, Hn3.out, G2, pr2, q1, seekT_next Hn4.out Hn2.out.symm (by rw [if_pos (by omega)]; exact q2), q3.next (fun _ => Nat.le_refl _)⟩
            go_wp2
            exact ⟨⟨j + 1, by omega, by go_num, HX2, HN2, HA2, HB2⟩, by simp [intOf]; omega⟩
          · have HX2 : Hid (∃ r : Gr × Int, IdxG w2 b r.1 r.2 ∧ seekT i s G0.N T (G1, pr1) T.length = .inr r ∧ SEnd G0 s o i true r.1) := by
              obtain ⟨q3, r, y, y1, y2, y3, y4, y5⟩ := HF1.out rfl
              exact ⟨r, y4, seek_found Hn4.out Hn2.out.symm (by omega) y2 y3 y1 n1, y5⟩
            go_wp2
            go_ret
            obtain ⟨r, r1, r2, r3⟩ := HX2.out
            exact ⟨true, rfl, ⟨r.1, r.2, r1, Or.inr ⟨rfl, r2⟩, r3⟩, HB2.out⟩
        · have hje : j = L.length := by omega
          have HEnd : Hid (∃ G' pr', IdxG wr b G' pr' ∧ seekT i s G0.N T (G1, pr1) T.length = .inl (G', pr') ∧ SEnd G0 s o i false G') := by
            obtain ⟨m, m1, m2, G', pr', m3, m4, m5⟩ := hX.out
            obtain ⟨n1, n2⟩ := seek_end (T.length - m) m (Nat.le_refl _) m1 (by rw [m2, hje, List.take_length, HLe.out]) m4 m5
            exact ⟨G', pr', m3, n1, n2.n, n2.tl, n2.up, fun q => by simp at q, fun _ => ⟨n2.mi, n2.end_ HS.out.1 HS.out.2.1 HRot.out⟩⟩
          clear hje
          go_wp2
          go_ret
          obtain ⟨G', pr', m3, n1, n2⟩ := HEnd.out
          exact ⟨false, rfl, ⟨G', pr', m3, Or.inl ⟨rfl, n1⟩, n2⟩, hB.out⟩

end Go.Proofs.YtckallochdegiaaGreat
