import Derived.Test.YtckallochdegiaaGreatReadW
import Derived.Test.YtckallochdegiaaGreatLawH
import Derived.Test.YtckallochdegiaaGreatLdA
namespace Go.Proofs.YtckallochdegiaaGreat
set_option linter.unusedVariables false
set_option linter.unusedSimpArgs false
open Go.RowKit

/-- What the append of a pair and the store of the new slice leave. -/
theorem load_done {w w1 w2 w3 : World} {B W n m x g tb tcap : Nat} {ps : Nat → Pr} {ts : List ByteArray} {ys : List Value} {iv tv lv v' ev : Value} {F : Nat → Value} {o : Obj} {G : Gr} (h : Law w B W n m ps ts ys iv tv lv) (hB : B ≤ w.heap.size) (hI : GI G) (hN : NS G)
    (b1 : Below w.heap.size w w1) (hi : IdxG w1 x G 0) (hx : w.heap.size ≤ x) (b2 : Below w1.heap.size w1 w2) (hg1 : w1.heap.size ≤ g) (hg2 : w1.heap.size ≤ tb) (hev : ∀ k, ev.ownBlock = some k → w1.heap.size ≤ k) (hG : GRep w2 g G ev tb tcap F 0)
    (ho : w3.ownsRow B 37 2 v' (m + 1) (pcells ps m ++ [ptr x, ptr g])) (hg : (w2.alloc o).grownBy w3 iv.ownBlock) :
    (∃ ps' : Nat → Pr, Law (w3.setCell ⟨W, 0, none⟩ v') B W (n + 1) (m + 1) ps' ts ys v' tv lv ∧ (ps' m).x = x ∧ (ps' m).G = G ∧ (ps' m).pr = 0) ∧ Below B w (w3.setCell ⟨W, 0, none⟩ v') ∧ But (fun k => k = W ∨ some k = iv.ownBlock) w (w3.setCell ⟨W, 0, none⟩ v') := by
  have hs1 := b1.size
  have b12 : Below w.heap.size w w2 := b1.trans (b2.mono hs1)
  have h2 := h.below b12
  have bt := butG ((Below.refl _ _).alloc (Nat.le_refl _) o) hg
  have hp : (⟨x, g, tb, tcap, ev, F, 0, G⟩ : Pr).At w2 := ⟨hi.below b2, hG, hI, hN⟩
  have hnew : ∀ k, (⟨x, g, tb, tcap, ev, F, 0, G⟩ : Pr).own k → w.heap.size ≤ k := by
    intro k hk
    rcases hk with q | q | q | q
    · simp only at q; omega
    · simp only at q; omega
    · simp only at q; omega
    · have := hev k q; omega
  have r := h2.pair h hp hnew hB bt ho
  refine ⟨⟨_, r, by simp, by simp, by simp⟩, ?_⟩
  have f := h2.fin bt (fun k hk => (h2.iO.lt k hk).1) (Nat.le_trans hB b12.size) 0 v'
  refine ⟨(b12.mono hB).trans f, ?_⟩
  have c1 : But (fun k => k = W ∨ some k = iv.ownBlock) w w2 := But.of b12
  have c2 : But (fun k => k = W ∨ some k = iv.ownBlock) w2 w3 := bt.wide (fun _ _ q => Or.inr q)
  have c3 : But (fun k => k = W ∨ some k = iv.ownBlock) w3 (w3.setCell ⟨W, 0, none⟩ v') := (But.setCell w3 ⟨W, 0, none⟩ v').wide (fun _ _ q => Or.inl q)
  exact (c1.trans c2 (fun _ _ q => q)).trans c3 (fun _ _ q => q)

/-- What loaded answers: right; the law's world goes on, its texts and lists as they were. -/
def LdR (B W n : Nat) (ts : List ByteArray) (ys : List Value) (iv tv lv : Value) (w : World) (e : Ending) (w' : World) : Prop := e = .returned (.bool true) ∧ (∃ m' ps' iv', Law w' B W n m' ps' ts ys iv' tv lv) ∧ Below B w w' ∧ But (fun k => k = W ∨ some k = iv.ownBlock) w w'

set_option maxRecDepth 100000 in
set_option maxHeartbeats 1000000 in
theorem loaded_F (hLd : LoadC) (w : World) (B W n m : Nat) (ps : Nat → Pr) (ts : List ByteArray) (ys : List Value) (iv tv lv : Value) (s : ByteArray) (k : Int) (h : Law w B W n m ps ts ys iv tv lv) (hn : n ≤ 2 ^ 22) (hB : B ≤ w.heap.size) (hs : s.size ≤ 2 ^ 40) :
    Calls Tryz.prog 17 #[ptr W, .string s, .int .i64 k] w (LdR B W (n + 1) ts ys iv tv lv w) := by
  obtain ⟨i41, q0, q1, q2, q3⟩ := info_parts Tryz.info37
  have HL := hid h
  have hil := h.il
  have HM : Hid (m + 1 ≤ maxLen) := by show _ ≤ _; unfold maxLen; omega
  have HLd := hid (hLd w s k hs)
  clear h hLd
  go_enter Tryz.func17, Tryz.ntmps17
  go_wp2_with fail
  refine HLd.out.mono ?_
  rintro _ w1 ⟨p, rfl, hb1, hp0, hp1⟩
  have HB1 := hid hb1
  clear HLd hb1
  go_wp2_with fail
  refine (Read_F w1 s hs).mono ?_
  rintro _ w2 ⟨p2, rfl, hb2, hr0, hr1⟩
  have HB2 := hid hb2
  have HB12 : Hid (Below w.heap.size w w2) := HB1.out.trans (hb2.mono HB1.out.size)
  clear hb2
  cases hrd : (readF s).2 with
  | none =>
    have e1 := hp0 hrd
    have e2 := hr0 hrd
    have hne := readF_err hrd
    subst e1 e2
    generalize (readF s).1 = er at hne
    have e0 : ((er : Int) != 0) = true := by simp; omega
    have e0' : ((er : Int) == 0) = false := by simp; omega
    have HG : Hid ((∃ m' ps' iv', Law w2 B W (n + 1) m' ps' ts ys iv' tv lv) ∧ Below B w w2 ∧ But (fun k => k = W ∨ some k = iv.ownBlock) w w2) := ⟨⟨m, ps, iv, (HL.out.below HB12.out).mono (by omega)⟩, HB12.out.mono hB, But.of HB12.out⟩
    clear hp0 hp1 hr0 hr1 hrd hne
    go_wp2
    go_ret
    exact ⟨rfl, HG.out⟩
  | some G =>
    obtain ⟨x, hx1, hx2, hx3⟩ := hp1 G hrd
    obtain ⟨g, ev, tb, tcap, F, hg1, hg2, hg3, hg4, hg5⟩ := hr1 G hrd
    obtain ⟨hz, hI, hN, hby⟩ := readF_ok hrd
    subst hx1 hg1
    rw [hz]
    have HI := hid hI
    have HBy := hid hby
    have HL2 := hid (HL.out.below HB12.out)
    have hs2 : B ≤ w2.heap.size := Nat.le_trans hB HB12.out.size
    have d0 := HL2.out.c0
    have HD : Hid (∀ v3 w3 o, w3.ownsRow B 37 2 v3 (m + 1) (pcells ps m ++ [ptr x, ptr g]) → (w2.alloc o).grownBy w3 iv.ownBlock → (∃ ps' : Nat → Pr, Law (w3.setCell ⟨W, 0, none⟩ v3) B W (n + 1) (m + 1) ps' ts ys v3 tv lv ∧ (ps' m).x = x ∧ (ps' m).G = G ∧ (ps' m).pr = 0) ∧ Below B w (w3.setCell ⟨W, 0, none⟩ v3) ∧ But (fun k => k = W ∨ some k = iv.ownBlock) w (w3.setCell ⟨W, 0, none⟩ v3)) := by
      intro v3 w3 o ho hg
      exact load_done HL.out hB hI hN HB1.out hx3 hx2 HB2.out hg2 hg3 hg4 hg5 ho hg
    clear hp0 hp1 hr0 hr1 hrd hI hN hby hx2 hx3 hg2 hg3 hg4 hg5 hz
    go_wp2_with (at_builtin; refine wpList_append_own _ rfl (.tmp 38) (.tmp 42) 27 rfl B 37 i41 _ 2 16 Tryz.underlying27 q0 q1 q2 q3 rfl (by decide) _ m (pcells ps m) rfl (HL2.out.iO.alloc _) ⟨w2.heap.size, 0, none⟩ 1 1 [ptr x, ptr g] rfl rfl (pair_cells w2 x g) (fun y hy => by simp at hy; rcases hy with rfl | rfl <;> rfl) HM.out (by omega) (by simp; omega) ?_; intro v' w3 ho hg _; have HO := hid ho; have HR := hid (HD.out v' w3 _ ho hg); have r3 := HL2.out.rowG (butG ((Below.refl _ _).alloc (Nat.le_refl _) _) hg) (fun k hk => owns_ty HL2.out.iO hk) (by decide); have c0 := r3.cell (i := 0) (by omega); have fz := r3.frozen; clear ho hg r3; obtain ⟨p2, n2, cc2, hv2⟩ := owns_form HO.out; subst hv2)
    obtain ⟨⟨ps', hl', hx', hG', hp'⟩, hbw, hbt⟩ := HR.out
    have HP := hid (hl'.at_ m (by omega))
    have HLf := hid hl'
    have HBf := hid hbw
    have HBt := hid hbt
    have HXq := hid (And.intro hx' (And.intro hG' hp'))
    clear hl' hbw hbt hx' hG' hp' HR
    generalize w3.setCell ⟨W, 0, none⟩ (.slice p2 n2 cc2) = w4 at HP HLf HBf HBt ⊢
    have HIx : Hid (IdxG w4 x G 0) := by
      have q := HP.out.ix
      rw [HXq.out.1, HXq.out.2.1, HXq.out.2.2] at q
      exact q
    refine (Save_any w4 x G 0 HIx.out HI.out).mono ?_
    rintro _ w5 ⟨rfl, hb5⟩
    rw [HBy.out]
    have HG : Hid ((∃ m' ps' iv', Law w5 B W (n + 1) m' ps' ts ys iv' tv lv) ∧ Below B w w5 ∧ But (fun k => k = W ∨ some k = iv.ownBlock) w w5) := ⟨⟨m + 1, ps', _, HLf.out.below hb5⟩, HBf.out.trans (hb5.mono (Nat.le_trans hB HBf.out.size)), HBt.out.trans (But.of hb5) (fun _ _ q => q)⟩
    clear hb5
    go_wp2
    go_ret
    exact ⟨rfl, HG.out⟩

end Go.Proofs.YtckallochdegiaaGreat
