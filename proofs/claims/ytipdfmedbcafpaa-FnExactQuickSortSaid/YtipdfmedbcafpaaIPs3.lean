/- The program's sorter of parts, by induction; QuickSort, by its contract. -/
import Derived.Test.YtipdfmedbcafpaaIPs2
import Derived.Test.YtipdfmedbcafpaaIList
import Derived.Test.YtipdfmedbcafpaaCloneI
import Derived.Test.YtipdfmedbcafpaaRet12
import Derived.Laws.EntriesVeiled
namespace Go.Proofs.Ytipdfmedbcafpaa
open Go.RowKit P El Qk
set_option linter.unusedVariables false

theorem psort_any {ff : Nat} {lb : Array Value} {fin : Fin3} {Hp : Nat → World → Prop} {Qh : Nat → Prop} (FW : FinW ff lb fin Hp Qh) (s : Nat) (hsq : ¬ Qh s) :
    ∀ (f g o c n d q h : Nat) (L : List Int) (w : World), OkL L → g ≠ s → ¬ Qh g → CellRow w s (pst (.func (.func ff) #[] lb) d q) → Hp h w → Seg w g o (ints L) → L.length = n → n ≤ f → n ≤ 64 → n ≤ c → d + n ≤ 500 → q + n ≤ 500 → h + n ≤ 500 →
    Calls Try.prog 105 #[.pointer (some ⟨s, 0, none⟩), .slice (some ⟨g, o, none⟩) n c] w (PsC s g o n (.func (.func ff) #[] lb) d q h (sg fin f d L) Hp Qh w) := by
  intro f
  induction f with
  | zero =>
    intro g o c n d q h L w hok hgs hgq hs hh hg hL hf h64 hc hd hq hhn
    obtain ⟨⟨M, k⟩, hr⟩ := FW.ok.small d L (by omega)
    rw [sg_done hr]
    exact psort_done FW s g o c n d q h L M k w hok hsq hgs hgq hs hh hg hL h64 hc (by omega) hhn hr
  | succ f ih =>
    intro g o c n d q h L w hok hgs hgq hs hh hg hL hf h64 hc hd hq hhn
    cases e : fin d L with
    | some r =>
      obtain ⟨M, k⟩ := r
      rw [sg_done e]
      exact psort_done FW s g o c n d q h L M k w hok hsq hgs hgq hs hh hg hL h64 hc (by omega) hhn e
    | none =>
      have h2 := FW.ok.two e
      have hm := getD_mem (medF_lt (L := L) (by omega))
      have ht := thF_spec L (L.getD (medF L) 0)
      have hx := thF_some hm
      obtain ⟨⟨M, lt, gt⟩, he⟩ : ∃ T, thF L (L.getD (medF L) 0) = T := ⟨_, rfl⟩
      rw [he] at ht hx
      simp only at ht hx
      rw [sg_go e he]
      obtain ⟨p1, p2⟩ := part_lens ht
      have a3 := ht.h3
      have hML := ht.perm.length_eq
      obtain ⟨b1, b2, b3⟩ := sg_spec FW.ok f (d + 1) (M.take lt) (by omega)
      obtain ⟨c1, c2, c3⟩ := sg_spec FW.ok f (d + 1) (M.drop gt) (by omega)
      have okA : OkL (M.take lt) := ⟨by omega, fun x hx => hok.2 x (ht.perm.mem_iff.1 (List.mem_of_mem_take hx))⟩
      have okB : OkL (M.drop gt) := ⟨by omega, fun x hx => hok.2 x (ht.perm.mem_iff.1 (List.mem_of_mem_drop hx))⟩
      have CA := fun W (x1 : CellRow W s (pst (.func (.func ff) #[] lb) (d + 1) (q + 1))) (x2 : Hp h W) (x3 : Seg W g o (ints (M.take lt))) => ih g o c lt (d + 1) (q + 1) h (M.take lt) W okA hgs hgq x1 x2 x3 p1 (by omega) (by omega) (by omega) (by omega) (by omega) (by omega)
      generalize hA : sg fin f (d + 1) (M.take lt) = A at *
      generalize hB : sg fin f (d + 1) (M.drop gt) = B at *
      by_cases hgc : gt < c
      · refine psort_go FW s g o c n d q h L M lt gt A B w hok hsq hgs hgq hs hh hg hL (by omega) h64 hc hd hq hhn e he hx (by omega) (by omega) ⟨by omega, by omega, by omega⟩ ⟨by omega, by omega, by omega⟩ CA (o + gt) (c - gt) (n - gt) rfl (.inl ⟨hgc, rfl, rfl⟩) (fun W x1 x2 x3 => ?_)
        have := ih g (o + gt) (c - gt) (n - gt) (d + 1) (q + 1 + A.2.1) (h + A.2.2) (M.drop gt) W okB hgs hgq x1 x2 x3 (by omega) (by omega) (by omega) (by omega) (by omega) (by omega) (by omega)
        rw [hB] at this
        exact this
      · have hgn : gt = n := by omega
        refine psort_go FW s g o c n d q h L M lt gt A B w hok hsq hgs hgq hs hh hg hL (by omega) h64 hc hd hq hhn e he hx (by omega) (by omega) ⟨by omega, by omega, by omega⟩ ⟨by omega, by omega, by omega⟩ CA o 0 (n - gt) rfl (.inr ⟨by omega, rfl, rfl⟩) (fun W x1 x2 x3 => ?_)
        have hz : n - gt = 0 := by omega
        have hnil : M.drop gt = [] := List.eq_nil_of_length_eq_zero (by omega)
        have hBn : B.1 = [] := List.eq_nil_of_length_eq_zero (by omega)
        have := ih g o 0 0 (d + 1) (q + 1 + A.2.1) (h + A.2.2) (M.drop gt) W okB hgs hgq x1 x2 (by rw [hnil]; exact Seg.nil x3.1) (by omega) (by omega) (by omega) (by omega) (by omega) (by omega) (by omega)
        rw [hB] at this
        rw [hz]
        refine this.mono ?_
        rintro e w' ⟨y1, y2, y3, y4, y5⟩
        exact ⟨y1, y2, y3, by rw [hBn]; exact Seg.nil y4.1, y5.zero⟩

/-- Quicksort's finish. -/
theorem finQ_w : FinW 104 #[] finQ (fun _ _ => True) (fun _ => False) where
  ok := finQ_ok
  eg := enters_of Try.func104 (by kernel_rfl) rfl
  frame := fun _ _ _ _ _ _ => trivial
  lt := fun _ _ _ _ h => h.elim
  call := by
    intro g o c n d h M W _ _ _ hg hM hc h64 _ hd
    by_cases hs : n < 2
    · have HRES : Hid (FinC finQ d M g o n h (fun _ _ => True) (fun _ => False) W (.returned (.bool true)) W) := Lib.hid (by
        unfold FinC finQ; rw [if_pos (by omega)]; exact ⟨rfl, hg, trivial, SegB.refl _ _ _ _ _⟩)
      have hz : (n : Int) < 2 := by omega
      have hzd : decide ((n : Int) < 2) = true := decide_eq_true hz
      clear hg hM
      go_enter Try.func104, Try.ntmps104
      go_wp2_with fail
      go_ret
      exact HRES.out
    · have HRES : Hid (FinC finQ d M g o n h (fun _ _ => True) (fun _ => False) W (.returned (.bool false)) W) := Lib.hid (by
        unfold FinC finQ; rw [if_neg (by omega)]; exact ⟨rfl, Below.refl _ _⟩)
      have hz : ¬ (n : Int) < 2 := by omega
      have hzd : decide ((n : Int) < 2) = false := decide_eq_false hz
      clear hg hM
      go_enter Try.func104, Try.ntmps104
      go_wp2_with fail
      go_ret
      exact HRES.out

set_option maxRecDepth 100000 in
set_option maxHeartbeats 4000000 in
theorem implQk_any (b o c : Nat) (l : List Int) (w : World) (hv : FlatAt w (.slice (some ⟨b, o, none⟩) l.length c) l.length (ints l)) (hn : l.length ≤ 1048576) :
    Calls Try.prog 48 #[.slice (some ⟨b, o, none⟩) l.length c] w (RetI1 (qsAll l) w) := by
  have HV := Lib.hid (implValidList_any _ l w hv hn)
  have HNONE : Hid (¬ OkL l → ∀ w1, Below w.heap.size w w1 → RetI1 (qsAll l) w (.returned (.tuple #[.slice (some ⟨w1.heap.size, 0, none⟩) 0 0, .int .i64 0, .bool false])) (w1.alloc (.cells #[] 3))) := Lib.hid (fun h w1 hb => by rw [qsAll_no h]; exact RetI1.none w w1 hb)
  by_cases hok : OkL l
  · rw [decide_eq_true hok] at HV
    have HF := Lib.hid (qsAll_yes hok)
    have h64 := hok.1
    have HOWN := Lib.hid (fun W (h : FlatAt W (.slice (some ⟨b, o, none⟩) l.length c) l.length (ints l)) => cloneInts_any b o c l W h hn)
    have HSQ : Hid (sg finQ l.length 0 l = ((qsF l).1, (qsF l).2, 0)) := Lib.hid (sg_qs _ 0 l (Nat.le_refl _))
    have HLN : Hid ((qsF l).1.length = l.length) := Lib.hid (by rw [(qsF_spec l).1, srt_length])
    have HPS := Lib.hid (fun (s g cap : Nat) W (hgs : g ≠ s) (hs : CellRow W s (pst (.func (.func 104) #[] #[]) 0 0)) (h : CellRow W g (ints l)) (hc : l.length ≤ cap) => by
      have := psort_any finQ_w s (fun h => h) l.length g 0 cap l.length 0 0 0 l W hok hgs (fun h => h) hs trivial (Seg.of_row h) rfl (Nat.le_refl _) h64 hc (by omega) (by omega) (by omega)
      rw [HSQ.out] at this; exact this)
    have HFV := Lib.hid hv
    generalize qsF l = R at *
    obtain ⟨M, q⟩ := R
    simp only at HF HPS HLN
    clear hok hv HNONE HSQ
    go_enter Try.func48, Try.ntmps48
    go_wp2_with fail
    refine HV.out.mono ?_
    rintro e w1 ⟨rfl, hb1⟩
    have HV1 := Lib.hid (HFV.out.below hb1)
    have HB1 := Lib.hid hb1
    clear hb1 HV HFV
    go_wp2_with fail
    refine (HOWN.out _ HV1.out).mono ?_
    rintro e w2 ⟨g, cap, rfl, hcap, hg, hrow, hb2⟩
    have HG : Hid (w.heap.size ≤ g) := Lib.hid (Nat.le_trans HB1.out.size hg)
    have HCAP := Lib.hid hcap
    have HB2 := Lib.hid (HB1.out.trans (hb2.mono HB1.out.size))
    have HR2 := Lib.hid hrow
    clear hb2 hrow HOWN HV1 hg hcap HB1
    go_wp2_with fail
    have hA : RowIs (w2.alloc (.cells #[.func (.func 104) #[] #[], .int .i64 0, .int .i64 0] 112)) w2.heap.size 112 (pst (.func (.func 104) #[] #[]) 0 0) := heap_alloc_new w2 _
    have hb3 : Below w2.heap.size w2 (w2.alloc (.cells #[.func (.func 104) #[] #[], .int .i64 0, .int .i64 0] 112)) := (Below.refl _ _).alloc (Nat.le_refl _) _
    have hgs : g ≠ w2.heap.size := by have := HR2.out.1; omega
    have HS := Lib.hid (HPS.out w2.heap.size g cap _ hgs (CellRow.of_row hA) (HR2.out.below hb3 HR2.out.1) HCAP.out)
    have HB3 : Hid (Below w.heap.size w (w2.alloc (.cells #[.func (.func 104) #[] #[], .int .i64 0, .int .i64 0] 112))) := Lib.hid (HB2.out.trans (hb3.mono HB2.out.size))
    have HW2 : Hid (w.heap.size ≤ w2.heap.size) := Lib.hid HB2.out.size
    clear hA hb3 hgs HPS HR2 HB2
    refine HS.out.mono ?_
    rintro e w4 ⟨rfl, hs4, _, hr4, hb4⟩
    have hr4' := hr4.row
    have HRES : Hid (∀ t, RetI1 (qsAll l) w (.returned (.tuple #[.slice (some ⟨g, 0, none⟩) l.length cap, .int .i64 (q : Int), .bool true])) (w4.drewN t)) := Lib.hid (fun t => by
      rw [HF.out]
      refine ⟨g, cap, by simp only; rw [HLN.out], by simp only; rw [HLN.out]; exact HCAP.out, HG.out, hr4'.same rfl (Nat.le_refl _), (HB3.out.trans (hb4.below HG.out (fun k hk => ?_) HB3.out.size)).trans ⟨rfl, rfl, rfl, Nat.le_refl _, fun _ _ => rfl⟩⟩
      rcases hk with hk | hk
      · have := HW2.out; omega
      · exact hk.elim)
    have hq4 : w4.cell? ⟨w2.heap.size, 2, none⟩ = some (.int .i64 (q : Int)) := by have := (pst_at hs4).2.2.1; simp only [Nat.zero_add] at this; exact this
    clear hs4 hr4 hb4 hr4' HS
    go_wp2_with fail
    go_quiet (fail)
    go_wp2_with fail
    go_ret3
    exact HRES.out _
  · rw [decide_eq_false hok] at HV
    have HN := Lib.hid (HNONE.out hok)
    clear hok HNONE hv
    go_enter Try.func48, Try.ntmps48
    go_wp2_with fail
    refine HV.out.mono ?_
    rintro e w1 ⟨rfl, hb1⟩
    have HRES := Lib.hid (HN.out w1 hb1)
    clear hb1 HV HN
    go_wp2_with fail
    go_ret3
    exact HRES.out

end Go.Proofs.Ytipdfmedbcafpaa
