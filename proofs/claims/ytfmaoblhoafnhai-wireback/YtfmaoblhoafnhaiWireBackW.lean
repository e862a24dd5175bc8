/- The law WireBack: which way it goes. -/
import Derived.Test.YtfmaoblhoafnhaiWireBackA
import Derived.Test.YtfmaoblhoafnhaiWireBackB
import Derived.Test.YtfmaoblhoafnhaiWireBackC
import Derived.Test.YtfmaoblhoafnhaiWireBackV
namespace Go.Proofs.Ytfmaoblhoafnhai.wireBack
open Go.ChangeShapes Go.WideShapes Go.ChangeAt Go.RowKit Go.Joins
set_option linter.unusedVariables false

theorem all_ways (l : Lt) (s : ByteArray) (x1 x2 : Int) (t : ByteArray) (pos to : Int) (w : World) (W : WrR w) (hl : LtW l) (hs : s.size ≤ maxLen) (w1 : In64 x1) (w2 : In64 x2) (ht : t.size ≤ maxLen) (h4 : 0 ≤ to) (h5 : to < 256) :
    Calls Try.prog 5 #[ltv l, .string s, .agg #[.int .i64 x1, .int .i64 x2], .string t, .int .i64 pos, .int .u8 to] w fun o w' => o = .returned (.bool true) ∧ Below w.heap.size w w' := by
  unfold ltv
  rcases lWays W l hl with ⟨b0, e0, cL⟩ | ⟨e, cL, cB⟩
  · rcases sWays W s hs with cS | ⟨m1, m2, m3, m4, m5, m6, cS, cM⟩
    · obtain ⟨b1, ⟨hb1, cX, cR⟩ | cX⟩ := xWays W x1 x2 w1 w2
      · rcases tWays W t ht with cT | ⟨y1, y2, cT, cU⟩
        · exact way0010 l.frm l.to l.t1 l.t2 l.t 0 0 0 0 0 0 0 0 0 0 x1 x2 0 0 pos to e0 l.ans false false s t b0 b1 w (fWay W) cL cS cX hb1 cR cT
        · exact way0011 l.frm l.to l.t1 l.t2 l.t 0 0 0 0 0 0 0 0 0 0 x1 x2 y1 y2 pos to e0 l.ans false false s t b0 b1 w (fWay W) cL cS cX hb1 cR cT cU
      · rcases tWays W t ht with cT | ⟨y1, y2, cT, cU⟩
        · exact way0000 l.frm l.to l.t1 l.t2 l.t 0 0 0 0 0 0 0 0 0 0 x1 x2 0 0 pos to e0 l.ans false false s t b0 b1 w (fWay W) cL cS cX cT
        · exact way0001 l.frm l.to l.t1 l.t2 l.t 0 0 0 0 0 0 0 0 0 0 x1 x2 y1 y2 pos to e0 l.ans false false s t b0 b1 w (fWay W) cL cS cX cT cU
    · obtain ⟨b1, ⟨hb1, cX, cR⟩ | cX⟩ := xWays W x1 x2 w1 w2
      · rcases tWays W t ht with cT | ⟨y1, y2, cT, cU⟩
        · exact way0110 l.frm l.to l.t1 l.t2 l.t 0 0 0 0 0 m1 m2 m3 m4 m5 x1 x2 0 0 pos to e0 l.ans false m6 s t b0 b1 w (fWay W) cL cS cM cX hb1 cR cT
        · exact way0111 l.frm l.to l.t1 l.t2 l.t 0 0 0 0 0 m1 m2 m3 m4 m5 x1 x2 y1 y2 pos to e0 l.ans false m6 s t b0 b1 w (fWay W) cL cS cM cX hb1 cR cT cU
      · rcases tWays W t ht with cT | ⟨y1, y2, cT, cU⟩
        · exact way0100 l.frm l.to l.t1 l.t2 l.t 0 0 0 0 0 m1 m2 m3 m4 m5 x1 x2 0 0 pos to e0 l.ans false m6 s t b0 b1 w (fWay W) cL cS cM cX cT
        · exact way0101 l.frm l.to l.t1 l.t2 l.t 0 0 0 0 0 m1 m2 m3 m4 m5 x1 x2 y1 y2 pos to e0 l.ans false m6 s t b0 b1 w (fWay W) cL cS cM cX cT cU
  · by_cases h1 : pos < 0
    · rcases sWays W s hs with cS | ⟨m1, m2, m3, m4, m5, m6, cS, cM⟩
      · obtain ⟨b1, ⟨hb1, cX, cR⟩ | cX⟩ := xWays W x1 x2 w1 w2
        · rcases tWays W t ht with cT | ⟨y1, y2, cT, cU⟩
          · exact way1010 l.frm l.to l.t1 l.t2 l.t 0 0 0 0 0 0 0 0 0 0 x1 x2 0 0 pos to 0 l.ans false false s t (wst (wb l)) b1 w (fWay W) cL cB h1 cS cX hb1 cR cT
          · exact way1011 l.frm l.to l.t1 l.t2 l.t 0 0 0 0 0 0 0 0 0 0 x1 x2 y1 y2 pos to 0 l.ans false false s t (wst (wb l)) b1 w (fWay W) cL cB h1 cS cX hb1 cR cT cU
        · rcases tWays W t ht with cT | ⟨y1, y2, cT, cU⟩
          · exact way1000 l.frm l.to l.t1 l.t2 l.t 0 0 0 0 0 0 0 0 0 0 x1 x2 0 0 pos to 0 l.ans false false s t (wst (wb l)) b1 w (fWay W) cL cB h1 cS cX cT
          · exact way1001 l.frm l.to l.t1 l.t2 l.t 0 0 0 0 0 0 0 0 0 0 x1 x2 y1 y2 pos to 0 l.ans false false s t (wst (wb l)) b1 w (fWay W) cL cB h1 cS cX cT cU
      · obtain ⟨b1, ⟨hb1, cX, cR⟩ | cX⟩ := xWays W x1 x2 w1 w2
        · rcases tWays W t ht with cT | ⟨y1, y2, cT, cU⟩
          · exact way1110 l.frm l.to l.t1 l.t2 l.t 0 0 0 0 0 m1 m2 m3 m4 m5 x1 x2 0 0 pos to 0 l.ans false m6 s t (wst (wb l)) b1 w (fWay W) cL cB h1 cS cM cX hb1 cR cT
          · exact way1111 l.frm l.to l.t1 l.t2 l.t 0 0 0 0 0 m1 m2 m3 m4 m5 x1 x2 y1 y2 pos to 0 l.ans false m6 s t (wst (wb l)) b1 w (fWay W) cL cB h1 cS cM cX hb1 cR cT cU
        · rcases tWays W t ht with cT | ⟨y1, y2, cT, cU⟩
          · exact way1100 l.frm l.to l.t1 l.t2 l.t 0 0 0 0 0 m1 m2 m3 m4 m5 x1 x2 0 0 pos to 0 l.ans false m6 s t (wst (wb l)) b1 w (fWay W) cL cB h1 cS cM cX cT
          · exact way1101 l.frm l.to l.t1 l.t2 l.t 0 0 0 0 0 m1 m2 m3 m4 m5 x1 x2 y1 y2 pos to 0 l.ans false m6 s t (wst (wb l)) b1 w (fWay W) cL cB h1 cS cM cX cT cU
    · replace h1 : 0 ≤ pos := by omega
      by_cases h2 : ((wst (wb l)).size : Int) ≤ pos
      · rcases sWays W s hs with cS | ⟨m1, m2, m3, m4, m5, m6, cS, cM⟩
        · obtain ⟨b1, ⟨hb1, cX, cR⟩ | cX⟩ := xWays W x1 x2 w1 w2
          · rcases tWays W t ht with cT | ⟨y1, y2, cT, cU⟩
            · exact way2010 l.frm l.to l.t1 l.t2 l.t 0 0 0 0 0 0 0 0 0 0 x1 x2 0 0 pos to 0 l.ans false false s t (wst (wb l)) b1 w (fWay W) cL cB h1 h2 cS cX hb1 cR cT
            · exact way2011 l.frm l.to l.t1 l.t2 l.t 0 0 0 0 0 0 0 0 0 0 x1 x2 y1 y2 pos to 0 l.ans false false s t (wst (wb l)) b1 w (fWay W) cL cB h1 h2 cS cX hb1 cR cT cU
          · rcases tWays W t ht with cT | ⟨y1, y2, cT, cU⟩
            · exact way2000 l.frm l.to l.t1 l.t2 l.t 0 0 0 0 0 0 0 0 0 0 x1 x2 0 0 pos to 0 l.ans false false s t (wst (wb l)) b1 w (fWay W) cL cB h1 h2 cS cX cT
            · exact way2001 l.frm l.to l.t1 l.t2 l.t 0 0 0 0 0 0 0 0 0 0 x1 x2 y1 y2 pos to 0 l.ans false false s t (wst (wb l)) b1 w (fWay W) cL cB h1 h2 cS cX cT cU
        · obtain ⟨b1, ⟨hb1, cX, cR⟩ | cX⟩ := xWays W x1 x2 w1 w2
          · rcases tWays W t ht with cT | ⟨y1, y2, cT, cU⟩
            · exact way2110 l.frm l.to l.t1 l.t2 l.t 0 0 0 0 0 m1 m2 m3 m4 m5 x1 x2 0 0 pos to 0 l.ans false m6 s t (wst (wb l)) b1 w (fWay W) cL cB h1 h2 cS cM cX hb1 cR cT
            · exact way2111 l.frm l.to l.t1 l.t2 l.t 0 0 0 0 0 m1 m2 m3 m4 m5 x1 x2 y1 y2 pos to 0 l.ans false m6 s t (wst (wb l)) b1 w (fWay W) cL cB h1 h2 cS cM cX hb1 cR cT cU
          · rcases tWays W t ht with cT | ⟨y1, y2, cT, cU⟩
            · exact way2100 l.frm l.to l.t1 l.t2 l.t 0 0 0 0 0 m1 m2 m3 m4 m5 x1 x2 0 0 pos to 0 l.ans false m6 s t (wst (wb l)) b1 w (fWay W) cL cB h1 h2 cS cM cX cT
            · exact way2101 l.frm l.to l.t1 l.t2 l.t 0 0 0 0 0 m1 m2 m3 m4 m5 x1 x2 y1 y2 pos to 0 l.ans false m6 s t (wst (wb l)) b1 w (fWay W) cL cB h1 h2 cS cM cX cT cU
      · replace h2 : pos < (wst (wb l)).size := by omega
        have h0 : pos.toNat < (wst (wb l)).size := by omega
        cases h3 : ((((wst (wb l))[pos.toNat]'h0).toNat : Int) != to)
        · rcases sWays W s hs with cS | ⟨m1, m2, m3, m4, m5, m6, cS, cM⟩
          · obtain ⟨b1, ⟨hb1, cX, cR⟩ | cX⟩ := xWays W x1 x2 w1 w2
            · rcases tWays W t ht with cT | ⟨y1, y2, cT, cU⟩
              · exact way3010 l.frm l.to l.t1 l.t2 l.t 0 0 0 0 0 0 0 0 0 0 x1 x2 0 0 pos to 0 l.ans false false s t (wst (wb l)) b1 w (fWay W) cL cB h1 h2 h0 h3 cS cX hb1 cR cT
              · exact way3011 l.frm l.to l.t1 l.t2 l.t 0 0 0 0 0 0 0 0 0 0 x1 x2 y1 y2 pos to 0 l.ans false false s t (wst (wb l)) b1 w (fWay W) cL cB h1 h2 h0 h3 cS cX hb1 cR cT cU
            · rcases tWays W t ht with cT | ⟨y1, y2, cT, cU⟩
              · exact way3000 l.frm l.to l.t1 l.t2 l.t 0 0 0 0 0 0 0 0 0 0 x1 x2 0 0 pos to 0 l.ans false false s t (wst (wb l)) b1 w (fWay W) cL cB h1 h2 h0 h3 cS cX cT
              · exact way3001 l.frm l.to l.t1 l.t2 l.t 0 0 0 0 0 0 0 0 0 0 x1 x2 y1 y2 pos to 0 l.ans false false s t (wst (wb l)) b1 w (fWay W) cL cB h1 h2 h0 h3 cS cX cT cU
          · obtain ⟨b1, ⟨hb1, cX, cR⟩ | cX⟩ := xWays W x1 x2 w1 w2
            · rcases tWays W t ht with cT | ⟨y1, y2, cT, cU⟩
              · exact way3110 l.frm l.to l.t1 l.t2 l.t 0 0 0 0 0 m1 m2 m3 m4 m5 x1 x2 0 0 pos to 0 l.ans false m6 s t (wst (wb l)) b1 w (fWay W) cL cB h1 h2 h0 h3 cS cM cX hb1 cR cT
              · exact way3111 l.frm l.to l.t1 l.t2 l.t 0 0 0 0 0 m1 m2 m3 m4 m5 x1 x2 y1 y2 pos to 0 l.ans false m6 s t (wst (wb l)) b1 w (fWay W) cL cB h1 h2 h0 h3 cS cM cX hb1 cR cT cU
            · rcases tWays W t ht with cT | ⟨y1, y2, cT, cU⟩
              · exact way3100 l.frm l.to l.t1 l.t2 l.t 0 0 0 0 0 m1 m2 m3 m4 m5 x1 x2 0 0 pos to 0 l.ans false m6 s t (wst (wb l)) b1 w (fWay W) cL cB h1 h2 h0 h3 cS cM cX cT
              · exact way3101 l.frm l.to l.t1 l.t2 l.t 0 0 0 0 0 m1 m2 m3 m4 m5 x1 x2 y1 y2 pos to 0 l.ans false m6 s t (wst (wb l)) b1 w (fWay W) cL cB h1 h2 h0 h3 cS cM cX cT cU
        · rcases yWays W l pos to h0 h4 h5 h3 with cY | ⟨q1, q2, q3, q4, q5, q6, cY, hq⟩
          · rcases sWays W s hs with cS | ⟨m1, m2, m3, m4, m5, m6, cS, cM⟩
            · obtain ⟨b1, ⟨hb1, cX, cR⟩ | cX⟩ := xWays W x1 x2 w1 w2
              · rcases tWays W t ht with cT | ⟨y1, y2, cT, cU⟩
                · exact way4010 l.frm l.to l.t1 l.t2 l.t 0 0 0 0 0 0 0 0 0 0 x1 x2 0 0 pos to 0 l.ans false false s t (wst (wb l)) b1 w (fWay W) cL cB cY h1 h2 h0 h3 h4 h5 cS cX hb1 cR cT
                · exact way4011 l.frm l.to l.t1 l.t2 l.t 0 0 0 0 0 0 0 0 0 0 x1 x2 y1 y2 pos to 0 l.ans false false s t (wst (wb l)) b1 w (fWay W) cL cB cY h1 h2 h0 h3 h4 h5 cS cX hb1 cR cT cU
              · rcases tWays W t ht with cT | ⟨y1, y2, cT, cU⟩
                · exact way4000 l.frm l.to l.t1 l.t2 l.t 0 0 0 0 0 0 0 0 0 0 x1 x2 0 0 pos to 0 l.ans false false s t (wst (wb l)) b1 w (fWay W) cL cB cY h1 h2 h0 h3 h4 h5 cS cX cT
                · exact way4001 l.frm l.to l.t1 l.t2 l.t 0 0 0 0 0 0 0 0 0 0 x1 x2 y1 y2 pos to 0 l.ans false false s t (wst (wb l)) b1 w (fWay W) cL cB cY h1 h2 h0 h3 h4 h5 cS cX cT cU
            · obtain ⟨b1, ⟨hb1, cX, cR⟩ | cX⟩ := xWays W x1 x2 w1 w2
              · rcases tWays W t ht with cT | ⟨y1, y2, cT, cU⟩
                · exact way4110 l.frm l.to l.t1 l.t2 l.t 0 0 0 0 0 m1 m2 m3 m4 m5 x1 x2 0 0 pos to 0 l.ans false m6 s t (wst (wb l)) b1 w (fWay W) cL cB cY h1 h2 h0 h3 h4 h5 cS cM cX hb1 cR cT
                · exact way4111 l.frm l.to l.t1 l.t2 l.t 0 0 0 0 0 m1 m2 m3 m4 m5 x1 x2 y1 y2 pos to 0 l.ans false m6 s t (wst (wb l)) b1 w (fWay W) cL cB cY h1 h2 h0 h3 h4 h5 cS cM cX hb1 cR cT cU
              · rcases tWays W t ht with cT | ⟨y1, y2, cT, cU⟩
                · exact way4100 l.frm l.to l.t1 l.t2 l.t 0 0 0 0 0 m1 m2 m3 m4 m5 x1 x2 0 0 pos to 0 l.ans false m6 s t (wst (wb l)) b1 w (fWay W) cL cB cY h1 h2 h0 h3 h4 h5 cS cM cX cT
                · exact way4101 l.frm l.to l.t1 l.t2 l.t 0 0 0 0 0 m1 m2 m3 m4 m5 x1 x2 y1 y2 pos to 0 l.ans false m6 s t (wst (wb l)) b1 w (fWay W) cL cB cY h1 h2 h0 h3 h4 h5 cS cM cX cT cU
          · rcases sWays W s hs with cS | ⟨m1, m2, m3, m4, m5, m6, cS, cM⟩
            · obtain ⟨b1, ⟨hb1, cX, cR⟩ | cX⟩ := xWays W x1 x2 w1 w2
              · rcases tWays W t ht with cT | ⟨y1, y2, cT, cU⟩
                · exact way5010 l.frm l.to l.t1 l.t2 l.t q1 q2 q3 q4 q5 0 0 0 0 0 x1 x2 0 0 pos to 0 l.ans q6 false s t (wst (wb l)) b1 w (fWay W) cL cB cY hq h1 h2 h0 h3 h4 h5 cS cX hb1 cR cT
                · exact way5011 l.frm l.to l.t1 l.t2 l.t q1 q2 q3 q4 q5 0 0 0 0 0 x1 x2 y1 y2 pos to 0 l.ans q6 false s t (wst (wb l)) b1 w (fWay W) cL cB cY hq h1 h2 h0 h3 h4 h5 cS cX hb1 cR cT cU
              · rcases tWays W t ht with cT | ⟨y1, y2, cT, cU⟩
                · exact way5000 l.frm l.to l.t1 l.t2 l.t q1 q2 q3 q4 q5 0 0 0 0 0 x1 x2 0 0 pos to 0 l.ans q6 false s t (wst (wb l)) b1 w (fWay W) cL cB cY hq h1 h2 h0 h3 h4 h5 cS cX cT
                · exact way5001 l.frm l.to l.t1 l.t2 l.t q1 q2 q3 q4 q5 0 0 0 0 0 x1 x2 y1 y2 pos to 0 l.ans q6 false s t (wst (wb l)) b1 w (fWay W) cL cB cY hq h1 h2 h0 h3 h4 h5 cS cX cT cU
            · obtain ⟨b1, ⟨hb1, cX, cR⟩ | cX⟩ := xWays W x1 x2 w1 w2
              · rcases tWays W t ht with cT | ⟨y1, y2, cT, cU⟩
                · exact way5110 l.frm l.to l.t1 l.t2 l.t q1 q2 q3 q4 q5 m1 m2 m3 m4 m5 x1 x2 0 0 pos to 0 l.ans q6 m6 s t (wst (wb l)) b1 w (fWay W) cL cB cY hq h1 h2 h0 h3 h4 h5 cS cM cX hb1 cR cT
                · exact way5111 l.frm l.to l.t1 l.t2 l.t q1 q2 q3 q4 q5 m1 m2 m3 m4 m5 x1 x2 y1 y2 pos to 0 l.ans q6 m6 s t (wst (wb l)) b1 w (fWay W) cL cB cY hq h1 h2 h0 h3 h4 h5 cS cM cX hb1 cR cT cU
              · rcases tWays W t ht with cT | ⟨y1, y2, cT, cU⟩
                · exact way5100 l.frm l.to l.t1 l.t2 l.t q1 q2 q3 q4 q5 m1 m2 m3 m4 m5 x1 x2 0 0 pos to 0 l.ans q6 m6 s t (wst (wb l)) b1 w (fWay W) cL cB cY hq h1 h2 h0 h3 h4 h5 cS cM cX cT
                · exact way5101 l.frm l.to l.t1 l.t2 l.t q1 q2 q3 q4 q5 m1 m2 m3 m4 m5 x1 x2 y1 y2 pos to 0 l.ans q6 m6 s t (wst (wb l)) b1 w (fWay W) cL cB cY hq h1 h2 h0 h3 h4 h5 cS cM cX cT cU
end Go.Proofs.Ytfmaoblhoafnhai.wireBack
